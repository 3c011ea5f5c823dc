/-
  What delta's takeUpdate comes to: the update that the bytes are, or a panic. Condition: at most 2^47 bytes.
-/
import Derived.Test.YtfbbaodhlniiiaaDEn
import Derived.Test.YtfbbaodhlniiiaaPNew
import Derived.Test.YtfbbaodhlniiiaaPText
import Derived.Defers
import Derived.Recover
namespace Go.Proofs.Ytfbbaodhlniiiaa.Dl
open Go.RowKit
set_option linter.unusedVariables false

/-- What a reader answers of a number and a text, behind an error too. -/
def rI (xs : List Int) (p : Nat) (e most : Int) : Int × Nat × Int := if e ≠ 0 then (0, p, e) else ri xs p most
def rT (xs : List Int) (p : Nat) (e most : Int) : List Int × Nat × Int := if e ≠ 0 then ([], p, e) else rt xs p most
def d1 (xs : List Int) := rI xs 0 0 1152921504606846976
def d2 (xs : List Int) := rI xs (d1 xs).2.1 (d1 xs).2.2 16
def d3 (xs : List Int) := rI xs (d2 xs).2.1 (d2 xs).2.2 1152921504606846976
def d4 (xs : List Int) := rI xs (d3 xs).2.1 (d3 xs).2.2 3
def d5 (xs : List Int) := rT xs (d4 xs).2.1 (d4 xs).2.2 1024
def d6 (xs : List Int) : List Int × Nat × Int := if (d4 xs).1 = 2 then ([], (d5 xs).2.1, (d5 xs).2.2) else rT xs (d5 xs).2.1 (d5 xs).2.2 65536
def d7 (xs : List Int) : Int × Nat × Int := if (d4 xs).1 = 3 then rI xs (d6 xs).2.1 (d6 xs).2.2 1152921504606846976 else (0, (d6 xs).2.1, (d6 xs).2.2)
/-- The update that is read. -/
def dupd (xs : List Int) : Upd := ⟨(d1 xs).1, (d2 xs).1, (d3 xs).1, (d4 xs).1, strOfNums (d5 xs).1, strOfNums (d6 xs).1, (d7 xs).1⟩
def dfin (xs : List Int) : Int := rend xs.length (d7 xs).2.2 (d7 xs).2.1
def Upd.err (u : Upd) : Int := updE u.q u.c u.n u.k u.key u.val u.ver
/-- Whether the bytes are an update's. -/
def dok (xs : List Int) : Bool := ((d4 xs).2.2 == 0) && (dfin xs == 0) && ((dupd xs).err == 0)
theorem gb_far {a b c : World} {N : Nat} {row : Option Nat} (h : a.grownBy b row) (k : b.grownBy c (some N)) (hN : a.heap.size ≤ N) : a.grownBy c row :=
  ⟨k.os.trans h.os, k.tape.trans h.tape, k.output.trans h.output, Nat.le_trans h.size k.size, fun i hi hn => (k.block i (Nat.lt_of_lt_of_le hi h.size) (fun e => by cases e; omega)).trans (h.block i hi hn)⟩
/-- A reader, and the update's two variables behind it. -/
structure UT (w W : World) (g : Nat) (a : Option Addr) (len cap : Nat) (xs : List Int) (e : Int) (p : Nat) (cs : Array Value) : Prop where
  rs : RS W g a len cap xs e p
  bk : Bk 27 W (w.heap.size + 1) cs
  b0 : Bk 27 W w.heap.size #[.int .i64 0, .int .i64 0, .int .i64 0, .int .i64 0, .string { data := #[] }, .string { data := #[] }, .int .i64 0]
  gb : w.grownBy W (some g)
  lt : g < w.heap.size
  off : ∀ b o s, a = some ⟨b, o, s⟩ → b < w.heap.size
theorem UT.moves {w W W' g a len cap xs e p e' p' cs} (h : UT w W g a len cap xs e p cs) (hr : RS W' g a len cap xs e' p') (hg : W.grownBy W' (some g)) : UT w W' g a len cap xs e' p' cs :=
  ⟨hr, h.bk.grew hg (fun q => by have := h.lt; cases q; omega), h.b0.grew hg (fun q => by have := h.lt; cases q; omega), gb_trans h.gb hg, h.lt, h.off⟩
theorem UT.new {w W W' g a len cap xs e p cs} (h : UT w W g a len cap xs e p cs) (hg : W.grownBy W' none) : UT w W' g a len cap xs e p cs := h.moves (h.rs.new hg) (gb_wide hg _)
theorem UT.set {w W g a len cap xs e p cs} (h : UT w W g a len cap xs e p cs) (i : Nat) (v : Value) : UT w (W.setCell ⟨w.heap.size + 1, i, none⟩ v) g a len cap xs e p (cs.setIfInBounds i v) := by
  have hg : W.grownBy (W.setCell ⟨w.heap.size + 1, i, none⟩ v) (some (w.heap.size + 1)) := grownBy_cell W (w.heap.size + 1) i v
  refine ⟨h.rs.other hg (fun q => by have := h.lt; cases q; omega) (fun k hk => ?_), h.bk.set i v, h.b0.grew hg (fun q => by have := Option.some.inj q; omega), gb_far h.gb hg (by omega), h.lt, h.off⟩
  cases hk
  intro b o s q
  have := h.off b o s q
  omega
theorem UT.cell {w W g a len cap xs e p cs} (h : UT w W g a len cap xs e p cs) (i : Nat) : W.cell? ⟨w.heap.size + 1, i, none⟩ = cs[i]? := h.bk.cell i
theorem UT.free {w W g a len cap xs e p cs} (h : UT w W g a len cap xs e p cs) (i : Nat) : W.frozen? ⟨w.heap.size + 1, i, none⟩ = false := frozen_of_row W _ i _ _ h.bk
theorem UT.int {w W g a len cap xs e p cs} (h : UT w W g a len cap xs e p cs) (most : Int) (hm : most ≤ 9223372036854775807) : Calls Try.prog 71 #[.pointer (some ⟨g, 0, none⟩), .int .i64 most] W fun r w' => r = .returned (.int .i64 (rI xs p e most).1) ∧ UT w w' g a len cap xs (rI xs p e most).2.2 (rI xs p e most).2.1 cs := by
  unfold rI
  by_cases he : e = 0
  · subst he
    rw [if_neg (by simp)]
    exact (int_ok g a len cap xs p most W h.rs hm).mono fun r w' ⟨h1, h2, h3⟩ => ⟨h1, h.moves h2 h3⟩
  · rw [if_pos he]
    exact (int_no g e _ p most W h.rs.rdr (by simpa using he)).mono fun r w' ⟨h1, h2⟩ => ⟨h1, by rw [h2]; exact h⟩
theorem UT.text {w W g a len cap xs e p cs} (h : UT w W g a len cap xs e p cs) (most : Int) (hm : most ≤ 9223372036854775807) : Calls Try.prog 40 #[.pointer (some ⟨g, 0, none⟩), .int .i64 most] W fun r w' => r = .returned (.string (strOfNums (rT xs p e most).1)) ∧ UT w w' g a len cap xs (rT xs p e most).2.2 (rT xs p e most).2.1 cs := by
  unfold rT
  by_cases he : e = 0
  · subst he
    rw [if_neg (by simp)]
    exact (text_ok g a len cap xs p most W h.rs hm).mono fun r w' ⟨h1, h2, h3⟩ => ⟨h1, h.moves h2 h3⟩
  · rw [if_pos he]
    exact (text_no g e _ p most W h.rs.rdr (by simpa using he)).mono fun r w' ⟨h1, h2⟩ => ⟨h1, by rw [h2]; exact h⟩
theorem UT.fin {w W g a len cap xs e p cs} (h : UT w W g a len cap xs e p cs) : Calls Try.prog 80 #[.pointer (some ⟨g, 0, none⟩)] W fun r w' => r = .returned (.int .i64 (rend len e p)) ∧ UT w w' g a len cap xs e p cs :=
  (end_c g e a len cap p W h.rs.rdr h.rs.le h.rs.lm).mono fun r w' ⟨h1, n, h2⟩ => ⟨h1, by rw [h2]; exact h.new (gb_drewN (gb_refl _) n)⟩
theorem UT.err {w W g a len cap xs e p cs} (h : UT w W g a len cap xs e p cs) : Calls Try.prog 85 #[.pointer (some ⟨g, 0, none⟩)] W fun r w' => r = .returned (.int .i64 e) ∧ w' = W := err_c g e _ p W h.rs.rdr
theorem dmust_so (w : World) : Calls Try.prog 84 #[.int .i64 0] w fun r w' => r = .returned (.tuple #[]) ∧ w' = w := by
  go_enter Try.func84, Try.ntmps84
  go_wp2
  go_end0
  exact ⟨rfl, rfl⟩
/-- A panic with an error. -/
def chn (e : Int) : List PanicEntry := [{ v := .iface 29 (.int .i64 e), recovered := false }]
theorem dmust_no (e : Int) (he : (e == 0) = false) (w : World) : Calls Try.prog 84 #[.int .i64 e] w fun r w' => r = .panicked (chn e) ∧ w' = w := by
  have hn : (e != 0) = true := by simpa using he
  go_enter Try.func84, Try.ntmps84
  go_wp2
  exact ⟨rfl, rfl, rfl⟩

/-- What takeUpdate comes to. -/
def TUA (xs : List Int) (g : Nat) (w : World) (r : Ending) (w' : World) : Prop := ((dok xs = true ∧ r = .returned (.agg (dupd xs).cells.toArray)) ∨ (dok xs = false ∧ ∃ e, r = .panicked (chn e))) ∧ w.grownBy w' (some g)
set_option maxRecDepth 20000 in
set_option maxHeartbeats 4000000 in
theorem take_c (g : Nat) (a : Option Addr) (len cap : Nat) (xs : List Int) (w : World) (h : RS w g a len cap xs 0 0) (hoff : ∀ b o s, a = some ⟨b, o, s⟩ → b < w.heap.size) :
    Calls Try.prog 58 #[.pointer (some ⟨g, 0, none⟩)] w fun r w' => TUA xs g w r w' := by
  have hlt : g < w.heap.size := lt_of_block h.rdr
  have hlen : xs.length = len := h.seg.1
  have HX := blk_two w 27 27 #[.int .i64 0, .int .i64 0, .int .i64 0, .int .i64 0, .string { data := #[] }, .string { data := #[] }, .int .i64 0] #[.int .i64 0, .int .i64 0, .int .i64 0, .int .i64 0, .string { data := #[] }, .string { data := #[] }, .int .i64 0]
  have A0 : Hid (UT w ((w.alloc (.cells #[.int .i64 0, .int .i64 0, .int .i64 0, .int .i64 0, .string { data := #[] }, .string { data := #[] }, .int .i64 0] 27)).alloc (.cells #[.int .i64 0, .int .i64 0, .int .i64 0, .int .i64 0, .string { data := #[] }, .string { data := #[] }, .int .i64 0] 27)) g a len cap xs 0 0 #[.int .i64 0, .int .i64 0, .int .i64 0, .int .i64 0, .string { data := #[] }, .string { data := #[] }, .int .i64 0]) := ⟨h.new HX.2.2, HX.2.1, HX.1, gb_wide HX.2.2 _, hlt, hoff⟩
  obtain ⟨q, hq⟩ : ∃ q, q = (d1 xs).1 := ⟨_, rfl⟩
  obtain ⟨c, hc⟩ : ∃ c, c = (d2 xs).1 := ⟨_, rfl⟩
  obtain ⟨n, hn⟩ : ∃ n, n = (d3 xs).1 := ⟨_, rfl⟩
  obtain ⟨k, hk⟩ : ∃ k, k = (d4 xs).1 := ⟨_, rfl⟩
  obtain ⟨key, hkey⟩ : ∃ s, s = strOfNums (d5 xs).1 := ⟨_, rfl⟩
  obtain ⟨E1, hE1⟩ : ∃ e, e = (d1 xs).2.2 := ⟨_, rfl⟩
  obtain ⟨E2, hE2⟩ : ∃ e, e = (d2 xs).2.2 := ⟨_, rfl⟩
  obtain ⟨E3, hE3⟩ : ∃ e, e = (d3 xs).2.2 := ⟨_, rfl⟩
  obtain ⟨E4, hE4⟩ : ∃ e, e = (d4 xs).2.2 := ⟨_, rfl⟩
  obtain ⟨E5, hE5⟩ : ∃ e, e = (d5 xs).2.2 := ⟨_, rfl⟩
  obtain ⟨P1, hP1⟩ : ∃ e, e = (d1 xs).2.1 := ⟨_, rfl⟩
  obtain ⟨P2, hP2⟩ : ∃ e, e = (d2 xs).2.1 := ⟨_, rfl⟩
  obtain ⟨P3, hP3⟩ : ∃ e, e = (d3 xs).2.1 := ⟨_, rfl⟩
  obtain ⟨P4, hP4⟩ : ∃ e, e = (d4 xs).2.1 := ⟨_, rfl⟩
  obtain ⟨P5, hP5⟩ : ∃ e, e = (d5 xs).2.1 := ⟨_, rfl⟩
  have HI1 : Hid (∀ W cs, UT w W g a len cap xs 0 0 cs → Calls Try.prog 71 #[.pointer (some ⟨g, 0, none⟩), .int .i64 1152921504606846976] W fun r w' => r = .returned (.int .i64 q) ∧ UT w w' g a len cap xs E1 P1 cs) := fun W cs h => by rw [hq, hE1, hP1]; exact h.int _ (by omega)
  have HI2 : Hid (∀ W cs, UT w W g a len cap xs E1 P1 cs → Calls Try.prog 71 #[.pointer (some ⟨g, 0, none⟩), .int .i64 16] W fun r w' => r = .returned (.int .i64 c) ∧ UT w w' g a len cap xs E2 P2 cs) := fun W cs h => by rw [hc, hE2, hP2]; rw [hE1, hP1] at h; exact h.int _ (by omega)
  have HI3 : Hid (∀ W cs, UT w W g a len cap xs E2 P2 cs → Calls Try.prog 71 #[.pointer (some ⟨g, 0, none⟩), .int .i64 1152921504606846976] W fun r w' => r = .returned (.int .i64 n) ∧ UT w w' g a len cap xs E3 P3 cs) := fun W cs h => by rw [hn, hE3, hP3]; rw [hE2, hP2] at h; exact h.int _ (by omega)
  have HI4 : Hid (∀ W cs, UT w W g a len cap xs E3 P3 cs → Calls Try.prog 71 #[.pointer (some ⟨g, 0, none⟩), .int .i64 3] W fun r w' => r = .returned (.int .i64 k) ∧ UT w w' g a len cap xs E4 P4 cs) := fun W cs h => by rw [hk, hE4, hP4]; rw [hE3, hP3] at h; exact h.int _ (by omega)
  have HT5 : Hid (∀ W cs, UT w W g a len cap xs E4 P4 cs → Calls Try.prog 40 #[.pointer (some ⟨g, 0, none⟩), .int .i64 1024] W fun r w' => r = .returned (.string key) ∧ UT w w' g a len cap xs E5 P5 cs) := fun W cs h => by rw [hkey, hE5, hP5]; rw [hE4, hP4] at h; exact h.text _ (by omega)
  have HEQ : Hid (q = (d1 xs).1 ∧ c = (d2 xs).1 ∧ n = (d3 xs).1 ∧ k = (d4 xs).1 ∧ key = strOfNums (d5 xs).1 ∧ E4 = (d4 xs).2.2 ∧ E5 = (d5 xs).2.2 ∧ P5 = (d5 xs).2.1) := ⟨hq, hc, hn, hk, hkey, hE4, hE5, hP5⟩
  have HLN : Hid (xs.length = len) := hlen
  have HK : Hid (∀ (val : ByteArray) (ver : Int) W, Calls Try.prog 46 #[.agg #[.int .i64 q, .int .i64 c, .int .i64 n, .int .i64 k, .string key, .string val, .int .i64 ver]] W fun r w' => r = .returned (.int .i64 (updE q c n k key val ver)) ∧ W.grownBy w' none) := fun val ver => checku_c q c n k key val ver
  clear hq hc hn hk hkey hE1 hE2 hE3 hE4 hE5 hP1 hP2 hP3 hP4 hP5 HX h hoff hlt hlen
  by_cases h4 : E4 = 0
  · by_cases hk2 : k = 2
    · subst hk2
      subst h4
      have H6 : d6 xs = ([], (d5 xs).2.1, (d5 xs).2.2) := by unfold d6; rw [if_pos HEQ.out.2.2.2.1.symm]
      have H7 : d7 xs = (0, (d5 xs).2.1, (d5 xs).2.2) := by unfold d7; rw [if_neg (by rw [← HEQ.out.2.2.2.1]; omega), H6]
      obtain ⟨F, hF⟩ : ∃ F, F = rend len E5 P5 := ⟨_, rfl⟩
      have HF : Hid (dfin xs = F) := by show _ = _; unfold dfin; rw [H7, hF, HLN.out, HEQ.out.2.2.2.2.2.2.1, HEQ.out.2.2.2.2.2.2.2]
      have HU : Hid (dupd xs = ⟨q, c, n, 2, key, { data := #[] }, 0⟩) := by show _ = _; unfold dupd; rw [H6, H7, ← HEQ.out.1, ← HEQ.out.2.1, ← HEQ.out.2.2.1, ← HEQ.out.2.2.2.1, ← HEQ.out.2.2.2.2.1]; rfl
      have HFR : Hid (F = rend len E5 P5) := hF
      obtain ⟨G, hG⟩ : ∃ G, G = updE q c n 2 key { data := #[] } 0 := ⟨_, rfl⟩
      have HK2' : Hid (∀ W, Calls Try.prog 46 #[.agg #[.int .i64 q, .int .i64 c, .int .i64 n, .int .i64 2, .string key, .string { data := #[] }, .int .i64 0]] W fun r w' => r = .returned (.int .i64 G) ∧ W.grownBy w' none) := fun W => by rw [hG]; exact HK.out _ _ W
      have HDK : Hid (dok xs = ((F == 0) && (G == 0))) := by show _ = _; unfold dok Upd.err; rw [HU.out, HF.out, ← HEQ.out.2.2.2.2.2.1, hG]; rfl
      clear H6 H7 hF hG HF HK
      by_cases hf : F = 0
      · subst hf
        by_cases hg : G = 0
        · subst hg
          go_enter Try.func58, Try.ntmps58
          go_wp2_with (first
            | ((fail_if_success (have z := A1)); have z := A0; clear z; go_at_call 71; go_must (refine (Calls.mono (HI1.out _ _ A0.out) ?_)); rintro r x0 ⟨rfl, hx⟩; have c0 : x0.cell? ⟨w.heap.size + 1, 0, none⟩ = some (.int .i64 0) := hx.cell 0; have f0 : x0.frozen? ⟨w.heap.size + 1, 0, none⟩ = false := hx.free 0; have A1 : Hid (UT w (x0.setCell ⟨w.heap.size + 1, 0, none⟩ (.int .i64 q)) g a len cap xs E1 P1 #[.int .i64 q, .int .i64 0, .int .i64 0, .int .i64 0, .string { data := #[] }, .string { data := #[] }, .int .i64 0]) := hx.set 0 _; clear hx)
            | ((fail_if_success (have z := A2)); have z := A1; clear z; go_at_call 71; go_must (refine (Calls.mono (HI2.out _ _ A1.out) ?_)); rintro r x1 ⟨rfl, hx⟩; have c1 : x1.cell? ⟨w.heap.size + 1, 1, none⟩ = some (.int .i64 0) := hx.cell 1; have f1 : x1.frozen? ⟨w.heap.size + 1, 1, none⟩ = false := hx.free 1; have A2 : Hid (UT w (x1.setCell ⟨w.heap.size + 1, 1, none⟩ (.int .i64 c)) g a len cap xs E2 P2 #[.int .i64 q, .int .i64 c, .int .i64 0, .int .i64 0, .string { data := #[] }, .string { data := #[] }, .int .i64 0]) := hx.set 1 _; clear hx)
            | ((fail_if_success (have z := A3)); have z := A2; clear z; go_at_call 71; go_must (refine (Calls.mono (HI3.out _ _ A2.out) ?_)); rintro r x2 ⟨rfl, hx⟩; have c2 : x2.cell? ⟨w.heap.size + 1, 2, none⟩ = some (.int .i64 0) := hx.cell 2; have f2 : x2.frozen? ⟨w.heap.size + 1, 2, none⟩ = false := hx.free 2; have A3 : Hid (UT w (x2.setCell ⟨w.heap.size + 1, 2, none⟩ (.int .i64 n)) g a len cap xs E3 P3 #[.int .i64 q, .int .i64 c, .int .i64 n, .int .i64 0, .string { data := #[] }, .string { data := #[] }, .int .i64 0]) := hx.set 2 _; clear hx)
            | ((fail_if_success (have z := A4)); have z := A3; clear z; go_at_call 71; go_must (refine (Calls.mono (HI4.out _ _ A3.out) ?_)); rintro r x3 ⟨rfl, hx⟩; have c3 : x3.cell? ⟨w.heap.size + 1, 3, none⟩ = some (.int .i64 0) := hx.cell 3; have f3 : x3.frozen? ⟨w.heap.size + 1, 3, none⟩ = false := hx.free 3; have A4 : Hid (UT w (x3.setCell ⟨w.heap.size + 1, 3, none⟩ (.int .i64 2)) g a len cap xs 0 P4 #[.int .i64 q, .int .i64 c, .int .i64 n, .int .i64 2, .string { data := #[] }, .string { data := #[] }, .int .i64 0]) := hx.set 3 _; clear hx)
            | (go_at_call 85; go_must (refine (Calls.mono A4.out.err ?_)); rintro r wx ⟨rfl, hx⟩; obtain rfl := hx.symm)
            | ((fail_if_success (have z := A5)); have z := A4; clear z; go_at_call 84; go_must (refine (Calls.mono (dmust_so _) ?_)); rintro r wx ⟨rfl, hx⟩; obtain rfl := hx.symm)
            | ((fail_if_success (have z := A5)); have z := A4; clear z; go_at_call 40; go_must (refine (Calls.mono (HT5.out _ _ A4.out) ?_)); rintro r x4 ⟨rfl, hx⟩; have c4 : x4.cell? ⟨w.heap.size + 1, 4, none⟩ = some (.string { data := #[] }) := hx.cell 4; have f4 : x4.frozen? ⟨w.heap.size + 1, 4, none⟩ = false := hx.free 4; have A5 : Hid (UT w (x4.setCell ⟨w.heap.size + 1, 4, none⟩ (.string key)) g a len cap xs E5 P5 #[.int .i64 q, .int .i64 c, .int .i64 n, .int .i64 2, .string key, .string { data := #[] }, .int .i64 0]) := hx.set 4 _; have k5 : (x4.setCell ⟨w.heap.size + 1, 4, none⟩ (.string key)).cell? ⟨w.heap.size + 1, 3, none⟩ = some (.int .i64 2) := A5.out.cell 3; clear hx)
            | ((fail_if_success (have z := Z1)); have z := A5; clear z; go_at_call 80; go_must (refine (Calls.mono A5.out.fin ?_)); rintro r x7 ⟨rfl, hx⟩; rw [← HFR.out]; have Z1 : Hid (UT w x7 g a len cap xs E5 P5 #[.int .i64 q, .int .i64 c, .int .i64 n, .int .i64 2, .string key, .string { data := #[] }, .int .i64 0]) := hx; clear hx)
            | ((fail_if_success (have z := Z2)); have z := Z1; clear z; go_at_call 84; go_must (refine (Calls.mono (dmust_so _) ?_)); rintro r wx ⟨rfl, hx⟩; obtain rfl := hx.symm)
            | ((fail_if_success (have z := Z2)); refine wpList_load_bk 27 rfl (.tmp 3) rfl Try.underlying27 rfl infoUpd (w.heap.size + 1) _ rfl Z1.out.bk rfl ?_)
            | (have z := Z1; clear z; go_at_call 46; go_must (refine (Calls.mono (HK2'.out _) ?_)); rintro r x8 ⟨rfl, hx⟩; have Z2 : Hid (UT w x8 g a len cap xs E5 P5 #[.int .i64 q, .int .i64 c, .int .i64 n, .int .i64 2, .string key, .string { data := #[] }, .int .i64 0]) := Z1.out.new hx; clear hx)
            | (have z := Z2; clear z; go_at_call 84; go_must (refine (Calls.mono (dmust_so _) ?_)); rintro r wx ⟨rfl, hx⟩; obtain rfl := hx.symm)
            | (have z := Z2; clear z; refine wpList_load_bk 27 rfl (.tmp 3) rfl Try.underlying27 rfl infoUpd (w.heap.size + 1) _ rfl Z2.out.bk rfl ?_)
            | (refine wpList_store_bk 27 rfl (.tmp 2) (.tmp 46) rfl infoUpd w.heap.size _ #[.int .i64 q, .int .i64 c, .int .i64 n, .int .i64 2, .string key, .string { data := #[] }, .int .i64 0] rfl rfl Z2.out.b0 rfl rfl (upd_one _ _ _ _ _ _ _) ?_; intro w9 h1 h2; have Z3 : Hid (Bk 27 w9 w.heap.size #[.int .i64 q, .int .i64 c, .int .i64 n, .int .i64 2, .string key, .string { data := #[] }, .int .i64 0] ∧ w.grownBy w9 (some g)) := ⟨h1, gb_far Z2.out.gb h2 (Nat.le_refl _)⟩; clear h1 h2))
          refine bodyPost_ret (results_cell1 Try.results58 _ _ _ ⟨w.heap.size, 0, none⟩ _ rfl (bk_load Try.underlying27 rfl infoUpd Z3.out.1 rfl)) rfl ?_
          exact ⟨.inl ⟨by rw [HDK.out]; rfl, by rw [HU.out]; rfl⟩, Z3.out.2⟩
        · have hb : (G == 0) = false := by simpa using hg
          clear hg
          go_enter Try.func58, Try.ntmps58
          go_wp2_with (first
            | ((fail_if_success (have z := A1)); have z := A0; clear z; go_at_call 71; go_must (refine (Calls.mono (HI1.out _ _ A0.out) ?_)); rintro r x0 ⟨rfl, hx⟩; have c0 : x0.cell? ⟨w.heap.size + 1, 0, none⟩ = some (.int .i64 0) := hx.cell 0; have f0 : x0.frozen? ⟨w.heap.size + 1, 0, none⟩ = false := hx.free 0; have A1 : Hid (UT w (x0.setCell ⟨w.heap.size + 1, 0, none⟩ (.int .i64 q)) g a len cap xs E1 P1 #[.int .i64 q, .int .i64 0, .int .i64 0, .int .i64 0, .string { data := #[] }, .string { data := #[] }, .int .i64 0]) := hx.set 0 _; clear hx)
            | ((fail_if_success (have z := A2)); have z := A1; clear z; go_at_call 71; go_must (refine (Calls.mono (HI2.out _ _ A1.out) ?_)); rintro r x1 ⟨rfl, hx⟩; have c1 : x1.cell? ⟨w.heap.size + 1, 1, none⟩ = some (.int .i64 0) := hx.cell 1; have f1 : x1.frozen? ⟨w.heap.size + 1, 1, none⟩ = false := hx.free 1; have A2 : Hid (UT w (x1.setCell ⟨w.heap.size + 1, 1, none⟩ (.int .i64 c)) g a len cap xs E2 P2 #[.int .i64 q, .int .i64 c, .int .i64 0, .int .i64 0, .string { data := #[] }, .string { data := #[] }, .int .i64 0]) := hx.set 1 _; clear hx)
            | ((fail_if_success (have z := A3)); have z := A2; clear z; go_at_call 71; go_must (refine (Calls.mono (HI3.out _ _ A2.out) ?_)); rintro r x2 ⟨rfl, hx⟩; have c2 : x2.cell? ⟨w.heap.size + 1, 2, none⟩ = some (.int .i64 0) := hx.cell 2; have f2 : x2.frozen? ⟨w.heap.size + 1, 2, none⟩ = false := hx.free 2; have A3 : Hid (UT w (x2.setCell ⟨w.heap.size + 1, 2, none⟩ (.int .i64 n)) g a len cap xs E3 P3 #[.int .i64 q, .int .i64 c, .int .i64 n, .int .i64 0, .string { data := #[] }, .string { data := #[] }, .int .i64 0]) := hx.set 2 _; clear hx)
            | ((fail_if_success (have z := A4)); have z := A3; clear z; go_at_call 71; go_must (refine (Calls.mono (HI4.out _ _ A3.out) ?_)); rintro r x3 ⟨rfl, hx⟩; have c3 : x3.cell? ⟨w.heap.size + 1, 3, none⟩ = some (.int .i64 0) := hx.cell 3; have f3 : x3.frozen? ⟨w.heap.size + 1, 3, none⟩ = false := hx.free 3; have A4 : Hid (UT w (x3.setCell ⟨w.heap.size + 1, 3, none⟩ (.int .i64 2)) g a len cap xs 0 P4 #[.int .i64 q, .int .i64 c, .int .i64 n, .int .i64 2, .string { data := #[] }, .string { data := #[] }, .int .i64 0]) := hx.set 3 _; clear hx)
            | (go_at_call 85; go_must (refine (Calls.mono A4.out.err ?_)); rintro r wx ⟨rfl, hx⟩; obtain rfl := hx.symm)
            | ((fail_if_success (have z := A5)); have z := A4; clear z; go_at_call 84; go_must (refine (Calls.mono (dmust_so _) ?_)); rintro r wx ⟨rfl, hx⟩; obtain rfl := hx.symm)
            | ((fail_if_success (have z := A5)); have z := A4; clear z; go_at_call 40; go_must (refine (Calls.mono (HT5.out _ _ A4.out) ?_)); rintro r x4 ⟨rfl, hx⟩; have c4 : x4.cell? ⟨w.heap.size + 1, 4, none⟩ = some (.string { data := #[] }) := hx.cell 4; have f4 : x4.frozen? ⟨w.heap.size + 1, 4, none⟩ = false := hx.free 4; have A5 : Hid (UT w (x4.setCell ⟨w.heap.size + 1, 4, none⟩ (.string key)) g a len cap xs E5 P5 #[.int .i64 q, .int .i64 c, .int .i64 n, .int .i64 2, .string key, .string { data := #[] }, .int .i64 0]) := hx.set 4 _; have k5 : (x4.setCell ⟨w.heap.size + 1, 4, none⟩ (.string key)).cell? ⟨w.heap.size + 1, 3, none⟩ = some (.int .i64 2) := A5.out.cell 3; clear hx)
            | ((fail_if_success (have z := Z1)); have z := A5; clear z; go_at_call 80; go_must (refine (Calls.mono A5.out.fin ?_)); rintro r x7 ⟨rfl, hx⟩; rw [← HFR.out]; have Z1 : Hid (UT w x7 g a len cap xs E5 P5 #[.int .i64 q, .int .i64 c, .int .i64 n, .int .i64 2, .string key, .string { data := #[] }, .int .i64 0]) := hx; clear hx)
            | ((fail_if_success (have z := Z2)); have z := Z1; clear z; go_at_call 84; go_must (refine (Calls.mono (dmust_so _) ?_)); rintro r wx ⟨rfl, hx⟩; obtain rfl := hx.symm)
            | ((fail_if_success (have z := Z2)); refine wpList_load_bk 27 rfl (.tmp 3) rfl Try.underlying27 rfl infoUpd (w.heap.size + 1) _ rfl Z1.out.bk rfl ?_)
            | (have z := Z1; clear z; go_at_call 46; go_must (refine (Calls.mono (HK2'.out _) ?_)); rintro r x8 ⟨rfl, hx⟩; have Z2 : Hid (UT w x8 g a len cap xs E5 P5 #[.int .i64 q, .int .i64 c, .int .i64 n, .int .i64 2, .string key, .string { data := #[] }, .int .i64 0]) := Z1.out.new hx; clear hx)
            | (have z := Z2; clear z; go_at_call 84; go_must (refine (Calls.mono (dmust_no G hb _) ?_)); rintro r wx ⟨rfl, hx⟩; obtain rfl := hx.symm))
          exact ⟨rfl, .inr ⟨by rw [HDK.out, hb]; rfl, G, rfl⟩, Z2.out.gb⟩
      · have hb : (F == 0) = false := by simpa using hf
        clear hf
        go_enter Try.func58, Try.ntmps58
        go_wp2_with (first
          | ((fail_if_success (have z := A1)); have z := A0; clear z; go_at_call 71; go_must (refine (Calls.mono (HI1.out _ _ A0.out) ?_)); rintro r x0 ⟨rfl, hx⟩; have c0 : x0.cell? ⟨w.heap.size + 1, 0, none⟩ = some (.int .i64 0) := hx.cell 0; have f0 : x0.frozen? ⟨w.heap.size + 1, 0, none⟩ = false := hx.free 0; have A1 : Hid (UT w (x0.setCell ⟨w.heap.size + 1, 0, none⟩ (.int .i64 q)) g a len cap xs E1 P1 #[.int .i64 q, .int .i64 0, .int .i64 0, .int .i64 0, .string { data := #[] }, .string { data := #[] }, .int .i64 0]) := hx.set 0 _; clear hx)
          | ((fail_if_success (have z := A2)); have z := A1; clear z; go_at_call 71; go_must (refine (Calls.mono (HI2.out _ _ A1.out) ?_)); rintro r x1 ⟨rfl, hx⟩; have c1 : x1.cell? ⟨w.heap.size + 1, 1, none⟩ = some (.int .i64 0) := hx.cell 1; have f1 : x1.frozen? ⟨w.heap.size + 1, 1, none⟩ = false := hx.free 1; have A2 : Hid (UT w (x1.setCell ⟨w.heap.size + 1, 1, none⟩ (.int .i64 c)) g a len cap xs E2 P2 #[.int .i64 q, .int .i64 c, .int .i64 0, .int .i64 0, .string { data := #[] }, .string { data := #[] }, .int .i64 0]) := hx.set 1 _; clear hx)
          | ((fail_if_success (have z := A3)); have z := A2; clear z; go_at_call 71; go_must (refine (Calls.mono (HI3.out _ _ A2.out) ?_)); rintro r x2 ⟨rfl, hx⟩; have c2 : x2.cell? ⟨w.heap.size + 1, 2, none⟩ = some (.int .i64 0) := hx.cell 2; have f2 : x2.frozen? ⟨w.heap.size + 1, 2, none⟩ = false := hx.free 2; have A3 : Hid (UT w (x2.setCell ⟨w.heap.size + 1, 2, none⟩ (.int .i64 n)) g a len cap xs E3 P3 #[.int .i64 q, .int .i64 c, .int .i64 n, .int .i64 0, .string { data := #[] }, .string { data := #[] }, .int .i64 0]) := hx.set 2 _; clear hx)
          | ((fail_if_success (have z := A4)); have z := A3; clear z; go_at_call 71; go_must (refine (Calls.mono (HI4.out _ _ A3.out) ?_)); rintro r x3 ⟨rfl, hx⟩; have c3 : x3.cell? ⟨w.heap.size + 1, 3, none⟩ = some (.int .i64 0) := hx.cell 3; have f3 : x3.frozen? ⟨w.heap.size + 1, 3, none⟩ = false := hx.free 3; have A4 : Hid (UT w (x3.setCell ⟨w.heap.size + 1, 3, none⟩ (.int .i64 2)) g a len cap xs 0 P4 #[.int .i64 q, .int .i64 c, .int .i64 n, .int .i64 2, .string { data := #[] }, .string { data := #[] }, .int .i64 0]) := hx.set 3 _; clear hx)
          | (go_at_call 85; go_must (refine (Calls.mono A4.out.err ?_)); rintro r wx ⟨rfl, hx⟩; obtain rfl := hx.symm)
          | ((fail_if_success (have z := A5)); have z := A4; clear z; go_at_call 84; go_must (refine (Calls.mono (dmust_so _) ?_)); rintro r wx ⟨rfl, hx⟩; obtain rfl := hx.symm)
          | ((fail_if_success (have z := A5)); have z := A4; clear z; go_at_call 40; go_must (refine (Calls.mono (HT5.out _ _ A4.out) ?_)); rintro r x4 ⟨rfl, hx⟩; have c4 : x4.cell? ⟨w.heap.size + 1, 4, none⟩ = some (.string { data := #[] }) := hx.cell 4; have f4 : x4.frozen? ⟨w.heap.size + 1, 4, none⟩ = false := hx.free 4; have A5 : Hid (UT w (x4.setCell ⟨w.heap.size + 1, 4, none⟩ (.string key)) g a len cap xs E5 P5 #[.int .i64 q, .int .i64 c, .int .i64 n, .int .i64 2, .string key, .string { data := #[] }, .int .i64 0]) := hx.set 4 _; have k5 : (x4.setCell ⟨w.heap.size + 1, 4, none⟩ (.string key)).cell? ⟨w.heap.size + 1, 3, none⟩ = some (.int .i64 2) := A5.out.cell 3; clear hx)
          | ((fail_if_success (have z := Z1)); have z := A5; clear z; go_at_call 80; go_must (refine (Calls.mono A5.out.fin ?_)); rintro r x7 ⟨rfl, hx⟩; rw [← HFR.out]; have Z1 : Hid (UT w x7 g a len cap xs E5 P5 #[.int .i64 q, .int .i64 c, .int .i64 n, .int .i64 2, .string key, .string { data := #[] }, .int .i64 0]) := hx; clear hx)
          | (have z := Z1; clear z; go_at_call 84; go_must (refine (Calls.mono (dmust_no F hb _) ?_)); rintro r wx ⟨rfl, hx⟩; obtain rfl := hx.symm))
        exact ⟨rfl, .inr ⟨by rw [HDK.out, hb]; rfl, F, rfl⟩, Z1.out.gb⟩
    · by_cases hk3 : k = 3
      · clear hk2
        subst hk3
        subst h4
        obtain ⟨val, hval⟩ : ∃ s, s = strOfNums (d6 xs).1 := ⟨_, rfl⟩
        obtain ⟨E6, hE6⟩ : ∃ e, e = (d6 xs).2.2 := ⟨_, rfl⟩
        obtain ⟨P6, hP6⟩ : ∃ e, e = (d6 xs).2.1 := ⟨_, rfl⟩
        have H6 : d6 xs = rT xs (d5 xs).2.1 (d5 xs).2.2 65536 := by unfold d6; rw [if_neg (by rw [← HEQ.out.2.2.2.1]; omega)]
        have HT6 : Hid (∀ W cs, UT w W g a len cap xs E5 P5 cs → Calls Try.prog 40 #[.pointer (some ⟨g, 0, none⟩), .int .i64 65536] W fun r w' => r = .returned (.string val) ∧ UT w w' g a len cap xs E6 P6 cs) := fun W cs h => by rw [hval, hE6, hP6, H6]; rw [HEQ.out.2.2.2.2.2.2.1, HEQ.out.2.2.2.2.2.2.2] at h; exact h.text _ (by omega)
        obtain ⟨ver, hver⟩ : ∃ s, s = (d7 xs).1 := ⟨_, rfl⟩
        obtain ⟨E7, hE7⟩ : ∃ e, e = (d7 xs).2.2 := ⟨_, rfl⟩
        obtain ⟨P7, hP7⟩ : ∃ e, e = (d7 xs).2.1 := ⟨_, rfl⟩
        have H7 : d7 xs = rI xs (d6 xs).2.1 (d6 xs).2.2 1152921504606846976 := by unfold d7; rw [if_pos HEQ.out.2.2.2.1.symm]
        have HI7 : Hid (∀ W cs, UT w W g a len cap xs E6 P6 cs → Calls Try.prog 71 #[.pointer (some ⟨g, 0, none⟩), .int .i64 1152921504606846976] W fun r w' => r = .returned (.int .i64 ver) ∧ UT w w' g a len cap xs E7 P7 cs) := fun W cs h => by rw [hver, hE7, hP7, H7]; rw [hE6, hP6] at h; exact h.int _ (by omega)
        obtain ⟨F, hF⟩ : ∃ F, F = rend len E7 P7 := ⟨_, rfl⟩
        have HF : Hid (dfin xs = F) := by show _ = _; unfold dfin; rw [hF, HLN.out, hE7, hP7]
        have HU : Hid (dupd xs = ⟨q, c, n, 3, key, val, ver⟩) := by show _ = _; unfold dupd; rw [← hval, ← hver, ← HEQ.out.1, ← HEQ.out.2.1, ← HEQ.out.2.2.1, ← HEQ.out.2.2.2.1, ← HEQ.out.2.2.2.2.1]
        have HFR : Hid (F = rend len E7 P7) := hF
        obtain ⟨G, hG⟩ : ∃ G, G = updE q c n 3 key val ver := ⟨_, rfl⟩
        have HK2' : Hid (∀ W, Calls Try.prog 46 #[.agg #[.int .i64 q, .int .i64 c, .int .i64 n, .int .i64 3, .string key, .string val, .int .i64 ver]] W fun r w' => r = .returned (.int .i64 G) ∧ W.grownBy w' none) := fun W => by rw [hG]; exact HK.out _ _ W
        have HDK : Hid (dok xs = ((F == 0) && (G == 0))) := by show _ = _; unfold dok Upd.err; rw [HU.out, HF.out, ← HEQ.out.2.2.2.2.2.1, hG]; rfl
        clear hval hE6 hP6 H6 hver hE7 hP7 H7 hF hG HF HK
        by_cases hf : F = 0
        · subst hf
          by_cases hg : G = 0
          · subst hg
            go_enter Try.func58, Try.ntmps58
            go_wp2_with (first
              | ((fail_if_success (have z := A1)); have z := A0; clear z; go_at_call 71; go_must (refine (Calls.mono (HI1.out _ _ A0.out) ?_)); rintro r x0 ⟨rfl, hx⟩; have c0 : x0.cell? ⟨w.heap.size + 1, 0, none⟩ = some (.int .i64 0) := hx.cell 0; have f0 : x0.frozen? ⟨w.heap.size + 1, 0, none⟩ = false := hx.free 0; have A1 : Hid (UT w (x0.setCell ⟨w.heap.size + 1, 0, none⟩ (.int .i64 q)) g a len cap xs E1 P1 #[.int .i64 q, .int .i64 0, .int .i64 0, .int .i64 0, .string { data := #[] }, .string { data := #[] }, .int .i64 0]) := hx.set 0 _; clear hx)
              | ((fail_if_success (have z := A2)); have z := A1; clear z; go_at_call 71; go_must (refine (Calls.mono (HI2.out _ _ A1.out) ?_)); rintro r x1 ⟨rfl, hx⟩; have c1 : x1.cell? ⟨w.heap.size + 1, 1, none⟩ = some (.int .i64 0) := hx.cell 1; have f1 : x1.frozen? ⟨w.heap.size + 1, 1, none⟩ = false := hx.free 1; have A2 : Hid (UT w (x1.setCell ⟨w.heap.size + 1, 1, none⟩ (.int .i64 c)) g a len cap xs E2 P2 #[.int .i64 q, .int .i64 c, .int .i64 0, .int .i64 0, .string { data := #[] }, .string { data := #[] }, .int .i64 0]) := hx.set 1 _; clear hx)
              | ((fail_if_success (have z := A3)); have z := A2; clear z; go_at_call 71; go_must (refine (Calls.mono (HI3.out _ _ A2.out) ?_)); rintro r x2 ⟨rfl, hx⟩; have c2 : x2.cell? ⟨w.heap.size + 1, 2, none⟩ = some (.int .i64 0) := hx.cell 2; have f2 : x2.frozen? ⟨w.heap.size + 1, 2, none⟩ = false := hx.free 2; have A3 : Hid (UT w (x2.setCell ⟨w.heap.size + 1, 2, none⟩ (.int .i64 n)) g a len cap xs E3 P3 #[.int .i64 q, .int .i64 c, .int .i64 n, .int .i64 0, .string { data := #[] }, .string { data := #[] }, .int .i64 0]) := hx.set 2 _; clear hx)
              | ((fail_if_success (have z := A4)); have z := A3; clear z; go_at_call 71; go_must (refine (Calls.mono (HI4.out _ _ A3.out) ?_)); rintro r x3 ⟨rfl, hx⟩; have c3 : x3.cell? ⟨w.heap.size + 1, 3, none⟩ = some (.int .i64 0) := hx.cell 3; have f3 : x3.frozen? ⟨w.heap.size + 1, 3, none⟩ = false := hx.free 3; have A4 : Hid (UT w (x3.setCell ⟨w.heap.size + 1, 3, none⟩ (.int .i64 3)) g a len cap xs 0 P4 #[.int .i64 q, .int .i64 c, .int .i64 n, .int .i64 3, .string { data := #[] }, .string { data := #[] }, .int .i64 0]) := hx.set 3 _; clear hx)
              | (go_at_call 85; go_must (refine (Calls.mono A4.out.err ?_)); rintro r wx ⟨rfl, hx⟩; obtain rfl := hx.symm)
              | ((fail_if_success (have z := A5)); have z := A4; clear z; go_at_call 84; go_must (refine (Calls.mono (dmust_so _) ?_)); rintro r wx ⟨rfl, hx⟩; obtain rfl := hx.symm)
              | ((fail_if_success (have z := A5)); have z := A4; clear z; go_at_call 40; go_must (refine (Calls.mono (HT5.out _ _ A4.out) ?_)); rintro r x4 ⟨rfl, hx⟩; have c4 : x4.cell? ⟨w.heap.size + 1, 4, none⟩ = some (.string { data := #[] }) := hx.cell 4; have f4 : x4.frozen? ⟨w.heap.size + 1, 4, none⟩ = false := hx.free 4; have A5 : Hid (UT w (x4.setCell ⟨w.heap.size + 1, 4, none⟩ (.string key)) g a len cap xs E5 P5 #[.int .i64 q, .int .i64 c, .int .i64 n, .int .i64 3, .string key, .string { data := #[] }, .int .i64 0]) := hx.set 4 _; have k5 : (x4.setCell ⟨w.heap.size + 1, 4, none⟩ (.string key)).cell? ⟨w.heap.size + 1, 3, none⟩ = some (.int .i64 3) := A5.out.cell 3; clear hx)
              | ((fail_if_success (have z := A6)); have z := A5; clear z; go_at_call 40; go_must (refine (Calls.mono (HT6.out _ _ A5.out) ?_)); rintro r x5 ⟨rfl, hx⟩; have c5 : x5.cell? ⟨w.heap.size + 1, 5, none⟩ = some (.string { data := #[] }) := hx.cell 5; have f5 : x5.frozen? ⟨w.heap.size + 1, 5, none⟩ = false := hx.free 5; have A6 : Hid (UT w (x5.setCell ⟨w.heap.size + 1, 5, none⟩ (.string val)) g a len cap xs E6 P6 #[.int .i64 q, .int .i64 c, .int .i64 n, .int .i64 3, .string key, .string val, .int .i64 0]) := hx.set 5 _; have k6 : (x5.setCell ⟨w.heap.size + 1, 5, none⟩ (.string val)).cell? ⟨w.heap.size + 1, 3, none⟩ = some (.int .i64 3) := A6.out.cell 3; clear hx)
              | ((fail_if_success (have z := A7)); have z := A6; clear z; go_at_call 71; go_must (refine (Calls.mono (HI7.out _ _ A6.out) ?_)); rintro r x6 ⟨rfl, hx⟩; have c6 : x6.cell? ⟨w.heap.size + 1, 6, none⟩ = some (.int .i64 0) := hx.cell 6; have f6 : x6.frozen? ⟨w.heap.size + 1, 6, none⟩ = false := hx.free 6; have A7 : Hid (UT w (x6.setCell ⟨w.heap.size + 1, 6, none⟩ (.int .i64 ver)) g a len cap xs E7 P7 #[.int .i64 q, .int .i64 c, .int .i64 n, .int .i64 3, .string key, .string val, .int .i64 ver]) := hx.set 6 _; clear hx)
              | ((fail_if_success (have z := Z1)); have z := A7; clear z; go_at_call 80; go_must (refine (Calls.mono A7.out.fin ?_)); rintro r x7 ⟨rfl, hx⟩; rw [← HFR.out]; have Z1 : Hid (UT w x7 g a len cap xs E7 P7 #[.int .i64 q, .int .i64 c, .int .i64 n, .int .i64 3, .string key, .string val, .int .i64 ver]) := hx; clear hx)
              | ((fail_if_success (have z := Z2)); have z := Z1; clear z; go_at_call 84; go_must (refine (Calls.mono (dmust_so _) ?_)); rintro r wx ⟨rfl, hx⟩; obtain rfl := hx.symm)
              | ((fail_if_success (have z := Z2)); refine wpList_load_bk 27 rfl (.tmp 3) rfl Try.underlying27 rfl infoUpd (w.heap.size + 1) _ rfl Z1.out.bk rfl ?_)
              | (have z := Z1; clear z; go_at_call 46; go_must (refine (Calls.mono (HK2'.out _) ?_)); rintro r x8 ⟨rfl, hx⟩; have Z2 : Hid (UT w x8 g a len cap xs E7 P7 #[.int .i64 q, .int .i64 c, .int .i64 n, .int .i64 3, .string key, .string val, .int .i64 ver]) := Z1.out.new hx; clear hx)
              | (have z := Z2; clear z; go_at_call 84; go_must (refine (Calls.mono (dmust_so _) ?_)); rintro r wx ⟨rfl, hx⟩; obtain rfl := hx.symm)
              | (have z := Z2; clear z; refine wpList_load_bk 27 rfl (.tmp 3) rfl Try.underlying27 rfl infoUpd (w.heap.size + 1) _ rfl Z2.out.bk rfl ?_)
              | (refine wpList_store_bk 27 rfl (.tmp 2) (.tmp 46) rfl infoUpd w.heap.size _ #[.int .i64 q, .int .i64 c, .int .i64 n, .int .i64 3, .string key, .string val, .int .i64 ver] rfl rfl Z2.out.b0 rfl rfl (upd_one _ _ _ _ _ _ _) ?_; intro w9 h1 h2; have Z3 : Hid (Bk 27 w9 w.heap.size #[.int .i64 q, .int .i64 c, .int .i64 n, .int .i64 3, .string key, .string val, .int .i64 ver] ∧ w.grownBy w9 (some g)) := ⟨h1, gb_far Z2.out.gb h2 (Nat.le_refl _)⟩; clear h1 h2))
            refine bodyPost_ret (results_cell1 Try.results58 _ _ _ ⟨w.heap.size, 0, none⟩ _ rfl (bk_load Try.underlying27 rfl infoUpd Z3.out.1 rfl)) rfl ?_
            exact ⟨.inl ⟨by rw [HDK.out]; rfl, by rw [HU.out]; rfl⟩, Z3.out.2⟩
          · have hb : (G == 0) = false := by simpa using hg
            clear hg
            go_enter Try.func58, Try.ntmps58
            go_wp2_with (first
              | ((fail_if_success (have z := A1)); have z := A0; clear z; go_at_call 71; go_must (refine (Calls.mono (HI1.out _ _ A0.out) ?_)); rintro r x0 ⟨rfl, hx⟩; have c0 : x0.cell? ⟨w.heap.size + 1, 0, none⟩ = some (.int .i64 0) := hx.cell 0; have f0 : x0.frozen? ⟨w.heap.size + 1, 0, none⟩ = false := hx.free 0; have A1 : Hid (UT w (x0.setCell ⟨w.heap.size + 1, 0, none⟩ (.int .i64 q)) g a len cap xs E1 P1 #[.int .i64 q, .int .i64 0, .int .i64 0, .int .i64 0, .string { data := #[] }, .string { data := #[] }, .int .i64 0]) := hx.set 0 _; clear hx)
              | ((fail_if_success (have z := A2)); have z := A1; clear z; go_at_call 71; go_must (refine (Calls.mono (HI2.out _ _ A1.out) ?_)); rintro r x1 ⟨rfl, hx⟩; have c1 : x1.cell? ⟨w.heap.size + 1, 1, none⟩ = some (.int .i64 0) := hx.cell 1; have f1 : x1.frozen? ⟨w.heap.size + 1, 1, none⟩ = false := hx.free 1; have A2 : Hid (UT w (x1.setCell ⟨w.heap.size + 1, 1, none⟩ (.int .i64 c)) g a len cap xs E2 P2 #[.int .i64 q, .int .i64 c, .int .i64 0, .int .i64 0, .string { data := #[] }, .string { data := #[] }, .int .i64 0]) := hx.set 1 _; clear hx)
              | ((fail_if_success (have z := A3)); have z := A2; clear z; go_at_call 71; go_must (refine (Calls.mono (HI3.out _ _ A2.out) ?_)); rintro r x2 ⟨rfl, hx⟩; have c2 : x2.cell? ⟨w.heap.size + 1, 2, none⟩ = some (.int .i64 0) := hx.cell 2; have f2 : x2.frozen? ⟨w.heap.size + 1, 2, none⟩ = false := hx.free 2; have A3 : Hid (UT w (x2.setCell ⟨w.heap.size + 1, 2, none⟩ (.int .i64 n)) g a len cap xs E3 P3 #[.int .i64 q, .int .i64 c, .int .i64 n, .int .i64 0, .string { data := #[] }, .string { data := #[] }, .int .i64 0]) := hx.set 2 _; clear hx)
              | ((fail_if_success (have z := A4)); have z := A3; clear z; go_at_call 71; go_must (refine (Calls.mono (HI4.out _ _ A3.out) ?_)); rintro r x3 ⟨rfl, hx⟩; have c3 : x3.cell? ⟨w.heap.size + 1, 3, none⟩ = some (.int .i64 0) := hx.cell 3; have f3 : x3.frozen? ⟨w.heap.size + 1, 3, none⟩ = false := hx.free 3; have A4 : Hid (UT w (x3.setCell ⟨w.heap.size + 1, 3, none⟩ (.int .i64 3)) g a len cap xs 0 P4 #[.int .i64 q, .int .i64 c, .int .i64 n, .int .i64 3, .string { data := #[] }, .string { data := #[] }, .int .i64 0]) := hx.set 3 _; clear hx)
              | (go_at_call 85; go_must (refine (Calls.mono A4.out.err ?_)); rintro r wx ⟨rfl, hx⟩; obtain rfl := hx.symm)
              | ((fail_if_success (have z := A5)); have z := A4; clear z; go_at_call 84; go_must (refine (Calls.mono (dmust_so _) ?_)); rintro r wx ⟨rfl, hx⟩; obtain rfl := hx.symm)
              | ((fail_if_success (have z := A5)); have z := A4; clear z; go_at_call 40; go_must (refine (Calls.mono (HT5.out _ _ A4.out) ?_)); rintro r x4 ⟨rfl, hx⟩; have c4 : x4.cell? ⟨w.heap.size + 1, 4, none⟩ = some (.string { data := #[] }) := hx.cell 4; have f4 : x4.frozen? ⟨w.heap.size + 1, 4, none⟩ = false := hx.free 4; have A5 : Hid (UT w (x4.setCell ⟨w.heap.size + 1, 4, none⟩ (.string key)) g a len cap xs E5 P5 #[.int .i64 q, .int .i64 c, .int .i64 n, .int .i64 3, .string key, .string { data := #[] }, .int .i64 0]) := hx.set 4 _; have k5 : (x4.setCell ⟨w.heap.size + 1, 4, none⟩ (.string key)).cell? ⟨w.heap.size + 1, 3, none⟩ = some (.int .i64 3) := A5.out.cell 3; clear hx)
              | ((fail_if_success (have z := A6)); have z := A5; clear z; go_at_call 40; go_must (refine (Calls.mono (HT6.out _ _ A5.out) ?_)); rintro r x5 ⟨rfl, hx⟩; have c5 : x5.cell? ⟨w.heap.size + 1, 5, none⟩ = some (.string { data := #[] }) := hx.cell 5; have f5 : x5.frozen? ⟨w.heap.size + 1, 5, none⟩ = false := hx.free 5; have A6 : Hid (UT w (x5.setCell ⟨w.heap.size + 1, 5, none⟩ (.string val)) g a len cap xs E6 P6 #[.int .i64 q, .int .i64 c, .int .i64 n, .int .i64 3, .string key, .string val, .int .i64 0]) := hx.set 5 _; have k6 : (x5.setCell ⟨w.heap.size + 1, 5, none⟩ (.string val)).cell? ⟨w.heap.size + 1, 3, none⟩ = some (.int .i64 3) := A6.out.cell 3; clear hx)
              | ((fail_if_success (have z := A7)); have z := A6; clear z; go_at_call 71; go_must (refine (Calls.mono (HI7.out _ _ A6.out) ?_)); rintro r x6 ⟨rfl, hx⟩; have c6 : x6.cell? ⟨w.heap.size + 1, 6, none⟩ = some (.int .i64 0) := hx.cell 6; have f6 : x6.frozen? ⟨w.heap.size + 1, 6, none⟩ = false := hx.free 6; have A7 : Hid (UT w (x6.setCell ⟨w.heap.size + 1, 6, none⟩ (.int .i64 ver)) g a len cap xs E7 P7 #[.int .i64 q, .int .i64 c, .int .i64 n, .int .i64 3, .string key, .string val, .int .i64 ver]) := hx.set 6 _; clear hx)
              | ((fail_if_success (have z := Z1)); have z := A7; clear z; go_at_call 80; go_must (refine (Calls.mono A7.out.fin ?_)); rintro r x7 ⟨rfl, hx⟩; rw [← HFR.out]; have Z1 : Hid (UT w x7 g a len cap xs E7 P7 #[.int .i64 q, .int .i64 c, .int .i64 n, .int .i64 3, .string key, .string val, .int .i64 ver]) := hx; clear hx)
              | ((fail_if_success (have z := Z2)); have z := Z1; clear z; go_at_call 84; go_must (refine (Calls.mono (dmust_so _) ?_)); rintro r wx ⟨rfl, hx⟩; obtain rfl := hx.symm)
              | ((fail_if_success (have z := Z2)); refine wpList_load_bk 27 rfl (.tmp 3) rfl Try.underlying27 rfl infoUpd (w.heap.size + 1) _ rfl Z1.out.bk rfl ?_)
              | (have z := Z1; clear z; go_at_call 46; go_must (refine (Calls.mono (HK2'.out _) ?_)); rintro r x8 ⟨rfl, hx⟩; have Z2 : Hid (UT w x8 g a len cap xs E7 P7 #[.int .i64 q, .int .i64 c, .int .i64 n, .int .i64 3, .string key, .string val, .int .i64 ver]) := Z1.out.new hx; clear hx)
              | (have z := Z2; clear z; go_at_call 84; go_must (refine (Calls.mono (dmust_no G hb _) ?_)); rintro r wx ⟨rfl, hx⟩; obtain rfl := hx.symm))
            exact ⟨rfl, .inr ⟨by rw [HDK.out, hb]; rfl, G, rfl⟩, Z2.out.gb⟩
        · have hb : (F == 0) = false := by simpa using hf
          clear hf
          go_enter Try.func58, Try.ntmps58
          go_wp2_with (first
            | ((fail_if_success (have z := A1)); have z := A0; clear z; go_at_call 71; go_must (refine (Calls.mono (HI1.out _ _ A0.out) ?_)); rintro r x0 ⟨rfl, hx⟩; have c0 : x0.cell? ⟨w.heap.size + 1, 0, none⟩ = some (.int .i64 0) := hx.cell 0; have f0 : x0.frozen? ⟨w.heap.size + 1, 0, none⟩ = false := hx.free 0; have A1 : Hid (UT w (x0.setCell ⟨w.heap.size + 1, 0, none⟩ (.int .i64 q)) g a len cap xs E1 P1 #[.int .i64 q, .int .i64 0, .int .i64 0, .int .i64 0, .string { data := #[] }, .string { data := #[] }, .int .i64 0]) := hx.set 0 _; clear hx)
            | ((fail_if_success (have z := A2)); have z := A1; clear z; go_at_call 71; go_must (refine (Calls.mono (HI2.out _ _ A1.out) ?_)); rintro r x1 ⟨rfl, hx⟩; have c1 : x1.cell? ⟨w.heap.size + 1, 1, none⟩ = some (.int .i64 0) := hx.cell 1; have f1 : x1.frozen? ⟨w.heap.size + 1, 1, none⟩ = false := hx.free 1; have A2 : Hid (UT w (x1.setCell ⟨w.heap.size + 1, 1, none⟩ (.int .i64 c)) g a len cap xs E2 P2 #[.int .i64 q, .int .i64 c, .int .i64 0, .int .i64 0, .string { data := #[] }, .string { data := #[] }, .int .i64 0]) := hx.set 1 _; clear hx)
            | ((fail_if_success (have z := A3)); have z := A2; clear z; go_at_call 71; go_must (refine (Calls.mono (HI3.out _ _ A2.out) ?_)); rintro r x2 ⟨rfl, hx⟩; have c2 : x2.cell? ⟨w.heap.size + 1, 2, none⟩ = some (.int .i64 0) := hx.cell 2; have f2 : x2.frozen? ⟨w.heap.size + 1, 2, none⟩ = false := hx.free 2; have A3 : Hid (UT w (x2.setCell ⟨w.heap.size + 1, 2, none⟩ (.int .i64 n)) g a len cap xs E3 P3 #[.int .i64 q, .int .i64 c, .int .i64 n, .int .i64 0, .string { data := #[] }, .string { data := #[] }, .int .i64 0]) := hx.set 2 _; clear hx)
            | ((fail_if_success (have z := A4)); have z := A3; clear z; go_at_call 71; go_must (refine (Calls.mono (HI4.out _ _ A3.out) ?_)); rintro r x3 ⟨rfl, hx⟩; have c3 : x3.cell? ⟨w.heap.size + 1, 3, none⟩ = some (.int .i64 0) := hx.cell 3; have f3 : x3.frozen? ⟨w.heap.size + 1, 3, none⟩ = false := hx.free 3; have A4 : Hid (UT w (x3.setCell ⟨w.heap.size + 1, 3, none⟩ (.int .i64 3)) g a len cap xs 0 P4 #[.int .i64 q, .int .i64 c, .int .i64 n, .int .i64 3, .string { data := #[] }, .string { data := #[] }, .int .i64 0]) := hx.set 3 _; clear hx)
            | (go_at_call 85; go_must (refine (Calls.mono A4.out.err ?_)); rintro r wx ⟨rfl, hx⟩; obtain rfl := hx.symm)
            | ((fail_if_success (have z := A5)); have z := A4; clear z; go_at_call 84; go_must (refine (Calls.mono (dmust_so _) ?_)); rintro r wx ⟨rfl, hx⟩; obtain rfl := hx.symm)
            | ((fail_if_success (have z := A5)); have z := A4; clear z; go_at_call 40; go_must (refine (Calls.mono (HT5.out _ _ A4.out) ?_)); rintro r x4 ⟨rfl, hx⟩; have c4 : x4.cell? ⟨w.heap.size + 1, 4, none⟩ = some (.string { data := #[] }) := hx.cell 4; have f4 : x4.frozen? ⟨w.heap.size + 1, 4, none⟩ = false := hx.free 4; have A5 : Hid (UT w (x4.setCell ⟨w.heap.size + 1, 4, none⟩ (.string key)) g a len cap xs E5 P5 #[.int .i64 q, .int .i64 c, .int .i64 n, .int .i64 3, .string key, .string { data := #[] }, .int .i64 0]) := hx.set 4 _; have k5 : (x4.setCell ⟨w.heap.size + 1, 4, none⟩ (.string key)).cell? ⟨w.heap.size + 1, 3, none⟩ = some (.int .i64 3) := A5.out.cell 3; clear hx)
            | ((fail_if_success (have z := A6)); have z := A5; clear z; go_at_call 40; go_must (refine (Calls.mono (HT6.out _ _ A5.out) ?_)); rintro r x5 ⟨rfl, hx⟩; have c5 : x5.cell? ⟨w.heap.size + 1, 5, none⟩ = some (.string { data := #[] }) := hx.cell 5; have f5 : x5.frozen? ⟨w.heap.size + 1, 5, none⟩ = false := hx.free 5; have A6 : Hid (UT w (x5.setCell ⟨w.heap.size + 1, 5, none⟩ (.string val)) g a len cap xs E6 P6 #[.int .i64 q, .int .i64 c, .int .i64 n, .int .i64 3, .string key, .string val, .int .i64 0]) := hx.set 5 _; have k6 : (x5.setCell ⟨w.heap.size + 1, 5, none⟩ (.string val)).cell? ⟨w.heap.size + 1, 3, none⟩ = some (.int .i64 3) := A6.out.cell 3; clear hx)
            | ((fail_if_success (have z := A7)); have z := A6; clear z; go_at_call 71; go_must (refine (Calls.mono (HI7.out _ _ A6.out) ?_)); rintro r x6 ⟨rfl, hx⟩; have c6 : x6.cell? ⟨w.heap.size + 1, 6, none⟩ = some (.int .i64 0) := hx.cell 6; have f6 : x6.frozen? ⟨w.heap.size + 1, 6, none⟩ = false := hx.free 6; have A7 : Hid (UT w (x6.setCell ⟨w.heap.size + 1, 6, none⟩ (.int .i64 ver)) g a len cap xs E7 P7 #[.int .i64 q, .int .i64 c, .int .i64 n, .int .i64 3, .string key, .string val, .int .i64 ver]) := hx.set 6 _; clear hx)
            | ((fail_if_success (have z := Z1)); have z := A7; clear z; go_at_call 80; go_must (refine (Calls.mono A7.out.fin ?_)); rintro r x7 ⟨rfl, hx⟩; rw [← HFR.out]; have Z1 : Hid (UT w x7 g a len cap xs E7 P7 #[.int .i64 q, .int .i64 c, .int .i64 n, .int .i64 3, .string key, .string val, .int .i64 ver]) := hx; clear hx)
            | (have z := Z1; clear z; go_at_call 84; go_must (refine (Calls.mono (dmust_no F hb _) ?_)); rintro r wx ⟨rfl, hx⟩; obtain rfl := hx.symm))
          exact ⟨rfl, .inr ⟨by rw [HDK.out, hb]; rfl, F, rfl⟩, Z1.out.gb⟩
      · have hb2 : (k != 2) = true := by simp [hk2]
        have hb3 : (k == 3) = false := by simp [hk3]
        have HK2 : Hid (¬ k = 2) := hk2
        have HK3 : Hid (¬ k = 3) := hk3
        clear hk2
        subst h4
        obtain ⟨val, hval⟩ : ∃ s, s = strOfNums (d6 xs).1 := ⟨_, rfl⟩
        obtain ⟨E6, hE6⟩ : ∃ e, e = (d6 xs).2.2 := ⟨_, rfl⟩
        obtain ⟨P6, hP6⟩ : ∃ e, e = (d6 xs).2.1 := ⟨_, rfl⟩
        have H6 : d6 xs = rT xs (d5 xs).2.1 (d5 xs).2.2 65536 := by unfold d6; rw [if_neg (by rw [← HEQ.out.2.2.2.1]; exact HK2.out)]
        have HT6 : Hid (∀ W cs, UT w W g a len cap xs E5 P5 cs → Calls Try.prog 40 #[.pointer (some ⟨g, 0, none⟩), .int .i64 65536] W fun r w' => r = .returned (.string val) ∧ UT w w' g a len cap xs E6 P6 cs) := fun W cs h => by rw [hval, hE6, hP6, H6]; rw [HEQ.out.2.2.2.2.2.2.1, HEQ.out.2.2.2.2.2.2.2] at h; exact h.text _ (by omega)
        have H7 : d7 xs = (0, (d6 xs).2.1, (d6 xs).2.2) := by unfold d7; rw [if_neg (by rw [← HEQ.out.2.2.2.1]; exact HK3.out)]
        obtain ⟨F, hF⟩ : ∃ F, F = rend len E6 P6 := ⟨_, rfl⟩
        have HF : Hid (dfin xs = F) := by show _ = _; unfold dfin; rw [H7, hF, HLN.out, hE6, hP6]
        have HU : Hid (dupd xs = ⟨q, c, n, k, key, val, 0⟩) := by show _ = _; unfold dupd; rw [H7, ← hval, ← HEQ.out.1, ← HEQ.out.2.1, ← HEQ.out.2.2.1, ← HEQ.out.2.2.2.1, ← HEQ.out.2.2.2.2.1]
        have HFR : Hid (F = rend len E6 P6) := hF
        obtain ⟨G, hG⟩ : ∃ G, G = updE q c n k key val 0 := ⟨_, rfl⟩
        have HK2' : Hid (∀ W, Calls Try.prog 46 #[.agg #[.int .i64 q, .int .i64 c, .int .i64 n, .int .i64 k, .string key, .string val, .int .i64 0]] W fun r w' => r = .returned (.int .i64 G) ∧ W.grownBy w' none) := fun W => by rw [hG]; exact HK.out _ _ W
        have HDK : Hid (dok xs = ((F == 0) && (G == 0))) := by show _ = _; unfold dok Upd.err; rw [HU.out, HF.out, ← HEQ.out.2.2.2.2.2.1, hG]; rfl
        clear hval hE6 hP6 H6 H7 hk3 hF hG HF HK
        by_cases hf : F = 0
        · subst hf
          by_cases hg : G = 0
          · subst hg
            go_enter Try.func58, Try.ntmps58
            go_wp2_with (first
              | ((fail_if_success (have z := A1)); have z := A0; clear z; go_at_call 71; go_must (refine (Calls.mono (HI1.out _ _ A0.out) ?_)); rintro r x0 ⟨rfl, hx⟩; have c0 : x0.cell? ⟨w.heap.size + 1, 0, none⟩ = some (.int .i64 0) := hx.cell 0; have f0 : x0.frozen? ⟨w.heap.size + 1, 0, none⟩ = false := hx.free 0; have A1 : Hid (UT w (x0.setCell ⟨w.heap.size + 1, 0, none⟩ (.int .i64 q)) g a len cap xs E1 P1 #[.int .i64 q, .int .i64 0, .int .i64 0, .int .i64 0, .string { data := #[] }, .string { data := #[] }, .int .i64 0]) := hx.set 0 _; clear hx)
              | ((fail_if_success (have z := A2)); have z := A1; clear z; go_at_call 71; go_must (refine (Calls.mono (HI2.out _ _ A1.out) ?_)); rintro r x1 ⟨rfl, hx⟩; have c1 : x1.cell? ⟨w.heap.size + 1, 1, none⟩ = some (.int .i64 0) := hx.cell 1; have f1 : x1.frozen? ⟨w.heap.size + 1, 1, none⟩ = false := hx.free 1; have A2 : Hid (UT w (x1.setCell ⟨w.heap.size + 1, 1, none⟩ (.int .i64 c)) g a len cap xs E2 P2 #[.int .i64 q, .int .i64 c, .int .i64 0, .int .i64 0, .string { data := #[] }, .string { data := #[] }, .int .i64 0]) := hx.set 1 _; clear hx)
              | ((fail_if_success (have z := A3)); have z := A2; clear z; go_at_call 71; go_must (refine (Calls.mono (HI3.out _ _ A2.out) ?_)); rintro r x2 ⟨rfl, hx⟩; have c2 : x2.cell? ⟨w.heap.size + 1, 2, none⟩ = some (.int .i64 0) := hx.cell 2; have f2 : x2.frozen? ⟨w.heap.size + 1, 2, none⟩ = false := hx.free 2; have A3 : Hid (UT w (x2.setCell ⟨w.heap.size + 1, 2, none⟩ (.int .i64 n)) g a len cap xs E3 P3 #[.int .i64 q, .int .i64 c, .int .i64 n, .int .i64 0, .string { data := #[] }, .string { data := #[] }, .int .i64 0]) := hx.set 2 _; clear hx)
              | ((fail_if_success (have z := A4)); have z := A3; clear z; go_at_call 71; go_must (refine (Calls.mono (HI4.out _ _ A3.out) ?_)); rintro r x3 ⟨rfl, hx⟩; have c3 : x3.cell? ⟨w.heap.size + 1, 3, none⟩ = some (.int .i64 0) := hx.cell 3; have f3 : x3.frozen? ⟨w.heap.size + 1, 3, none⟩ = false := hx.free 3; have A4 : Hid (UT w (x3.setCell ⟨w.heap.size + 1, 3, none⟩ (.int .i64 k)) g a len cap xs 0 P4 #[.int .i64 q, .int .i64 c, .int .i64 n, .int .i64 k, .string { data := #[] }, .string { data := #[] }, .int .i64 0]) := hx.set 3 _; clear hx)
              | (go_at_call 85; go_must (refine (Calls.mono A4.out.err ?_)); rintro r wx ⟨rfl, hx⟩; obtain rfl := hx.symm)
              | ((fail_if_success (have z := A5)); have z := A4; clear z; go_at_call 84; go_must (refine (Calls.mono (dmust_so _) ?_)); rintro r wx ⟨rfl, hx⟩; obtain rfl := hx.symm)
              | ((fail_if_success (have z := A5)); have z := A4; clear z; go_at_call 40; go_must (refine (Calls.mono (HT5.out _ _ A4.out) ?_)); rintro r x4 ⟨rfl, hx⟩; have c4 : x4.cell? ⟨w.heap.size + 1, 4, none⟩ = some (.string { data := #[] }) := hx.cell 4; have f4 : x4.frozen? ⟨w.heap.size + 1, 4, none⟩ = false := hx.free 4; have A5 : Hid (UT w (x4.setCell ⟨w.heap.size + 1, 4, none⟩ (.string key)) g a len cap xs E5 P5 #[.int .i64 q, .int .i64 c, .int .i64 n, .int .i64 k, .string key, .string { data := #[] }, .int .i64 0]) := hx.set 4 _; have k5 : (x4.setCell ⟨w.heap.size + 1, 4, none⟩ (.string key)).cell? ⟨w.heap.size + 1, 3, none⟩ = some (.int .i64 k) := A5.out.cell 3; clear hx)
              | ((fail_if_success (have z := A6)); have z := A5; clear z; go_at_call 40; go_must (refine (Calls.mono (HT6.out _ _ A5.out) ?_)); rintro r x5 ⟨rfl, hx⟩; have c5 : x5.cell? ⟨w.heap.size + 1, 5, none⟩ = some (.string { data := #[] }) := hx.cell 5; have f5 : x5.frozen? ⟨w.heap.size + 1, 5, none⟩ = false := hx.free 5; have A6 : Hid (UT w (x5.setCell ⟨w.heap.size + 1, 5, none⟩ (.string val)) g a len cap xs E6 P6 #[.int .i64 q, .int .i64 c, .int .i64 n, .int .i64 k, .string key, .string val, .int .i64 0]) := hx.set 5 _; have k6 : (x5.setCell ⟨w.heap.size + 1, 5, none⟩ (.string val)).cell? ⟨w.heap.size + 1, 3, none⟩ = some (.int .i64 k) := A6.out.cell 3; clear hx)
              | ((fail_if_success (have z := Z1)); have z := A6; clear z; go_at_call 80; go_must (refine (Calls.mono A6.out.fin ?_)); rintro r x7 ⟨rfl, hx⟩; rw [← HFR.out]; have Z1 : Hid (UT w x7 g a len cap xs E6 P6 #[.int .i64 q, .int .i64 c, .int .i64 n, .int .i64 k, .string key, .string val, .int .i64 0]) := hx; clear hx)
              | ((fail_if_success (have z := Z2)); have z := Z1; clear z; go_at_call 84; go_must (refine (Calls.mono (dmust_so _) ?_)); rintro r wx ⟨rfl, hx⟩; obtain rfl := hx.symm)
              | ((fail_if_success (have z := Z2)); refine wpList_load_bk 27 rfl (.tmp 3) rfl Try.underlying27 rfl infoUpd (w.heap.size + 1) _ rfl Z1.out.bk rfl ?_)
              | (have z := Z1; clear z; go_at_call 46; go_must (refine (Calls.mono (HK2'.out _) ?_)); rintro r x8 ⟨rfl, hx⟩; have Z2 : Hid (UT w x8 g a len cap xs E6 P6 #[.int .i64 q, .int .i64 c, .int .i64 n, .int .i64 k, .string key, .string val, .int .i64 0]) := Z1.out.new hx; clear hx)
              | (have z := Z2; clear z; go_at_call 84; go_must (refine (Calls.mono (dmust_so _) ?_)); rintro r wx ⟨rfl, hx⟩; obtain rfl := hx.symm)
              | (have z := Z2; clear z; refine wpList_load_bk 27 rfl (.tmp 3) rfl Try.underlying27 rfl infoUpd (w.heap.size + 1) _ rfl Z2.out.bk rfl ?_)
              | (refine wpList_store_bk 27 rfl (.tmp 2) (.tmp 46) rfl infoUpd w.heap.size _ #[.int .i64 q, .int .i64 c, .int .i64 n, .int .i64 k, .string key, .string val, .int .i64 0] rfl rfl Z2.out.b0 rfl rfl (upd_one _ _ _ _ _ _ _) ?_; intro w9 h1 h2; have Z3 : Hid (Bk 27 w9 w.heap.size #[.int .i64 q, .int .i64 c, .int .i64 n, .int .i64 k, .string key, .string val, .int .i64 0] ∧ w.grownBy w9 (some g)) := ⟨h1, gb_far Z2.out.gb h2 (Nat.le_refl _)⟩; clear h1 h2))
            refine bodyPost_ret (results_cell1 Try.results58 _ _ _ ⟨w.heap.size, 0, none⟩ _ rfl (bk_load Try.underlying27 rfl infoUpd Z3.out.1 rfl)) rfl ?_
            exact ⟨.inl ⟨by rw [HDK.out]; rfl, by rw [HU.out]; rfl⟩, Z3.out.2⟩
          · have hb : (G == 0) = false := by simpa using hg
            clear hg
            go_enter Try.func58, Try.ntmps58
            go_wp2_with (first
              | ((fail_if_success (have z := A1)); have z := A0; clear z; go_at_call 71; go_must (refine (Calls.mono (HI1.out _ _ A0.out) ?_)); rintro r x0 ⟨rfl, hx⟩; have c0 : x0.cell? ⟨w.heap.size + 1, 0, none⟩ = some (.int .i64 0) := hx.cell 0; have f0 : x0.frozen? ⟨w.heap.size + 1, 0, none⟩ = false := hx.free 0; have A1 : Hid (UT w (x0.setCell ⟨w.heap.size + 1, 0, none⟩ (.int .i64 q)) g a len cap xs E1 P1 #[.int .i64 q, .int .i64 0, .int .i64 0, .int .i64 0, .string { data := #[] }, .string { data := #[] }, .int .i64 0]) := hx.set 0 _; clear hx)
              | ((fail_if_success (have z := A2)); have z := A1; clear z; go_at_call 71; go_must (refine (Calls.mono (HI2.out _ _ A1.out) ?_)); rintro r x1 ⟨rfl, hx⟩; have c1 : x1.cell? ⟨w.heap.size + 1, 1, none⟩ = some (.int .i64 0) := hx.cell 1; have f1 : x1.frozen? ⟨w.heap.size + 1, 1, none⟩ = false := hx.free 1; have A2 : Hid (UT w (x1.setCell ⟨w.heap.size + 1, 1, none⟩ (.int .i64 c)) g a len cap xs E2 P2 #[.int .i64 q, .int .i64 c, .int .i64 0, .int .i64 0, .string { data := #[] }, .string { data := #[] }, .int .i64 0]) := hx.set 1 _; clear hx)
              | ((fail_if_success (have z := A3)); have z := A2; clear z; go_at_call 71; go_must (refine (Calls.mono (HI3.out _ _ A2.out) ?_)); rintro r x2 ⟨rfl, hx⟩; have c2 : x2.cell? ⟨w.heap.size + 1, 2, none⟩ = some (.int .i64 0) := hx.cell 2; have f2 : x2.frozen? ⟨w.heap.size + 1, 2, none⟩ = false := hx.free 2; have A3 : Hid (UT w (x2.setCell ⟨w.heap.size + 1, 2, none⟩ (.int .i64 n)) g a len cap xs E3 P3 #[.int .i64 q, .int .i64 c, .int .i64 n, .int .i64 0, .string { data := #[] }, .string { data := #[] }, .int .i64 0]) := hx.set 2 _; clear hx)
              | ((fail_if_success (have z := A4)); have z := A3; clear z; go_at_call 71; go_must (refine (Calls.mono (HI4.out _ _ A3.out) ?_)); rintro r x3 ⟨rfl, hx⟩; have c3 : x3.cell? ⟨w.heap.size + 1, 3, none⟩ = some (.int .i64 0) := hx.cell 3; have f3 : x3.frozen? ⟨w.heap.size + 1, 3, none⟩ = false := hx.free 3; have A4 : Hid (UT w (x3.setCell ⟨w.heap.size + 1, 3, none⟩ (.int .i64 k)) g a len cap xs 0 P4 #[.int .i64 q, .int .i64 c, .int .i64 n, .int .i64 k, .string { data := #[] }, .string { data := #[] }, .int .i64 0]) := hx.set 3 _; clear hx)
              | (go_at_call 85; go_must (refine (Calls.mono A4.out.err ?_)); rintro r wx ⟨rfl, hx⟩; obtain rfl := hx.symm)
              | ((fail_if_success (have z := A5)); have z := A4; clear z; go_at_call 84; go_must (refine (Calls.mono (dmust_so _) ?_)); rintro r wx ⟨rfl, hx⟩; obtain rfl := hx.symm)
              | ((fail_if_success (have z := A5)); have z := A4; clear z; go_at_call 40; go_must (refine (Calls.mono (HT5.out _ _ A4.out) ?_)); rintro r x4 ⟨rfl, hx⟩; have c4 : x4.cell? ⟨w.heap.size + 1, 4, none⟩ = some (.string { data := #[] }) := hx.cell 4; have f4 : x4.frozen? ⟨w.heap.size + 1, 4, none⟩ = false := hx.free 4; have A5 : Hid (UT w (x4.setCell ⟨w.heap.size + 1, 4, none⟩ (.string key)) g a len cap xs E5 P5 #[.int .i64 q, .int .i64 c, .int .i64 n, .int .i64 k, .string key, .string { data := #[] }, .int .i64 0]) := hx.set 4 _; have k5 : (x4.setCell ⟨w.heap.size + 1, 4, none⟩ (.string key)).cell? ⟨w.heap.size + 1, 3, none⟩ = some (.int .i64 k) := A5.out.cell 3; clear hx)
              | ((fail_if_success (have z := A6)); have z := A5; clear z; go_at_call 40; go_must (refine (Calls.mono (HT6.out _ _ A5.out) ?_)); rintro r x5 ⟨rfl, hx⟩; have c5 : x5.cell? ⟨w.heap.size + 1, 5, none⟩ = some (.string { data := #[] }) := hx.cell 5; have f5 : x5.frozen? ⟨w.heap.size + 1, 5, none⟩ = false := hx.free 5; have A6 : Hid (UT w (x5.setCell ⟨w.heap.size + 1, 5, none⟩ (.string val)) g a len cap xs E6 P6 #[.int .i64 q, .int .i64 c, .int .i64 n, .int .i64 k, .string key, .string val, .int .i64 0]) := hx.set 5 _; have k6 : (x5.setCell ⟨w.heap.size + 1, 5, none⟩ (.string val)).cell? ⟨w.heap.size + 1, 3, none⟩ = some (.int .i64 k) := A6.out.cell 3; clear hx)
              | ((fail_if_success (have z := Z1)); have z := A6; clear z; go_at_call 80; go_must (refine (Calls.mono A6.out.fin ?_)); rintro r x7 ⟨rfl, hx⟩; rw [← HFR.out]; have Z1 : Hid (UT w x7 g a len cap xs E6 P6 #[.int .i64 q, .int .i64 c, .int .i64 n, .int .i64 k, .string key, .string val, .int .i64 0]) := hx; clear hx)
              | ((fail_if_success (have z := Z2)); have z := Z1; clear z; go_at_call 84; go_must (refine (Calls.mono (dmust_so _) ?_)); rintro r wx ⟨rfl, hx⟩; obtain rfl := hx.symm)
              | ((fail_if_success (have z := Z2)); refine wpList_load_bk 27 rfl (.tmp 3) rfl Try.underlying27 rfl infoUpd (w.heap.size + 1) _ rfl Z1.out.bk rfl ?_)
              | (have z := Z1; clear z; go_at_call 46; go_must (refine (Calls.mono (HK2'.out _) ?_)); rintro r x8 ⟨rfl, hx⟩; have Z2 : Hid (UT w x8 g a len cap xs E6 P6 #[.int .i64 q, .int .i64 c, .int .i64 n, .int .i64 k, .string key, .string val, .int .i64 0]) := Z1.out.new hx; clear hx)
              | (have z := Z2; clear z; go_at_call 84; go_must (refine (Calls.mono (dmust_no G hb _) ?_)); rintro r wx ⟨rfl, hx⟩; obtain rfl := hx.symm))
            exact ⟨rfl, .inr ⟨by rw [HDK.out, hb]; rfl, G, rfl⟩, Z2.out.gb⟩
        · have hb : (F == 0) = false := by simpa using hf
          clear hf
          go_enter Try.func58, Try.ntmps58
          go_wp2_with (first
            | ((fail_if_success (have z := A1)); have z := A0; clear z; go_at_call 71; go_must (refine (Calls.mono (HI1.out _ _ A0.out) ?_)); rintro r x0 ⟨rfl, hx⟩; have c0 : x0.cell? ⟨w.heap.size + 1, 0, none⟩ = some (.int .i64 0) := hx.cell 0; have f0 : x0.frozen? ⟨w.heap.size + 1, 0, none⟩ = false := hx.free 0; have A1 : Hid (UT w (x0.setCell ⟨w.heap.size + 1, 0, none⟩ (.int .i64 q)) g a len cap xs E1 P1 #[.int .i64 q, .int .i64 0, .int .i64 0, .int .i64 0, .string { data := #[] }, .string { data := #[] }, .int .i64 0]) := hx.set 0 _; clear hx)
            | ((fail_if_success (have z := A2)); have z := A1; clear z; go_at_call 71; go_must (refine (Calls.mono (HI2.out _ _ A1.out) ?_)); rintro r x1 ⟨rfl, hx⟩; have c1 : x1.cell? ⟨w.heap.size + 1, 1, none⟩ = some (.int .i64 0) := hx.cell 1; have f1 : x1.frozen? ⟨w.heap.size + 1, 1, none⟩ = false := hx.free 1; have A2 : Hid (UT w (x1.setCell ⟨w.heap.size + 1, 1, none⟩ (.int .i64 c)) g a len cap xs E2 P2 #[.int .i64 q, .int .i64 c, .int .i64 0, .int .i64 0, .string { data := #[] }, .string { data := #[] }, .int .i64 0]) := hx.set 1 _; clear hx)
            | ((fail_if_success (have z := A3)); have z := A2; clear z; go_at_call 71; go_must (refine (Calls.mono (HI3.out _ _ A2.out) ?_)); rintro r x2 ⟨rfl, hx⟩; have c2 : x2.cell? ⟨w.heap.size + 1, 2, none⟩ = some (.int .i64 0) := hx.cell 2; have f2 : x2.frozen? ⟨w.heap.size + 1, 2, none⟩ = false := hx.free 2; have A3 : Hid (UT w (x2.setCell ⟨w.heap.size + 1, 2, none⟩ (.int .i64 n)) g a len cap xs E3 P3 #[.int .i64 q, .int .i64 c, .int .i64 n, .int .i64 0, .string { data := #[] }, .string { data := #[] }, .int .i64 0]) := hx.set 2 _; clear hx)
            | ((fail_if_success (have z := A4)); have z := A3; clear z; go_at_call 71; go_must (refine (Calls.mono (HI4.out _ _ A3.out) ?_)); rintro r x3 ⟨rfl, hx⟩; have c3 : x3.cell? ⟨w.heap.size + 1, 3, none⟩ = some (.int .i64 0) := hx.cell 3; have f3 : x3.frozen? ⟨w.heap.size + 1, 3, none⟩ = false := hx.free 3; have A4 : Hid (UT w (x3.setCell ⟨w.heap.size + 1, 3, none⟩ (.int .i64 k)) g a len cap xs 0 P4 #[.int .i64 q, .int .i64 c, .int .i64 n, .int .i64 k, .string { data := #[] }, .string { data := #[] }, .int .i64 0]) := hx.set 3 _; clear hx)
            | (go_at_call 85; go_must (refine (Calls.mono A4.out.err ?_)); rintro r wx ⟨rfl, hx⟩; obtain rfl := hx.symm)
            | ((fail_if_success (have z := A5)); have z := A4; clear z; go_at_call 84; go_must (refine (Calls.mono (dmust_so _) ?_)); rintro r wx ⟨rfl, hx⟩; obtain rfl := hx.symm)
            | ((fail_if_success (have z := A5)); have z := A4; clear z; go_at_call 40; go_must (refine (Calls.mono (HT5.out _ _ A4.out) ?_)); rintro r x4 ⟨rfl, hx⟩; have c4 : x4.cell? ⟨w.heap.size + 1, 4, none⟩ = some (.string { data := #[] }) := hx.cell 4; have f4 : x4.frozen? ⟨w.heap.size + 1, 4, none⟩ = false := hx.free 4; have A5 : Hid (UT w (x4.setCell ⟨w.heap.size + 1, 4, none⟩ (.string key)) g a len cap xs E5 P5 #[.int .i64 q, .int .i64 c, .int .i64 n, .int .i64 k, .string key, .string { data := #[] }, .int .i64 0]) := hx.set 4 _; have k5 : (x4.setCell ⟨w.heap.size + 1, 4, none⟩ (.string key)).cell? ⟨w.heap.size + 1, 3, none⟩ = some (.int .i64 k) := A5.out.cell 3; clear hx)
            | ((fail_if_success (have z := A6)); have z := A5; clear z; go_at_call 40; go_must (refine (Calls.mono (HT6.out _ _ A5.out) ?_)); rintro r x5 ⟨rfl, hx⟩; have c5 : x5.cell? ⟨w.heap.size + 1, 5, none⟩ = some (.string { data := #[] }) := hx.cell 5; have f5 : x5.frozen? ⟨w.heap.size + 1, 5, none⟩ = false := hx.free 5; have A6 : Hid (UT w (x5.setCell ⟨w.heap.size + 1, 5, none⟩ (.string val)) g a len cap xs E6 P6 #[.int .i64 q, .int .i64 c, .int .i64 n, .int .i64 k, .string key, .string val, .int .i64 0]) := hx.set 5 _; have k6 : (x5.setCell ⟨w.heap.size + 1, 5, none⟩ (.string val)).cell? ⟨w.heap.size + 1, 3, none⟩ = some (.int .i64 k) := A6.out.cell 3; clear hx)
            | ((fail_if_success (have z := Z1)); have z := A6; clear z; go_at_call 80; go_must (refine (Calls.mono A6.out.fin ?_)); rintro r x7 ⟨rfl, hx⟩; rw [← HFR.out]; have Z1 : Hid (UT w x7 g a len cap xs E6 P6 #[.int .i64 q, .int .i64 c, .int .i64 n, .int .i64 k, .string key, .string val, .int .i64 0]) := hx; clear hx)
            | (have z := Z1; clear z; go_at_call 84; go_must (refine (Calls.mono (dmust_no F hb _) ?_)); rintro r wx ⟨rfl, hx⟩; obtain rfl := hx.symm))
          exact ⟨rfl, .inr ⟨by rw [HDK.out, hb]; rfl, F, rfl⟩, Z1.out.gb⟩
  · have hb4 : (E4 == 0) = false := by simpa using h4
    have HD : Hid (dok xs = false) := by
      show _ = _
      unfold dok
      rw [← HEQ.out.2.2.2.2.2.1, hb4]
      rfl
    clear h4
    go_enter Try.func58, Try.ntmps58
    go_wp2_with (first
      | ((fail_if_success (have z := A1)); have z := A0; clear z; go_at_call 71; go_must (refine (Calls.mono (HI1.out _ _ A0.out) ?_)); rintro r x0 ⟨rfl, hx⟩; have c0 : x0.cell? ⟨w.heap.size + 1, 0, none⟩ = some (.int .i64 0) := hx.cell 0; have f0 : x0.frozen? ⟨w.heap.size + 1, 0, none⟩ = false := hx.free 0; have A1 : Hid (UT w (x0.setCell ⟨w.heap.size + 1, 0, none⟩ (.int .i64 q)) g a len cap xs E1 P1 #[.int .i64 q, .int .i64 0, .int .i64 0, .int .i64 0, .string { data := #[] }, .string { data := #[] }, .int .i64 0]) := hx.set 0 _; clear hx)
      | ((fail_if_success (have z := A2)); have z := A1; clear z; go_at_call 71; go_must (refine (Calls.mono (HI2.out _ _ A1.out) ?_)); rintro r x1 ⟨rfl, hx⟩; have c1 : x1.cell? ⟨w.heap.size + 1, 1, none⟩ = some (.int .i64 0) := hx.cell 1; have f1 : x1.frozen? ⟨w.heap.size + 1, 1, none⟩ = false := hx.free 1; have A2 : Hid (UT w (x1.setCell ⟨w.heap.size + 1, 1, none⟩ (.int .i64 c)) g a len cap xs E2 P2 #[.int .i64 q, .int .i64 c, .int .i64 0, .int .i64 0, .string { data := #[] }, .string { data := #[] }, .int .i64 0]) := hx.set 1 _; clear hx)
      | ((fail_if_success (have z := A3)); have z := A2; clear z; go_at_call 71; go_must (refine (Calls.mono (HI3.out _ _ A2.out) ?_)); rintro r x2 ⟨rfl, hx⟩; have c2 : x2.cell? ⟨w.heap.size + 1, 2, none⟩ = some (.int .i64 0) := hx.cell 2; have f2 : x2.frozen? ⟨w.heap.size + 1, 2, none⟩ = false := hx.free 2; have A3 : Hid (UT w (x2.setCell ⟨w.heap.size + 1, 2, none⟩ (.int .i64 n)) g a len cap xs E3 P3 #[.int .i64 q, .int .i64 c, .int .i64 n, .int .i64 0, .string { data := #[] }, .string { data := #[] }, .int .i64 0]) := hx.set 2 _; clear hx)
      | ((fail_if_success (have z := A4)); have z := A3; clear z; go_at_call 71; go_must (refine (Calls.mono (HI4.out _ _ A3.out) ?_)); rintro r x3 ⟨rfl, hx⟩; have c3 : x3.cell? ⟨w.heap.size + 1, 3, none⟩ = some (.int .i64 0) := hx.cell 3; have f3 : x3.frozen? ⟨w.heap.size + 1, 3, none⟩ = false := hx.free 3; have A4 : Hid (UT w (x3.setCell ⟨w.heap.size + 1, 3, none⟩ (.int .i64 k)) g a len cap xs E4 P4 #[.int .i64 q, .int .i64 c, .int .i64 n, .int .i64 k, .string { data := #[] }, .string { data := #[] }, .int .i64 0]) := hx.set 3 _; clear hx)
      | (go_at_call 85; go_must (refine (Calls.mono A4.out.err ?_)); rintro r wx ⟨rfl, hx⟩; obtain rfl := hx.symm)
      | (go_at_call 84; go_must (refine (Calls.mono (dmust_no E4 hb4 _) ?_)); rintro r wx ⟨rfl, hx⟩; obtain rfl := hx.symm))
    exact ⟨rfl, .inr ⟨HD.out, E4, rfl⟩, A4.out.gb⟩
end Go.Proofs.Ytfbbaodhlniiiaa.Dl
