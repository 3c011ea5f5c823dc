/-
  What a pack Reader's take and Text answer: what the plain functions give. Condition: the Reader's bytes can be read, and their length is one that a machine has.
  Memory that has grown, and changed in a block that is new. No condition of its own.
  What the Writer's Bytes answers. Condition: what was laid down takes at most 2^47 bytes.
  What block.joined's walk wants: a slice cut from behind, a make as one step, and how far the blocks of a chain are laid down, from behind. No condition of its own.
  A law for a region that draws the order of its operations, where memory only grows: what each operation yields is said by a condition that lasts, and each operation is shown once, from what those say that it waits for. It speaks of every program. No condition of its own.
  The law of RPh for a region whose last operation waits for all others, and may write anything. It speaks of every program. No condition of its own.
  Steps for regions that draw their order (RPh): what an operation reads of the frame. It speaks of every program. No condition of its own.
  What image's block.joined answers: all bytes of a chain and those behind them. Condition: together at most 2^46 bytes.
  image's Opener as cells; what isMade, shut and must answer of one that was made. No condition.
  What the Opener's End and takeNothing answer of one that was made. No condition.
  What the Opener's End answers of one that was made. No condition.
  What a pack Reader's Text answers: what the plain function rt gives. Condition: the Reader's bytes can be read, and their length is one that a machine has.
  What the document's Read answers, called with whatever bytes: what the plain function rd gives. Condition: the slice can be read, and its length is one that a machine has.
  What the document's number, upto and text answer of whatever bytes, from whatever place on: what the plain functions ru, ri, rt give. Condition: the slice can be read, and its length is one that a machine has.
  What a pack Reader's Flag and Count answer: what the plain functions rf and rc give. Condition: the Reader's bytes can be read, and their length is one that a machine has.
  The document's Reader in memory, as plain data, and what its Fail, done, Uint, Int, Text, Flag, Count and End answer: what the plain functions give. Condition: its bytes can be read, and their length is one that a machine has.
  What the document's Lend and Kept answer: Lend gives a row of the bytes and nine marks, Kept says whether such a row still stands. Condition: the slices can be read, and their lengths are ones that a machine has.
  What an image's beginning tells, as plain data, and what image's marked and head answer. Condition: at most 2^47 bytes.
  What image's head, Peek and Room answer: what the plain functions pk and rm give. Condition: at most 2^47 bytes.
  What the Opener's there answers of a Reader: whether it had all bytes that it needed, or a panic. No condition.
  A Writer of one's own: what its calls come to. Condition: what is laid down takes at most 2^47 bytes.
  What the Writer's Size answers. No condition of its own.
  What the Writer's Digest answers. Condition: what is laid down takes at most 2^47 bytes.
-/
import Derived.Test.YtcdgfghcmeadgaaDoorFa
import Derived.BigQuiet
import Derived.Deep.QuietTactic
import Derived.RegionTactic
import Derived.Deep.Light
import Derived.Laws.CopyOwn
namespace Go.Proofs.YtcdgfghcmeadgaaDoor
open Go.RowKit
set_option linter.unusedVariables false

theorem left_r (g : Nat) (a : Option Addr) (len cap : Nat) (xs : List Int) (e : Int) (p : Nat) (w : World) (h : RS w g a len cap xs e p) :
    Calls Tryd.prog 108 #[.pointer (some ⟨g, 0, none⟩)] w fun r w' => r = .returned (.int .i64 ((len - p : Nat) : Int)) ∧ RS w' g a len cap xs e p ∧ w.grownBy w' (some g) :=
  (left_c g e a len cap p w h.rdr h.le h.lm).mono (fun _ _ ⟨h1, n, h2⟩ => ⟨h1, by rw [h2]; exact ⟨h.drewN n, gb_drewN (World.grownBy.refl _ _) n⟩⟩)
theorem must_r (g : Nat) (a : Option Addr) (len cap : Nat) (xs : List Int) (e : Int) (p : Nat) (x : Int) (w : World) (h : RS w g a len cap xs e p) :
    Calls Tryd.prog 72 #[.pointer (some ⟨g, 0, none⟩), .bool true, .int .i64 x] w fun r w' => r = .returned (.bool (e == 0)) ∧ RS w' g a len cap xs e p ∧ w.grownBy w' (some g) :=
  (must_so g e x w h.rdr.c0).mono (fun _ _ ⟨h1, h2⟩ => ⟨h1, by rw [h2]; exact ⟨h, World.grownBy.refl _ _⟩⟩)
theorem must_n (g : Nat) (a : Option Addr) (len cap : Nat) (xs : List Int) (e : Int) (p : Nat) (x : Int) (w : World) (h : RS w g a len cap xs e p) (he : (e == 0) = false) (b : Bool) :
    Calls Tryd.prog 72 #[.pointer (some ⟨g, 0, none⟩), .bool b, .int .i64 x] w fun r w' => r = .returned (.bool false) ∧ RS w' g a len cap xs e p ∧ w.grownBy w' (some g) := by
  cases b with
  | false => exact (must_no g e x w h.rdr.c0 he).mono (fun _ _ ⟨h1, h2⟩ => ⟨h1, by rw [h2]; exact ⟨h, World.grownBy.refl _ _⟩⟩)
  | true => exact (must_so g e x w h.rdr.c0).mono (fun _ _ ⟨h1, h2⟩ => ⟨by rw [h1, he], by rw [h2]; exact ⟨h, World.grownBy.refl _ _⟩⟩)

set_option maxRecDepth 20000 in
theorem take_no (g : Nat) (a : Option Addr) (len cap : Nat) (xs : List Int) (e : Int) (p : Nat) (n : Int) (w : World) (h : RS w g a len cap xs e p) (he : (e == 0) = false) :
    Calls Tryd.prog 119 #[.pointer (some ⟨g, 0, none⟩), .int .i64 n] w fun r w' => r = .returned (.slice none 0 0) ∧ RS w' g a len cap xs e p ∧ w.grownBy w' (some g) := by
  have HR : Hid (RS w.drew g a len cap xs e p) := h.drewN 1
  have HG : Hid (w.grownBy w.drew (some g)) := gb_drewN (World.grownBy.refl _ _) 1
  obtain ⟨L, hL⟩ : ∃ L, L = len - p := ⟨_, rfl⟩
  have HL : Hid (∀ w, RS w g a len cap xs e p → Calls Tryd.prog 108 #[.pointer (some ⟨g, 0, none⟩)] w fun r w' => r = .returned (.int .i64 (L : Int)) ∧ RS w' g a len cap xs e p ∧ w.grownBy w' (some g)) := by rw [hL]; exact fun w h => left_r g a len cap xs e p w h
  have HE : Hid ((e == 0) = false) := he
  clear h hL he
  go_enter Tryd.func119, Tryd.ntmps119
  go_wp2
  go_region_held3 (fun _ => True) (trivial) (first
    | (go_at_call 108; refine (HL.out _ HR.out).mono ?_; rintro r w1 ⟨rfl, h1, h2⟩; have H1 : Hid (RS w1 g a len cap xs e p ∧ w.grownBy w1 (some g)) := ⟨h1, gb_trans HG.out h2⟩; clear h1 h2)
    | (go_at_call 72; refine (must_n g a len cap xs e p _ _ H1.out.1 HE.out _).mono ?_; rintro r w2 ⟨rfl, h1, h2⟩; have H2 : Hid (RS w2 g a len cap xs e p ∧ w.grownBy w2 (some g)) := ⟨h1, gb_trans H1.out.2 h2⟩; clear h1 h2))
  go_wp2
  go_ret
  exact ⟨rfl, H2.out.1, H2.out.2⟩

set_option maxRecDepth 20000 in
theorem take_short (g : Nat) (a : Option Addr) (len cap : Nat) (xs : List Int) (p : Nat) (n : Int) (w : World) (h : RS w g a len cap xs 0 p) (hn : ((len - p : Nat) : Int) < n) :
    Calls Tryd.prog 119 #[.pointer (some ⟨g, 0, none⟩), .int .i64 n] w fun r w' => r = .returned (.slice none 0 0) ∧ RS w' g a len cap xs 30 p ∧ w.grownBy w' (some g) := by
  have HR : Hid (RS w.drew g a len cap xs 0 p) := h.drewN 1
  have HG : Hid (w.grownBy w.drew (some g)) := gb_drewN (World.grownBy.refl _ _) 1
  obtain ⟨L, hL⟩ : ∃ L, L = len - p := ⟨_, rfl⟩
  have HL : Hid (∀ w, RS w g a len cap xs 0 p → Calls Tryd.prog 108 #[.pointer (some ⟨g, 0, none⟩)] w fun r w' => r = .returned (.int .i64 (L : Int)) ∧ RS w' g a len cap xs 0 p ∧ w.grownBy w' (some g)) := by rw [hL]; exact fun w h => left_r g a len cap xs 0 p w h
  rw [← hL] at hn
  have hd : decide (n ≤ (L : Int)) = false := by simp; omega
  clear h hL hn
  go_enter Tryd.func119, Tryd.ntmps119
  go_wp2
  go_region_held3 (fun _ => True) (trivial) (first
    | (go_at_call 108; refine (HL.out _ HR.out).mono ?_; rintro r w1 ⟨rfl, h1, h2⟩; have H1 : Hid (RS w1 g a len cap xs 0 p ∧ w.grownBy w1 (some g)) := ⟨h1, gb_trans HG.out h2⟩; clear h1 h2)
    | (go_at_call 72; refine (rmust_ok g a len cap xs p 30 _ rfl H1.out.1).mono ?_; rintro r w2 ⟨rfl, h1, h2⟩; have H2 : Hid (RS w2 g a len cap xs 30 p ∧ w.grownBy w2 (some g)) := ⟨h1, gb_trans H1.out.2 h2⟩; clear h1 h2))
  go_wp2
  go_ret
  exact ⟨rfl, H2.out.1, H2.out.2⟩

set_option maxRecDepth 20000 in
theorem take_ok (g : Nat) (a : Option Addr) (len cap : Nat) (xs : List Int) (p n : Nat) (w : World) (h : RS w g a len cap xs 0 p) (hn : n ≤ len - p) :
    Calls Tryd.prog 119 #[.pointer (some ⟨g, 0, none⟩), .int .i64 (n : Int)] w fun r w' => ∃ a1 c1, r = .returned (.slice a1 n c1) ∧ Seg .u8 w' a1 n ((xs.drop p).take n) ∧ (∀ b o s, a1 = some ⟨b, o, s⟩ → ∃ ad, a = some ad ∧ ad.block = b) ∧ RS w' g a len cap xs 0 (p + n) ∧ w.grownBy w' (some g) := by
  have HR : Hid (RS w.drew g a len cap xs 0 p) := h.drewN 1
  have HG : Hid (w.grownBy w.drew (some g)) := gb_drewN (World.grownBy.refl _ _) 1
  obtain ⟨L, hL⟩ : ∃ L, L = len - p := ⟨_, rfl⟩
  have HL : Hid (∀ w, RS w g a len cap xs 0 p → Calls Tryd.prog 108 #[.pointer (some ⟨g, 0, none⟩)] w fun r w' => r = .returned (.int .i64 (L : Int)) ∧ RS w' g a len cap xs 0 p ∧ w.grownBy w' (some g)) := by rw [hL]; exact fun w h => left_r g a len cap xs 0 p w h
  rw [← hL] at hn
  have hd : decide (n ≤ L) = true := by simp; omega
  have hle := h.le
  have hlc := h.lc
  have hlm := h.lm
  have hcm := h.cm
  have HP : Hid (p + n ≤ len) := by show _ ≤ _; omega
  have hpn := HP.out
  clear h hL hn
  cases a with
  | none =>
    go_enter Tryd.func119, Tryd.ntmps119
    go_wp2
    go_region_held3 (fun _ => True) (trivial) (first
      | (go_at_call 108; refine (HL.out _ HR.out).mono ?_; rintro r w1 ⟨rfl, h1, h2⟩; have H1 : Hid (RS w1 g none len cap xs 0 p ∧ w.grownBy w1 (some g)) := ⟨h1, gb_trans HG.out h2⟩; clear h1 h2)
      | (go_at_call 72; refine (must_r g none len cap xs 0 p 30 _ H1.out.1).mono ?_; rintro r w2 ⟨rfl, h1, h2⟩; have H2 : Hid (RS w2 g none len cap xs 0 p ∧ w.grownBy w2 (some g)) := ⟨h1, gb_trans H1.out.2 h2⟩; clear h1 h2))
    have c2 := H2.out.1.rdr.c2
    have c3 := H2.out.1.rdr.c3
    go_wp2
    go_quiet (fail)
    obtain ⟨w3, hw3⟩ : ∃ w3, w3 = w2.drewN nq := ⟨_, rfl⟩
    rw [← hw3]
    have H3 : Hid (RS w3 g none len cap xs 0 p ∧ w.grownBy w3 (some g)) := by rw [hw3]; exact ⟨H2.out.1.drewN _, gb_drewN H2.out.2 _⟩
    clear c2 c3 hw3
    have c3 := H3.out.1.rdr.c3
    have f3 := H3.out.1.rdr.free 3
    go_wp2
    go_ret
    have e1 : p + n - p = n := by omega
    have e2 : (p : Int) + (n : Int) = ((p + n : Nat) : Int) := by omega
    obtain ⟨m1, m2⟩ := H3.out.1.moves (p + n) hpn
    rw [← e2] at m1 m2
    simp only [e1]
    refine ⟨_, _, rfl, ?_, ?_, m1, gb_trans H3.out.2 m2⟩
    · have := m1.seg
      refine ⟨by simp [this.1]; omega, .inl ?_⟩
      rcases this.2 with h0 | ⟨_, _, h, _⟩
      · omega
      · cases h
    · intro b o s h; cases h
  | some ad =>
    obtain ⟨a1, ha1⟩ : ∃ a1, (if cap = p then some ad else some (ad.add p)) = a1 := ⟨_, rfl⟩
    have HA : Hid ((if cap = p then some ad else some (ad.add p)) = a1) := ha1
    go_enter Tryd.func119, Tryd.ntmps119
    go_wp2
    go_region_held3 (fun _ => True) (trivial) (first
      | (go_at_call 108; refine (HL.out _ HR.out).mono ?_; rintro r w1 ⟨rfl, h1, h2⟩; have H1 : Hid (RS w1 g (some ad) len cap xs 0 p ∧ w.grownBy w1 (some g)) := ⟨h1, gb_trans HG.out h2⟩; clear h1 h2)
      | (go_at_call 72; refine (must_r g (some ad) len cap xs 0 p 30 _ H1.out.1).mono ?_; rintro r w2 ⟨rfl, h1, h2⟩; have H2 : Hid (RS w2 g (some ad) len cap xs 0 p ∧ w.grownBy w2 (some g)) := ⟨h1, gb_trans H1.out.2 h2⟩; clear h1 h2))
    have c2 := H2.out.1.rdr.c2
    have c3 := H2.out.1.rdr.c3
    go_wp2
    go_quiet (fail)
    obtain ⟨w3, hw3⟩ : ∃ w3, w3 = w2.drewN nq := ⟨_, rfl⟩
    rw [← hw3]
    have H3 : Hid (RS w3 g (some ad) len cap xs 0 p ∧ w.grownBy w3 (some g)) := by rw [hw3]; exact ⟨H2.out.1.drewN _, gb_drewN H2.out.2 _⟩
    clear c2 c3 hw3
    have c3 := H3.out.1.rdr.c3
    have f3 := H3.out.1.rdr.free 3
    go_wp2
    go_ret
    have e1 : p + n - p = n := by omega
    have e2 : (p : Int) + (n : Int) = ((p + n : Nat) : Int) := by omega
    obtain ⟨m1, m2⟩ := H3.out.1.moves (p + n) hpn
    rw [← e2] at m1 m2
    simp only [e1]
    refine ⟨_, _, rfl, ?_, ?_, m1, gb_trans H3.out.2 m2⟩
    · have hs := m1.seg
      have hln : ((xs.drop p).take n).length = n := by simp [hs.1]; omega
      by_cases hc : cap = p
      · exact ⟨hln, .inl (by omega)⟩
      · have ha := HA.out
        rw [if_neg hc] at ha
        have h2 := seg_from hs p
        refine ⟨hln, ?_⟩
        rcases h2.2 with h0 | ⟨b, off, hb, hw, hcell⟩
        · exact .inl (by omega)
        · refine .inr ⟨b, off, by rw [← ha]; exact hb, hw, fun i hi => ?_⟩
          rw [hcell i (by omega), List.getElem?_take_of_lt hi]
    · intro b o s h
      have ha := HA.out
      rw [h] at ha
      by_cases hc : cap = p
      · rw [if_pos hc] at ha; exact ⟨_, rfl, by rw [Option.some.inj ha]⟩
      · rw [if_neg hc] at ha
        have hx := Option.some.inj ha
        refine ⟨_, rfl, ?_⟩
        have : (ad.add p).block = ad.block := by unfold Addr.add; split <;> rfl
        rw [← this, hx]
end Go.Proofs.YtcdgfghcmeadgaaDoor
namespace Go.Proofs.YtcdgfghcmeadgaaDoor
open Go.RowKit
set_option linter.unusedVariables false

theorem gb_newer {a b c : World} {N : Nat} (h : a.grownBy b none) (k : b.grownBy c (some N)) (hN : a.heap.size ≤ N) : a.grownBy c none :=
  ⟨k.os.trans h.os, k.tape.trans h.tape, k.output.trans h.output, Nat.le_trans h.size k.size, fun i hi hn => (k.block i (Nat.lt_of_lt_of_le hi h.size) (fun e => by cases e; omega)).trans (h.block i hi hn)⟩
end Go.Proofs.YtcdgfghcmeadgaaDoor
namespace Go.Proofs.YtcdgfghcmeadgaaDoor
open Go.RowKit
set_option linter.unusedVariables false

theorem made_row {w0 w1 : World} {n : Nat} (hown : w1.ownsRow w0.heap.size 5 1 (.slice (some ⟨w0.heap.size, 0, none⟩) n n) n (madeCells (Value.int .u8 0).cells (n * 1)).toList) : Row .u8 5 w1 w0.heap.size (List.replicate n 0) :=
  row_of_own _ hown (by rw [List.map_replicate]; simpa [Value.cells] using toList_madeCells_one (.int .u8 0) n)
theorem slice_row (N n m : Nat) (hm : m ≤ n) (W : World) : Sem.run Tryd.prog (Instr.slice 27 (.slice (some ⟨N, 0, none⟩) n n) (some (.int .i64 (m : Int))) none none) W = .ok (.slice (if n = m then some ⟨N, 0, none⟩ else some ⟨N, m, none⟩) (n - m) (n - m)) W := by
  obtain ⟨i0, hi, hz0, hz1, hz2⟩ := info_parts Tryd.infoU8
  have hel : Tryd.prog.elem 27 = 5 := by simp [Program.elem]
  rw [run_slice_l W 27 (some ⟨N, 0, none⟩) n n (by rw [hel]; exact Tryd.underlying27) .i64 m (by omega) (by omega)]
  rw [hel]
  by_cases h : n = m
  · subst h; simp [sizeOf, typeInfo, hi, sliced]
  · simp [sizeOf, typeInfo, hi, sliced, hz1, h, Go.WideShapes.add_plain]
/-- Where Bytes stands behind its make. -/
def Made (w0 w1 : World) (g : Nat) (d : Option Addr) (ps : List Int) (u n N : Nat) : Prop := Wr w1 g 0 (.pointer d) ps u n ∧ (∃ X : List Int, X.length = n ∧ Row .u8 5 w1 N X) ∧ w0.grownBy w1 none ∧ w0.heap.size = N
theorem made_mk {w0 w1 : World} {g n u : Nat} {d : Option Addr} {ps : List Int} (h : Wr w0 g 0 (.pointer d) ps u n) (hown : w1.ownsRow w0.heap.size 5 1 (.slice (some ⟨w0.heap.size, 0, none⟩) n n) n (madeCells (Value.int .u8 0).cells (n * 1)).toList) (hg : w0.grownBy w1 none) : Made w0 w1 g d ps u n w0.heap.size :=
  ⟨h.gr (G := fun _ => False) (Gr.of hg (by simp)) (fun h => h), ⟨_, by simp, made_row hown⟩, hg, rfl⟩

/-- copy into a row of bytes, as one step of a region that draws. -/
theorem step_copyR {ops : Array Oper} {o : Oper} {a : Act} {w : World} {K : Act → World → Prop} {Q : Exit → Act → World → Prop} {E : Prop} (hgd : o.guard = none) (dO sO : Operand)
    (ho : o.op = .call { callee := .builtin .copy, args := #[dO, sO], argTypes := #[27, 27] }) (dp sp : Option Addr) (dLen dCap sLen sCap : Nat) (hd : a.eval dO = .slice dp dLen dCap) (hs : a.eval sO = .slice sp sLen sCap)
    (N k : Nat) (X xs : List Int) (hw : Row .u8 5 w N X) (hx : Seg .u8 w sp sLen xs) (hle : k + sLen ≤ X.length) (hdl : sLen ≤ dLen) (hdp : 0 < sLen → dp = some ⟨N, k, none⟩)
    (h : ∀ w', Row .u8 5 w' N (splice X k xs) → w.grownBy w' (some N) → K (a.put o.dst (.int .i64 (sLen : Int))) w') :
    if Region.wanted o (yielded ops a.tmps) = true then Oper.wp Tryd.prog o a w K Q else E := by
  have hwt : Region.wanted o (yielded ops a.tmps) = true := by simp [Region.wanted, hgd]
  rw [if_pos hwt]
  obtain ⟨i0, hi, hz0, hz1, hz2⟩ := info_parts Tryd.infoU8
  have hsz : (Tryd.prog.info? 5).map (·.size) = some 1 := by rw [hi]; simp [hz1]
  have hlx := hx.1
  by_cases h0 : sLen = 0
  · subst h0
    obtain rfl : xs = [] := List.eq_nil_of_length_eq_zero hlx
    have hrun := run_copy_none (P := Tryd.prog) w 27 27 o.type 5 dp sp dLen dCap 0 sCap Tryd.underlying27 hsz (by simp)
    unfold Oper.wp
    simp [execOp, ho, resolve, invoke, builtin, hd, hs, hrun, Result.andThen]
    exact h w (by simpa [splice] using hw) (World.grownBy.refl _ _)
  · obtain rfl := hdp (by omega)
    rcases hx.2 with h' | ⟨b, off, rfl, hb, hc⟩
    · omega
    · have hmin : Nat.min sLen dLen = sLen := Nat.min_eq_left hdl
      have hrun := run_copy_row (P := Tryd.prog) w 27 27 o.type 5 N k dLen dCap ⟨b, off, none⟩ sLen sCap (X.map (Value.int .u8)).toArray 5 (xs.map (Value.int .u8)) Tryd.underlying27 hsz hw (by rw [hmin]; simpa using hlx) (seg_news' hx _ rfl) (by simp; omega) (by intro v hv; obtain ⟨z, _, rfl⟩ := List.mem_map.1 hv; rfl)
      unfold Oper.wp
      simp only [execOp, ho, resolve, invoke, builtin, hd, hs, hrun, Result.andThen, Sem.run_bind, Sem.run_pure, List.map_toArray, List.map_cons, List.map_nil]
      have hln : goInt ((xs.map (Value.int .u8)).length : Int) = .int .i64 (sLen : Int) := by simp [goInt, hlx]
      rw [hln]
      refine h _ ?_ ?_
      · have e1 := setRow_heap w N _ ((X.map (Value.int .u8)).toArray.toList.take k ++ xs.map (Value.int .u8) ++ (X.map (Value.int .u8)).toArray.toList.drop (k + (xs.map (Value.int .u8)).length)).toArray 5 _ hw
        unfold Row
        rw [e1]
        simp [splice]
      · exact ⟨rfl, rfl, rfl, by simp [World.setRow], fun k _ hk => setRow_other w N k _ (fun e => hk (by rw [e]))⟩

/-- Where Bytes stands in its rounds: what lies behind the bytes of the blocks to come is laid down. -/
def Half (w0 wr : World) (N n : Nat) (cs ys : List Int) : Prop := ∃ X rest : List Int, X.length = n ∧ ys = cs ++ rest ∧ X.drop cs.length = rest ∧ n = ys.length ∧ Row .u8 5 wr N X ∧ w0.grownBy wr none
theorem half_start {w0 w2 w3 : World} {g n u m N : Nat} {d : Option Addr} {ps cs ys X : List Int} (h : Made w0 w2 g d ps u n N) (hm : n = m + u) (hX : X.length = n) (hu : u ≤ 256) (hy : ys = cs ++ ps.take u) (hn : n = ys.length) (h3 : Row .u8 5 w3 N (splice X m (ps.take u))) (hg : w2.drew.grownBy w3 (some N)) : cs.length = m ∧ Half w0 w3 N n cs ys := by
  have hl : (ps.take u).length = u := by simp [h.1.2]; omega
  have hc : cs.length = m := by have := congrArg List.length hy; rw [List.length_append, hl] at this; omega
  refine ⟨hc, splice X m (ps.take u), ps.take u, by rw [length_splice _ _ _ (by rw [hl]; omega)]; exact hX, hy, ?_, hn, h3, gb_newer (gb_drewN h.2.2.1 1) hg (by have := h.2.2.2; omega)⟩
  rw [hc]
  unfold splice
  rw [List.drop_append_of_le_length (by simp; omega), List.drop_eq_nil_of_le (by simp; omega), List.nil_append, hl, List.drop_eq_nil_of_le (by omega), List.append_nil]
theorem half_step {w0 w1 w2 : World} {N n : Nat} {cs zs ys rest X : List Int} (hX : X.length = n) (hy : ys = cs ++ zs ++ rest) (hr : X.drop (cs ++ zs).length = rest) (hn : n = ys.length) (hg0 : w0.grownBy w1 none) (h3 : Row .u8 5 w2 N (splice X cs.length zs)) (hg : w1.grownBy w2 (some N)) (hN : w0.heap.size ≤ N) : Half w0 w2 N n cs ys := by
  have hl := congrArg List.length hy
  rw [List.length_append, List.length_append] at hl
  refine ⟨_, zs ++ rest, ?_, by rw [hy, List.append_assoc], ?_, hn, h3, gb_newer hg0 hg hN⟩
  · rw [length_splice _ _ _ (by omega)]; exact hX
  · unfold splice
    rw [List.drop_append_of_le_length (by simp; omega), List.drop_eq_nil_of_le (by simp; omega), List.nil_append]
    rw [List.length_append] at hr
    rw [hr]
theorem half_end {w0 w1 : World} {N n : Nat} {ys : List Int} (h : Half w0 w1 N n [] ys) : Row .u8 5 w1 N ys := by
  obtain ⟨X, rest, hX, hy, hr, _, h3, _⟩ := h
  simp only [List.length_nil, List.drop_zero] at hr
  rw [hy, List.nil_append, ← hr]; exact h3

set_option maxRecDepth 20000 in
set_option maxHeartbeats 800000 in
theorem wbytes_ok (g : Nat) (ys : List Int) (fs : List Nat) (w : World) (h : WS w g ys 0 fs) (hb : ys.length ≤ 140737488355328) :
    Calls Tryd.prog 74 #[.pointer (some ⟨g, 0, none⟩)] w fun r w' => ∃ b, r = .returned (.tuple #[.slice (some ⟨b, 0, none⟩) ys.length ys.length, .int .i64 0]) ∧ w.heap.size ≤ b ∧ Row .u8 5 w' b ys ∧ Below w.heap.size w w' := by
  obtain ⟨i0, hi, hz0, hz1, hz2⟩ := info_parts Tryd.infoU8
  have HWL : Hid (Calls Tryd.prog 101 #[.pointer (some ⟨g, 0, none⟩)] w fun r w' => r = .returned (.bool true) ∧ w' = w) := well_c g 0 w h.c0
  obtain ⟨d, ps, u, cs, h1, h2, h3, h4, h5, h6⟩ := h
  obtain ⟨n, hn⟩ : ∃ n, n = ys.length := ⟨_, rfl⟩
  have hun : u ≤ n := by rw [hn, h4]; simp [h1.2]; omega
  rw [← hn] at h1 hb ⊢
  have c1 := h1.c1
  have cU := h1.cU
  have cN := h1.cN
  have HW : Hid (Wr w g 0 (.pointer d) ps u n) := h1
  have HCH : Hid (Chain w d cs fs) := h2
  have HY : Hid (ys = cs ++ ps.take u ∧ n = ys.length ∧ g ∉ fs) := ⟨h4, hn, h5⟩
  clear h1 h2 h4 h5 h6 hn
  go_enter Tryd.func74, Tryd.ntmps74
  go_wp2_with fail
  refine Calls.mono HWL.out ?_
  rintro r w0 ⟨rfl, rfl⟩
  go_wp2_with (at_make; go_must (refine wpList_make_full _ rfl _ _ 27 rfl w0.heap.size 5 i0 (.int .u8 0) 1 Tryd.underlying27 hi hz0 hz1 _ _ _ _ n rfl rfl (by omega) (by omega) (by rw [hz2]; omega) (by unfold maxLen; omega) (Nat.le_refl _) ?_); intro w1 hown hgrow; have H1 : Hid (Made w0 w1 g d ps u n w0.heap.size) := made_mk HW.out hown hgrow; have k1 := H1.out.1.c1; have kU := H1.out.1.cU; have kN := H1.out.1.cN; clear hown hgrow)
  obtain ⟨m, hm⟩ : ∃ m, n = m + u := ⟨n - u, by omega⟩
  have hsub : (n : Int) - (u : Int) = (m : Int) := by omega
  have hwr : IntKind.i64.wrap (m : Int) = (m : Int) := by rw [IntKind.wrap_i64]; omega
  obtain ⟨N, hN⟩ : ∃ N, N = w0.heap.size := ⟨_, rfl⟩
  rw [← hN] at H1 ⊢
  replace hN : Hid _ := hN
  clear c1 cU cN hi hz0 hz1 hz2
  have HM : Hid (n = m + u) := hm
  have hmn : m ≤ n := by omega
  clear hm
  go_quiet (fail)
  go_wp2_with fail
  have H2 : Hid (Made w0 (w1.drewN nq) g d ps u n N) := ⟨H1.out.1.gr ((Gr.refl (fun _ => False) w1).drewN nq) (fun h => h), H1.out.2.1.imp (fun X h => ⟨h.1, h.2.drewN nq⟩), gb_drewN H1.out.2.2.1 nq, H1.out.2.2.2⟩
  generalize w1.drewN nq = w2 at H2 ⊢
  clear H1 k1 kU kN hsub hwr
  have kU := H2.out.1.cU
  obtain ⟨dp, hdp, HD⟩ : ∃ dp, (if n = m then some (⟨N, 0, none⟩ : Addr) else some ⟨N, m, none⟩) = dp ∧ Hid (0 < u → dp = some ⟨N, m, none⟩) := ⟨_, rfl, fun h => by rw [if_neg (by have := HM.out; omega)]⟩
  have hslc := slice_row N n m hmn
  have hul : n - m = u := by have := HM.out; omega
  rw [hdp, hul] at hslc
  have hsl := slice_to g u h3
  obtain ⟨X, hX⟩ := H2.out.2.1
  have HX : Hid (X.length = n ∧ Row .u8 5 w2 N X ∧ Seg .u8 w2 (some ⟨g, 2, none⟩) u (ps.take u)) := ⟨hX.1, hX.2, H2.out.1.part u h3⟩
  clear hX
  go_region_law (refine step_copyR rfl (.tmp 35) (.tmp 43) rfl dp (some ⟨g, 2, none⟩) u u u 256 rfl rfl N m X (ps.take u) HX.out.2.1 HX.out.2.2 (by rw [HX.out.1]; have := HM.out; omega) (Nat.le_refl _) HD.out ?_; intro w3 hr3 hg3; have H3 : Hid (Row .u8 5 w3 N (splice X m (ps.take u)) ∧ w2.drew.grownBy w3 (some N)) := ⟨hr3, hg3⟩; clear hr3 hg3)
  have HH := half_start H2.out HM.out HX.out.1 h3 HY.out.1 HY.out.2.1 H3.out.1 H3.out.2
  obtain ⟨rfl, hh⟩ := HH
  have H4 : Hid (Half w0 w3 N n cs ys ∧ Wr w3 g 0 (.pointer d) ps u n) := by
    obtain ⟨_, _, _, _, _, _, _, hgb⟩ := id hh
    exact ⟨hh, HW.out.gr (G := fun _ => False) (Gr.of hgb (by simp)) (fun h => h)⟩
  have k1 := H4.out.2.c1
  have HNN : Hid (w0.heap.size ≤ N ∧ n = ys.length) := ⟨by rw [hN.out]; exact Nat.le_refl _, HY.out.2.1⟩
  clear hh H2 H3 HX HD hdp hslc hsl hul kU HM hN HWL HW HY hun h3
  go_wp2
  go_loopw [5, 6] (fun at' p wr => ∃ (d' : Option Addr) (cs' : List Int) (fs' : List Nat), at' = .int .i64 (cs'.length : Int) ∧ p = .pointer d' ∧ Hid (Chain w0 d' cs' fs' ∧ Half w0 wr N n cs' ys)) (fun at' _ _ => (intOf at').toNat)
  case atStart => exact ⟨d, cs, fs, rfl, rfl, HCH.out, H4.out.1⟩
  case round =>
    obtain ⟨d', cs', fs', rfl, rfl, HI⟩ := hrel
    obtain ⟨hch, hhf⟩ := HI.out
    clear k1 H4
    rcases hch.ways with ⟨rfl, rfl, rfl⟩ | ⟨b, k, cap, d2, ys2, zs, fs2, rfl, rfl, rfl, hb, hs, hk, hz, hc⟩
    · skip
      have H5 : Hid (Row .u8 5 wr N ys ∧ w0.grownBy wr none) := by
        obtain ⟨_, _, _, _, _, _, _, hgb⟩ := id hhf
        exact ⟨half_end hhf, hgb⟩
      clear hhf HI
      go_wp2
      go_ret2
      exact ⟨N, rfl, HNN.out.1, H5.out.1, ⟨H5.out.2.os, H5.out.2.tape, H5.out.2.output, H5.out.2.size, fun k hk => H5.out.2.block k hk (by simp)⟩⟩
    · skip
      obtain ⟨X', rest, hX, hy, hr, hn, hrow, hgb⟩ := hhf
      obtain ⟨A, hA⟩ : ∃ A, A = (ys2 ++ zs).length := ⟨_, rfl⟩
      obtain ⟨L, hL⟩ : ∃ L, L = ys2.length := ⟨_, rfl⟩
      obtain ⟨Z, hZ⟩ : ∃ Z, Z = zs.length := ⟨_, rfl⟩
      have hALZ : A = L + Z := by rw [hA, hL, hZ, List.length_append]
      have hAn : A ≤ n := by
        have := congrArg List.length hy
        rw [List.length_append, ← hA] at this; omega
      rw [← hZ] at hb hs hz
      have hbr : Bk 149 wr b #[.pointer d2, .slice (some ⟨k, 0, none⟩) Z cap] := hb.grew hgb (by simp)
      have b0 : wr.cell? ⟨b, 0, none⟩ = some (.pointer d2) := by rw [hbr.cell 0]; rfl
      have b1 : wr.cell? ⟨b, 1, none⟩ = some (.slice (some ⟨k, 0, none⟩) Z cap) := by rw [hbr.cell 1]; rfl
      have hsubA : (A : Int) - (Z : Int) = (L : Int) := by omega
      have hwrA : IntKind.i64.wrap (L : Int) = (L : Int) := by rw [IntKind.wrap_i64]; omega
      have hLn : L ≤ n := by omega
      have HZ : Hid (Seg .u8 wr (some ⟨k, 0, none⟩) Z zs ∧ X'.length = n ∧ Row .u8 5 wr N X' ∧ L + Z ≤ X'.length ∧ Z ≤ n - L ∧ Bk 149 wr b #[.pointer d2, .slice (some ⟨k, 0, none⟩) Z cap] ∧ b < w0.heap.size ∧ 0 < Z) := ⟨hs.grew hgb (by simp), hX, hrow, by omega, by omega, hbr, lt_of_block hb, hz⟩
      have HST : Hid (∀ w4, Row .u8 5 w4 N (splice X' L zs) → wr.grownBy w4 (some N) → Half w0 w4 N n ys2 ys) := fun w4 h3 hg => half_step hX hy hr hn hgb (hL ▸ h3) hg HNN.out.1
      have HC2 : Hid (Chain w0 d2 ys2 fs2) := hc
      have HA : Hid (A = L + Z ∧ L = ys2.length) := ⟨hALZ, hL⟩
      rw [← hA]
      clear HI hX hy hr hn hrow hgb hb hs hk hz hc hA hL hZ hALZ hbr hAn
      go_wp2_with fail
      obtain ⟨dp2, hdp2, HD2⟩ : ∃ dp2, (if n = L then some (⟨N, 0, none⟩ : Addr) else some ⟨N, L, none⟩) = dp2 ∧ Hid (0 < Z → dp2 = some ⟨N, L, none⟩) := ⟨_, rfl, fun h => by rw [if_neg (by have := HZ.out.2.2.2.2.1; omega)]⟩
      clear hsubA hwrA
      go_region_law (refine step_copyR rfl (.tmp 64) (.tmp 68) rfl dp2 (some ⟨k, 0, none⟩) (n - L) (n - L) Z cap rfl rfl N L X' zs HZ.out.2.2.1 HZ.out.1 HZ.out.2.2.2.1 HZ.out.2.2.2.2.1 HD2.out ?_; intro w4 hr4 hg4; have hg5 := gb_trans (gb_drewN (World.grownBy.refl wr (some N)) 1) hg4; have j0 := (HZ.out.2.2.2.2.2.1.grew hg5 (fun e => by have := HZ.out.2.2.2.2.2.2.1; have := HNN.out.1; cases e; omega)).cell 0; have H4 : Hid (Half w0 w4 N n ys2 ys) := HST.out w4 hr4 hg5; clear hr4 hg4 hg5)
      all_goals
        change w4.cell? ⟨b, 0, none⟩ = some (.pointer d2) at j0
        go_wp2
        refine ⟨⟨d2, ys2, fs2, by rw [HA.out.2], rfl, HC2.out, H4.out⟩, ?_⟩
        have := HA.out.1
        have := HZ.out.2.2.2.2.2.2.2
        simp only [intOf]
        omega

set_option maxRecDepth 20000 in
theorem wbytes_no (g : Nat) (ys : List Int) (e : Int) (fs : List Nat) (w : World) (h : WS w g ys e fs) (he : (e == 0) = false) :
    Calls Tryd.prog 74 #[.pointer (some ⟨g, 0, none⟩)] w fun r w' => r = .returned (.tuple #[.slice none 0 0, .int .i64 e]) ∧ ∃ n, w' = w.drewN n := by
  have HWL : Hid (Calls Tryd.prog 101 #[.pointer (some ⟨g, 0, none⟩)] w fun r w' => r = .returned (.bool false) ∧ w' = w) := by
    have := well_c g e w h.c0
    rw [he] at this; exact this
  have c0 := h.c0
  clear h
  go_enter Tryd.func74, Tryd.ntmps74
  go_wp2_with fail
  refine Calls.mono HWL.out ?_
  rintro r w0 ⟨rfl, rfl⟩
  go_wp2
  go_quiet (fail)
  go_wp2
  go_ret2
  exact ⟨rfl, _, rfl⟩
end Go.Proofs.YtcdgfghcmeadgaaDoor
namespace Go.Proofs.YtcdgfghcmeadgaaDoor
open Go.RowKit
set_option linter.unusedVariables false

theorem Chn.strong {O : Nat → Prop} {w : World} : ∀ {k : Option Addr} (L : List (List Int)), Chn O w k L → Chn (fun b => O b ∧ b < w.heap.size) w k L
  | k, [], h => h
  | k, xs :: L, ⟨b, p, a, c, h1, h2, h3, h4, h5, h6, h7, h8⟩ => by
    refine ⟨b, p, a, c, h1, ⟨h2, lt_of_block h3⟩, h3, h4, h5, h6, fun g o s e => ⟨h7 g o s e, ?_⟩, h8.strong L⟩
    rcases h5.2 with z | ⟨g', off, e', hb, _⟩
    · exact absurd (List.length_eq_zero_iff.1 z) h4
    · rw [e] at e'; cases e'; exact hb
theorem slice_rowC (N n C m : Nat) (hm : m ≤ n) (W : World) : Sem.run Tryd.prog (Instr.slice 27 (.slice (some ⟨N, 0, none⟩) n C) (some (.int .i64 (m : Int))) none none) W = .ok (.slice (if C = m then some ⟨N, 0, none⟩ else some ⟨N, m, none⟩) (n - m) (C - m)) W := by
  obtain ⟨i0, hi, hz0, hz1, hz2⟩ := info_parts Tryd.infoU8
  have hel : Tryd.prog.elem 27 = 5 := by simp [Program.elem]
  rw [run_slice_l W 27 (some ⟨N, 0, none⟩) n C (by rw [hel]; exact Tryd.underlying27) .i64 m (by omega) (by omega)]
  rw [hel]
  by_cases h : C = m
  · subst h; simp [sizeOf, typeInfo, hi, sliced]
  · simp [sizeOf, typeInfo, hi, sliced, hz1, h, Go.WideShapes.add_plain]
theorem step_makeJ {ops : Array Oper} {o : Oper} {a : Act} {w : World} {K : Act → World → Prop} {Q : Exit → Act → World → Prop} {E : Prop} (hgd : o.guard = none) (T : TypeId) (x y : Operand) (ho : o.op = .makeSlice T x y) (l c v : Value) (hx : a.eval x = l) (hy : a.eval y = c) (w' : World)
    (hr : (Instr.makeSlice T l c).run Tryd.prog w = .ok v w') (R : World → Prop) (hR : R w') (h : ∀ w', R w' → K (a.put o.dst v) w') : if Region.wanted o (yielded ops a.tmps) = true then Oper.wp Tryd.prog o a w K Q else E := by
  have hwt : Region.wanted o (yielded ops a.tmps) = true := by simp [Region.wanted, hgd]
  rw [if_pos hwt]
  unfold Oper.wp
  simp [execOp, ho, hx, hy, hr]
  exact h _ hR
/-- How far the blocks are laid down, from behind. -/
def JI (O : Nat → Prop) (w wr : World) (N C : Nat) (k : Option Addr) (L : List (List Int)) (all : List Int) : Prop :=
  Chn O wr k L ∧ (∃ X mid : List Int, X.length = C ∧ all = chB L ++ mid ∧ (X.drop (chB L).length).take mid.length = mid ∧ Row .u8 5 wr N X) ∧ w.grownBy wr none
theorem row_new {w w' : World} {N : Nat} {X : List Int} (h : Row .u8 5 w N X) (hg : w.grownBy w' none) : Row .u8 5 w' N X := (hg.block N h.lt (by simp)).trans h
theorem JI.new {O : Nat → Prop} {w wr w' : World} {N C : Nat} {k : Option Addr} {L : List (List Int)} {all : List Int} (h : JI O w wr N C k L all) (hg : wr.grownBy w' none) : JI O w w' N C k L all := by
  obtain ⟨h1, ⟨X, mid, q1, q2, q3, q4⟩, h3⟩ := h
  exact ⟨h1.keep hg (by simp) L, ⟨X, mid, q1, q2, q3, row_new q4 hg⟩, gb_trans h3 hg⟩
theorem ji_step {O : Nat → Prop} {w wr w' : World} {N C : Nat} {p : Option Addr} {xs X mid all : List Int} {L : List (List Int)} (hX : X.length = C) (ha : all = chB (xs :: L) ++ mid) (hm : (X.drop (chB (xs :: L)).length).take mid.length = mid) (hall : all.length ≤ C) (hg0 : w.grownBy wr none) (hc : Chn O wr p L) (hN : ¬ O N) (hNw : w.heap.size ≤ N)
    (h3 : Row .u8 5 w' N (splice X (chB L).length xs)) (hg : wr.grownBy w' (some N)) : JI O w w' N C p L all := by
  have e1 : (chB (xs :: L)).length = (chB L).length + xs.length := List.length_append
  have e2 := congrArg List.length ha
  rw [List.length_append, e1] at e2
  refine ⟨hc.keep hg (fun g e => by cases e; exact hN) L, ⟨_, xs ++ mid, ?_, ?_, ?_, h3⟩, gb_newer hg0 hg hNw⟩
  · rw [length_splice _ _ _ (by omega)]; exact hX
  · rw [ha]; show (chB L ++ xs) ++ mid = _; rw [List.append_assoc]
  · unfold splice
    rw [List.drop_append_of_le_length (by simp; omega), List.drop_eq_nil_of_le (by simp; omega), List.nil_append, List.length_append, List.take_append, Nat.add_sub_cancel_left, List.take_of_length_le (by omega), ← e1, hm]
theorem ji_end {O : Nat → Prop} {w wr : World} {N C T : Nat} {k : Option Addr} {all : List Int} (h : JI O w wr N C k [] all) (hT : all.length = T) (hTC : T ≤ C) (hC : C ≤ maxLen) (hN : w.heap.size ≤ N) : Mine wr w.heap.size N T C all := by
  obtain ⟨_, ⟨X, mid, hX, ha, hm, hr⟩, hg⟩ := h
  have e : chB [] = [] := rfl
  rw [e, List.nil_append] at ha
  rw [e, List.length_nil, List.drop_zero] at hm
  subst ha
  refine ⟨hT, hTC, hC, hN, hr.lt, fun i hi => ?_, fun i hi => ?_, fun i hi => frozen_of_row wr N i _ _ hr⟩
  · rw [hr.cell i (by omega), ← hm, List.getElem?_take_of_lt (by omega)]
  · rw [hr.cell i (by omega)]; rfl
end Go.Proofs.YtcdgfghcmeadgaaDoor
namespace Go.Proofs.YtcdgfghcmeadgaaDoor
open Go.RowKit
set_option linter.unusedVariables false

def putL (D : List Nat) (f : Nat → Value) : Nat → List Value → List Value
  | _, [] => []
  | s, x :: r => (if s ∈ D then f (D.idxOf s) else x) :: putL D f (s + 1) r
theorem putL_get (D : List Nat) (f : Nat → Value) : ∀ (l : List Value) (s k : Nat), (putL D f s l)[k]? = l[k]?.map fun x => if s + k ∈ D then f (D.idxOf (s + k)) else x
  | [], s, k => by simp [putL]
  | x :: r, s, 0 => by simp [putL]
  | x :: r, s, k + 1 => by
    rw [putL, List.getElem?_cons_succ, List.getElem?_cons_succ, putL_get D f r (s + 1) k, show s + 1 + k = s + (k + 1) from by omega]
theorem putL_len (D : List Nat) (f : Nat → Value) : ∀ (l : List Value) (s : Nat), (putL D f s l).length = l.length
  | [], s => rfl
  | x :: r, s => by simp [putL, putL_len D f r (s + 1)]
/-- The frame, with the operations' own slots laid anew. -/
def putAll (a : Act) (D : List Nat) (f : Nat → Value) : Act := { a with tmps := (putL D f 0 a.tmps.toList).toArray }
theorem idxOf_nodup {D : List Nat} (hn : D.Nodup) {i : Nat} (hi : i < D.length) : D.idxOf (D.getD i 0) = i := by
  rw [List.getD_eq_getElem?_getD, List.getElem?_eq_getElem hi, Option.getD_some]
  exact List.Nodup.idxOf_getElem hn i hi
theorem put_putAll {a : Act} {D : List Nat} {f : Nat → Value} (hn : D.Nodup) {i : Nat} (hi : i < D.length) (v : Value) : (putAll a D f).put (some (D.getD i 0)) v = putAll a D (fun j => if j = i then v else f j) := by
  have hmem : D.getD i 0 ∈ D := by rw [List.getD_eq_getElem?_getD, List.getElem?_eq_getElem hi]; exact List.getElem_mem hi
  have hidx := idxOf_nodup hn hi
  unfold putAll Act.put
  simp only [List.setIfInBounds_toArray]
  refine congrArg (fun l : List Value => ({ tmps := l.toArray, defers := a.defers } : Act)) ?_
  apply List.ext_getElem?
  intro k
  rw [List.getElem?_set, putL_get, putL_get, putL_len]
  simp only [Nat.zero_add]
  by_cases hk : D.getD i 0 = k
  · subst hk
    rw [if_pos rfl]
    by_cases hl : D.getD i 0 < a.tmps.toList.length
    · rw [if_pos hl, List.getElem?_eq_getElem hl, Option.map_some, if_pos hmem, if_pos hidx]
    · rw [if_neg hl, List.getElem?_eq_none (by omega)]; rfl
  · rw [if_neg hk]
    congr 1
    funext x
    by_cases hm : k ∈ D
    · rw [if_pos hm, if_pos hm, if_neg]
      intro e
      apply hk
      have := List.getElem_idxOf (List.idxOf_lt_length_of_mem hm)
      rw [List.getD_eq_getElem?_getD, ← e, List.getElem?_eq_getElem (List.idxOf_lt_length_of_mem hm), Option.getD_some, this]
    · rw [if_neg hm, if_neg hm]
theorem put_none {a : Act} {D : List Nat} {f : Nat → Value} (hn : D.Nodup) {i : Nat} (hi : i < D.length) (hb : a.tmps.size ≤ D.getD i 0) (v : Value) : putAll a D f = putAll a D (fun j => if j = i then v else f j) := by
  have e : putL D f 0 a.tmps.toList = putL D (fun j => if j = i then v else f j) 0 a.tmps.toList := by
    apply List.ext_getElem?
    intro k
    rw [putL_get, putL_get]
    simp only [Nat.zero_add]
    rcases Nat.lt_or_ge k a.tmps.toList.length with h | h
    · rw [List.getElem?_eq_getElem h, Option.map_some, Option.map_some]
      by_cases hm : k ∈ D
      · rw [if_pos hm, if_pos hm, if_neg]
        intro e
        have h1 := List.getElem_idxOf (List.idxOf_lt_length_of_mem hm)
        have h2 : D.getD i 0 = k := by
          rw [List.getD_eq_getElem?_getD, ← e, List.getElem?_eq_getElem (List.idxOf_lt_length_of_mem hm), Option.getD_some, h1]
        rw [Array.length_toList] at h
        omega
      · rw [if_neg hm, if_neg hm]
    · rw [List.getElem?_eq_none h]; rfl
  unfold putAll
  rw [e]
theorem putAll_self (a : Act) (D : List Nat) : ∃ f, putAll a D f = a := by
  refine ⟨fun j => (a.tmps.toList[D.getD j 0]?).getD undef, ?_⟩
  unfold putAll
  have : putL D (fun j => (a.tmps.toList[D.getD j 0]?).getD undef) 0 a.tmps.toList = a.tmps.toList := by
    apply List.ext_getElem?
    intro k
    rw [putL_get, Nat.zero_add]
    rcases Nat.lt_or_ge k a.tmps.toList.length with h | h
    · rw [List.getElem?_eq_getElem h, Option.map_some]
      by_cases hm : k ∈ D
      · rw [if_pos hm]
        have h1 := List.getElem_idxOf (List.idxOf_lt_length_of_mem hm)
        rw [List.getD_eq_getElem?_getD, List.getElem?_eq_getElem (List.idxOf_lt_length_of_mem hm), Option.getD_some, h1, List.getElem?_eq_getElem h, Option.getD_some]
      · rw [if_neg hm]
    · rw [List.getElem?_eq_none h]; rfl
  rw [this]
/-- Which slots the operations lay, which others each waits for: told off the text. -/
def phiB (ops : Array Oper) (D : List Nat) (use : List (List Nat)) : Bool :=
  decide (D.length = ops.size) && decide D.Nodup && (List.range ops.size).all fun i =>
    match ops[i]? with
    | none => false
    | some o => (o.dst == some (D.getD i 0) || (o.dst == none && decide (100000 ≤ D.getD i 0))) && o.after.toList.all (fun e => !(Region.binds .any e) || decide (e.on < i)) && (use.getD i []).all (fun j => o.after.toList.any fun e => Region.binds .any e && (e.on == j))
theorem phi_spec {ops : Array Oper} {D : List Nat} {use : List (List Nat)} (h : phiB ops D use = true) : D.length = ops.size ∧ D.Nodup ∧ ∀ i o, ops[i]? = some o → (o.dst = some (D.getD i 0) ∨ (o.dst = none ∧ 100000 ≤ D.getD i 0)) ∧ (∀ e ∈ o.after, Region.binds .any e = true → e.on < i) ∧ ∀ j ∈ use.getD i [], ∃ e ∈ o.after, Region.binds .any e = true ∧ e.on = j := by
  unfold phiB at h
  rw [Bool.and_eq_true, Bool.and_eq_true] at h
  refine ⟨of_decide_eq_true h.1.1, of_decide_eq_true h.1.2, fun i o ho => ?_⟩
  have hi : i < ops.size := (Array.getElem?_eq_some_iff.1 ho).1
  have h2 := List.all_eq_true.1 h.2 i (List.mem_range.2 hi)
  rw [ho] at h2
  simp only [Bool.and_eq_true, Bool.or_eq_true, beq_iff_eq, decide_eq_true_eq, List.all_eq_true, List.any_eq_true, Array.mem_toList_iff] at h2
  exact ⟨h2.1.1, (fun e he hb => by rcases h2.1.2 e he with h3 | h3; (rw [hb] at h3; simp at h3); exact h3), fun j hj => by
    obtain ⟨e, he, h3, h4⟩ := h2.2 j hj
    exact ⟨e, he, h3, h4⟩⟩
theorem cnt_set (p : List Bool) (i : Nat) (h : p.getD i true = false) : (p.set i true).count false < p.count false := by
  induction p generalizing i with
  | nil => simp at h
  | cons b p ih =>
    cases i with
    | zero => have hb : b = false := by simpa using h
              subst hb; simp
    | succ i =>
      have := ih i (by simpa using h)
      rw [List.set_cons_succ, List.count_cons, List.count_cons]; omega
theorem wp_region_rel {P : Program} {ops : Array Oper} {Q : Exit → Act → World → Prop} {id : Nat} {a : Act} {w : World} (rel : World → World → Prop) (rrefl : ∀ W, rel W W) (rtrans : ∀ a b c, rel a b → rel b c → rel a c) (rdrew : rel w w.drew) (hsz : decide (a.tmps.size ≤ 100000) = true) (hm : P.follows .mixedOrders = true) (D : List Nat) (use : List (List Nat)) (hc : phiB ops D use = true) (Φ : List (Value → World → Prop))
    (stable : ∀ i v W W', (Φ.getD i (fun _ _ => True)) v W → rel W W' → (Φ.getD i (fun _ _ => True)) v W')
    (step : ∀ f W A, A = putAll a D f → rel w W → ∀ i o, ops[i]? = some o → (∀ j ∈ use.getD i [], (Φ.getD j (fun _ _ => True)) (f j) W) →
      ∀ K : Act → World → Prop, (∀ v W', rel W W' → (Φ.getD i (fun _ _ => True)) v W' → K (A.put o.dst v) W') → if Region.wanted o (yielded ops A.tmps) = true then Oper.wp P o A W K Q else K (A.put o.dst undef) W)
    (fin : ∀ f W A, A = putAll a D f → rel w W → (∀ j, j < ops.size → (Φ.getD j (fun _ _ => True)) (f j) W) → Q .normal A W) : (Code.region id ops true).wp P Q a w := by
  obtain ⟨hl, hnd, hsp⟩ := phi_spec hc
  have main : ∀ (fuel : Nat) (p : List Bool) (A : Act) (W : World) (f : Nat → Value), p.length = ops.size → p.count false ≤ fuel → A = putAll a D f → rel w W → (∀ j, j < ops.size → p.getD j false = true → (Φ.getD j (fun _ _ => True)) (f j) W) → wpAny P .any ops Q fuel p.toArray A W := by
    have hdone : ∀ p : List Bool, p.length = ops.size → Region.ready .any ops p.toArray = [] → ∀ j, j < ops.size → p.getD j false = true := by
      intro p hp hr j
      induction j using Nat.strongRecOn with
      | ind j ih =>
        intro hj
        cases hq : p.getD j false with
        | true => rfl
        | false =>
          exfalso
          obtain ⟨o, ho⟩ : ∃ o, ops[j]? = some o := ⟨ops[j], by simp [hj]⟩
          have : j ∈ Region.ready .any ops p.toArray := by
            refine mem_ready.2 ⟨?_, o, ho, fun e he hb => ?_⟩
            · have hj' : j < p.length := by omega
              simpa [List.getD_eq_getElem?_getD, hj'] using hq
            · have h1 := ih e.on ((hsp j o ho).2.1 e he hb) (by have := (hsp j o ho).2.1 e he hb; omega)
              have he' : e.on < p.length := by have := (hsp j o ho).2.1 e he hb; omega
              simpa [List.getD_eq_getElem?_getD, he'] using h1
          rw [hr] at this
          cases this
    intro fuel
    induction fuel with
    | zero =>
      intro p A W f hp hf hA hg hI
      have hr : Region.ready .any ops p.toArray = [] := by
        rcases hq : Region.ready .any ops p.toArray with _ | ⟨i, r⟩
        · rfl
        · have := (mem_ready.1 (show i ∈ Region.ready .any ops p.toArray by rw [hq]; simp)).1
          have := cnt_set p i (by simpa [List.getD_eq_getElem?_getD] using this)
          omega
      exact ⟨hr, fin f W A hA hg fun j hj => hI j hj (hdone p hp hr j hj)⟩
    | succ fuel ih =>
      intro p A W f hp hf hA hg hI
      refine ⟨fun hr => fin f W A hA hg fun j hj => hI j hj (hdone p hp hr j hj), fun i hi => ?_⟩
      obtain ⟨hun, o, ho, hall⟩ := mem_ready.1 hi
      have hil : i < ops.size := (Array.getElem?_eq_some_iff.1 ho).1
      have hun' : p.getD i true = false := by simpa [List.getD_eq_getElem?_getD] using hun
      refine wpOp_step ho fun K' hK => ?_
      refine step f W A hA hg i o ho (fun j hj => ?_) K' fun v W' hg' hv => hK _ _ ?_
      · obtain ⟨e, he, hb, rfl⟩ := (hsp i o ho).2.2 j hj
        have h1 := hall e he hb
        have h2 := (hsp i o ho).2.1 e he hb
        refine hI _ (by omega) ?_
        simpa [List.getD_eq_getElem?_getD] using h1
      · rw [List.setIfInBounds_toArray]
        refine ih (p.set i true) _ W' (fun j => if j = i then v else f j) (by simpa using hp) (by have := cnt_set p i hun'; omega) ?_ (rtrans _ _ _ hg hg') ?_
        · rcases (hsp i o ho).1 with hd | ⟨hd, hd2⟩
          · rw [hA, hd]; exact put_putAll hnd (by omega) v
          · rw [hA, hd]
            exact put_none hnd (by omega) (Nat.le_trans (of_decide_eq_true hsz) hd2) v
        · intro j hj hpj
          by_cases hji : j = i
          · subst hji; simp only [if_true]; exact hv
          · simp only [hji, if_false]
            refine stable _ _ _ _ (hI j hj ?_) hg'
            rw [List.getD_eq_getElem?_getD, List.getElem?_set] at hpj
            rw [if_neg (fun e => hji e.symm)] at hpj
            rw [List.getD_eq_getElem?_getD]; exact hpj
  refine wp_region_any hm ?_
  obtain ⟨f, hf⟩ := putAll_self a D
  have := main ops.size (List.replicate ops.size false) a w.drew f (by simp) (by simp) hf.symm rdrew (by
    intro j hj h
    simp [List.getD_eq_getElem?_getD, hj] at h)
  rw [List.toArray_replicate] at this
  exact this
theorem wp_region_phi {P : Program} {ops : Array Oper} {Q : Exit → Act → World → Prop} {id : Nat} {a : Act} {w : World} (row : Option Nat) (hsz : decide (a.tmps.size ≤ 100000) = true) (hm : P.follows .mixedOrders = true) (D : List Nat) (use : List (List Nat)) (hc : phiB ops D use = true) (Φ : List (Value → World → Prop))
    (stable : ∀ i v W W', (Φ.getD i (fun _ _ => True)) v W → W.grownBy W' row → (Φ.getD i (fun _ _ => True)) v W')
    (step : ∀ f W A, A = putAll a D f → w.grownBy W row → ∀ i o, ops[i]? = some o → (∀ j ∈ use.getD i [], (Φ.getD j (fun _ _ => True)) (f j) W) →
      ∀ K : Act → World → Prop, (∀ v W', W.grownBy W' row → (Φ.getD i (fun _ _ => True)) v W' → K (A.put o.dst v) W') → if Region.wanted o (yielded ops A.tmps) = true then Oper.wp P o A W K Q else K (A.put o.dst undef) W)
    (fin : ∀ f W A, A = putAll a D f → w.grownBy W row → (∀ j, j < ops.size → (Φ.getD j (fun _ _ => True)) (f j) W) → Q .normal A W) : (Code.region id ops true).wp P Q a w :=
  wp_region_rel (fun W W' => W.grownBy W' row) (fun W => ⟨rfl, rfl, rfl, Nat.le_refl _, fun _ _ _ => rfl⟩) (fun _ _ _ h k => gb_trans h k) ⟨rfl, rfl, rfl, Nat.le_refl _, fun _ _ _ => rfl⟩ hsz hm D use hc Φ stable step fin
end Go.Proofs.YtcdgfghcmeadgaaDoor
namespace Go.Proofs.YtcdgfghcmeadgaaDoor
open Go.RowKit
set_option linter.unusedVariables false

/-- Somebody behind waits for each operation but the last. -/
def lastB (ops : Array Oper) (n : Nat) : Bool := decide (ops.size = n + 1) && (List.range n).all fun i => (List.range (n + 1)).any fun j => decide (i < j) && match ops[j]? with
  | none => false
  | some o => o.after.toList.any fun e => Region.binds .any e && (e.on == i)
theorem last_spec {ops : Array Oper} {n : Nat} (h : lastB ops n = true) : ops.size = n + 1 ∧ ∀ i, i < n → ∃ j o, i < j ∧ j ≤ n ∧ ops[j]? = some o ∧ ∃ e ∈ o.after, Region.binds .any e = true ∧ e.on = i := by
  unfold lastB at h
  rw [Bool.and_eq_true] at h
  refine ⟨of_decide_eq_true h.1, fun i hi => ?_⟩
  have h2 := List.all_eq_true.1 h.2 i (List.mem_range.2 hi)
  obtain ⟨j, hj, h3⟩ := List.any_eq_true.1 h2
  rw [Bool.and_eq_true] at h3
  have hj := List.mem_range.1 hj
  cases ho : ops[j]? with
  | none => rw [ho] at h3; cases h3.2
  | some o =>
    rw [ho] at h3
    obtain ⟨e, he, h4⟩ := List.any_eq_true.1 h3.2
    rw [Bool.and_eq_true, beq_iff_eq] at h4
    exact ⟨j, o, of_decide_eq_true h3.1, by omega, ho, e, by simpa using he, h4⟩
theorem wp_region_lastR {P : Program} {ops : Array Oper} {Q : Exit → Act → World → Prop} {id : Nat} {a : Act} {w : World} (rel : World → World → Prop) (rtrans : ∀ a b c, rel a b → rel b c → rel a c) (rdrew : rel w w.drew) (n : Nat) (hsz : decide (a.tmps.size ≤ 100000) = true) (hm : P.follows .mixedOrders = true) (D : List Nat) (use : List (List Nat)) (hc : phiB ops D use = true) (hl1 : lastB ops n = true) (Φ : List (Value → World → Prop))
    (stable : ∀ i v W W', (Φ.getD i (fun _ _ => True)) v W → rel W W' → (Φ.getD i (fun _ _ => True)) v W')
    (step : ∀ f W A, A = putAll a D f → rel w W → ∀ i o, i < n → ops[i]? = some o → (∀ j ∈ use.getD i [], (Φ.getD j (fun _ _ => True)) (f j) W) →
      ∀ K : Act → World → Prop, (∀ v W', rel W W' → (Φ.getD i (fun _ _ => True)) v W' → K (A.put o.dst v) W') → if Region.wanted o (yielded ops A.tmps) = true then Oper.wp P o A W K Q else K (A.put o.dst undef) W)
    (last : ∀ f W A, A = putAll a D f → rel w W → (∀ j, j < n → (Φ.getD j (fun _ _ => True)) (f j) W) → ∀ o, ops[n]? = some o →
      ∀ K : Act → World → Prop, (∀ A' W', Q .normal A' W' → K A' W') → if Region.wanted o (yielded ops A.tmps) = true then Oper.wp P o A W K Q else K (A.put o.dst undef) W) : (Code.region id ops true).wp P Q a w := by
  obtain ⟨hl, hnd, hsp⟩ := phi_spec hc
  obtain ⟨hs1, hwait⟩ := last_spec hl1
  have main : ∀ (fuel : Nat) (p : List Bool) (A : Act) (W : World) (f : Nat → Value), p.length = ops.size → p.count false ≤ fuel → A = putAll a D f → rel w W → p.getD n false = false →
      (∀ j o, ops[j]? = some o → p.getD j false = true → ∀ e ∈ o.after, Region.binds .any e = true → p.getD e.on false = true) → (∀ j, j < ops.size → p.getD j false = true → (Φ.getD j (fun _ _ => True)) (f j) W) → wpAny P .any ops Q fuel p.toArray A W := by
    have hcl : ∀ p : List Bool, p.length = ops.size → (∀ j o, ops[j]? = some o → p.getD j false = true → ∀ e ∈ o.after, Region.binds .any e = true → p.getD e.on false = true) → n ∈ Region.ready .any ops p.toArray → ∀ k i, n - i ≤ k → i < n → p.getD i false = true := by
      intro p hp hcl hr k
      obtain ⟨_, on, hon, hall⟩ := mem_ready.1 hr
      induction k with
      | zero => intro i h1 h2; omega
      | succ k ih =>
        intro i h1 h2
        obtain ⟨j, o, hij, hjn, ho, e, he, hb, hei⟩ := hwait i h2
        rcases Nat.lt_or_ge j n with hj | hj
        · have := hcl j o ho (ih j (by omega) hj) e he hb
          rwa [hei] at this
        · obtain rfl : j = n := by omega
          have e1 : on = o := Option.some.inj (hon.symm.trans ho)
          subst e1
          have := hall e he hb
          rw [hei] at this
          simpa [List.getD_eq_getElem?_getD] using this
    have hsome : ∀ p : List Bool, p.length = ops.size → p.getD n false = false → Region.ready .any ops p.toArray ≠ [] := by
      intro p hp hn hr
      have hdone : ∀ j, j < ops.size → p.getD j false = true := by
        intro j
        induction j using Nat.strongRecOn with
        | ind j ih =>
          intro hj
          cases hq : p.getD j false with
          | true => rfl
          | false =>
            exfalso
            obtain ⟨o, ho⟩ : ∃ o, ops[j]? = some o := ⟨ops[j], by simp [hj]⟩
            have : j ∈ Region.ready .any ops p.toArray := by
              refine mem_ready.2 ⟨?_, o, ho, fun e he hb => ?_⟩
              · have hj' : j < p.length := by omega
                simpa [List.getD_eq_getElem?_getD, hj'] using hq
              · have h1 := ih e.on ((hsp j o ho).2.1 e he hb) (by have := (hsp j o ho).2.1 e he hb; omega)
                have he' : e.on < p.length := by have := (hsp j o ho).2.1 e he hb; omega
                simpa [List.getD_eq_getElem?_getD, he'] using h1
            rw [hr] at this
            cases this
      rw [hdone n (by omega)] at hn
      cases hn
    intro fuel
    induction fuel with
    | zero =>
      intro p A W f hp hf hA hg hn hC hI
      exfalso
      have : p.count false ≠ 0 := by
        intro h0
        have := List.count_eq_zero.1 h0
        apply this
        have hnl : n < p.length := by omega
        rw [List.getD_eq_getElem?_getD, List.getElem?_eq_getElem hnl, Option.getD_some] at hn
        rw [← hn]; exact List.getElem_mem hnl
      omega
    | succ fuel ih =>
      intro p A W f hp hf hA hg hn hC hI
      refine ⟨fun hr => absurd hr (hsome p hp hn), fun i hi => ?_⟩
      obtain ⟨hun, o, ho, hall⟩ := mem_ready.1 hi
      have hil : i < ops.size := (Array.getElem?_eq_some_iff.1 ho).1
      have hun' : p.getD i true = false := by simpa [List.getD_eq_getElem?_getD] using hun
      by_cases hin : i = n
      · subst hin
        have hall' := hcl p hp hC hi (i + 1)
        refine wpOp_step ho fun K' hK => ?_
        refine last f W A hA hg (fun j hj => hI j (by omega) (hall' j (by omega) hj)) o ho K' fun A' W' hq => hK _ _ ?_
        rw [List.setIfInBounds_toArray]
        have hdn : Region.ready .any ops (p.set i true).toArray = [] := by
          rw [List.eq_nil_iff_forall_not_mem]
          intro j hj
          have h1 := (mem_ready.1 hj).1
          obtain ⟨_, oj, hoj, _⟩ := mem_ready.1 hj
          have hjl : j < ops.size := (Array.getElem?_eq_some_iff.1 hoj).1
          have h2 : (p.set i true).getD j true = false := by simpa [List.getD_eq_getElem?_getD] using h1
          rw [List.getD_eq_getElem?_getD, List.getElem?_set] at h2
          by_cases hji : i = j
          · subst hji
            rw [if_pos rfl, if_pos (by omega)] at h2
            cases h2
          · rw [if_neg hji] at h2
            have h3 := hall' j (by omega) (by omega)
            have hjp : j < p.length := by omega
            rw [List.getD_eq_getElem?_getD, List.getElem?_eq_getElem hjp, Option.getD_some] at h3
            rw [List.getElem?_eq_getElem hjp, Option.getD_some, h3] at h2
            cases h2
        cases fuel with
        | zero => exact ⟨hdn, hq⟩
        | succ fuel => exact ⟨fun _ => hq, fun j hj => by rw [hdn] at hj; cases hj⟩
      · refine wpOp_step ho fun K' hK => ?_
        refine step f W A hA hg i o (by omega) ho (fun j hj => ?_) K' fun v W' hg' hv => hK _ _ ?_
        · obtain ⟨e, he, hb, rfl⟩ := (hsp i o ho).2.2 j hj
          have h1 := hall e he hb
          have h2 := (hsp i o ho).2.1 e he hb
          refine hI _ (by omega) ?_
          simpa [List.getD_eq_getElem?_getD] using h1
        · rw [List.setIfInBounds_toArray]
          have hset : ∀ j, (p.set i true).getD j false = true → j = i ∨ p.getD j false = true := by
            intro j hj
            by_cases hji : j = i
            · exact .inl hji
            · right
              rw [List.getD_eq_getElem?_getD, List.getElem?_set, if_neg (fun e => hji e.symm)] at hj
              rw [List.getD_eq_getElem?_getD]; exact hj
          have hset2 : ∀ j, p.getD j false = true → (p.set i true).getD j false = true := by
            intro j hj
            rw [List.getD_eq_getElem?_getD, List.getElem?_set]
            by_cases hji : i = j
            · rw [if_pos hji, if_pos (by omega)]; rfl
            · rw [if_neg hji]; rw [List.getD_eq_getElem?_getD] at hj; exact hj
          refine ih (p.set i true) _ W' (fun j => if j = i then v else f j) (by simpa using hp) (by have := cnt_set p i hun'; omega) ?_ (rtrans _ _ _ hg hg') ?_ ?_ ?_
          · rcases (hsp i o ho).1 with hd | ⟨hd, hd2⟩
            · rw [hA, hd]; exact put_putAll hnd (by omega) v
            · rw [hA, hd]
              exact put_none hnd (by omega) (Nat.le_trans (of_decide_eq_true hsz) hd2) v
          · rw [List.getD_eq_getElem?_getD, List.getElem?_set, if_neg hin]
            rw [List.getD_eq_getElem?_getD] at hn; exact hn
          · intro j oj hoj hpj e he hb
            rcases hset j hpj with rfl | hpj
            · have e1 : o = oj := Option.some.inj (ho.symm.trans hoj)
              subst e1
              have h1 := hall e he hb
              exact hset2 _ (by simpa [List.getD_eq_getElem?_getD] using h1)
            · exact hset2 _ (hC j oj hoj hpj e he hb)
          · intro j hj hpj
            by_cases hji : j = i
            · subst hji; simp only [if_true]; exact hv
            · simp only [hji, if_false]
              rcases hset j hpj with h1 | h1
              · exact absurd h1 hji
              · exact stable _ _ _ _ (hI j hj h1) hg'
  refine wp_region_any hm ?_
  obtain ⟨f, hf⟩ := putAll_self a D
  have hrep : ∀ j, (List.replicate ops.size false).getD j false = false := fun j => by
    simp only [List.getD_eq_getElem?_getD, List.getElem?_replicate]; split <;> rfl
  have := main ops.size (List.replicate ops.size false) a w.drew f (by simp) (by simp) hf.symm rdrew (hrep n) (fun j o _ h => by rw [hrep] at h; cases h) (fun j _ h => by rw [hrep] at h; cases h)
  rw [List.toArray_replicate] at this
  exact this
end Go.Proofs.YtcdgfghcmeadgaaDoor
namespace Go.Proofs.YtcdgfghcmeadgaaDoor
open Go.RowKit
set_option linter.unusedVariables false

theorem ev_in {a A : Act} {D : List Nat} {f : Nat → Value} (hA : A = putAll a D f) (s i : Nat) (h1 : decide (s ∈ D) = true) (h2 : D.idxOf s = i) (h3 : decide (s < a.tmps.size) = true) : A.eval (.tmp s) = f i := by
  have h1 := of_decide_eq_true h1
  have h3 := of_decide_eq_true h3
  subst hA h2
  show (putL D f 0 a.tmps.toList).toArray.getD s undef = _
  rw [Array.getD_eq_getD_getElem?, List.getElem?_toArray, putL_get, Nat.zero_add]
  simp [h1, h3]
theorem ev_out {a A : Act} {D : List Nat} {f : Nat → Value} (hA : A = putAll a D f) (s : Nat) (h1 : decide (s ∈ D) = false) : A.eval (.tmp s) = a.eval (.tmp s) := by
  have h1 := of_decide_eq_false h1
  subst hA
  show (putL D f 0 a.tmps.toList).toArray.getD s undef = a.tmps.getD s undef
  rw [Array.getD_eq_getD_getElem?, List.getElem?_toArray, putL_get, Nat.zero_add, Array.getD_eq_getD_getElem?]
  simp [h1]
theorem tmps_in {a A : Act} {D : List Nat} {f : Nat → Value} (hA : A = putAll a D f) {s : Nat} (h3 : decide (s < a.tmps.size) = true) {v : Value} (hv : A.eval (.tmp s) = v) : A.tmps[s]? = some v := by
  have h3 := of_decide_eq_true h3
  have hl : s < A.tmps.size := by
    subst hA
    show s < (putL D f 0 a.tmps.toList).toArray.size
    rw [List.size_toArray, putL_len, Array.length_toList]; exact h3
  have : A.tmps.getD s undef = v := hv
  rw [Array.getD_eq_getD_getElem?, Array.getElem?_eq_getElem hl, Option.getD_some] at this
  rw [Array.getElem?_eq_getElem hl, this]
theorem wanted_in {ops : Array Oper} {o : Oper} {a A : Act} {D : List Nat} {f : Nat → Value} (hA : A = putAll a D f) (j : Nat) (b : Bool) (hg : o.guard = some (j, b)) (s : Nat) (hd : ((ops[j]?).bind (·.dst)) = some s) (h3 : decide (s < a.tmps.size) = true) (hv : A.eval (.tmp s) = .bool b) : Region.wanted o (yielded ops A.tmps) = true := by
  simp [Region.wanted, hg, yielded, hd, tmps_in hA h3 hv]
theorem wanted_out {ops : Array Oper} {o : Oper} {a A : Act} {D : List Nat} {f : Nat → Value} (hA : A = putAll a D f) (j : Nat) (b : Bool) (hg : o.guard = some (j, b)) (s : Nat) (hd : ((ops[j]?).bind (·.dst)) = some s) (h3 : decide (s < a.tmps.size) = true) (hv : A.eval (.tmp s) = .bool (!b)) : Region.wanted o (yielded ops A.tmps) = false := by
  cases b <;> simp [Region.wanted, hg, yielded, hd, tmps_in hA h3 hv]
theorem ph_skip {P : Program} {ops : Array Oper} {o : Oper} {A : Act} {W : World} {K : Act → World → Prop} {Q : Exit → Act → World → Prop} (h : Region.wanted o (yielded ops A.tmps) = false) (k : K (A.put o.dst undef) W) : if Region.wanted o (yielded ops A.tmps) = true then Oper.wp P o A W K Q else K (A.put o.dst undef) W := by
  rw [if_neg (by rw [h]; exact Bool.false_ne_true)]
  exact k
theorem ph_sem {P : Program} {ops : Array Oper} {o : Oper} {A : Act} {W : World} {K : Act → World → Prop} {Q : Exit → Act → World → Prop} {E : Prop} {ρ : Operand → Value} (hρ : A.eval = ρ) (hwt : Region.wanted o (yielded ops A.tmps) = true) {r : Result Next} (hr : (execOp ρ o).run P W = r) (h : o.upon P A K Q r) :
    if Region.wanted o (yielded ops A.tmps) = true then Oper.wp P o A W K Q else E := by
  rw [if_pos hwt]
  unfold Oper.wp
  rw [hρ, hr]
  exact h
theorem ph_load {P : Program} {ops : Array Oper} {o : Oper} {A : Act} {W : World} {K : Act → World → Prop} {Q : Exit → Act → World → Prop} {E : Prop} (hwt : Region.wanted o (yielded ops A.tmps) = true) (T : TypeId) (x : Operand) (ho : o.op = .load T x)
    {d : TypeDesc} (hu : P.underlying T = some d) (hd : d.isRow = true) (b off : Nat) (cs : List Value) (hi : (P.info? T).map (·.size) = some cs.length) (hx : A.eval x = .pointer (some ⟨b, off, none⟩)) (h : W.rangeAt b off cs)
    (k : K (A.put o.dst (.agg cs.toArray)) W) : if Region.wanted o (yielded ops A.tmps) = true then Oper.wp P o A W K Q else E := by
  rw [if_pos hwt]
  exact wp_load_mid T x ho b off hx cs d h hu hd hi k
theorem ph_call {P : Program} {ops : Array Oper} {o : Oper} {A : Act} {W : World} {K : Act → World → Prop} {Q : Exit → Act → World → Prop} {E : Prop} {ρ : Operand → Value} (hρ : A.eval = ρ) (hwt : Region.wanted o (yielded ops A.tmps) = true) {f : FuncId} {args : Array Value} (hr : (execOp ρ o).run P W = .ok (.enter f args) W)
    (h : Calls P f args W fun e W' => ∃ v, e = .returned v ∧ K (A.put o.dst v) W') : if Region.wanted o (yielded ops A.tmps) = true then Oper.wp P o A W K Q else E := by
  refine ph_sem hρ hwt hr ?_
  refine Calls.mono h ?_
  rintro e W' ⟨v, rfl, hk⟩
  exact hk
section
variable {P : Program} {ops : Array Oper} {o : Oper} {A : Act} {W : World} {K : Act → World → Prop} {Q : Exit → Act → World → Prop} {E : Prop}
theorem ph_move (x : Operand) (ho : o.op = .move x) (hwt : Region.wanted o (yielded ops A.tmps) = true) (v : Value) (hx : A.eval x = v) (k : K (A.put o.dst v) W) : if Region.wanted o (yielded ops A.tmps) = true then Oper.wp P o A W K Q else E :=
  ph_sem rfl hwt (r := .ok (.value v) W) (by simp [execOp, ho, hx]) k
theorem ph_assign (x : Operand) (ho : o.op = .assign x) (hwt : Region.wanted o (yielded ops A.tmps) = true) (v : Value) (hx : A.eval x = v) (k : K (A.put o.dst v) W) : if Region.wanted o (yielded ops A.tmps) = true then Oper.wp P o A W K Q else E :=
  ph_sem rfl hwt (r := .ok (.value v) W) (by simp [execOp, ho, hx]) k
theorem ph_nil (x : Operand) (ho : o.op = .nilCheck x) (hwt : Region.wanted o (yielded ops A.tmps) = true) (ad : Addr) (hx : A.eval x = .pointer (some ad)) (k : K (A.put o.dst (.pointer (some ad))) W) : if Region.wanted o (yielded ops A.tmps) = true then Oper.wp P o A W K Q else E :=
  ph_sem rfl hwt (r := .ok (.value (.pointer (some ad))) W) (by simp [execOp, ho, hx]) k
theorem ph_field (T : TypeId) (x : Operand) (j : Nat) (ho : o.op = .fieldAddr T x j) (hwt : Region.wanted o (yielded ops A.tmps) = true) (u v : Value) (hx : A.eval x = u) (hr : (Instr.fieldAt T u j).run P W = .ok v W) (k : K (A.put o.dst v) W) : if Region.wanted o (yielded ops A.tmps) = true then Oper.wp P o A W K Q else E :=
  ph_sem rfl hwt (r := .ok (.value v) W) (by simp [execOp, ho, hx, hr]) k
theorem ph_pick (c x y : Operand) (ho : o.op = .pick c x y) (hwt : Region.wanted o (yielded ops A.tmps) = true) (b : Bool) (u v : Value) (hc : A.eval c = .bool b) (hx : A.eval x = u) (hy : A.eval y = v) (k : K (A.put o.dst (if b = true then u else v)) W) : if Region.wanted o (yielded ops A.tmps) = true then Oper.wp P o A W K Q else E :=
  ph_sem rfl hwt (r := .ok (.value (if b = true then u else v)) W) (by simp [execOp, ho, hc, hx, hy, asBool]) k
theorem ph_fn (g : FuncId) (args : Array Operand) (ty : Array TypeId) (ho : o.op = .call { callee := .value (.func g), args := args, argTypes := ty }) (hwt : Region.wanted o (yielded ops A.tmps) = true) (vs : Array Value) (hv : args.map A.eval = vs) (hc : (callFunc g vs).run P W = .ok (.enter g vs) W)
    (h : Calls P g vs W fun e W' => ∃ v, e = .returned v ∧ K (A.put o.dst v) W') : if Region.wanted o (yielded ops A.tmps) = true then Oper.wp P o A W K Q else E :=
  ph_call rfl hwt (f := g) (args := vs) (by
    have e1 : A.eval (.func g) = .func (.func g) #[] #[] := rfl
    simp [execOp, ho, resolve, Deferred.ofValue, invoke, e1, hv, hc]) h
theorem ph_inv (x : Operand) (name : String) (ty : Array TypeId) (ho : o.op = .call { callee := .invoke x name, args := #[], argTypes := ty }) (hwt : Region.wanted o (yielded ops A.tmps) = true) (u : Value) (hx : A.eval x = u) (g : FuncId) (vs : Array Value) (hc : (callMethod u name #[]).run P W = .ok (.enter g vs) W)
    (h : Calls P g vs W fun e W' => ∃ v, e = .returned v ∧ K (A.put o.dst v) W') : if Region.wanted o (yielded ops A.tmps) = true then Oper.wp P o A W K Q else E :=
  ph_call rfl hwt (f := g) (args := vs) (by
    simp [execOp, ho, resolve, invoke, hx, hc]) h
end
theorem putAll_lit {a : Act} {D : List Nat} {f : Nat → Value} (cs : List Value) (h : ∀ j, j < D.length → f j = cs.getD j undef) : putAll a D f = putAll a D (fun j => cs.getD j undef) := by
  have e : putL D f 0 a.tmps.toList = putL D (fun j => cs.getD j undef) 0 a.tmps.toList := by
    apply List.ext_getElem?
    intro k
    rw [putL_get, putL_get]
    congr 1
    funext x
    by_cases hm : 0 + k ∈ D
    · rw [if_pos hm, if_pos hm]
      exact h _ (List.idxOf_lt_length_of_mem hm)
    · rw [if_neg hm, if_neg hm]
  unfold putAll
  rw [e]
theorem ret_ph {P : Program} {fn : Func} {R : Ending → World → Prop} {a A : Act} {D : List Nat} {f : Nat → Value} {W : World} {v : Value} (hA : A = putAll a D f) (s : Tmp) (hr : fn.results = #[.tmp s]) (hd : a.defers = []) (hv : A.eval (.tmp s) = v) (h : R (.returned v) W) : bodyPost P fn R .ret A W := by
  refine bodyPost_ret (v := v) ?_ (by rw [hA]; exact hd) h
  rw [results_tmp hr]
  rw [← hv]; rfl
theorem ph_store {P : Program} {ops : Array Oper} {o : Oper} {A : Act} {W : World} {K : Act → World → Prop} {Q : Exit → Act → World → Prop} {E : Prop} (T : TypeId) (x y : Operand) (ho : o.op = .store T x y) (hwt : Region.wanted o (yielded ops A.tmps) = true) (ad : Addr) (v : Value) (hx : A.eval x = .pointer (some ad)) (hy : A.eval y = v) (W' : World) (hst : (storeVar T ad v).run P W = .ok () W') (k : K (A.put o.dst undef) W') :
    if Region.wanted o (yielded ops A.tmps) = true then Oper.wp P o A W K Q else E :=
  ph_sem rfl hwt (r := .ok .skip W') (by simp [execOp, ho, hx, hy, Instr.storeAt, Instr.sureAddr, hst]) k
theorem bk_store {P : Program} {T : TypeId} {W : World} {b n : Nat} {cs es : Array Value} (hi : (P.info? T).map (·.size) = some n) (h : Bk T W b cs) (hl : cs.size = n) (hl2 : es.size = n) (h1 : es.all (·.oneCell') = true) : ∃ W', (storeVar T ⟨b, 0, none⟩ (.agg es)).run P W = .ok () W' ∧ Bk T W' b es ∧ W.grownBy W' (some b) := by
  have hst := run_storeVar_row (P := P) W b T T cs es h (by rw [hi, hl2]) (by rw [hl, hl2]) h1
  refine ⟨_, hst, ?_, ?_⟩
  · unfold Bk World.setRow
    simp only [Array.getElem?_modify]
    rw [if_pos trivial, h]; rfl
  · exact ⟨rfl, rfl, rfl, by simp [World.setRow], fun k _ hk => setRow_other W b k _ (fun e => hk (by rw [e]))⟩
theorem wr64 (x : Int) (h : -9223372036854775808 ≤ x ∧ x ≤ 9223372036854775807) : IntKind.i64.wrap x = x := by
  have h1 : IntKind.i64.wrap x = wrap64 x := by simp [wrap64, IntKind.wrap, IntKind.signed, IntKind.bits]; try omega
  rw [h1]; exact IntWalk.wrap64_in x h
theorem gb_rr (W : World) (row : Option Nat) : W.grownBy W row := ⟨rfl, rfl, rfl, Nat.le_refl _, fun _ _ _ => rfl⟩
end Go.Proofs.YtcdgfghcmeadgaaDoor
namespace Go.Proofs.YtcdgfghcmeadgaaDoor
open Go.RowKit
set_option linter.unusedVariables false

theorem gbO {a b : World} (h : a.grownBy b none) : Below a.heap.size a b := ⟨h.os, h.tape, h.output, h.size, fun i hi => h.block i hi (fun e => by cases e)⟩
set_option maxRecDepth 20000 in
set_option maxHeartbeats 1000000 in
theorem ijoined_c (O : Nat → Prop) (k : Option Addr) (L : List (List Int)) (a : Option Addr) (n c : Nat) (zs : List Int) (w : World) (h : Chn O w k L) (hs : Seg .u8 w a n zs) (hnz : a = none → c = 0) (hnc : n ≤ c) (hb : (chB L).length + n ≤ 70368744177664) :
    Calls Tryd.prog 93 #[.pointer k, .slice a n c] w fun r w' => ∃ a' n' c', r = .returned (.slice a' n' c') ∧ Seg .u8 w' a' n' (chB L ++ zs) ∧ (a' = none → c' = 0) ∧ n' ≤ c' ∧ w.grownBy w' none := by
  cases L with
  | nil =>
    obtain rfl : k = none := h
    have HS : Hid (Seg .u8 w a n (chB [] ++ zs)) := hs
    clear hs
    go_enter Tryd.func93, Tryd.ntmps93
    go_wp2
    go_ret
    exact ⟨a, n, c, rfl, HS.out, hnz, hnc, World.grownBy.refl _ _⟩
  | cons xs L =>
    have HC : Hid (Chn (fun b => O b ∧ b < w.heap.size) w k (xs :: L)) := h.strong _
    obtain ⟨b, p, a2, c2, rfl, h2, h3, h4, h5, h6, h7, h8⟩ := h
    obtain ⟨all, hall⟩ : ∃ all, all = chB (xs :: L) := ⟨_, rfl⟩
    obtain ⟨T, hT⟩ : ∃ T, T = all.length := ⟨_, rfl⟩
    have k2 : w.cell? ⟨b, 2, none⟩ = some (.int .i64 (T : Int)) := by rw [hT, hall]; exact h3.cell 2
    have HK2' : ∀ W, w.grownBy W none → W.cell? ⟨b, 2, none⟩ = some (.int .i64 (T : Int)) := fun W hg => by rw [hT, hall]; exact (h3.grew hg (by simp)).cell 2
    rw [← hall] at hb ⊢
    rw [← hT] at hb
    obtain ⟨C, hCe⟩ : ∃ C, C = T + n := ⟨_, rfl⟩
    have hsum : (T : Int) + (n : Int) = (C : Int) := by omega
    obtain ⟨i0, hi, hz0, hz1, hz2⟩ := info_parts Tryd.infoU8
    obtain ⟨Z, hZ⟩ : ∃ Z, Z = ((List.replicate C (0 : Int)).map (Value.int .u8)).toArray := ⟨_, rfl⟩
    have hmk : Hid (∀ W, (Instr.makeSlice 27 (.int .i64 (T : Int)) (.int .i64 (C : Int))).run Tryd.prog W = .ok (.slice (some ⟨W.heap.size, 0, none⟩) T C) (W.alloc (.cells Z 5))) := fun W => by
      have := run_make (P := Tryd.prog) W 27 5 i0 (.int .u8 0) Tryd.underlying27 hi hz0 .i64 .i64 (T : Int) (C : Int) (by omega) (by omega) (by rw [hz2]; omega) (by omega)
      rw [this, hZ]
      simp only [Int.toNat_natCast, hz1, Nat.mul_one]
      have e : madeCells (Value.int .u8 0).cells C = ((List.replicate C (0 : Int)).map (Value.int .u8)).toArray := by
        apply Array.toList_inj.1
        rw [List.map_replicate]; simpa [Value.cells] using toList_madeCells_one (.int .u8 0) C
      rw [e]
    have HZ : Hid (∀ W : World, Row .u8 5 (W.alloc (.cells Z 5)) W.heap.size (List.replicate C 0)) := fun W => by rw [hZ]; exact heap_new W _
    have HS : Hid (Seg .u8 w a n zs ∧ (a = none → c = 0)) := ⟨hs, hnz⟩
    have HT : Hid (T = all.length ∧ C = T + n ∧ all = chB (xs :: L) ∧ C ≤ 70368744177664) := ⟨hT, hCe, hall, by omega⟩
    clear h2 h3 h4 h5 h6 h7 h8 hs hnz hZ hT hCe hall hnc
    have HSU : Hid ((T : Int) + (n : Int) = (C : Int) ∧ wrap64 (C : Int) = (C : Int) ∧ IntKind.i64.wrap (C : Int) = (C : Int)) := ⟨hsum, IntWalk.wrap64_in _ (by have := HT.out.2.2.2; exact ⟨by omega, by omega⟩), IntWalk.i64_in _ (by have := HT.out.2.2.2; exact ⟨by omega, by omega⟩)⟩
    have HK2 : Hid (∀ W, w.grownBy W none → W.cell? ⟨b, 2, none⟩ = some (.int .i64 (T : Int))) := HK2'
    clear hsum k2
    go_enter Tryd.func93, Tryd.ntmps93
    go_wp2_with fail
    clear HK2'
    refine wp_region_phi none rfl (by kernel_rfl) [9, 10, 11, 12, 13, 14, 15, 16, 17, 18, 19, 20, 5] [[], [0], [1], [2], [], [4], [5], [6], [], [8], [7, 9], [3, 10], [11]] (by kernel_rfl) [fun u W => u = .pointer (some ⟨b, 0, none⟩), fun u W => u = .pointer (some ⟨b, 0, none⟩), fun u W => u = .pointer (some ⟨b, 2, none⟩), fun u W => u = .int .i64 (T : Int), fun u W => u = .pointer (some ⟨b, 0, none⟩), fun u W => u = .pointer (some ⟨b, 0, none⟩), fun u W => u = .pointer (some ⟨b, 2, none⟩), fun u W => u = .int .i64 (T : Int), fun u W => u = .slice a n c, fun u W => u = .int .i64 (n : Int), fun u W => u = .int .i64 (C : Int), fun u W => ∃ N, u = .slice (some ⟨N, 0, none⟩) T C ∧ w.heap.size ≤ N ∧ Row .u8 5 W N (List.replicate C 0), fun u W => ∃ N, u = .slice (some ⟨N, 0, none⟩) T C ∧ w.heap.size ≤ N ∧ Row .u8 5 W N (List.replicate C 0)] ?stable ?step ?fin
    case stable =>
      intro i v W W' h hg
      match i, h with
      | 0, h => exact h
      | 1, h => exact h
      | 2, h => exact h
      | 3, h => exact h
      | 4, h => exact h
      | 5, h => exact h
      | 6, h => exact h
      | 7, h => exact h
      | 8, h => exact h
      | 9, h => exact h
      | 10, h => exact h
      | 11, h => obtain ⟨N, h1, h2, h3⟩ := h; exact ⟨N, h1, h2, row_new h3 hg⟩
      | 12, h => obtain ⟨N, h1, h2, h3⟩ := h; exact ⟨N, h1, h2, row_new h3 hg⟩
      | i + 13, h => exact trivial
    case step =>
      intro f W A hA hg i o ho hu K hK
      match i, ho, hu, hK with
      | 0, ho, hu, hK =>
        cases ho
        have e0 : A.eval (.tmp 0) = .pointer (some ⟨b, 0, none⟩) := ev_out hA 0 rfl
        exact ph_move _ rfl rfl (.pointer (some ⟨b, 0, none⟩)) e0 (hK _ _ (gb_rr W _) rfl)
      | 1, ho, hu, hK =>
        cases ho
        have e9 : A.eval (.tmp 9) = .pointer (some ⟨b, 0, none⟩) := (ev_in hA 9 0 rfl rfl rfl).trans (show f 0 = .pointer (some ⟨b, 0, none⟩) from hu 0 (by decide))
        exact ph_nil _ rfl rfl _ e9 (hK _ _ (gb_rr W _) rfl)
      | 2, ho, hu, hK =>
        cases ho
        have e10 : A.eval (.tmp 10) = .pointer (some ⟨b, 0, none⟩) := (ev_in hA 10 1 rfl rfl rfl).trans (show f 1 = .pointer (some ⟨b, 0, none⟩) from hu 1 (by decide))
        exact ph_field _ _ _ rfl rfl _ (.pointer (some ⟨b, 2, none⟩)) e10 (by kernel_rfl) (hK _ _ (gb_rr W _) rfl)
      | 3, ho, hu, hK =>
        cases ho
        have e11 : A.eval (.tmp 11) = .pointer (some ⟨b, 2, none⟩) := (ev_in hA 11 2 rfl rfl rfl).trans (show f 2 = .pointer (some ⟨b, 2, none⟩) from hu 2 (by decide))
        have hc : W.cell? ⟨b, 2, none⟩ = some (.int .i64 (T : Int)) := HK2.out W hg
        refine ph_sem rfl rfl (r := .ok (.value (.int .i64 (T : Int))) W) ?_ (hK _ _ (gb_rr W _) rfl)
        have eC : ∀ c, A.eval (.const c) = c := fun _ => rfl; have eF : ∀ g, A.eval (.func g) = .func (.func g) #[] #[] := fun _ => rfl; generalize A.eval = ρ at *
        clear hA hu hg
        go_simp
      | 4, ho, hu, hK =>
        cases ho
        have e0 : A.eval (.tmp 0) = .pointer (some ⟨b, 0, none⟩) := ev_out hA 0 rfl
        exact ph_move _ rfl rfl (.pointer (some ⟨b, 0, none⟩)) e0 (hK _ _ (gb_rr W _) rfl)
      | 5, ho, hu, hK =>
        cases ho
        have e13 : A.eval (.tmp 13) = .pointer (some ⟨b, 0, none⟩) := (ev_in hA 13 4 rfl rfl rfl).trans (show f 4 = .pointer (some ⟨b, 0, none⟩) from hu 4 (by decide))
        exact ph_nil _ rfl rfl _ e13 (hK _ _ (gb_rr W _) rfl)
      | 6, ho, hu, hK =>
        cases ho
        have e14 : A.eval (.tmp 14) = .pointer (some ⟨b, 0, none⟩) := (ev_in hA 14 5 rfl rfl rfl).trans (show f 5 = .pointer (some ⟨b, 0, none⟩) from hu 5 (by decide))
        exact ph_field _ _ _ rfl rfl _ (.pointer (some ⟨b, 2, none⟩)) e14 (by kernel_rfl) (hK _ _ (gb_rr W _) rfl)
      | 7, ho, hu, hK =>
        cases ho
        have e15 : A.eval (.tmp 15) = .pointer (some ⟨b, 2, none⟩) := (ev_in hA 15 6 rfl rfl rfl).trans (show f 6 = .pointer (some ⟨b, 2, none⟩) from hu 6 (by decide))
        have hc : W.cell? ⟨b, 2, none⟩ = some (.int .i64 (T : Int)) := HK2.out W hg
        refine ph_sem rfl rfl (r := .ok (.value (.int .i64 (T : Int))) W) ?_ (hK _ _ (gb_rr W _) rfl)
        have eC : ∀ c, A.eval (.const c) = c := fun _ => rfl; have eF : ∀ g, A.eval (.func g) = .func (.func g) #[] #[] := fun _ => rfl; generalize A.eval = ρ at *
        clear hA hu hg
        go_simp
      | 8, ho, hu, hK =>
        cases ho
        have e1 : A.eval (.tmp 1) = .slice a n c := ev_out hA 1 rfl
        exact ph_move _ rfl rfl (.slice a n c) e1 (hK _ _ (gb_rr W _) rfl)
      | 9, ho, hu, hK =>
        cases ho
        have e17 : A.eval (.tmp 17) = .slice a n c := (ev_in hA 17 8 rfl rfl rfl).trans (show f 8 = .slice a n c from hu 8 (by decide))
        refine ph_sem rfl rfl (r := .ok (.value (.int .i64 (n : Int))) W) ?_ (hK _ _ (gb_rr W _) rfl)
        have eC : ∀ c, A.eval (.const c) = c := fun _ => rfl; have eF : ∀ g, A.eval (.func g) = .func (.func g) #[] #[] := fun _ => rfl; generalize A.eval = ρ at *
        clear hA hu hg hK
        go_simp
      | 10, ho, hu, hK =>
        cases ho
        have e16 : A.eval (.tmp 16) = .int .i64 (T : Int) := (ev_in hA 16 7 rfl rfl rfl).trans (show f 7 = .int .i64 (T : Int) from hu 7 (by decide))
        have e18 : A.eval (.tmp 18) = .int .i64 (n : Int) := (ev_in hA 18 9 rfl rfl rfl).trans (show f 9 = .int .i64 (n : Int) from hu 9 (by decide))
        have hsum := HSU.out.1
        have hw64 := HSU.out.2.1
        have hwr := HSU.out.2.2
        refine ph_sem rfl rfl (r := .ok (.value (.int .i64 (C : Int))) W) ?_ (hK _ _ (gb_rr W _) rfl)
        have eC : ∀ c, A.eval (.const c) = c := fun _ => rfl; have eF : ∀ g, A.eval (.func g) = .func (.func g) #[] #[] := fun _ => rfl; generalize A.eval = ρ at *
        clear hA hu hg hK
        go_simp
      | 11, ho, hu, hK =>
        cases ho
        have e12 : A.eval (.tmp 12) = .int .i64 (T : Int) := (ev_in hA 12 3 rfl rfl rfl).trans (show f 3 = .int .i64 (T : Int) from hu 3 (by decide))
        have e19 : A.eval (.tmp 19) = .int .i64 (C : Int) := (ev_in hA 19 10 rfl rfl rfl).trans (show f 10 = .int .i64 (C : Int) from hu 10 (by decide))
        have hm := hmk.out W
        refine ph_sem rfl rfl (r := .ok (.value (.slice (some ⟨W.heap.size, 0, none⟩) T C)) (W.alloc (.cells Z 5))) ?_ (hK _ _ (World.grownBy_alloc _ _ _) ⟨_, rfl, hg.size, HZ.out W⟩)
        have eC : ∀ c, A.eval (.const c) = c := fun _ => rfl; have eF : ∀ g, A.eval (.func g) = .func (.func g) #[] #[] := fun _ => rfl; generalize A.eval = ρ at *
        clear hA hu hg hK
        go_simp
      | 12, ho, hu, hK =>
        cases ho
        obtain ⟨N1, hv11, hN11, hr11⟩ := hu 11 (by decide)
        have e20 : A.eval (.tmp 20) = .slice (some ⟨N1, 0, none⟩) T C := (ev_in hA 20 11 rfl rfl rfl).trans hv11
        exact ph_assign _ rfl rfl _ (e20) (hK _ _ (gb_rr W _) ⟨N1, rfl, hN11, hr11⟩)
      | i + 13, ho, hu, hK => simp at ho
    case fin =>
      intro f W A hA hg hu
      obtain ⟨N, hv12, hN12, hr12⟩ := hu 12 (by decide)
      obtain ⟨N1, hv11, hN11, hr11⟩ := hu 11 (by decide)
      have hA2 := hA.trans (putAll_lit [(.pointer (some ⟨b, 0, none⟩)), (.pointer (some ⟨b, 0, none⟩)), (.pointer (some ⟨b, 2, none⟩)), (.int .i64 (T : Int)), (.pointer (some ⟨b, 0, none⟩)), (.pointer (some ⟨b, 0, none⟩)), (.pointer (some ⟨b, 2, none⟩)), (.int .i64 (T : Int)), (.slice a n c), (.int .i64 (n : Int)), (.int .i64 (C : Int)), (.slice (some ⟨N1, 0, none⟩) T C), (.slice (some ⟨N, 0, none⟩) T C)] (by
        intro j hj
        match j, hj with
        | 0, _ => exact hu 0 (by decide)
        | 1, _ => exact hu 1 (by decide)
        | 2, _ => exact hu 2 (by decide)
        | 3, _ => exact hu 3 (by decide)
        | 4, _ => exact hu 4 (by decide)
        | 5, _ => exact hu 5 (by decide)
        | 6, _ => exact hu 6 (by decide)
        | 7, _ => exact hu 7 (by decide)
        | 8, _ => exact hu 8 (by decide)
        | 9, _ => exact hu 9 (by decide)
        | 10, _ => exact hu 10 (by decide)
        | 11, _ => exact hv11
        | 12, _ => exact hv12
        | j + 13, hj => exact absurd hj (by simp)))
      clear hu hA
      subst hA2
      simp only [putAll, putL, List.mem_cons, List.not_mem_nil, List.idxOf_cons, Nat.reduceEqDiff, Nat.reduceBEq, Nat.reduceAdd, or_false, or_true, reduceIte, cond_true, cond_false, List.getD_cons_zero, List.getD_cons_succ, BEq.rfl]
      have H1 : Hid (JI (fun b => O b ∧ b < w.heap.size) w W N C (some ⟨b, 0, none⟩) (xs :: L) all ∧ w.heap.size ≤ N) := ⟨⟨HC.out.keep hg (by simp) _, ⟨List.replicate C 0, [], by simp, by rw [List.append_nil]; exact HT.out.2.2.1, by simp, hr12⟩, hg⟩, hN12⟩
      clear hg hN11 hr11 hN12 hr12 hv11 hv12
      clear hmk HZ HC HK2 HSU
      go_wp2_with fail
      go_loopw [0] (fun v wr => ∃ k L, v = .pointer k ∧ Hid (JI (fun b => O b ∧ b < w.heap.size) w wr N C k L all)) (fun v wr => tAt wr v)
      case atStart => exact ⟨_, _, rfl, H1.out.1⟩
      case round =>
        have HN : Hid (w.heap.size ≤ N) := H1.out.2
        clear H1
        obtain ⟨k, L, rfl, hr⟩ := hrel
        cases L with
        | nil =>
          obtain rfl : k = none := hr.out.1
          have HM : Hid (Mine wr w.heap.size N T C all ∧ Seg .u8 wr a n zs ∧ w.grownBy wr none) := ⟨ji_end hr.out HT.out.1.symm (by have := HT.out.2.1; omega) (by have := HT.out.2.2.2; unfold maxLen; omega) HN.out, HS.out.1.grew hr.out.2.2 (by simp), hr.out.2.2⟩
          have hTn : T + n ≤ 140737488355328 := by have := HT.out; omega
          go_wp2_with (at_builtin; go_must (refine wpList_append_mine _ rfl (.tmp 44) (.tmp 45) 27 rfl 5 i0 Tryd.underlying27 hi hz0 hz1 hz2 w.heap.size N T C all rfl HM.out.1 a n c zs rfl HS.out.2 HM.out.2.1 hTn ?_); intro b' cap' w2 hm hb2; have H2 : Hid (Mine w2 w.heap.size b' (T + n) cap' (all ++ zs) ∧ w.grownBy w2 none) := ⟨hm, below_gbO ((gbO HM.out.2.2).trans hb2)⟩; clear hm hb2)
          go_ret
          first
            | exact ⟨_, _, _, rfl, H2.out.1.seg, (fun h => by cases h), H2.out.1.le, H2.out.2⟩
        | cons ys L =>
          obtain ⟨hch, ⟨X, mid, hX, ha, hm, hrow⟩, hgb⟩ := hr.out
          obtain ⟨b, p, a2, c2, rfl, h2, h3, h4, h5, h6, h7, h8⟩ := hch
          obtain ⟨A0, hA⟩ : ∃ A0, A0 = (chB (ys :: L)).length := ⟨_, rfl⟩
          obtain ⟨P, hP⟩ : ∃ P, P = (chB L).length := ⟨_, rfl⟩
          obtain ⟨m, hmm⟩ : ∃ m, m = ys.length := ⟨_, rfl⟩
          have hAPm : A0 = P + m := by rw [hA, hP, hmm]; exact List.length_append
          have hm0 : 0 < m := by rw [hmm]; exact List.length_pos_iff.2 h4
          have hAT : A0 ≤ T := by have := congrArg List.length ha; rw [List.length_append, ← hA] at this; have := HT.out.1; omega
          have hTC : T ≤ C := by have := HT.out.2.1; omega
          have hTb : C ≤ 70368744177664 := HT.out.2.2.2
          have HKK : Hid (∀ W, wr.grownBy W none → W.cell? ⟨b, 1, none⟩ = some (.slice a2 m c2) ∧ W.cell? ⟨b, 2, none⟩ = some (.int .i64 (A0 : Int))) := fun W hg => ⟨by rw [hmm]; exact (h3.grew hg (by simp)).cell 1, by rw [hA]; exact (h3.grew hg (by simp)).cell 2⟩
          have HSB : Hid ((A0 : Int) - (m : Int) = (P : Int)) := by show (A0 : Int) - (m : Int) = (P : Int); omega
          have HW6 : Hid (IntKind.i64.wrap (P : Int) = (P : Int) ∧ wrap64 (P : Int) = (P : Int)) := ⟨IntWalk.i64_in _ ⟨by omega, by omega⟩, IntWalk.wrap64_in _ ⟨by omega, by omega⟩⟩
          have hslc := slice_rowC N T C P (by omega)
          obtain ⟨dp, hdp, HD⟩ : ∃ dp, (if C = P then some (⟨N, 0, none⟩ : Addr) else some ⟨N, P, none⟩) = dp ∧ Hid (0 < m → dp = some ⟨N, P, none⟩) := ⟨_, rfl, fun h => by rw [if_neg (by omega)]⟩
          rw [hdp] at hslc
          replace hslc : Hid _ := hslc
          have HSG : Hid (Seg .u8 wr a2 m ys ∧ Row .u8 5 wr N X ∧ P + m ≤ X.length ∧ m ≤ T - P) := ⟨by rw [hmm]; exact h5, hrow, by omega, by omega⟩
          have HNO : Hid (¬ (O N ∧ N < w.heap.size) ∧ w.heap.size ≤ N ∧ b ≠ N) := ⟨fun z => by have := z.2; have := HN.out; omega, HN.out, fun e => by have := h2.2; have := HN.out; omega⟩
          have HST : Hid (∀ w4, Row .u8 5 w4 N (splice X P ys) → wr.grownBy w4 (some N) → JI (fun b => O b ∧ b < w.heap.size) w w4 N C p L all ∧ w4.cell? ⟨b, 0, none⟩ = some (.pointer p) ∧ tAt w4 (.pointer p) < tAt wr (.pointer (some ⟨b, 0, none⟩))) := fun w4 q1 q2 => by
            have hj := ji_step hX ha hm (by have := HT.out.1; omega) hgb h8 HNO.out.1 HNO.out.2.1 (hP ▸ q1) q2
            refine ⟨hj, (h3.grew q2 (fun e => HNO.out.2.2 (by cases e; rfl))).cell 0, ?_⟩
            rw [tAt_chn hj.1, tAt_chn hr.out.1, ← hA, ← hP]
            omega
          clear hr hX ha hm hrow hgb h2 h3 h4 h5 h6 h7 h8 hA hP hmm hAPm hAT hTC hTb hm0 hdp
          go_wp2_with fail
          refine wp_region_lastR (fun a b => World.grownBy a b none) (fun _ _ _ h k => gb_trans h k) ⟨rfl, rfl, rfl, Nat.le_refl _, fun _ _ _ => rfl⟩ 16 rfl (by kernel_rfl) [27, 28, 29, 30, 31, 32, 33, 34, 35, 36, 37, 38, 39, 40, 41, 42, 43] [[], [], [1], [2], [3], [], [5], [6], [7], [8], [4, 9], [0, 10], [], [12], [13], [14], [11, 15]] (by kernel_rfl) (by kernel_rfl) [fun u W => u = .slice (some ⟨N, 0, none⟩) T C, fun u W => u = .pointer (some ⟨b, 0, none⟩), fun u W => u = .pointer (some ⟨b, 0, none⟩), fun u W => u = .pointer (some ⟨b, 2, none⟩), fun u W => u = .int .i64 (A0 : Int), fun u W => u = .pointer (some ⟨b, 0, none⟩), fun u W => u = .pointer (some ⟨b, 0, none⟩), fun u W => u = .pointer (some ⟨b, 1, none⟩), fun u W => u = .slice a2 m c2, fun u W => u = .int .i64 (m : Int), fun u W => u = .int .i64 (P : Int), fun u W => u = .slice dp (T - P) (C - P), fun u W => u = .pointer (some ⟨b, 0, none⟩), fun u W => u = .pointer (some ⟨b, 0, none⟩), fun u W => u = .pointer (some ⟨b, 1, none⟩), fun u W => u = .slice a2 m c2] ?stable ?step ?last
          case stable =>
            intro i v W W' h hg
            match i, h with
            | 0, h => exact h
            | 1, h => exact h
            | 2, h => exact h
            | 3, h => exact h
            | 4, h => exact h
            | 5, h => exact h
            | 6, h => exact h
            | 7, h => exact h
            | 8, h => exact h
            | 9, h => exact h
            | 10, h => exact h
            | 11, h => exact h
            | 12, h => exact h
            | 13, h => exact h
            | 14, h => exact h
            | 15, h => exact h
            | i + 16, h => exact trivial
          case step =>
            intro f W A hA hg i o hin ho hu K hK
            match i, hin, ho, hu, hK with
            | 0, hin, ho, hu, hK =>
              cases ho
              have e5 : A.eval (.tmp 5) = .slice (some ⟨N, 0, none⟩) T C := ev_out hA 5 rfl
              exact ph_move _ rfl rfl (.slice (some ⟨N, 0, none⟩) T C) e5 (hK _ _ (gb_rr W _) rfl)
            | 1, hin, ho, hu, hK =>
              cases ho
              have e0 : A.eval (.tmp 0) = .pointer (some ⟨b, 0, none⟩) := ev_out hA 0 rfl
              exact ph_move _ rfl rfl (.pointer (some ⟨b, 0, none⟩)) e0 (hK _ _ (gb_rr W _) rfl)
            | 2, hin, ho, hu, hK =>
              cases ho
              have e28 : A.eval (.tmp 28) = .pointer (some ⟨b, 0, none⟩) := (ev_in hA 28 1 rfl rfl rfl).trans (show f 1 = .pointer (some ⟨b, 0, none⟩) from hu 1 (by decide))
              exact ph_nil _ rfl rfl _ e28 (hK _ _ (gb_rr W _) rfl)
            | 3, hin, ho, hu, hK =>
              cases ho
              have e29 : A.eval (.tmp 29) = .pointer (some ⟨b, 0, none⟩) := (ev_in hA 29 2 rfl rfl rfl).trans (show f 2 = .pointer (some ⟨b, 0, none⟩) from hu 2 (by decide))
              exact ph_field _ _ _ rfl rfl _ (.pointer (some ⟨b, 2, none⟩)) e29 (by kernel_rfl) (hK _ _ (gb_rr W _) rfl)
            | 4, hin, ho, hu, hK =>
              cases ho
              have e30 : A.eval (.tmp 30) = .pointer (some ⟨b, 2, none⟩) := (ev_in hA 30 3 rfl rfl rfl).trans (show f 3 = .pointer (some ⟨b, 2, none⟩) from hu 3 (by decide))
              have hc : W.cell? ⟨b, 2, none⟩ = some (.int .i64 (A0 : Int)) := (HKK.out W hg).2
              refine ph_sem rfl rfl (r := .ok (.value (.int .i64 (A0 : Int))) W) ?_ (hK _ _ (gb_rr W _) rfl)
              have eC : ∀ c, A.eval (.const c) = c := fun _ => rfl; have eF : ∀ g, A.eval (.func g) = .func (.func g) #[] #[] := fun _ => rfl; generalize A.eval = ρ at *
              clear hA hu hg
              go_simp
            | 5, hin, ho, hu, hK =>
              cases ho
              have e0 : A.eval (.tmp 0) = .pointer (some ⟨b, 0, none⟩) := ev_out hA 0 rfl
              exact ph_move _ rfl rfl (.pointer (some ⟨b, 0, none⟩)) e0 (hK _ _ (gb_rr W _) rfl)
            | 6, hin, ho, hu, hK =>
              cases ho
              have e32 : A.eval (.tmp 32) = .pointer (some ⟨b, 0, none⟩) := (ev_in hA 32 5 rfl rfl rfl).trans (show f 5 = .pointer (some ⟨b, 0, none⟩) from hu 5 (by decide))
              exact ph_nil _ rfl rfl _ e32 (hK _ _ (gb_rr W _) rfl)
            | 7, hin, ho, hu, hK =>
              cases ho
              have e33 : A.eval (.tmp 33) = .pointer (some ⟨b, 0, none⟩) := (ev_in hA 33 6 rfl rfl rfl).trans (show f 6 = .pointer (some ⟨b, 0, none⟩) from hu 6 (by decide))
              exact ph_field _ _ _ rfl rfl _ (.pointer (some ⟨b, 1, none⟩)) e33 (by kernel_rfl) (hK _ _ (gb_rr W _) rfl)
            | 8, hin, ho, hu, hK =>
              cases ho
              have e34 : A.eval (.tmp 34) = .pointer (some ⟨b, 1, none⟩) := (ev_in hA 34 7 rfl rfl rfl).trans (show f 7 = .pointer (some ⟨b, 1, none⟩) from hu 7 (by decide))
              have hc : W.cell? ⟨b, 1, none⟩ = some (.slice a2 m c2) := (HKK.out W hg).1
              refine ph_sem rfl rfl (r := .ok (.value (.slice a2 m c2)) W) ?_ (hK _ _ (gb_rr W _) rfl)
              have eC : ∀ c, A.eval (.const c) = c := fun _ => rfl; have eF : ∀ g, A.eval (.func g) = .func (.func g) #[] #[] := fun _ => rfl; generalize A.eval = ρ at *
              clear hA hu hg
              go_simp
            | 9, hin, ho, hu, hK =>
              cases ho
              have e35 : A.eval (.tmp 35) = .slice a2 m c2 := (ev_in hA 35 8 rfl rfl rfl).trans (show f 8 = .slice a2 m c2 from hu 8 (by decide))
              refine ph_sem rfl rfl (r := .ok (.value (.int .i64 (m : Int))) W) ?_ (hK _ _ (gb_rr W _) rfl)
              have eC : ∀ c, A.eval (.const c) = c := fun _ => rfl; have eF : ∀ g, A.eval (.func g) = .func (.func g) #[] #[] := fun _ => rfl; generalize A.eval = ρ at *
              clear hA hu hg hK
              go_simp
            | 10, hin, ho, hu, hK =>
              cases ho
              have e31 : A.eval (.tmp 31) = .int .i64 (A0 : Int) := (ev_in hA 31 4 rfl rfl rfl).trans (show f 4 = .int .i64 (A0 : Int) from hu 4 (by decide))
              have e36 : A.eval (.tmp 36) = .int .i64 (m : Int) := (ev_in hA 36 9 rfl rfl rfl).trans (show f 9 = .int .i64 (m : Int) from hu 9 (by decide))
              have hsubA := HSB.out
              have hwrA := HW6.out.1
              have hw6A := HW6.out.2
              refine ph_sem rfl rfl (r := .ok (.value (.int .i64 (P : Int))) W) ?_ (hK _ _ (gb_rr W _) rfl)
              have eC : ∀ c, A.eval (.const c) = c := fun _ => rfl; have eF : ∀ g, A.eval (.func g) = .func (.func g) #[] #[] := fun _ => rfl; generalize A.eval = ρ at *
              clear hA hu hg hK
              go_simp
            | 11, hin, ho, hu, hK =>
              cases ho
              have e27 : A.eval (.tmp 27) = .slice (some ⟨N, 0, none⟩) T C := (ev_in hA 27 0 rfl rfl rfl).trans (show f 0 = .slice (some ⟨N, 0, none⟩) T C from hu 0 (by decide))
              have e37 : A.eval (.tmp 37) = .int .i64 (P : Int) := (ev_in hA 37 10 rfl rfl rfl).trans (show f 10 = .int .i64 (P : Int) from hu 10 (by decide))
              have hsl := hslc.out W
              refine ph_sem rfl rfl (r := .ok (.value (.slice dp (T - P) (C - P))) W) ?_ (hK _ _ (gb_rr W _) rfl)
              have eC : ∀ c, A.eval (.const c) = c := fun _ => rfl; have eF : ∀ g, A.eval (.func g) = .func (.func g) #[] #[] := fun _ => rfl; generalize A.eval = ρ at *
              clear hA hu hg hK
              go_simp
            | 12, hin, ho, hu, hK =>
              cases ho
              have e0 : A.eval (.tmp 0) = .pointer (some ⟨b, 0, none⟩) := ev_out hA 0 rfl
              exact ph_move _ rfl rfl (.pointer (some ⟨b, 0, none⟩)) e0 (hK _ _ (gb_rr W _) rfl)
            | 13, hin, ho, hu, hK =>
              cases ho
              have e39 : A.eval (.tmp 39) = .pointer (some ⟨b, 0, none⟩) := (ev_in hA 39 12 rfl rfl rfl).trans (show f 12 = .pointer (some ⟨b, 0, none⟩) from hu 12 (by decide))
              exact ph_nil _ rfl rfl _ e39 (hK _ _ (gb_rr W _) rfl)
            | 14, hin, ho, hu, hK =>
              cases ho
              have e40 : A.eval (.tmp 40) = .pointer (some ⟨b, 0, none⟩) := (ev_in hA 40 13 rfl rfl rfl).trans (show f 13 = .pointer (some ⟨b, 0, none⟩) from hu 13 (by decide))
              exact ph_field _ _ _ rfl rfl _ (.pointer (some ⟨b, 1, none⟩)) e40 (by kernel_rfl) (hK _ _ (gb_rr W _) rfl)
            | 15, hin, ho, hu, hK =>
              cases ho
              have e41 : A.eval (.tmp 41) = .pointer (some ⟨b, 1, none⟩) := (ev_in hA 41 14 rfl rfl rfl).trans (show f 14 = .pointer (some ⟨b, 1, none⟩) from hu 14 (by decide))
              have hc : W.cell? ⟨b, 1, none⟩ = some (.slice a2 m c2) := (HKK.out W hg).1
              refine ph_sem rfl rfl (r := .ok (.value (.slice a2 m c2)) W) ?_ (hK _ _ (gb_rr W _) rfl)
              have eC : ∀ c, A.eval (.const c) = c := fun _ => rfl; have eF : ∀ g, A.eval (.func g) = .func (.func g) #[] #[] := fun _ => rfl; generalize A.eval = ρ at *
              clear hA hu hg
              go_simp
            | i + 16, hin, ho, hu, hK => omega
          case last =>
            intro f W A hA hg hu o ho K hK
            cases ho
            have e38 : A.eval (.tmp 38) = .slice dp (T - P) (C - P) := (ev_in hA 38 11 rfl rfl rfl).trans (show f 11 = .slice dp (T - P) (C - P) from hu 11 (by decide))
            have e42 : A.eval (.tmp 42) = .slice a2 m c2 := (ev_in hA 42 15 rfl rfl rfl).trans (show f 15 = .slice a2 m c2 from hu 15 (by decide))
            refine step_copyR rfl (.tmp 38) (.tmp 42) rfl dp a2 (T - P) (C - P) m c2 e38 e42 N P X ys (row_new HSG.out.2.1 hg) (HSG.out.1.grew hg (by simp)) HSG.out.2.2.1 HSG.out.2.2.2 HD.out ?_
            intro w4 q1 q2
            have H4 : Hid _ := HST.out w4 q1 (gb_trans (gb_wide hg _) q2)
            have j0 := H4.out.2.1
            refine hK _ _ ?_
            clear q1 q2 hg e38 e42
            have hA2 := hA.trans (putAll_lit [(.slice (some ⟨N, 0, none⟩) T C), (.pointer (some ⟨b, 0, none⟩)), (.pointer (some ⟨b, 0, none⟩)), (.pointer (some ⟨b, 2, none⟩)), (.int .i64 (A0 : Int)), (.pointer (some ⟨b, 0, none⟩)), (.pointer (some ⟨b, 0, none⟩)), (.pointer (some ⟨b, 1, none⟩)), (.slice a2 m c2), (.int .i64 (m : Int)), (.int .i64 (P : Int)), (.slice dp (T - P) (C - P)), (.pointer (some ⟨b, 0, none⟩)), (.pointer (some ⟨b, 0, none⟩)), (.pointer (some ⟨b, 1, none⟩)), (.slice a2 m c2), (f 16)] (by
              intro j hj
              match j, hj with
              | 0, _ => exact hu 0 (by decide)
              | 1, _ => exact hu 1 (by decide)
              | 2, _ => exact hu 2 (by decide)
              | 3, _ => exact hu 3 (by decide)
              | 4, _ => exact hu 4 (by decide)
              | 5, _ => exact hu 5 (by decide)
              | 6, _ => exact hu 6 (by decide)
              | 7, _ => exact hu 7 (by decide)
              | 8, _ => exact hu 8 (by decide)
              | 9, _ => exact hu 9 (by decide)
              | 10, _ => exact hu 10 (by decide)
              | 11, _ => exact hu 11 (by decide)
              | 12, _ => exact hu 12 (by decide)
              | 13, _ => exact hu 13 (by decide)
              | 14, _ => exact hu 14 (by decide)
              | 15, _ => exact hu 15 (by decide)
              | 16, _ => rfl
              | j + 17, hj => exact absurd hj (by simp)))
            clear hu hA
            subst hA2
            simp only [putAll, putL, List.mem_cons, List.not_mem_nil, List.idxOf_cons, Nat.reduceEqDiff, Nat.reduceBEq, Nat.reduceAdd, or_false, or_true, reduceIte, cond_true, cond_false, List.getD_cons_zero, List.getD_cons_succ, BEq.rfl]
            go_wp2
            exact ⟨⟨p, L, rfl, H4.out.1⟩, H4.out.2.2⟩
end Go.Proofs.YtcdgfghcmeadgaaDoor
namespace Go.Proofs.YtcdgfghcmeadgaaDoor
open Go.RowKit
set_option linter.unusedVariables false

theorem Bk.setO {T w b cs} (h : Bk T w b cs) (i : Nat) (v : Value) : Bk T (w.setCell ⟨b, i, none⟩ v) b (cs.setIfInBounds i v) := by
  unfold Bk at h ⊢
  simp only [World.setCell, Array.getElem?_modify]
  rw [if_pos trivial, h]; rfl
/-- An Opener that was made. -/
structure Opn where
  ended : Bool
  err : Int
  size : Int
  part : Int
  rest : Option Addr
  least : Int
  sum : Int
  seq : Int
  left : Int
  ahead : ByteArray
  ta : Option Addr
  tn : Nat
  tc : Nat
def Opn.cells (o : Opn) : Array Value := #[.bool true, .bool o.ended, .int .i64 o.err, .int .i64 o.size, .int .i64 o.part, .pointer o.rest, .int .i64 o.least, .int .u32 o.sum, .int .i64 o.seq, .int .i64 o.left, .string o.ahead, .slice o.ta o.tn o.tc]
def OpB (w : World) (g : Nat) (o : Opn) : Prop := Bk 115 w g o.cells
theorem omade_c (g : Nat) (o : Opn) (w : World) (h : OpB w g o) : Calls Tryd.prog 60 #[.pointer (some ⟨g, 0, none⟩)] w fun r w' => r = .returned (.bool true) ∧ w' = w := by
  have k0 : w.cell? ⟨g, 0, none⟩ = some (.bool true) := Bk.cell h 0
  clear h
  go_enter Tryd.func60, Tryd.ntmps60
  go_wp2
  go_ret
  exact ⟨rfl, rfl⟩
/-- What Write answers where nothing is read any more. -/
def Opn.shut (o : Opn) : Int := if o.err ≠ 0 then o.err else if o.ended = true then 92 else 0
theorem oshut_c (g : Nat) (o : Opn) (w : World) (h : OpB w g o) : Calls Tryd.prog 55 #[.pointer (some ⟨g, 0, none⟩)] w fun r w' => r = .returned (.int .i64 o.shut) ∧ w' = w := by
  have HM : Hid _ := omade_c g o w h
  have k1 : w.cell? ⟨g, 1, none⟩ = some (.bool o.ended) := Bk.cell h 1
  have k2 : w.cell? ⟨g, 2, none⟩ = some (.int .i64 o.err) := Bk.cell h 2
  unfold Opn.shut
  generalize o.err = e at k2 ⊢
  generalize o.ended = d at k1 ⊢
  clear h
  by_cases he : e = 0
  · subst he
    cases d
    · go_enter Tryd.func55, Tryd.ntmps55
      go_wp2_with (go_at_call 60; go_must (refine (Calls.mono HM.out ?_)); rintro r wq ⟨rfl, hq⟩; obtain rfl := hq.symm; clear hq)
      go_ret
      exact ⟨rfl, rfl⟩
    · go_enter Tryd.func55, Tryd.ntmps55
      go_wp2_with (go_at_call 60; go_must (refine (Calls.mono HM.out ?_)); rintro r wq ⟨rfl, hq⟩; obtain rfl := hq.symm; clear hq)
      go_ret
      exact ⟨rfl, rfl⟩
  · have he2 : (e == 0) = false := by simp; exact he
    rw [if_pos he]
    go_enter Tryd.func55, Tryd.ntmps55
    go_wp2_with (go_at_call 60; go_must (refine (Calls.mono HM.out ?_)); rintro r wq ⟨rfl, hq⟩; obtain rfl := hq.symm; clear hq)
    go_ret
    exact ⟨rfl, rfl⟩
theorem omust_so (g : Nat) (e : Int) (w : World) : Calls Tryd.prog 58 #[.pointer (some ⟨g, 0, none⟩), .bool true, .int .i64 e] w fun r w' => r = .returned (.tuple #[]) ∧ w' = w := by
  go_enter Tryd.func58, Tryd.ntmps58
  go_wp2
  go_end0
  exact ⟨rfl, rfl⟩
/-- A panic with an error. -/
def chnE (e : Int) : List PanicEntry := [{ v := .iface 30 (.int .i64 e), recovered := false }]
theorem omust_no (g : Nat) (o : Opn) (e : Int) (w : World) (h : OpB w g o) : Calls Tryd.prog 58 #[.pointer (some ⟨g, 0, none⟩), .bool false, .int .i64 e] w fun r w' => r = .panicked (chnE e) ∧ OpB w' g { o with err := e, rest := none } ∧ w.grownBy w' (some g) := by
  have k2 : w.cell? ⟨g, 2, none⟩ = some (.int .i64 o.err) := Bk.cell h 2
  have k5 : w.cell? ⟨g, 5, none⟩ = some (.pointer o.rest) := Bk.cell h 5
  have f2 : w.frozen? ⟨g, 2, none⟩ = false := frozen_of_row w g 2 _ _ h
  have f5 : w.frozen? ⟨g, 5, none⟩ = false := frozen_of_row w g 5 _ _ h
  have HO : Hid (OpB ((w.setCell ⟨g, 2, none⟩ (.int .i64 e)).setCell ⟨g, 5, none⟩ (.pointer none)) g { o with err := e, rest := none } ∧ w.grownBy ((w.setCell ⟨g, 2, none⟩ (.int .i64 e)).setCell ⟨g, 5, none⟩ (.pointer none)) (some g)) :=
    ⟨Bk.setO (Bk.setO h 2 _) 5 _, gb_trans (grownBy_cell w g 2 _) (grownBy_cell _ g 5 _)⟩
  clear h
  go_enter Tryd.func58, Tryd.ntmps58
  go_wp2
  exact ⟨rfl, rfl, HO.out⟩
end Go.Proofs.YtcdgfghcmeadgaaDoor
namespace Go.Proofs.YtcdgfghcmeadgaaDoor
open Go.RowKit
set_option linter.unusedVariables false

theorem onothing_so (g : Nat) (a : Option Addr) (c : Nat) (w : World) : Calls Tryd.prog 127 #[.pointer (some ⟨g, 0, none⟩), .slice a 0 c] w fun r w' => r = .returned (.tuple #[.int .i64 0, .bool false]) ∧ w' = w := by
  have HM : Hid _ := omust_so g 92 w
  go_enter Tryd.func127, Tryd.ntmps127
  go_wp2_with (go_at_call 58; go_must (refine (Calls.mono HM.out ?_)); rintro r wq ⟨rfl, hq⟩; obtain rfl := hq.symm; clear hq)
  go_ret2
  exact ⟨rfl, rfl⟩
theorem onothing_no (g : Nat) (o : Opn) (a : Option Addr) (n c : Nat) (hn : 0 < n) (w : World) (h : OpB w g o) : Calls Tryd.prog 127 #[.pointer (some ⟨g, 0, none⟩), .slice a n c] w fun r w' => r = .panicked (chnE 92) ∧ OpB w' g { o with err := 92, rest := none } ∧ w.grownBy w' (some g) := by
  have HM : Hid _ := omust_no g o 92 w h
  have hne : (n : Int) ≠ 0 := by omega
  have hne2 : ((n : Int) == 0) = false := by simp; omega
  clear h
  go_enter Tryd.func127, Tryd.ntmps127
  go_wp2_with (go_at_call 58; go_must (refine (Calls.mono HM.out ?_)); rintro r w1 ⟨rfl, h1, h2⟩; have H1 : Hid _ := And.intro h1 h2; clear h1 h2)
  exact ⟨rfl, rfl, H1.out⟩
end Go.Proofs.YtcdgfghcmeadgaaDoor
namespace Go.Proofs.YtcdgfghcmeadgaaDoor
open Go.RowKit
set_option linter.unusedVariables false

/-- The Opener behind an End. -/
def Opn.shutE (o : Opn) : Int := if o.err ≠ 0 then o.err else if o.part = 5 then 0 else 92
def Opn.ends (o : Opn) : Opn := { o with ended := true, rest := none, err := o.shutE }
theorem opb_gb {w w' : World} {g : Nat} {o : Opn} (h : OpB w g o) (hg : w.grownBy w' none) : OpB w' g o := Bk.grew h hg (by simp)
set_option maxRecDepth 20000 in
theorem oend_c (g : Nat) (o : Opn) (w : World) (h : OpB w g o) : Calls Tryd.prog 27 #[.pointer (some ⟨g, 0, none⟩)] w fun r w' => r = .returned (.tuple #[.int .i64 (if o.shutE = 0 then o.seq else 0), .int .i64 o.shutE]) ∧ OpB w' g o.ends ∧ w.grownBy w' (some g) := by
  have HM : Hid _ := omade_c g o w h
  have k1 : w.cell? ⟨g, 1, none⟩ = some (.bool o.ended) := Bk.cell h 1
  have k2 : w.cell? ⟨g, 2, none⟩ = some (.int .i64 o.err) := Bk.cell h 2
  have k4 : w.cell? ⟨g, 4, none⟩ = some (.int .i64 o.part) := Bk.cell h 4
  have k5 : w.cell? ⟨g, 5, none⟩ = some (.pointer o.rest) := Bk.cell h 5
  have k8 : w.cell? ⟨g, 8, none⟩ = some (.int .i64 o.seq) := Bk.cell h 8
  have f1 : w.frozen? ⟨g, 1, none⟩ = false := frozen_of_row w g 1 _ _ h
  have f2 : w.frozen? ⟨g, 2, none⟩ = false := frozen_of_row w g 2 _ _ h
  have f5 : w.frozen? ⟨g, 5, none⟩ = false := frozen_of_row w g 5 _ _ h
  have HO : Hid (OpB ((w.setCell ⟨g, 1, none⟩ (.bool true)).setCell ⟨g, 5, none⟩ (.pointer none)) g { o with ended := true, rest := none } ∧ w.grownBy ((w.setCell ⟨g, 1, none⟩ (.bool true)).setCell ⟨g, 5, none⟩ (.pointer none)) (some g)) :=
    ⟨Bk.setO (Bk.setO h 1 _) 5 _, gb_trans (grownBy_cell w g 1 _) (grownBy_cell _ g 5 _)⟩
  clear h
  by_cases he : o.err = 0
  · by_cases hp : o.part = 5
    · have e1 : o.shutE = 0 := by unfold Opn.shutE; rw [if_neg (by simpa using he), if_pos hp]
      have e2 : o.ends = { o with ended := true, rest := none } := by unfold Opn.ends; rw [e1, ← he]
      rw [e1, e2, if_pos rfl]
      rw [he] at k2
      rw [hp] at k4
      go_enter Tryd.func27, Tryd.ntmps27
      go_wp2_with (go_at_call 60; go_must (refine (Calls.mono HM.out ?_)); rintro r wq ⟨rfl, hq⟩; obtain rfl := hq.symm; clear hq)
      go_ret2
      exact ⟨rfl, HO.out⟩
    · have e1 : o.shutE = 92 := by unfold Opn.shutE; rw [if_neg (by simpa using he), if_neg hp]
      have e2 : o.ends = { o with ended := true, rest := none, err := 92 } := by unfold Opn.ends; rw [e1]
      have hp2 : (o.part == 5) = false := by simp; exact hp
      rw [e1, e2, if_neg (by decide)]
      rw [he] at k2
      have HP : Hid (OpB (((w.setCell ⟨g, 1, none⟩ (.bool true)).setCell ⟨g, 5, none⟩ (.pointer none)).setCell ⟨g, 2, none⟩ (.int .i64 92)) g { o with ended := true, rest := none, err := 92 } ∧ w.grownBy (((w.setCell ⟨g, 1, none⟩ (.bool true)).setCell ⟨g, 5, none⟩ (.pointer none)).setCell ⟨g, 2, none⟩ (.int .i64 92)) (some g)) :=
        ⟨Bk.setO HO.out.1 2 _, gb_trans HO.out.2 (grownBy_cell _ g 2 _)⟩
      go_enter Tryd.func27, Tryd.ntmps27
      go_wp2_with (go_at_call 60; go_must (refine (Calls.mono HM.out ?_)); rintro r wq ⟨rfl, hq⟩; obtain rfl := hq.symm; clear hq)
      go_quiet (fail)
      go_wp2
      go_ret2
      exact ⟨rfl, opb_gb HP.out.1 (gb_drewN (World.grownBy.refl _ _) _), gb_drewN HP.out.2 _⟩
  · have e1 : o.shutE = o.err := by unfold Opn.shutE; rw [if_pos he]
    have e2 : o.ends = { o with ended := true, rest := none } := by unfold Opn.ends; rw [e1]
    have he2 : (o.err == 0) = false := by simp; exact he
    rw [e1, e2, if_neg he]
    go_enter Tryd.func27, Tryd.ntmps27
    go_wp2_with (go_at_call 60; go_must (refine (Calls.mono HM.out ?_)); rintro r wq ⟨rfl, hq⟩; obtain rfl := hq.symm; clear hq)
    go_quiet (fail)
    go_wp2
    go_ret2
    exact ⟨rfl, opb_gb HO.out.1 (gb_drewN (World.grownBy.refl _ _) _), gb_drewN HO.out.2 _⟩
end Go.Proofs.YtcdgfghcmeadgaaDoor
namespace Go.Proofs.YtcdgfghcmeadgaaDoor
open Go.RowKit
set_option linter.unusedVariables false

/-- What Text takes up: the text's bytes, the place behind it, the error. -/
def rt (xs : List Int) (p : Nat) (most : Int) : List Int × Nat × Int :=
  if (ri xs p most).2.2 ≠ 0 then ([], p, (ri xs p most).2.2)
  else if ((xs.length - (ri xs p most).2.1 : Nat) : Int) < (ri xs p most).1 then ([], p, 30)
  else ((xs.drop (ri xs p most).2.1).take (ri xs p most).1.toNat, (ri xs p most).2.1 + (ri xs p most).1.toNat, 0)

theorem text_no (g : Nat) (e : Int) (v : Value) (p : Int) (most : Int) (w : World) (h : Rdr w g e v p) (he : (e == 0) = false) :
    Calls Tryd.prog 109 #[.pointer (some ⟨g, 0, none⟩), .int .i64 most] w fun r w' => r = .returned (.string (strOfNums [])) ∧ w' = w := by
  go_enter Tryd.func109, Tryd.ntmps109
  go_wp2_with fail
  refine (ready_c g e v p w h).mono ?_
  rintro r w1 ⟨rfl, rfl⟩
  go_wp2
  go_ret
  exact ⟨rfl, rfl⟩

theorem well_r (g : Nat) (a : Option Addr) (len cap : Nat) (xs : List Int) (e : Int) (p : Nat) (w : World) (h : RS w g a len cap xs e p) :
    Calls Tryd.prog 101 #[.pointer (some ⟨g, 0, none⟩)] w fun r w' => r = .returned (.bool (e == 0)) ∧ w' = w := well_c g e w h.rdr.c0

set_option maxRecDepth 20000 in
theorem text_ok (g : Nat) (a : Option Addr) (len cap : Nat) (xs : List Int) (p : Nat) (most : Int) (w : World) (h : RS w g a len cap xs 0 p) (hm2 : most ≤ 9223372036854775807) :
    Calls Tryd.prog 109 #[.pointer (some ⟨g, 0, none⟩), .int .i64 most] w fun r w' => r = .returned (.string (strOfNums (rt xs p most).1)) ∧ RS w' g a len cap xs (rt xs p most).2.2 (rt xs p most).2.1 ∧ w.grownBy w' (some g) := by
  have HR : Hid (RS w g a len cap xs 0 p) := h
  have HI : Hid (Calls Tryd.prog 81 #[.pointer (some ⟨g, 0, none⟩), .int .i64 most] w fun r w' => r = .returned (.int .i64 (ri xs p most).1) ∧ RS w' g a len cap xs (ri xs p most).2.2 (ri xs p most).2.1 ∧ w.grownBy w' (some g)) := int_ok g a len cap xs p most w h hm2
  have hbd := ri_bd h.bytes p (by rw [h.seg.1]; exact h.le) most
  have HT : Hid (rt xs p most = if (ri xs p most).2.2 ≠ 0 then ([], p, (ri xs p most).2.2)
      else if ((len - (ri xs p most).2.1 : Nat) : Int) < (ri xs p most).1 then ([], p, 30)
      else ((xs.drop (ri xs p most).2.1).take (ri xs p most).1.toNat, (ri xs p most).2.1 + (ri xs p most).1.toNat, 0)) := by
    show _ = _
    rw [rt, h.seg.1]
  rw [h.seg.1] at hbd
  obtain ⟨V, q, E, hri⟩ : ∃ V q E, ri xs p most = (V, q, E) := ⟨_, _, _, rfl⟩
  rw [hri] at hbd HI HT
  simp only at hbd HI HT
  have h3 := h.rdr.c3
  have hple := h.le
  obtain ⟨R, hR⟩ : ∃ R, R = rt xs p most := ⟨_, rfl⟩
  rw [← hR] at HT ⊢
  clear h hri hR
  obtain ⟨N, rfl⟩ : ∃ N : Nat, V = N := ⟨V.toNat, by omega⟩
  have hnil := fun w => seg_string (P := Tryd.prog) (w := w) (a := none) (len := 0) (xs := []) 27 9 5 0 ⟨rfl, .inl rfl⟩ Tryd.underlying27 Tryd.underlying5 Tryd.underlying9
  by_cases hE : E = 0
  · subst hE
    rw [if_neg (by simp)] at HT
    by_cases hs : ((len - q : Nat) : Int) < N
    · rw [if_pos hs] at HT
      rw [HT.out]
      have HS : Hid (((len - q : Nat) : Int) < N) := hs
      clear hs HT hbd
      go_enter Tryd.func109, Tryd.ntmps109
      go_wp2_with fail
      refine (ready_c g 0 _ _ w HR.out.rdr).mono ?_
      rintro r w1 ⟨rfl, rfl⟩
      go_wp2_with fail
      refine HI.out.mono ?_
      rintro r w2 ⟨rfl, h1, h2⟩
      have H1 : Hid (RS w2 g a len cap xs 0 q ∧ w1.grownBy w2 (some g)) := ⟨h1, h2⟩
      clear h1 h2
      go_wp2_with fail
      refine (take_short g a len cap xs q _ _ H1.out.1 HS.out).mono ?_
      rintro r w3 ⟨rfl, h1, h2⟩
      have H2 : Hid (RS w3 g a len cap xs 30 q ∧ w1.grownBy w3 (some g)) := ⟨h1, gb_trans H1.out.2 h2⟩
      have c3 := h1.rdr.c3
      have f3 := h1.rdr.free 3
      clear h1 h2
      go_wp2_with fail
      refine (well_r g a len cap xs 30 q _ H2.out.1).mono ?_
      rintro r w4 ⟨rfl, rfl⟩
      go_wp2
      go_ret
      obtain ⟨m1, m2⟩ := H2.out.1.moves p hple
      exact ⟨rfl, m1, gb_trans H2.out.2 m2⟩
    · rw [if_neg hs, Int.toNat_natCast] at HT
      rw [HT.out]
      have HS : Hid (N ≤ len - q) := by show _ ≤ _; omega
      clear hs HT hbd
      go_enter Tryd.func109, Tryd.ntmps109
      go_wp2_with fail
      refine (ready_c g 0 _ _ w HR.out.rdr).mono ?_
      rintro r w1 ⟨rfl, rfl⟩
      go_wp2_with fail
      refine HI.out.mono ?_
      rintro r w2 ⟨rfl, h1, h2⟩
      have H1 : Hid (RS w2 g a len cap xs 0 q ∧ w1.grownBy w2 (some g)) := ⟨h1, h2⟩
      clear h1 h2
      go_wp2_with fail
      refine (take_ok g a len cap xs q N _ H1.out.1 HS.out).mono ?_
      rintro r w3 ⟨a1, c1, rfl, hsg, _, h1, h2⟩
      have H2 : Hid (RS w3 g a len cap xs 0 (q + N) ∧ w1.grownBy w3 (some g)) := ⟨h1, gb_trans H1.out.2 h2⟩
      have hcv := seg_string (P := Tryd.prog) 27 9 5 c1 hsg Tryd.underlying27 Tryd.underlying5 Tryd.underlying9
      clear h1 h2 hsg
      go_wp2_with fail
      refine (well_r g a len cap xs 0 (q + N) _ H2.out.1).mono ?_
      rintro r w4 ⟨rfl, rfl⟩
      go_wp2
      go_ret
      exact ⟨rfl, H2.out.1, H2.out.2⟩
  · have hb : (E == 0) = false := by simp [hE]
    obtain ⟨hN, rfl⟩ := hbd.2.2.2.2 hE
    obtain rfl : N = 0 := by omega
    rw [if_pos hE] at HT
    rw [HT.out]
    clear HT hE hbd hN
    go_enter Tryd.func109, Tryd.ntmps109
    go_wp2_with fail
    refine (ready_c g 0 _ _ w HR.out.rdr).mono ?_
    rintro r w1 ⟨rfl, rfl⟩
    go_wp2_with fail
    refine HI.out.mono ?_
    rintro r w2 ⟨rfl, h1, h2⟩
    have H1 : Hid (RS w2 g a len cap xs E q ∧ w1.grownBy w2 (some g)) := ⟨h1, h2⟩
    clear h1 h2
    go_wp2_with fail
    refine (take_no g a len cap xs E q _ _ H1.out.1 hb).mono ?_
    rintro r w3 ⟨rfl, h1, h2⟩
    have H2 : Hid (RS w3 g a len cap xs E q ∧ w1.grownBy w3 (some g)) := ⟨h1, gb_trans H1.out.2 h2⟩
    have c3 := h1.rdr.c3
    have f3 := h1.rdr.free 3
    clear h1 h2
    go_wp2_with fail
    refine (well_r g a len cap xs E q _ H2.out.1).mono ?_
    rintro r w4 ⟨rfl, rfl⟩
    go_wp2
    go_ret
    obtain ⟨m1, m2⟩ := H2.out.1.moves q hple
    exact ⟨rfl, m1, gb_trans H2.out.2 m2⟩
theorem rt_bd {xs : List Int} (hx : Bytes xs) (p : Nat) (hp : p ≤ xs.length) (most : Int) : (rt xs p most).2.1 ≤ xs.length ∧ p ≤ (rt xs p most).2.1 ∧ (rt xs p most).1.length ≤ xs.length ∧ ((rt xs p most).2.2 ≠ 0 → (rt xs p most).1 = [] ∧ (rt xs p most).2.1 = p) ∧ Bytes (rt xs p most).1 := by
  have h1 := ri_bd hx p hp most
  unfold rt
  split
  · exact ⟨hp, Nat.le_refl _, Nat.zero_le _, fun _ => ⟨rfl, rfl⟩, fun i hi => by simp at hi⟩
  · split
    · exact ⟨hp, Nat.le_refl _, Nat.zero_le _, fun _ => ⟨rfl, rfl⟩, fun i hi => by simp at hi⟩
    · refine ⟨by simp only; omega, by simp only; omega, by simp; omega, fun h => absurd rfl h, bytes_take (bytes_drop hx _) _⟩
end Go.Proofs.YtcdgfghcmeadgaaDoor
namespace Go.Proofs.YtcdgfghcmeadgaaDoor
open Go.RowKit
set_option linter.unusedVariables false

theorem take_drop_snoc (xs : List Int) (k m : Nat) (hk : k < xs.length) (hm : m ≤ k) : val ((xs.take (k + 1)).drop m) = xs[m]?.getD 0 % 128 + 128 * val ((xs.take (k + 1)).drop (m + 1)) := by
  rw [val_drop _ m (by simp; omega)]
  rw [List.getElem?_take_of_lt (by omega)]

set_option maxHeartbeats 2000000 in
theorem read_c (a : Option Addr) (len cap : Nat) (xs : List Int) (w : World) (h : Seg .u8 w a len xs) (hx : Bytes xs) (hl : len ≤ 9223372036854775807) :
    Calls Tryd.prog 120 #[.slice a len cap] w fun e w' => e = .returned (.tuple #[.int .u64 (rd xs).1, .int .i64 (rd xs).2.1, .int .i64 (rd xs).2.2]) ∧ w' = w := by
  obtain ⟨hlen, h⟩ := h
  rcases h with rfl | ⟨b, off, rfl, hbw, hc⟩
  · obtain rfl : xs = [] := List.eq_nil_of_length_eq_zero hlen
    go_enter Tryd.func120, Tryd.ntmps120
    go_wp2
    refine wp_loop_rounds 1 ?_
    rw [rounds_succ]
    go_wp2
    go_ret3
    exact ⟨rfl, rfl⟩
  · go_enter Tryd.func120, Tryd.ntmps120
    go_wp2
    go_loop [5] (fun i => ∃ (k : Nat), k ≤ len ∧ i = .int .i64 k ∧ ∀ j, j < k → 128 ≤ xs[j]?.getD 0) (fun i => len - (intOf i).toNat)
    case atStart => exact ⟨0, Nat.zero_le _, rfl, fun j hj => by omega⟩
    case round =>
      obtain ⟨k, hk, rfl, hlead⟩ := hrel
      have HL : Hid (∀ j, j < k → 128 ≤ xs[j]?.getD 0) := hlead
      have HE : Hid (xs.length = len) := hlen
      clear hlead hlen
      by_cases hlt : k < len
      · have hcell := hc k (by omega)
        have hxk := hx k (by have := HE.out; omega)
        by_cases hc128 : 128 ≤ xs[k]?.getD 0
        · clear hc hx
          go_wp2
          go_round
          case rel =>
            go_light
            refine ⟨k + 1, by omega, by go_num, fun j hj => ?_⟩
            rcases Nat.lt_or_ge j k with h | h
            · exact HL.out j h
            · obtain rfl : j = k := by omega
              exact hc128
          case measure => simp [intOf]; try omega
        · have hcn : xs[k]?.getD 0 < 128 := by omega
          by_cases h10 : 10 ≤ k
          · clear hc hx
            go_wp2
            go_ret3
            go_light
            exact ⟨ret3rd (rd_long xs (fun j hj => HL.out j (by omega)) (by have := HE.out; omega)), rfl⟩
          · have bl : ((k : Int) == (len : Int)) = false := by simp; omega
            by_cases h91 : 9 ≤ k ∧ 1 < xs[k]?.getD 0
            · obtain ⟨h9, h1⟩ := h91
              have b9 : ((k : Int) == 9) = true := by simp; omega
              clear hc hx
              go_wp2
              go_ret3
              go_light
              refine ⟨ret3rd ?_, rfl⟩
              obtain rfl : k = 9 := by omega
              exact rd_nine xs HL.out (by have := HE.out; omega) (by omega) h1
            · by_cases h0 : 0 < k ∧ xs[k]?.getD 0 ≤ 0
              · obtain ⟨hk0, h0⟩ := h0
                have b0 : (xs[k]?.getD 0 == 0) = true := by simp; omega
                clear hc hx
                by_cases h9 : 9 ≤ k
                · have b9 : ((k : Int) == 9) = true := by simp; omega
                  go_wp2
                  go_ret3
                  go_light
                  exact ⟨ret3rd (rd_form xs k HL.out (by have := HE.out; omega) (by omega) hk0 (by omega)), rfl⟩
                · have b9 : ((k : Int) == 9) = false := by simp; omega
                  go_wp2
                  go_ret3
                  go_light
                  exact ⟨ret3rd (rd_form xs k HL.out (by have := HE.out; omega) (by omega) hk0 (by omega)), rfl⟩
              · have HR : Hid (rd xs = (val (xs.take (k + 1)), (k : Int) + 1, 0)) := rd_ok xs k HL.out (by have := HE.out; omega) (by omega) (by omega) (fun h => by omega) (fun h => by omega)
                have HF : Hid (val (xs.take (k + 1)) < 18446744073709551616) := val_fits xs k (by have := HE.out; omega) (by omega) hxk.1 hcn (fun h => by omega)
                have HC : Hid (∀ i, i < len → w.cell? ⟨b, off + i, none⟩ = some (.int .u8 (xs[i]?.getD 0))) := hc
                have HB : Hid (Bytes xs) := hx
                clear hc hx
                by_cases hk0 : k ≤ 0
                · have b9 : ((k : Int) == 9) = false := by simp; omega
                  go_wp2
                  go_loop [6, 7] (fun v i => ∃ V : Int, v = .int .u64 V ∧ ((∃ m : Nat, m ≤ k ∧ i = .int .i64 m ∧ V = val ((xs.take (k + 1)).drop (m + 1))) ∨ (i = .int .i64 (-1) ∧ V = val (xs.take (k + 1))))) (fun _ i => (intOf i + 1).toNat)
                  case atStart => exact ⟨0, rfl, .inl ⟨k, Nat.le_refl _, rfl, by rw [List.drop_of_length_le (by simp; omega)]; rfl⟩⟩
                  case round =>
                    obtain ⟨V, rfl, ⟨m, hm, rfl, hV⟩ | ⟨rfl, hV⟩⟩ := hrel
                    · have hcm := HC.out m (by omega)
                      have hxm := HB.out m (by have := HE.out; omega)
                      have hd := take_drop_snoc xs k m (by have := HE.out; omega) hm
                      have hle := val_drop_le (xs.take (k + 1)) m
                      have hV0 : 0 ≤ V := by rw [hV]; exact val_nonneg _
                      have hVb : V * 128 + xs[m]?.getD 0 % 128 < 18446744073709551616 := by have := HF.out; rw [hV]; omega
                      have HV : Hid (V * 128 + xs[m]?.getD 0 % 128 = val ((xs.take (k + 1)).drop m)) := by show _ = _; rw [hV]; omega
                      clear hV hd hle hcell hxk
                      go_wp2
                      go_round
                      case rel =>
                        go_light
                        refine ⟨_, rfl, ?_⟩
                        by_cases hm0 : m = 0
                        · subst hm0
                          exact .inr ⟨by go_num, HV.out⟩
                        · obtain ⟨m', rfl⟩ : ∃ m', m = m' + 1 := ⟨m - 1, by omega⟩
                          exact .inl ⟨m', by omega, by go_num, HV.out⟩
                      case measure => simp [intOf]; try omega
                    · have HV : Hid (V = val (xs.take (k + 1))) := hV
                      clear hV
                      go_wp2
                      go_ret3
                      go_light
                      exact ⟨(ret3 HV.out rfl rfl).trans (ret3rd HR.out), rfl⟩
                · have hk1 : 0 < k := by omega
                  have b0 : (xs[k]?.getD 0 == 0) = false := by simp; omega
                  by_cases h9 : 9 ≤ k
                  · have b9 : ((k : Int) == 9) = true := by simp; omega
                    go_wp2
                    go_loop [6, 7] (fun v i => ∃ V : Int, v = .int .u64 V ∧ ((∃ m : Nat, m ≤ k ∧ i = .int .i64 m ∧ V = val ((xs.take (k + 1)).drop (m + 1))) ∨ (i = .int .i64 (-1) ∧ V = val (xs.take (k + 1))))) (fun _ i => (intOf i + 1).toNat)
                    case atStart => exact ⟨0, rfl, .inl ⟨k, Nat.le_refl _, rfl, by rw [List.drop_of_length_le (by simp; omega)]; rfl⟩⟩
                    case round =>
                      obtain ⟨V, rfl, ⟨m, hm, rfl, hV⟩ | ⟨rfl, hV⟩⟩ := hrel
                      · have hcm := HC.out m (by omega)
                        have hxm := HB.out m (by have := HE.out; omega)
                        have hd := take_drop_snoc xs k m (by have := HE.out; omega) hm
                        have hle := val_drop_le (xs.take (k + 1)) m
                        have hV0 : 0 ≤ V := by rw [hV]; exact val_nonneg _
                        have hVb : V * 128 + xs[m]?.getD 0 % 128 < 18446744073709551616 := by have := HF.out; rw [hV]; omega
                        have HV : Hid (V * 128 + xs[m]?.getD 0 % 128 = val ((xs.take (k + 1)).drop m)) := by show _ = _; rw [hV]; omega
                        clear hV hd hle hcell hxk
                        go_wp2
                        go_round
                        case rel =>
                          go_light
                          refine ⟨_, rfl, ?_⟩
                          by_cases hm0 : m = 0
                          · subst hm0
                            exact .inr ⟨by go_num, HV.out⟩
                          · obtain ⟨m', rfl⟩ : ∃ m', m = m' + 1 := ⟨m - 1, by omega⟩
                            exact .inl ⟨m', by omega, by go_num, HV.out⟩
                        case measure => simp [intOf]; try omega
                      · have HV : Hid (V = val (xs.take (k + 1))) := hV
                        clear hV
                        go_wp2
                        go_ret3
                        go_light
                        exact ⟨(ret3 HV.out rfl rfl).trans (ret3rd HR.out), rfl⟩
                  · have b9 : ((k : Int) == 9) = false := by simp; omega
                    go_wp2
                    go_loop [6, 7] (fun v i => ∃ V : Int, v = .int .u64 V ∧ ((∃ m : Nat, m ≤ k ∧ i = .int .i64 m ∧ V = val ((xs.take (k + 1)).drop (m + 1))) ∨ (i = .int .i64 (-1) ∧ V = val (xs.take (k + 1))))) (fun _ i => (intOf i + 1).toNat)
                    case atStart => exact ⟨0, rfl, .inl ⟨k, Nat.le_refl _, rfl, by rw [List.drop_of_length_le (by simp; omega)]; rfl⟩⟩
                    case round =>
                      obtain ⟨V, rfl, ⟨m, hm, rfl, hV⟩ | ⟨rfl, hV⟩⟩ := hrel
                      · have hcm := HC.out m (by omega)
                        have hxm := HB.out m (by have := HE.out; omega)
                        have hd := take_drop_snoc xs k m (by have := HE.out; omega) hm
                        have hle := val_drop_le (xs.take (k + 1)) m
                        have hV0 : 0 ≤ V := by rw [hV]; exact val_nonneg _
                        have hVb : V * 128 + xs[m]?.getD 0 % 128 < 18446744073709551616 := by have := HF.out; rw [hV]; omega
                        have HV : Hid (V * 128 + xs[m]?.getD 0 % 128 = val ((xs.take (k + 1)).drop m)) := by show _ = _; rw [hV]; omega
                        clear hV hd hle hcell hxk
                        go_wp2
                        go_round
                        case rel =>
                          go_light
                          refine ⟨_, rfl, ?_⟩
                          by_cases hm0 : m = 0
                          · subst hm0
                            exact .inr ⟨by go_num, HV.out⟩
                          · obtain ⟨m', rfl⟩ : ∃ m', m = m' + 1 := ⟨m - 1, by omega⟩
                            exact .inl ⟨m', by omega, by go_num, HV.out⟩
                        case measure => simp [intOf]; try omega
                      · have HV : Hid (V = val (xs.take (k + 1))) := hV
                        clear hV
                        go_wp2
                        go_ret3
                        go_light
                        exact ⟨(ret3 HV.out rfl rfl).trans (ret3rd HR.out), rfl⟩
      · clear hc hx
        by_cases h10 : len < 10
        · go_wp2
          go_ret3
          go_light
          exact ⟨ret3rd (rd_short xs (fun j hj => HL.out j (by have := HE.out; omega)) (by have := HE.out; omega)), rfl⟩
        · go_wp2
          go_ret3
          go_light
          exact ⟨ret3rd (rd_long xs (fun j hj => HL.out j (by omega)) (by have := HE.out; omega)), rfl⟩
end Go.Proofs.YtcdgfghcmeadgaaDoor
namespace Go.Proofs.YtcdgfghcmeadgaaDoor
open Go.RowKit
set_option linter.unusedVariables false

/-- The bytes of a slice from a place on, as the slice that is made of it. -/
theorem seg_cut {w : World} {ad : Addr} {len cap : Nat} {xs : List Int} (h : Seg .u8 w (some ad) len xs) (p : Nat) (hlc : len ≤ cap) : Seg .u8 w (if cap = p then some ad else some (ad.add p)) (len - p) (xs.drop p) := by
  by_cases hc : cap = p
  · rw [if_pos hc]; exact ⟨by simp [h.1], .inl (by omega)⟩
  · rw [if_neg hc]; exact seg_from h p
theorem seg_take {w : World} {a : Option Addr} {len : Nat} {xs : List Int} (h : Seg .u8 w a len xs) (n : Nat) (hn : n ≤ len) : Seg .u8 w a n (xs.take n) := by
  refine ⟨by simp [h.1]; omega, ?_⟩
  rcases h.2 with h0 | ⟨b, off, ha, hw, hc⟩
  · exact .inl (by omega)
  · exact .inr ⟨b, off, ha, hw, fun i hi => by rw [hc i (by omega), List.getElem?_take_of_lt hi]⟩

theorem rd_codes (xs : List Int) : (rd xs).2.2 = 0 ∨ (rd xs).2.2 = 10 ∨ (rd xs).2.2 = 11 ∨ (rd xs).2.2 = 12 := by
  unfold rd
  split
  · simp
  · split
    · simp
    · split <;> simp

/-- A place, or 0 where there is an error. -/
def pl (p : Nat) (e : Int) : Nat := if e = 0 then p else 0

set_option maxRecDepth 20000 in
theorem number_c (a : Option Addr) (len cap : Nat) (xs : List Int) (p : Nat) (w : World) (h : Seg .u8 w a len xs) (hx : Bytes xs) (hp : p ≤ len) (hlc : len ≤ cap) (hlm : len ≤ 140737488355328) (hcm : cap ≤ 9223372036854775807) :
    Calls Tryd.prog 110 #[.slice a len cap, .int .i64 (p : Int)] w fun r w' => r = .returned (.tuple #[.int .u64 (ru xs p).1, .int .i64 (pl (p + (ru xs p).2.1) (ru xs p).2.2 : Nat), .int .i64 (ru xs p).2.2]) ∧ w' = w := by
  have hb := rd_bd _ (bytes_drop hx p)
  have her := ru_err hx p
  have hcd := rd_codes (xs.drop p)
  obtain ⟨V, m, E, hrd⟩ : ∃ V m E, rd (xs.drop p) = (V, m, E) := ⟨_, _, _, rfl⟩
  have HD : Hid (∀ (a' : Option Addr), Seg .u8 w a' (len - p) (xs.drop p) → Calls Tryd.prog 120 #[.slice a' (len - p) (cap - p)] w fun e w' => e = .returned (.tuple #[.int .u64 V, .int .i64 m, .int .i64 E]) ∧ w' = w) := by
    intro a' hs
    have := read_c a' (len - p) (cap - p) (xs.drop p) w hs (bytes_drop hx p) (by omega)
    rw [hrd] at this; exact this
  have hru : ru xs p = (V, m.toNat, nm E) := by simp [ru, hrd]
  rw [hrd, List.length_drop, h.1] at hb
  rw [hrd] at hcd
  simp only at hb hcd
  rw [hru] at her ⊢
  simp only at her ⊢
  obtain ⟨M, rfl⟩ : ∃ M : Nat, m = M := ⟨m.toNat, by omega⟩
  rw [Int.toNat_natCast] at her ⊢
  obtain ⟨a1, HS, hA⟩ : ∃ a1, Hid (Seg .u8 w a1 (len - p) (xs.drop p)) ∧ Hid ((a = none ∧ a1 = none) ∨ ∃ ad, a = some ad ∧ (if cap = p then some ad else some (ad.add p)) = a1) := by
    cases a with
    | none => exact ⟨none, seg_from h p, .inl ⟨rfl, rfl⟩⟩
    | some ad => exact ⟨_, seg_cut h p hlc, .inr ⟨ad, rfl, rfl⟩⟩
  have hpM : p + M ≤ len := by omega
  have HP : Hid (nm E = (if E = 10 then 30 else if E = 11 then 31 else if E = 12 then 32 else E)) := by show _ = _; rfl
  have H12 : Hid (E = 0 ∨ E = 10 ∨ E = 11 ∨ E = 12) := hcd
  have HR : Hid (nm E ≠ 0 → V = 0 ∧ M = 0) := her
  clear h hx hrd hru hb her hcd
  rcases hA.out with ⟨rfl, rfl⟩ | ⟨ad, rfl, ha1⟩
  all_goals
    by_cases h1 : E = 10
    · subst h1
      obtain ⟨rfl, rfl⟩ := HR.out (by decide)
      go_enter Tryd.func110, Tryd.ntmps110
      go_wp2_with fail
      refine (HD.out _ HS.out).mono ?_
      rintro r w1 ⟨rfl, rfl⟩
      go_wp2
      go_ret3
      exact ⟨rfl, rfl⟩
    · by_cases h2 : E = 11
      · subst h2
        obtain ⟨rfl, rfl⟩ := HR.out (by decide)
        go_enter Tryd.func110, Tryd.ntmps110
        go_wp2_with fail
        refine (HD.out _ HS.out).mono ?_
        rintro r w1 ⟨rfl, rfl⟩
        go_wp2
        go_ret3
        exact ⟨rfl, rfl⟩
      · by_cases h3 : E = 12
        · subst h3
          obtain ⟨rfl, rfl⟩ := HR.out (by decide)
          go_enter Tryd.func110, Tryd.ntmps110
          go_wp2_with fail
          refine (HD.out _ HS.out).mono ?_
          rintro r w1 ⟨rfl, rfl⟩
          go_wp2
          go_ret3
          exact ⟨rfl, rfl⟩
        · obtain rfl : E = 0 := by have := H12.out; omega
          clear h1 h2 h3
          go_enter Tryd.func110, Tryd.ntmps110
          go_wp2_with fail
          refine (HD.out _ HS.out).mono ?_
          rintro r w1 ⟨rfl, rfl⟩
          go_wp2
          go_ret3
          refine ⟨ret3 rfl ?_ rfl, rfl⟩
          first
            | rfl
            | (simp [pl, nm]; done)
            | (rw [show pl (p + M) (nm 0) = p + M from rfl]; omega)

theorem ret3s {s s' : ByteArray} {k2 k3 : IntKind} {b c b' c' : Int} (h1 : s = s') (h2 : b = b') (h3 : c = c') : Ending.returned (.tuple #[.string s, .int k2 b, .int k3 c]) = .returned (.tuple #[.string s', .int k2 b', .int k3 c']) := by rw [h1, h2, h3]

set_option maxRecDepth 20000 in
theorem upto_c (a : Option Addr) (len cap : Nat) (xs : List Int) (p : Nat) (most : Int) (w : World) (h : Seg .u8 w a len xs) (hx : Bytes xs) (hp : p ≤ len) (hlc : len ≤ cap) (hlm : len ≤ 140737488355328) (hcm : cap ≤ 9223372036854775807) (hm2 : most ≤ 9223372036854775807) :
    Calls Tryd.prog 88 #[.slice a len cap, .int .i64 (p : Int), .int .i64 most] w fun r w' => r = .returned (.tuple #[.int .i64 (ri xs p most).1, .int .i64 (pl (ri xs p most).2.1 (ri xs p most).2.2 : Nat), .int .i64 (ri xs p most).2.2]) ∧ w' = w := by
  have HN : Hid (Calls Tryd.prog 110 #[.slice a len cap, .int .i64 (p : Int)] w fun r w' => r = .returned (.tuple #[.int .u64 (ru xs p).1, .int .i64 (pl (p + (ru xs p).2.1) (ru xs p).2.2 : Nat), .int .i64 (ru xs p).2.2]) ∧ w' = w) := number_c a len cap xs p w h hx hp hlc hlm hcm
  by_cases hm : most < 0
  · have he : ri xs p most = (0, p, 1) := by simp [ri, hm]
    rw [he]
    clear h he HN
    go_enter Tryd.func88, Tryd.ntmps88
    go_wp2
    go_ret3
    exact ⟨rfl, rfl⟩
  · have hbd := ru_bd hx p
    have HI : Hid (ri xs p most = if (ru xs p).2.2 ≠ 0 then (0, p, (ru xs p).2.2) else if most < (ru xs p).1 then (0, p, 31) else ((ru xs p).1, p + (ru xs p).2.1, 0)) := by
      show _ = _
      rw [ri, if_neg hm]
    obtain ⟨V, c, E, hru⟩ : ∃ V c E, ru xs p = (V, c, E) := ⟨_, _, _, rfl⟩
    rw [hru] at HN HI hbd
    simp only at HN HI hbd
    obtain ⟨R, hR⟩ : ∃ R, R = ri xs p most := ⟨_, rfl⟩
    rw [← hR] at HI ⊢
    obtain ⟨Q, hQ⟩ : ∃ Q, Q = pl (p + c) E := ⟨_, rfl⟩
    rw [← hQ] at HN
    have HQ : Hid (Q = pl (p + c) E) := hQ
    clear h hru hR hQ hx
    have hm0 : 0 ≤ most := by omega
    clear hm
    by_cases hE : E = 0
    · subst hE
      rw [if_neg (by simp)] at HI
      by_cases hv : most < V
      · rw [if_pos hv] at HI
        rw [HI.out]
        clear HI HQ
        go_enter Tryd.func88, Tryd.ntmps88
        go_wp2_with fail
        refine HN.out.mono ?_
        rintro r w1 ⟨rfl, rfl⟩
        go_wp2
        go_ret3
        exact ⟨rfl, rfl⟩
      · rw [if_neg hv] at HI
        rw [HI.out]
        have hd : decide (most < V) = false := by simp; omega
        clear HI
        go_enter Tryd.func88, Tryd.ntmps88
        go_wp2_with fail
        refine HN.out.mono ?_
        rintro r w1 ⟨rfl, rfl⟩
        go_wp2
        go_ret3
        exact ⟨ret3 (by omega) (by rw [HQ.out]) rfl, rfl⟩
    · have hb : (E == 0) = false := by simp [hE]
      have hb2 : (E != 0) = true := by simp [hE]
      have hz : Hid (pl p E = 0) := by show _ = _; simp [pl, hE]
      rw [if_pos hE] at HI
      rw [HI.out]
      clear HI hE
      go_enter Tryd.func88, Tryd.ntmps88
      go_wp2_with fail
      refine HN.out.mono ?_
      rintro r w1 ⟨rfl, rfl⟩
      go_wp2
      go_ret3
      exact ⟨ret3 rfl (by rw [hz.out]; rfl) rfl, rfl⟩

set_option maxRecDepth 20000 in
theorem text_c (a : Option Addr) (len cap : Nat) (xs : List Int) (p : Nat) (most : Int) (w : World) (h : Seg .u8 w a len xs) (hx : Bytes xs) (hp : p ≤ len) (hlc : len ≤ cap) (hlm : len ≤ 140737488355328) (hcm : cap ≤ 9223372036854775807) (hm2 : most ≤ 9223372036854775807) :
    Calls Tryd.prog 90 #[.slice a len cap, .int .i64 (p : Int), .int .i64 most] w fun r w' => r = .returned (.tuple #[.string (strOfNums (rt xs p most).1), .int .i64 (pl (rt xs p most).2.1 (rt xs p most).2.2 : Nat), .int .i64 (rt xs p most).2.2]) ∧ w' = w := by
  have HU : Hid (Calls Tryd.prog 88 #[.slice a len cap, .int .i64 (p : Int), .int .i64 most] w fun r w' => r = .returned (.tuple #[.int .i64 (ri xs p most).1, .int .i64 (pl (ri xs p most).2.1 (ri xs p most).2.2 : Nat), .int .i64 (ri xs p most).2.2]) ∧ w' = w) := upto_c a len cap xs p most w h hx hp hlc hlm hcm hm2
  have hbd := ri_bd hx p (by rw [h.1]; exact hp) most
  have HT : Hid (rt xs p most = if (ri xs p most).2.2 ≠ 0 then ([], p, (ri xs p most).2.2)
      else if ((len - (ri xs p most).2.1 : Nat) : Int) < (ri xs p most).1 then ([], p, 30)
      else ((xs.drop (ri xs p most).2.1).take (ri xs p most).1.toNat, (ri xs p most).2.1 + (ri xs p most).1.toNat, 0)) := by
    show _ = _
    rw [rt, h.1]
  rw [h.1] at hbd
  obtain ⟨V, q, E, hri⟩ : ∃ V q E, ri xs p most = (V, q, E) := ⟨_, _, _, rfl⟩
  rw [hri] at hbd HU HT
  simp only at hbd HU HT
  obtain ⟨R, hR⟩ : ∃ R, R = rt xs p most := ⟨_, rfl⟩
  rw [← hR] at HT ⊢
  obtain ⟨N, rfl⟩ : ∃ N : Nat, V = N := ⟨V.toNat, by omega⟩
  obtain ⟨Q, hQ⟩ : ∃ Q, Q = pl q E := ⟨_, rfl⟩
  rw [← hQ] at HU
  by_cases hE : E = 0
  · subst hE
    obtain rfl : Q = q := by rw [hQ]; rfl
    rw [if_neg (by simp)] at HT
    have hql : Q ≤ len := hbd.2.2.2.1
    by_cases hs : ((len - Q : Nat) : Int) < N
    · rw [if_pos hs] at HT
      rw [HT.out]
      have hd : (len : Int) - (Q : Int) < N := by omega
      clear hs HT hbd h hri hR hQ hx
      go_enter Tryd.func90, Tryd.ntmps90
      go_wp2_with fail
      refine HU.out.mono ?_
      rintro r w1 ⟨rfl, rfl⟩
      go_wp2
      go_ret3
      exact ⟨rfl, rfl⟩
    · rw [if_neg hs, Int.toNat_natCast] at HT
      rw [HT.out]
      have hd : decide ((len : Int) - (Q : Int) < N) = false := by simp; omega
      have hNl : Q + N ≤ len := by omega
      obtain ⟨a1, HS, hA⟩ : ∃ a1, Hid (Seg .u8 w a1 N ((xs.drop Q).take N)) ∧ Hid ((a = none ∧ a1 = none) ∨ ∃ ad, a = some ad ∧ (if cap = Q then some ad else some (ad.add Q)) = a1) := by
        cases a with
        | none => exact ⟨none, seg_take (seg_from h Q) N (by omega), .inl ⟨rfl, rfl⟩⟩
        | some ad => exact ⟨_, seg_take (seg_cut h Q hlc) N (by omega), .inr ⟨ad, rfl, rfl⟩⟩
      have e1 : Q + N - Q = N := by omega
      have hcv := seg_string (P := Tryd.prog) 27 9 5 (cap - Q) HS.out Tryd.underlying27 Tryd.underlying5 Tryd.underlying9
      clear hs HT hbd h hri hR hQ hx
      rcases hA.out with ⟨rfl, rfl⟩ | ⟨ad, rfl, ha1⟩
      all_goals
        go_enter Tryd.func90, Tryd.ntmps90
        go_wp2_with fail
        refine HU.out.mono ?_
        rintro r w1 ⟨rfl, rfl⟩
        go_wp2
        go_ret3
        exact ⟨ret3s rfl (by rw [show pl (Q + N) 0 = Q + N from rfl]; omega) rfl, rfl⟩
  · have hb : (E == 0) = false := by simp [hE]
    have hb2 : (E != 0) = true := by simp [hE]
    have hz : Hid (pl p E = 0) := by show _ = _; simp [pl, hE]
    rw [if_pos hE] at HT
    rw [HT.out]
    clear HT hE h hri hR hQ hx hbd
    go_enter Tryd.func90, Tryd.ntmps90
    go_wp2_with fail
    refine HU.out.mono ?_
    rintro r w1 ⟨rfl, rfl⟩
    go_wp2
    go_ret3
    exact ⟨ret3s rfl (by rw [hz.out]; rfl) rfl, rfl⟩
end Go.Proofs.YtcdgfghcmeadgaaDoor
namespace Go.Proofs.YtcdgfghcmeadgaaDoor
open Go.RowKit
set_option linter.unusedVariables false

/-- What Flag takes up. -/
def rf (xs : List Int) (p : Nat) : Bool × Nat × Int :=
  if xs.length ≤ p then (false, p, 30) else if 1 < xs[p]?.getD 0 then (false, p, 32) else (xs[p]?.getD 0 == 1, p + 1, 0)
/-- What Count takes up. -/
def rc (xs : List Int) (p : Nat) (most least : Int) : Int × Nat × Int :=
  if most < 0 ∨ least < 0 then (0, p, 1) else if (ri xs p most).2.2 ≠ 0 then (0, p, (ri xs p most).2.2)
  else if 0 < least ∧ ((xs.length - (ri xs p most).2.1 : Nat) : Int) / least < (ri xs p most).1 then (0, p, 30)
  else ((ri xs p most).1, (ri xs p most).2.1, 0)

theorem ready_r (g : Nat) (a : Option Addr) (len cap : Nat) (xs : List Int) (e : Int) (p : Nat) (w : World) (h : RS w g a len cap xs e p) :
    Calls Tryd.prog 106 #[.pointer (some ⟨g, 0, none⟩)] w fun r w' => r = .returned (.bool (e == 0)) ∧ RS w' g a len cap xs e p ∧ w.grownBy w' (some g) :=
  (ready_c g e _ _ w h.rdr).mono (fun _ _ ⟨h1, h2⟩ => ⟨h1, by rw [h2]; exact ⟨h, World.grownBy.refl _ _⟩⟩)

theorem count_no (g : Nat) (e : Int) (v : Value) (p : Int) (most least : Int) (w : World) (h : Rdr w g e v p) (he : (e == 0) = false) :
    Calls Tryd.prog 82 #[.pointer (some ⟨g, 0, none⟩), .int .i64 most, .int .i64 least] w fun r w' => r = .returned (.int .i64 0) ∧ w' = w := by
  go_enter Tryd.func82, Tryd.ntmps82
  go_wp2_with fail
  refine (ready_c g e v p w h).mono ?_
  rintro r w1 ⟨rfl, rfl⟩
  go_wp2
  go_ret
  exact ⟨rfl, rfl⟩

set_option maxRecDepth 20000 in
theorem count_neg (g : Nat) (a : Option Addr) (len cap : Nat) (xs : List Int) (p : Nat) (most least : Int) (w : World) (h : RS w g a len cap xs 0 p) (hm : most < 0 ∨ least < 0) :
    Calls Tryd.prog 82 #[.pointer (some ⟨g, 0, none⟩), .int .i64 most, .int .i64 least] w fun r w' => r = .returned (.int .i64 (rc xs p most least).1) ∧ RS w' g a len cap xs (rc xs p most least).2.2 (rc xs p most least).2.1 ∧ w.grownBy w' (some g) := by
  have he : rc xs p most least = (0, p, 1) := by rw [rc, if_pos hm]
  rw [he]
  have HR : Hid (RS w g a len cap xs 0 p) := h
  clear h he
  by_cases h0 : 0 ≤ most
  · have hd : decide (0 ≤ least) = false := by simp; omega
    clear hm
    go_enter Tryd.func82, Tryd.ntmps82
    go_wp2_with fail
    refine (ready_c g 0 _ _ w HR.out.rdr).mono ?_
    rintro r w1 ⟨rfl, rfl⟩
    go_wp2_with fail
    refine (rmust_ok g a len cap xs p 1 _ rfl HR.out).mono ?_
    rintro r w2 ⟨rfl, h1, h2⟩
    have H1 : Hid (RS w2 g a len cap xs 1 p ∧ w1.grownBy w2 (some g)) := ⟨h1, h2⟩
    clear h1 h2
    go_wp2
    go_ret
    exact ⟨rfl, H1.out.1, H1.out.2⟩
  · have hd : decide (0 ≤ most) = false := by simp; omega
    clear hm h0
    go_enter Tryd.func82, Tryd.ntmps82
    go_wp2_with fail
    refine (ready_c g 0 _ _ w HR.out.rdr).mono ?_
    rintro r w1 ⟨rfl, rfl⟩
    go_wp2_with fail
    refine (rmust_ok g a len cap xs p 1 _ rfl HR.out).mono ?_
    rintro r w2 ⟨rfl, h1, h2⟩
    have H1 : Hid (RS w2 g a len cap xs 1 p ∧ w1.grownBy w2 (some g)) := ⟨h1, h2⟩
    clear h1 h2
    go_wp2
    go_ret
    exact ⟨rfl, H1.out.1, H1.out.2⟩

set_option maxRecDepth 20000 in
set_option maxHeartbeats 1000000 in
theorem count_pos (g : Nat) (a : Option Addr) (len cap : Nat) (xs : List Int) (p : Nat) (most least : Int) (w : World) (h : RS w g a len cap xs 0 p) (hm : 0 ≤ most) (hm2 : most ≤ 9223372036854775807) (hl : 0 < least) (hl2 : least ≤ 9223372036854775807) :
    Calls Tryd.prog 82 #[.pointer (some ⟨g, 0, none⟩), .int .i64 most, .int .i64 least] w fun r w' => r = .returned (.int .i64 (rc xs p most least).1) ∧ RS w' g a len cap xs (rc xs p most least).2.2 (rc xs p most least).2.1 ∧ w.grownBy w' (some g) := by
  have HR : Hid (RS w g a len cap xs 0 p) := h
  have HI : Hid (Calls Tryd.prog 81 #[.pointer (some ⟨g, 0, none⟩), .int .i64 most] w fun r w' => r = .returned (.int .i64 (ri xs p most).1) ∧ RS w' g a len cap xs (ri xs p most).2.2 (ri xs p most).2.1 ∧ w.grownBy w' (some g)) := int_ok g a len cap xs p most w h hm2
  have hbd := ri_bd h.bytes p (by rw [h.seg.1]; exact h.le) most
  have HC : Hid (rc xs p most least = if (ri xs p most).2.2 ≠ 0 then (0, p, (ri xs p most).2.2)
      else if ((len - (ri xs p most).2.1 : Nat) : Int) / least < (ri xs p most).1 then (0, p, 30)
      else ((ri xs p most).1, (ri xs p most).2.1, 0)) := by
    show _ = _
    rw [rc, h.seg.1, if_neg (by omega)]
    simp [hl]
  rw [h.seg.1] at hbd
  obtain ⟨V, q, E, hri⟩ : ∃ V q E, ri xs p most = (V, q, E) := ⟨_, _, _, rfl⟩
  rw [hri] at hbd HI HC
  simp only at hbd HI HC
  have h3 := h.rdr.c3
  have hple := h.le
  have hlm := h.lm
  obtain ⟨R, hR⟩ : ∃ R, R = rc xs p most least := ⟨_, rfl⟩
  rw [← hR] at HC ⊢
  clear h hri hR
  obtain ⟨L, hL⟩ : ∃ L, L = len - q := ⟨_, rfl⟩
  have HL : Hid (∀ w, RS w g a len cap xs E q → Calls Tryd.prog 108 #[.pointer (some ⟨g, 0, none⟩)] w fun r w' => r = .returned (.int .i64 (L : Int)) ∧ RS w' g a len cap xs E q ∧ w.grownBy w' (some g)) := by rw [hL]; exact fun w h => left_r g a len cap xs E q w h
  rw [← hL] at HC
  have hLm : L ≤ 140737488355328 := by omega
  have HLL : Hid (L = len - q) := hL
  clear hL
  have hne : (least == 0) = false := by simp; omega
  have hl0 : 0 ≤ least := by omega
  have hn0 : least ≠ 0 := by omega
  have hDb : 0 ≤ (L : Int) / least ∧ (L : Int) / least ≤ L := ⟨Int.ediv_nonneg (by omega) hl0, Int.ediv_le_self _ (by omega)⟩
  have htd : (L : Int).tdiv least = (L : Int) / least := Int.tdiv_eq_ediv_of_nonneg (by omega)
  obtain ⟨D, hD⟩ : ∃ D, D = (L : Int) / least := ⟨_, rfl⟩
  rw [← hD] at HC hDb htd
  have hw1 : wrap64 ((L : Int) / least) = D := by rw [← hD]; exact IntWalk.wrap64_in _ ⟨by omega, by omega⟩
  have hw2 : IntKind.i64.wrap ((L : Int).tdiv least) = D := by rw [htd, IntKind.wrap_i64]; omega
  have hw3 : IntKind.i64.wrap ((L : Int) / least) = D := by rw [← hD, IntKind.wrap_i64]; omega
  have hw4 : IntKind.i64.wrap D = D := by rw [IntKind.wrap_i64]; omega
  clear hD hDb
  by_cases hE : E = 0
  · subst hE
    rw [if_neg (by simp)] at HC
    by_cases hv : V ≤ D
    · rw [if_neg (by omega)] at HC
      have hd : decide (V ≤ D) = true := by simp; omega
      clear hv hbd
      go_enter Tryd.func82, Tryd.ntmps82
      go_wp2_with fail
      refine (ready_c g 0 _ _ w HR.out.rdr).mono ?_
      rintro r w1 ⟨rfl, rfl⟩
      go_wp2_with fail
      refine (must_so g 0 1 _ HR.out.rdr.c0).mono ?_
      rintro r w2 ⟨rfl, rfl⟩
      go_wp2_with fail
      refine HI.out.mono ?_
      rintro r w3 ⟨rfl, h1, h2⟩
      have H1 : Hid (RS w3.drew g a len cap xs 0 q ∧ w2.grownBy w3.drew (some g)) := ⟨h1.drewN 1, gb_drewN h2 1⟩
      clear h1 h2
      go_wp2
      go_region_held3 (fun _ => True) (trivial) (first
        | (go_at_call 108; refine (HL.out _ H1.out.1).mono ?_; rintro r w4 ⟨rfl, h1, h2⟩; have H2 : Hid (RS w4 g a len cap xs 0 q ∧ w2.grownBy w4 (some g)) := ⟨h1, gb_trans H1.out.2 h2⟩; clear h1 h2)
        | (go_at_call 72; go_must (refine (must_r g a len cap xs 0 q 30 _ H2.out.1).mono ?_); rintro r w5 ⟨rfl, h1, h2⟩; have H3 : Hid (RS w5 g a len cap xs 0 q ∧ w2.grownBy w5 (some g)) := ⟨h1, gb_trans H2.out.2 h2⟩; clear h1 h2))
      go_wp2
      go_ret
      rw [HC.out]
      exact ⟨rfl, H3.out.1, H3.out.2⟩
    · rw [if_pos (by omega)] at HC
      have hd : decide (V ≤ D) = false := by simp; omega
      clear hv hbd
      go_enter Tryd.func82, Tryd.ntmps82
      go_wp2_with fail
      refine (ready_c g 0 _ _ w HR.out.rdr).mono ?_
      rintro r w1 ⟨rfl, rfl⟩
      go_wp2_with fail
      refine (must_so g 0 1 _ HR.out.rdr.c0).mono ?_
      rintro r w2 ⟨rfl, rfl⟩
      go_wp2_with fail
      refine HI.out.mono ?_
      rintro r w3 ⟨rfl, h1, h2⟩
      have H1 : Hid (RS w3.drew g a len cap xs 0 q ∧ w2.grownBy w3.drew (some g)) := ⟨h1.drewN 1, gb_drewN h2 1⟩
      clear h1 h2
      go_wp2
      go_region_held3 (fun _ => True) (trivial) (first
        | (go_at_call 108; refine (HL.out _ H1.out.1).mono ?_; rintro r w4 ⟨rfl, h1, h2⟩; have H2 : Hid (RS w4 g a len cap xs 0 q ∧ w2.grownBy w4 (some g)) := ⟨h1, gb_trans H1.out.2 h2⟩; clear h1 h2)
        | (go_at_call 72; go_must (refine (rmust_ok g a len cap xs q 30 _ rfl H2.out.1).mono ?_); rintro r w5 ⟨rfl, h1, h2⟩; have H3 : Hid (RS w5 g a len cap xs 30 q ∧ w2.grownBy w5 (some g)) := ⟨h1, gb_trans H2.out.2 h2⟩; clear h1 h2))
      have c3 := H3.out.1.rdr.c3
      have f3 := H3.out.1.rdr.free 3
      go_wp2
      go_ret
      obtain ⟨m1, m2⟩ := H3.out.1.moves p hple
      rw [HC.out]
      exact ⟨rfl, m1, gb_trans H3.out.2 m2⟩
  · have hb : (E == 0) = false := by simp [hE]
    obtain ⟨rfl, rfl⟩ := hbd.2.2.2.2 hE
    rw [if_pos hE] at HC
    clear hE hbd
    go_enter Tryd.func82, Tryd.ntmps82
    go_wp2_with fail
    refine (ready_c g 0 _ _ w HR.out.rdr).mono ?_
    rintro r w1 ⟨rfl, rfl⟩
    go_wp2_with fail
    refine (must_so g 0 1 _ HR.out.rdr.c0).mono ?_
    rintro r w2 ⟨rfl, rfl⟩
    go_wp2_with fail
    refine HI.out.mono ?_
    rintro r w3 ⟨rfl, h1, h2⟩
    have H1 : Hid (RS w3.drew g a len cap xs E q ∧ w2.grownBy w3.drew (some g)) := ⟨h1.drewN 1, gb_drewN h2 1⟩
    clear h1 h2
    go_wp2
    go_region_held3 (fun _ => True) (trivial) (first
      | (go_at_call 108; refine (HL.out _ H1.out.1).mono ?_; rintro r w4 ⟨rfl, h1, h2⟩; have H2 : Hid (RS w4 g a len cap xs E q ∧ w2.grownBy w4 (some g)) := ⟨h1, gb_trans H1.out.2 h2⟩; clear h1 h2)
      | (go_at_call 72; go_must (refine (must_n g a len cap xs E q _ _ H2.out.1 hb _).mono ?_); rintro r w5 ⟨rfl, h1, h2⟩; have H3 : Hid (RS w5 g a len cap xs E q ∧ w2.grownBy w5 (some g)) := ⟨h1, gb_trans H2.out.2 h2⟩; clear h1 h2))
    have c3 := H3.out.1.rdr.c3
    have f3 := H3.out.1.rdr.free 3
    go_wp2
    go_ret
    obtain ⟨m1, m2⟩ := H3.out.1.moves q hple
    rw [HC.out]
    exact ⟨rfl, m1, gb_trans H3.out.2 m2⟩

set_option maxRecDepth 20000 in
set_option maxHeartbeats 1000000 in
theorem count_zero (g : Nat) (a : Option Addr) (len cap : Nat) (xs : List Int) (p : Nat) (most : Int) (w : World) (h : RS w g a len cap xs 0 p) (hm : 0 ≤ most) (hm2 : most ≤ 9223372036854775807) :
    Calls Tryd.prog 82 #[.pointer (some ⟨g, 0, none⟩), .int .i64 most, .int .i64 0] w fun r w' => r = .returned (.int .i64 (rc xs p most 0).1) ∧ RS w' g a len cap xs (rc xs p most 0).2.2 (rc xs p most 0).2.1 ∧ w.grownBy w' (some g) := by
  have HR : Hid (RS w g a len cap xs 0 p) := h
  have HI : Hid (Calls Tryd.prog 81 #[.pointer (some ⟨g, 0, none⟩), .int .i64 most] w fun r w' => r = .returned (.int .i64 (ri xs p most).1) ∧ RS w' g a len cap xs (ri xs p most).2.2 (ri xs p most).2.1 ∧ w.grownBy w' (some g)) := int_ok g a len cap xs p most w h hm2
  have hbd := ri_bd h.bytes p (by rw [h.seg.1]; exact h.le) most
  have HC : Hid (rc xs p most 0 = if (ri xs p most).2.2 ≠ 0 then (0, p, (ri xs p most).2.2)
      else ((ri xs p most).1, (ri xs p most).2.1, 0)) := by
    show _ = _
    rw [rc, if_neg (by omega)]
    simp
  rw [h.seg.1] at hbd
  obtain ⟨V, q, E, hri⟩ : ∃ V q E, ri xs p most = (V, q, E) := ⟨_, _, _, rfl⟩
  rw [hri] at hbd HI HC
  simp only at hbd HI HC
  have h3 := h.rdr.c3
  have hple := h.le
  obtain ⟨R, hR⟩ : ∃ R, R = rc xs p most 0 := ⟨_, rfl⟩
  rw [← hR] at HC ⊢
  clear h hri hR
  by_cases hE : E = 0
  · subst hE
    rw [if_neg (by simp)] at HC
    clear hbd
    go_enter Tryd.func82, Tryd.ntmps82
    go_wp2_with fail
    refine (ready_c g 0 _ _ w HR.out.rdr).mono ?_
    rintro r w1 ⟨rfl, rfl⟩
    go_wp2_with fail
    refine (must_so g 0 1 _ HR.out.rdr.c0).mono ?_
    rintro r w2 ⟨rfl, rfl⟩
    go_wp2_with fail
    refine HI.out.mono ?_
    rintro r w3 ⟨rfl, h1, h2⟩
    have H1 : Hid (RS w3 g a len cap xs 0 q ∧ w2.grownBy w3 (some g)) := ⟨h1, h2⟩
    have HQ : Hid (∀ n, Calls Tryd.prog 72 #[.pointer (some ⟨g, 0, none⟩), .bool true, .int .i64 30] (w3.drewN n) fun r w' => r = .returned (.bool true) ∧ w' = w3.drewN n) := by
      intro n
      have := must_so g 0 30 (w3.drewN n) (h1.drewN n).rdr.c0
      exact this
    clear h1 h2
    go_wp2
    go_quiet ((go_at_call 72; go_must (refine Calls.quiet_of_same (HQ.out _))))
    obtain ⟨w4, hw4⟩ : ∃ w4, w4 = w3.drewN nq := ⟨_, rfl⟩
    rw [← hw4]
    have H4 : Hid (RS w4 g a len cap xs 0 q ∧ w2.grownBy w4 (some g)) := by rw [hw4]; exact ⟨H1.out.1.drewN _, gb_drewN H1.out.2 _⟩
    clear hw4
    go_wp2
    go_ret
    rw [HC.out]
    exact ⟨rfl, H4.out.1, H4.out.2⟩
  · have hb : (E == 0) = false := by simp [hE]
    obtain ⟨rfl, rfl⟩ := hbd.2.2.2.2 hE
    rw [if_pos hE] at HC
    clear hE hbd
    go_enter Tryd.func82, Tryd.ntmps82
    go_wp2_with fail
    refine (ready_c g 0 _ _ w HR.out.rdr).mono ?_
    rintro r w1 ⟨rfl, rfl⟩
    go_wp2_with fail
    refine (must_so g 0 1 _ HR.out.rdr.c0).mono ?_
    rintro r w2 ⟨rfl, rfl⟩
    go_wp2_with fail
    refine HI.out.mono ?_
    rintro r w3 ⟨rfl, h1, h2⟩
    have H1 : Hid (RS w3 g a len cap xs E q ∧ w2.grownBy w3 (some g)) := ⟨h1, h2⟩
    have HQ : Hid (∀ n, Calls Tryd.prog 72 #[.pointer (some ⟨g, 0, none⟩), .bool true, .int .i64 30] (w3.drewN n) fun r w' => r = .returned (.bool false) ∧ w' = w3.drewN n) := by
      intro n
      have := must_so g E 30 (w3.drewN n) (h1.drewN n).rdr.c0
      rw [hb] at this; exact this
    clear h1 h2
    go_wp2
    go_quiet ((go_at_call 72; go_must (refine Calls.quiet_of_same (HQ.out _))))
    obtain ⟨w4, hw4⟩ : ∃ w4, w4 = w3.drewN nq := ⟨_, rfl⟩
    rw [← hw4]
    have H4 : Hid (RS w4 g a len cap xs E q ∧ w2.grownBy w4 (some g)) := by rw [hw4]; exact ⟨H1.out.1.drewN _, gb_drewN H1.out.2 _⟩
    clear hw4
    have c3 := H4.out.1.rdr.c3
    have f3 := H4.out.1.rdr.free 3
    go_wp2
    go_ret
    obtain ⟨m1, m2⟩ := H4.out.1.moves q hple
    rw [HC.out]
    exact ⟨rfl, m1, gb_trans H4.out.2 m2⟩

theorem count_ok (g : Nat) (a : Option Addr) (len cap : Nat) (xs : List Int) (p : Nat) (most least : Int) (w : World) (h : RS w g a len cap xs 0 p) (hm2 : most ≤ 9223372036854775807) (hl2 : least ≤ 9223372036854775807) :
    Calls Tryd.prog 82 #[.pointer (some ⟨g, 0, none⟩), .int .i64 most, .int .i64 least] w fun r w' => r = .returned (.int .i64 (rc xs p most least).1) ∧ RS w' g a len cap xs (rc xs p most least).2.2 (rc xs p most least).2.1 ∧ w.grownBy w' (some g) := by
  by_cases hm : most < 0 ∨ least < 0
  · exact count_neg g a len cap xs p most least w h hm
  · by_cases hl : least = 0
    · subst hl; exact count_zero g a len cap xs p most w h (by omega) hm2
    · exact count_pos g a len cap xs p most least w h (by omega) hm2 (by omega) hl2
end Go.Proofs.YtcdgfghcmeadgaaDoor
namespace Go.Proofs.YtcdgfghcmeadgaaDoor
open Go.RowKit
set_option linter.unusedVariables false

/-- The document's Reader's block. -/
def Xdr (w : World) (g : Nat) (v : Value) (p e : Int) : Prop := w.heap[g]? = some (.cells #[v, .int .i64 p, .int .i64 e] 109 (0, 0))
theorem Xdr.c0 {w g v p e} (h : Xdr w g v p e) : w.cell? ⟨g, 0, none⟩ = some v := by rw [cell_of_row w g 0 _ _ _ h]; rfl
theorem Xdr.c1 {w g v p e} (h : Xdr w g v p e) : w.cell? ⟨g, 1, none⟩ = some (.int .i64 p) := by rw [cell_of_row w g 1 _ _ _ h]; rfl
theorem Xdr.c2 {w g v p e} (h : Xdr w g v p e) : w.cell? ⟨g, 2, none⟩ = some (.int .i64 e) := by rw [cell_of_row w g 2 _ _ _ h]; rfl
theorem Xdr.free {w g v p e} (h : Xdr w g v p e) (i : Nat) : w.frozen? ⟨g, i, none⟩ = false := frozen_of_row w g i _ _ h
theorem Xdr.setP {w g v p e} (h : Xdr w g v p e) (x : Int) : Xdr (w.setCell ⟨g, 1, none⟩ (.int .i64 x)) g v x e := by
  unfold Xdr; rw [heap_setCell_same w g 1 _ _ _ h]; rfl
theorem Xdr.setE {w g v p e} (h : Xdr w g v p e) (x : Int) : Xdr (w.setCell ⟨g, 2, none⟩ (.int .i64 x)) g v p x := by
  unfold Xdr; rw [heap_setCell_same w g 2 _ _ _ h]; rfl
theorem Seg.grew0 {k : IntKind} {w w' : World} {a : Option Addr} {len : Nat} {xs : List Int} {row : Option Nat} (h : Seg k w a len xs) (hg : w.grownBy w' row) (hne : ∀ g, row = some g → len = 0 ∨ Off a g) : Seg k w' a len xs := by
  by_cases h0 : len = 0
  · exact ⟨h.1, .inl h0⟩
  · exact h.grew hg (fun g hgr => (hne g hgr).resolve_left h0)
/-- The document's Reader as plain data. -/
structure XS (w : World) (g : Nat) (a : Option Addr) (len cap : Nat) (xs : List Int) (e : Int) (p : Nat) : Prop where
  rdr : Xdr w g (.slice a len cap) p e
  seg : Seg .u8 w a len xs
  bytes : Bytes xs
  off : len = 0 ∨ Off a g
  le : p ≤ len
  lc : len ≤ cap
  lm : len ≤ 140737488355328
  cm : cap ≤ 9223372036854775807
theorem XS.move {w w' g a len cap xs e p e' p'} (h : XS w g a len cap xs e p) (hg : w.grownBy w' (some g)) (hr : Xdr w' g (.slice a len cap) (p' : Nat) e') (hp : p' ≤ len) : XS w' g a len cap xs e' p' :=
  ⟨hr, h.seg.grew0 hg (fun k hk => by cases hk; exact h.off), h.bytes, h.off, hp, h.lc, h.lm, h.cm⟩
theorem XS.other {w w' g a len cap xs e p row} (h : XS w g a len cap xs e p) (hg : w.grownBy w' row) (h1 : row ≠ some g) (h2 : ∀ k, row = some k → len = 0 ∨ Off a k) : XS w' g a len cap xs e p :=
  ⟨(hg.block g (lt_of_block h.rdr) (fun e => h1 e.symm)).trans h.rdr, h.seg.grew0 hg h2, h.bytes, h.off, h.le, h.lc, h.lm, h.cm⟩
theorem XS.new {w w' g a len cap xs e p} (h : XS w g a len cap xs e p) (hg : w.grownBy w' none) : XS w' g a len cap xs e p := h.other hg (by simp) (by simp)
theorem XS.drewN {w g a len cap xs e p} (h : XS w g a len cap xs e p) (n : Nat) : XS (w.drewN n) g a len cap xs e p := h.new (gb_drewN (World.grownBy.refl _ _) n)
theorem XS.fails {w g a len cap xs e p} (h : XS w g a len cap xs e p) (x : Int) : XS (w.setCell ⟨g, 2, none⟩ (.int .i64 x)) g a len cap xs x p ∧ w.grownBy (w.setCell ⟨g, 2, none⟩ (.int .i64 x)) (some g) :=
  ⟨h.move (grownBy_cell _ _ _ _) (h.rdr.setE x) h.le, grownBy_cell _ _ _ _⟩
theorem XS.moves {w g a len cap xs e p} (h : XS w g a len cap xs e p) (q : Nat) (hq : q ≤ len) : XS (w.setCell ⟨g, 1, none⟩ (.int .i64 (q : Int))) g a len cap xs e q ∧ w.grownBy (w.setCell ⟨g, 1, none⟩ (.int .i64 (q : Int))) (some g) :=
  ⟨h.move (grownBy_cell _ _ _ _) (h.rdr.setP q) hq, grownBy_cell _ _ _ _⟩

theorem xfail_c (g : Nat) (a : Option Addr) (len cap : Nat) (xs : List Int) (e x : Int) (p : Nat) (w : World) (h : XS w g a len cap xs e p) :
    Calls Tryd.prog 111 #[.pointer (some ⟨g, 0, none⟩), .int .i64 x] w fun r w' => r = .returned (.tuple #[]) ∧ XS w' g a len cap xs (if e = 0 then x else e) p ∧ w.grownBy w' (some g) := by
  have HR : Hid (XS w g a len cap xs e p) := h
  have c2 := h.rdr.c2
  have f2 := h.rdr.free 2
  clear h
  by_cases he : e = 0
  · subst he
    go_enter Tryd.func111, Tryd.ntmps111
    go_wp2
    go_end0
    exact ⟨rfl, HR.out.fails x⟩
  · have hb : (e == 0) = false := by simp [he]
    have HE : Hid ((if e = 0 then x else e) = e) := by show _ = _; simp [he]
    rw [HE.out]
    clear he HE
    go_enter Tryd.func111, Tryd.ntmps111
    go_wp2
    go_end0
    exact ⟨rfl, HR.out, World.grownBy.refl _ _⟩

theorem done_c (g : Nat) (a : Option Addr) (len cap : Nat) (xs : List Int) (p q : Nat) (x : Int) (w : World) (h : XS w g a len cap xs 0 p) (hq : q ≤ len) :
    Calls Tryd.prog 89 #[.pointer (some ⟨g, 0, none⟩), .int .i64 (q : Int), .int .i64 x] w fun r w' => r = .returned (.bool (x == 0)) ∧ XS w' g a len cap xs x (if x = 0 then q else p) ∧ w.grownBy w' (some g) := by
  have HR : Hid (XS w g a len cap xs 0 p) := h
  have c1 := h.rdr.c1
  have f1 := h.rdr.free 1
  clear h
  by_cases hx : x = 0
  · subst hx
    go_enter Tryd.func89, Tryd.ntmps89
    go_wp2
    go_ret
    exact ⟨rfl, HR.out.moves q hq⟩
  · have hb : (x != 0) = true := by simp [hx]
    have hb2 : Hid ((x == 0) = false) := by show _ = _; simp [hx]
    have HE : Hid ((if x = 0 then q else p) = p) := by show _ = _; simp [hx]
    rw [HE.out, hb2.out]
    clear hx HE hb2
    go_enter Tryd.func89, Tryd.ntmps89
    go_wp2_with fail
    refine (xfail_c g a len cap xs 0 x p w HR.out).mono ?_
    rintro r w1 ⟨rfl, h1, h2⟩
    have H1 : Hid (XS w1 g a len cap xs x p ∧ w.grownBy w1 (some g)) := ⟨h1, h2⟩
    clear h1 h2
    go_wp2
    go_ret
    exact ⟨rfl, H1.out.1, H1.out.2⟩

theorem xend_c (g : Nat) (a : Option Addr) (len cap : Nat) (xs : List Int) (e : Int) (p : Nat) (w : World) (h : XS w g a len cap xs e p) :
    Calls Tryd.prog 54 #[.pointer (some ⟨g, 0, none⟩)] w fun r w' => r = .returned (.int .i64 (rend len e p)) ∧ ∃ n, w' = w.drewN n := by
  have c0 := h.rdr.c0
  have c1 := h.rdr.c1
  have c2 := h.rdr.c2
  have hle := h.le
  have hlm := h.lm
  clear h
  by_cases he : e = 0
  · subst he
    by_cases hlt : p < len
    · have HE : Hid (rend len 0 p = 34) := by show _ = _; simp [rend, hlt]
      have hd : decide (p < len) = true := by simp; omega
      clear hle
      go_enter Tryd.func54, Tryd.ntmps54
      go_wp2
      go_quiet (fail)
      go_wp2
      go_ret
      exact ⟨ret_int HE.out.symm, _, rfl⟩
    · have HE : Hid (rend len 0 p = 0) := by show _ = _; simp [rend, hlt]
      have hd : decide (p < len) = false := by simp; omega
      clear hle hlt
      go_enter Tryd.func54, Tryd.ntmps54
      go_wp2
      go_quiet (fail)
      go_wp2
      go_ret
      exact ⟨ret_int HE.out.symm, _, rfl⟩
  · have hb : (e == 0) = false := by simp [he]
    have HE : Hid (rend len e p = e) := by show _ = _; simp [rend, he]
    clear he
    go_enter Tryd.func54, Tryd.ntmps54
    go_wp2
    go_quiet (fail)
    go_wp2
    go_ret
    exact ⟨ret_int HE.out.symm, _, rfl⟩

theorem xint_no (g : Nat) (a : Option Addr) (len cap : Nat) (xs : List Int) (e : Int) (p : Nat) (most : Int) (w : World) (h : XS w g a len cap xs e p) (he : (e == 0) = false) :
    Calls Tryd.prog 52 #[.pointer (some ⟨g, 0, none⟩), .int .i64 most] w fun r w' => r = .returned (.int .i64 0) ∧ w' = w := by
  have c2 := h.rdr.c2
  have hb : (e != 0) = true := by simp at he ⊢; exact he
  clear h
  go_enter Tryd.func52, Tryd.ntmps52
  go_wp2
  go_ret
  exact ⟨rfl, rfl⟩

set_option maxRecDepth 20000 in
theorem xint_ok (g : Nat) (a : Option Addr) (len cap : Nat) (xs : List Int) (p : Nat) (most : Int) (w : World) (h : XS w g a len cap xs 0 p) (hm2 : most ≤ 9223372036854775807) :
    Calls Tryd.prog 52 #[.pointer (some ⟨g, 0, none⟩), .int .i64 most] w fun r w' => r = .returned (.int .i64 (ri xs p most).1) ∧ XS w' g a len cap xs (ri xs p most).2.2 (ri xs p most).2.1 ∧ w.grownBy w' (some g) := by
  have HR : Hid (XS w g a len cap xs 0 p) := h
  have c0 := h.rdr.c0
  have c1 := h.rdr.c1
  have c2 := h.rdr.c2
  have HN : Hid (∀ n, Calls Tryd.prog 88 #[.slice a len cap, .int .i64 (p : Int), .int .i64 most] (w.drewN n) fun r w' => r = .returned (.tuple #[.int .i64 (ri xs p most).1, .int .i64 (pl (ri xs p most).2.1 (ri xs p most).2.2 : Nat), .int .i64 (ri xs p most).2.2]) ∧ w' = w.drewN n) :=
    fun n => upto_c a len cap xs p most (w.drewN n) (h.drewN n).seg h.bytes h.le h.lc h.lm h.cm hm2
  have HRR : Hid ((ri xs p most).2.2 ≠ 0 → (ri xs p most).1 = 0 ∧ (ri xs p most).2.1 = p) := (ri_bd h.bytes p (by rw [h.seg.1]; exact h.le) most).2.2.2.2
  have HLE : Hid ((ri xs p most).2.1 ≤ len) := by have := (ri_bd h.bytes p (by rw [h.seg.1]; exact h.le) most).2.2.2.1; rw [h.seg.1] at this; exact this
  obtain ⟨V, c, E, hru⟩ : ∃ V c E, ri xs p most = (V, c, E) := ⟨_, _, _, rfl⟩
  rw [hru] at HN HRR HLE ⊢
  simp only at HN HRR HLE ⊢
  obtain ⟨Q, hQ⟩ : ∃ Q, Q = pl c E := ⟨_, rfl⟩
  rw [← hQ] at HN
  have HQ : Hid (Q ≤ len ∧ (if E = 0 then Q else p) = c) := by
    have := HLE.out
    by_cases hE : E = 0
    · subst hE; rw [hQ]; exact ⟨this, by simp [pl]⟩
    · have hc := (HRR.out hE).2
      rw [hQ, show pl c E = 0 from by simp [pl, hE], if_neg hE]
      exact ⟨Nat.zero_le _, by omega⟩
  clear h hru hQ HLE
  go_enter Tryd.func52, Tryd.ntmps52
  go_wp2
  go_quiet ((go_at_call 88; go_must (refine Calls.quiet_of_same (HN.out _))))
  obtain ⟨w2, hw2⟩ : ∃ w2, w2 = w.drewN nq := ⟨_, rfl⟩
  rw [← hw2]
  have H2 : Hid (XS w2 g a len cap xs 0 p ∧ w.grownBy w2 (some g)) := by rw [hw2]; exact ⟨HR.out.drewN _, gb_drewN (World.grownBy.refl _ _) _⟩
  clear hw2 c0 c1 c2
  go_wp2_with fail
  refine (done_c g a len cap xs p Q E w2 H2.out.1 HQ.out.1).mono ?_
  rw [HQ.out.2]
  rintro r w3 ⟨rfl, h1, h2⟩
  have H3 : Hid (XS w3 g a len cap xs E c ∧ w.grownBy w3 (some g)) := ⟨h1, gb_trans H2.out.2 h2⟩
  clear h1 h2
  by_cases hE : E = 0
  · subst hE
    go_wp2
    go_ret
    exact ⟨rfl, H3.out.1, H3.out.2⟩
  · have hb : (E == 0) = false := by simp [hE]
    obtain ⟨hv, _⟩ := HRR.out hE
    subst hv
    clear hE
    go_wp2
    go_ret
    exact ⟨rfl, H3.out.1, H3.out.2⟩

end Go.Proofs.YtcdgfghcmeadgaaDoor
namespace Go.Proofs.YtcdgfghcmeadgaaDoor
open Go.RowKit
set_option linter.unusedVariables false

/-- The marks behind the bytes. -/
def fill (n k : Nat) : List Int := (List.range n).map fun j => if j < k then ((201 : Int) + j) % 256 else 0
theorem fill_length (n k : Nat) : (fill n k).length = n := by simp [fill]
theorem fill_set (n k : Nat) : (fill n k).set k (((201 : Int) + k) % 256) = fill n (k + 1) := by
  apply List.ext_getElem?
  intro i
  by_cases hi : i < n
  · by_cases h : k = i
    · subst h; simp [fill, hi]
    · simp [fill, hi, h]
      by_cases h2 : i < k
      · simp [h2, Nat.lt_succ_of_lt h2]
      · have : ¬ i < k + 1 := by omega
        simp [h2, this]
  · rw [List.getElem?_eq_none (by simp [fill]; omega), List.getElem?_eq_none (by simp [fill]; omega)]
theorem fill_zero (n : Nat) : (fill n 0).map (Value.int .u8) = List.replicate n (.int .u8 0) := by
  apply List.ext_getElem?
  intro i
  by_cases hi : i < n <;> simp [fill, hi]
def lent (xs : List Int) : List Int := xs ++ (fill (xs.length + 9) (xs.length + 9)).drop xs.length
theorem lent_length (xs : List Int) : (lent xs).length = xs.length + 9 := by simp [lent, fill_length]
theorem lent_take (xs : List Int) : (lent xs).take xs.length = xs := by simp [lent]
theorem lent_lo (xs : List Int) (i : Nat) (h : i < xs.length) : (lent xs)[i]?.getD 0 = xs[i]?.getD 0 := by
  simp [lent, List.getElem?_append_left h]
theorem lent_hi (xs : List Int) (i : Nat) (h : xs.length ≤ i) (h2 : i < xs.length + 9) : (lent xs)[i]?.getD 0 = ((201 : Int) + i) % 256 := by
  simp only [lent]
  rw [List.getElem?_append_right h, List.getElem?_drop, show xs.length + (i - xs.length) = i from by omega]
  simp [fill, h2]

set_option maxRecDepth 20000 in
set_option maxHeartbeats 1000000 in
theorem lend_c (a : Option Addr) (len cap : Nat) (xs : List Int) (w : World) (h : Seg .u8 w a len xs) (hx : Bytes xs) (hl : len ≤ 140737488355328) :
    Calls Tryd.prog 18 #[.slice a len cap] w fun e w' => ∃ g, e = .returned (.tuple #[.slice (some ⟨g, 0, none⟩) (len + 9) (len + 9), .slice (some ⟨g, 0, none⟩) len (len + 9)]) ∧
      w.heap.size ≤ g ∧ Row .u8 5 w' g (lent xs) ∧ Below w.heap.size w w' := by
  obtain ⟨i0, hi, hz0, hz1, hz2⟩ := info_parts Tryd.infoU8
  have HS : Hid (Seg .u8 w a len xs) := h
  have hlen : Hid (xs.length = len) := h.1
  clear h
  go_enter Tryd.func18, Tryd.ntmps18
  go_wp2_with (at_make; go_must (refine wpList_make_full _ rfl _ _ 27 rfl w.heap.size 5 i0 (.int .u8 0) 1 Tryd.underlying27 hi hz0 hz1 _ _ _ _ (len + 9) rfl rfl (by omega) (by omega) (by rw [hz2]; omega) (by unfold maxLen; omega) (Nat.le_refl _) ?_); intro w1 hown hgrow)
  obtain ⟨g, hg⟩ : ∃ g, g = w.heap.size := ⟨_, rfl⟩
  rw [← hg] at hown ⊢
  have hrow : Row .u8 5 w1 g (fill (len + 9) 0) := row_of_own (fill (len + 9) 0) hown (by rw [fill_zero]; simpa [Value.cells] using toList_madeCells_one (.int .u8 0) (len + 9))
  have hbel : Below w.heap.size w w1 := (Below.refl _ _).grown hgrow (Nat.le_refl _) (fun k hk => by cases hk)
  have HG : Hid (g = w.heap.size) := hg
  clear hown hgrow hg
  go_loopw [12] (fun i wr => ∃ k : Nat, k ≤ len + 9 ∧ i = .int .i64 k ∧ Row .u8 5 wr g (fill (len + 9) k) ∧ Below w.heap.size w wr) (fun i _ => len + 9 - (intOf i).toNat)
  case atStart => exact ⟨0, Nat.zero_le _, rfl, hrow, hbel⟩
  case round =>
    obtain ⟨k, hk, rfl, hr, hb⟩ := hrel
    clear hrow hbel
    by_cases hlt : k < len + 9
    · have hcell := hr.cell k (by rw [fill_length]; exact hlt)
      have hfree := hr.free k
      have hset := hr.set k (((201 : Int) + k) % 256)
      rw [fill_set] at hset
      have hb2 := hb.setCell (p := ⟨g, k, none⟩) (by rw [HG.out]; exact Nat.le_refl _) (.int .u8 (((201 : Int) + k) % 256))
      have HR : Hid (Row .u8 5 (wr.setCell ⟨g, k, none⟩ (.int .u8 (((201 : Int) + k) % 256))) g (fill (len + 9) (k + 1))) := hset
      have HB : Hid (Below w.heap.size w (wr.setCell ⟨g, k, none⟩ (.int .u8 (((201 : Int) + k) % 256)))) := hb2
      clear hset hb2 hr hb
      go_wp2
      go_roundw
      case rel => exact ⟨k + 1, by omega, by go_num, HR.out, HB.out⟩
      case measure => simp [intOf]; omega
    · obtain rfl : k = len + 9 := by omega
      have hn : (xs.map (Value.int .u8)).length = Nat.min len (len + 9) := by rw [List.length_map, hlen.out]; exact (Nat.min_eq_left (by omega)).symm
      have HP : Hid (0 < (xs.map (Value.int .u8)).length → (some ⟨g, 0, none⟩ : Option Addr) = some ⟨g, 0, none⟩ ∧ ∃ ad, a = some ad ∧ ∀ j v, (xs.map (Value.int .u8))[j]? = some v → wr.cell? (ad.add j) = some v) := by
        intro hp
        refine ⟨rfl, ?_⟩
        rcases HS.out.2 with h0 | ⟨b, off, ha, hbw, hc⟩
        · rw [List.length_map, hlen.out] at hp; omega
        · refine ⟨⟨b, off, none⟩, ha, fun j v hv => ?_⟩
          have hj : j < len := by
            rcases Nat.lt_or_ge j len with h | h
            · exact h
            · rw [List.getElem?_eq_none (by rw [List.length_map, hlen.out]; exact h)] at hv; cases hv
          have e := (hb.cell (p := ⟨b, off + j, none⟩) hbw).trans (hc j hj)
          rw [Go.WideShapes.add_plain, e, ← hv]
          have hjx : j < xs.length := by rw [hlen.out]; exact hj
          simp [hjx]
      have H1 : Hid (∀ v ∈ xs.map (Value.int .u8), v.oneCell' = true) := by
        intro v hv
        obtain ⟨z, _, rfl⟩ := List.mem_map.1 hv
        rfl
      have HF : Hid (0 + (xs.map (Value.int .u8)).length ≤ ((fill (len + 9) (len + 9)).map (Value.int .u8)).length) := by
        show _ ≤ _
        rw [List.length_map, List.length_map, fill_length, hlen.out]; omega
      have HN : Hid ((xs.map (Value.int .u8)).length = Nat.min len (len + 9)) := hn
      clear hn
      go_wp2_with ((refine wpList_copy_splice rfl (.tmp 22) (.tmp 23) 27 27 rfl 5 Tryd.underlying27 (by rw [hi]; simp [hz1]) _ _ _ _ _ _ rfl rfl g 0 _ 5 hr (xs.map (Value.int .u8)) HN.out HP.out HF.out H1.out w.heap.size w hb (by rw [HG.out]; exact Nat.le_refl _) ?_); intro w2 hg2 hb2)
      have hrow2 : Row .u8 5 w2 g (lent xs) := by
        unfold Row
        rw [hg2.out]
        simp [splice, lent, hlen.out]
      have HR : Hid (Row .u8 5 w2 g (lent xs)) := hrow2
      have HB : Hid (Below w.heap.size w w2) := hb2
      clear hrow2 hg2 hb2 hr hb
      go_quiet (fail)
      go_wp2
      go_ret2
      go_light
      exact ⟨g, rfl, by rw [HG.out]; exact Nat.le_refl _, HR.out.drewN _, below_drewN HB.out _⟩

set_option maxRecDepth 20000 in
set_option maxHeartbeats 400000 in
theorem kept_c (g cap : Nat) (a : Option Addr) (len cap2 : Nat) (xs : List Int) (w : World) (hr : Row .u8 5 w g (lent xs)) (h : Seg .u8 w a len xs) (hx : Bytes xs) (hl : len ≤ 140737488355328) :
    Calls Tryd.prog 22 #[.slice (some ⟨g, 0, none⟩) (len + 9) cap, .slice a len cap2] w fun e w' => e = .returned (.bool true) ∧ ∃ n, w' = w.drewN n := by
  obtain ⟨hlen, h⟩ := h
  have HS : Hid (len = 0 ∨ ∃ b off, a = some ⟨b, off, none⟩ ∧ b < w.heap.size ∧ ∀ i, i < len → w.cell? ⟨b, off + i, none⟩ = some (.int .u8 (xs[i]?.getD 0))) := h
  have HL : Hid (xs.length = len) := hlen
  have HX : Hid (Bytes xs) := hx
  have HR : Hid (Row .u8 5 w g (lent xs)) := hr
  clear h hlen hx hr
  have hne : (((len : Int) + 9) != ((len : Int) + 9)) = false := by simp
  go_enter Tryd.func22, Tryd.ntmps22
  go_wp2
  go_loopw [14] (fun i wr => ∃ k n : Nat, k ≤ len + 9 ∧ i = .int .i64 k ∧ wr = w.drewN n) (fun i _ => len + 9 - (intOf i).toNat)
  case atStart => exact ⟨0, 0, Nat.zero_le _, rfl, rfl⟩
  case round =>
    obtain ⟨k, n, hk, rfl, rfl⟩ := hrel
    by_cases hlt : k < len
    · rcases HS.out with h0 | ⟨b, off, rfl, hbw, hc⟩
      · omega
      · have hcell := hc k hlt
        have hcell2 : w.cell? ⟨g, k, none⟩ = some (.int .u8 (xs[k]?.getD 0)) := by rw [← lent_lo xs k (by rw [HL.out]; exact hlt)]; exact HR.out.cell k (by rw [lent_length, HL.out]; omega)
        have hd1 : decide (len ≤ k) = false := by simp; omega
        clear hc
        go_wp2
        go_quiet (fail)
        go_wp2
        go_roundw
        case rel => exact ⟨k + 1, _, by omega, by go_num, rfl⟩
        case measure => simp [intOf]; omega
    · by_cases hlt2 : k < len + 9
      · have hcell2 : w.cell? ⟨g, k, none⟩ = some (.int .u8 (((201 : Int) + k) % 256)) := by rw [← lent_hi xs k (by rw [HL.out]; omega) (by rw [HL.out]; omega)]; exact HR.out.cell k (by rw [lent_length, HL.out]; omega)
        have hd1 : decide (k < len) = false := by simp; omega
        have hd2 : decide (len ≤ k) = true := by simp; omega
        go_wp2
        go_quiet (fail)
        go_wp2
        go_roundw
        case rel => exact ⟨k + 1, _, by omega, by go_num, rfl⟩
        case measure => simp [intOf]; omega
      · go_wp2
        go_ret
        exact ⟨rfl, _, rfl⟩
end Go.Proofs.YtcdgfghcmeadgaaDoor
namespace Go.Proofs.YtcdgfghcmeadgaaDoor
open Go.RowKit
set_option linter.unusedVariables false

theorem lead_take : ∀ (xs : List Int) (n : Nat), lead (xs.take n) = min (lead xs) n
  | [], n => by simp [lead]
  | c :: l, 0 => by simp [lead]
  | c :: l, n + 1 => by
    rw [List.take_succ_cons]
    simp only [lead]
    rw [lead_take l n]
    split <;> omega
theorem lead_len (xs : List Int) : lead xs ≤ xs.length := by
  induction xs with
  | nil => simp [lead]
  | cons c l ih => simp only [lead, List.length_cons]; split <;> omega
/-- No more than ten bytes are looked at. -/
theorem rd_take (xs : List Int) (n : Nat) (hn : 10 ≤ n) : rd (xs.take n) = rd xs := by
  rcases Nat.lt_or_ge n xs.length with h | h
  · have hl := lead_len xs
    have ht : (xs.take n).length = n := by rw [List.length_take]; omega
    unfold rd
    rw [lead_take, ht]
    rcases Nat.lt_or_ge (lead xs) 10 with k | k
    · rw [Nat.min_eq_left (by omega), if_neg (by omega), if_neg (by omega : ¬ (lead xs = xs.length ∧ xs.length < 10))]
      rw [List.getElem?_take_of_lt (by omega), List.getElem?_take_of_lt (by omega), List.take_take, Nat.min_eq_left (by omega)]
      have e1 : (lead xs = n) = False := by simp; omega
      have e2 : (lead xs = xs.length) = False := by simp; omega
      simp only [e1, e2]
    · rw [if_neg (by omega), if_pos (.inl (by omega)), if_neg (by omega), if_pos (.inl k)]
  · rw [List.take_of_length_le h]
theorem ru_take (xs : List Int) (n p : Nat) (h : p + 10 ≤ n) : ru (xs.take n) p = ru xs p := by
  unfold ru
  rw [List.drop_take, rd_take _ _ (by omega)]
theorem ri_take (xs : List Int) (n p : Nat) (most : Int) (h : p + 10 ≤ n) : ri (xs.take n) p most = ri xs p most := by
  unfold ri
  rw [ru_take xs n p h]
theorem ri_le10 {xs : List Int} (hx : Bytes xs) (p : Nat) (most : Int) : (ri xs p most).2.1 ≤ p + 10 := by
  have h := (rd_bd _ (bytes_drop hx p)).2.1.2.1
  unfold ri ru
  split
  · simp
  · split
    · simp
    · split
      · simp
      · simp; omega
/-- What a reader answers of a number, behind an error too. -/
def pI (xs : List Int) (p : Nat) (e most : Int) : Int × Nat × Int := if e ≠ 0 then (0, p, e) else ri xs p most
theorem pI_take (xs : List Int) (n p : Nat) (e most : Int) (h : p + 10 ≤ n) : pI (xs.take n) p e most = pI xs p e most := by
  unfold pI
  rw [ri_take xs n p most h]
theorem pI_le {xs : List Int} (hx : Bytes xs) {p : Nat} (hp : p ≤ xs.length) (e most : Int) : (pI xs p e most).2.1 ≤ xs.length := by
  unfold pI
  split
  · exact hp
  · exact (ri_bd hx p hp most).2.2.2.1
/-- Whether bytes begin with the mark. -/
def mk4 (xs : List Int) : Bool := decide (4 ≤ xs.length) && decide (xs.take 4 = [104, 119, 105, 49])
def h1 (xs : List Int) : Int × Nat × Int := ri (xs.drop 4) 0 1152921504606846976
def h2 (xs : List Int) : Int × Nat × Int := pI (xs.drop 4) (h1 xs).2.1 (h1 xs).2.2 1048576
/-- Seq, the count, where they end, the error. -/
def pk (xs : List Int) : Int × Int × Nat × Int := if mk4 xs = true ∧ (h2 xs).2.2 = 0 then ((h1 xs).1, (h2 xs).1, 4 + (h2 xs).2.1, 0) else (0, 0, 0, 92)
/-- How many rows there can be. -/
def rm (xs : List Int) : Int := if (pk xs).2.2.2 = 0 then min (pk xs).2.1 (((xs.length - (pk xs).2.2.1 - 4 : Nat) / 4 : Nat) : Int) else 0
/-- Where a list that is cut begins. -/
def cutI (a : Option Addr) (cap p : Nat) : Option Addr := if cap = p then a else a.map (·.add p)
theorem sliceI (a : Option Addr) (len cap p h : Nat) (P H : Int) (hP : P = p) (hH : H = h) (hp : p ≤ h) (hc : h ≤ cap) (W : World) : (Instr.slice 27 (.slice a len cap) (some (.int .i64 P)) (some (.int .i64 H)) none).run Tryd.prog W = .ok (.slice (cutI a cap p) (h - p) (cap - p)) W := by
  subst hP hH
  obtain ⟨i0, hi, hz0, hz1, hz2⟩ := info_parts Tryd.infoU8
  have hel : Tryd.prog.elem 27 = 5 := by simp [Program.elem]
  rw [run_slice_lh W 27 a len cap (by rw [hel]; exact Tryd.underlying27) .i64 .i64 p h (by omega) (by omega) (by omega)]
  rw [hel]
  simp [sizeOf, typeInfo, hi, sliced, hz1, cutI]
theorem sliceL (a : Option Addr) (len cap p : Nat) (P : Int) (hP : P = p) (hp : p ≤ len) (W : World) : (Instr.slice 27 (.slice a len cap) (some (.int .i64 P)) none none).run Tryd.prog W = .ok (.slice (cutI a cap p) (len - p) (cap - p)) W := by
  subst hP
  obtain ⟨i0, hi, hz0, hz1, hz2⟩ := info_parts Tryd.infoU8
  have hel : Tryd.prog.elem 27 = 5 := by simp [Program.elem]
  rw [run_slice_l W 27 a len cap (by rw [hel]; exact Tryd.underlying27) .i64 p (by omega) (by omega)]
  rw [hel]
  simp [sizeOf, typeInfo, hi, sliced, hz1, cutI]
theorem sliceH (a : Option Addr) (len cap h : Nat) (H : Int) (hH : H = h) (hc : h ≤ cap) (W : World) : (Instr.slice 27 (.slice a len cap) none (some (.int .i64 H)) none).run Tryd.prog W = .ok (.slice a h cap) W := by
  subst hH
  obtain ⟨i0, hi, hz0, hz1, hz2⟩ := info_parts Tryd.infoU8
  have hel : Tryd.prog.elem 27 = 5 := by simp [Program.elem]
  rw [run_slice_h W 27 a len cap (by rw [hel]; exact Tryd.underlying27) .i64 h (by omega) (by omega)]
  rw [hel]
  have ea : ∀ (a : Option Addr), Option.map (fun x => x.add 0) a = a := fun a => by cases a <;> simp [Addr.add]
  simp [sizeOf, typeInfo, hi, sliced, hz1, ea]
theorem seg_cutI {w : World} {a : Option Addr} {len cap : Nat} {xs : List Int} (h : Seg .u8 w a len xs) (p : Nat) (hlc : len ≤ cap) : Seg .u8 w (cutI a cap p) (len - p) (xs.drop p) := by
  unfold cutI
  cases a with
  | none =>
    have h0 : len = 0 := by
      rcases h.2 with z | ⟨b, off, q, _⟩
      · exact z
      · cases q
    exact ⟨by rw [List.length_drop, h.1], .inl (by omega)⟩
  | some ad => exact seg_cut h p hlc
theorem len_of_mk4 {xs : List Int} (h : mk4 xs = true) : 4 ≤ xs.length := by
  unfold mk4 at h
  simp only [Bool.and_eq_true, decide_eq_true_eq] at h
  exact h.1
theorem neq_list {s t : ByteArray} (h : s ≠ t) : (s.toList == t.toList) = false := by
  apply beq_false_of_ne
  intro e
  apply h
  rw [ByteArray.toList_eq, ByteArray.toList_eq] at e
  exact Go.WideShapes.bytes_inj e
theorem mark_eq {xs : List Int} (hx : Bytes xs) (hl : 4 ≤ xs.length) : ((strOfNums (xs.take 4)).toList == [104, 119, 105, 49]) = mk4 xs := by
  have e0 : ([104, 119, 105, 49] : List UInt8) = (ByteArray.mk #[104, 119, 105, 49]).toList := by decide +kernel
  rw [e0]
  unfold mk4
  rw [decide_eq_true hl, Bool.true_and]
  have e : (ByteArray.mk #[104, 119, 105, 49]) = strOfNums [104, 119, 105, 49] := by decide +kernel
  rw [e]
  have ht : Bytes (xs.take 4) := fun i hi => by
    have hi4 : i < 4 := by rw [List.length_take] at hi; omega
    rw [List.getElem?_take_of_lt hi4]
    exact hx i (by rw [List.length_take] at hi; omega)
  have hb : Bytes [104, 119, 105, 49] := by unfold Bytes; decide
  by_cases hq : xs.take 4 = [104, 119, 105, 49]
  · rw [hq]; simp
  · rw [decide_eq_false hq]
    exact neq_list (fun z => hq (strOfNums_inj ht hb z))
set_option maxRecDepth 20000 in
theorem marked_c (a : Option Addr) (len cap : Nat) (xs : List Int) (w : World) (h : Seg .u8 w a len xs) (hx : Bytes xs) (hl : len ≤ 140737488355328) (hlc : len ≤ cap) :
    Calls Tryd.prog 48 #[.slice a len cap] w fun r w' => r = .returned (.bool (mk4 xs)) ∧ w' = w := by
  have hxl : xs.length = len := h.1
  rcases Nat.lt_or_ge len 4 with hlt | hge
  · have hf : mk4 xs = false := by
      unfold mk4
      rw [decide_eq_false (by omega), Bool.false_and]
    rw [hf]
    have hd : decide ((4 : Int) ≤ (len : Int)) = false := by simp; omega
    clear h hf hxl
    go_enter Tryd.func48, Tryd.ntmps48
    go_wp2
    go_ret
    exact ⟨rfl, rfl⟩
  · have hd : decide ((4 : Int) ≤ (len : Int)) = true := by simp; omega
    have hs := sliceH a len cap 4 4 rfl (by omega)
    have hcv := seg_string (P := Tryd.prog) 27 9 5 cap (seg_take h 4 hge) Tryd.underlying27 Tryd.underlying5 Tryd.underlying9
    have he := mark_eq hx (by omega)
    generalize strOfNums (xs.take 4) = S at hcv he
    generalize mk4 xs = B at he ⊢
    clear h hxl
    go_enter Tryd.func48, Tryd.ntmps48
    go_wp2
    go_ret
    exact ⟨rfl, rfl⟩
end Go.Proofs.YtcdgfghcmeadgaaDoor
namespace Go.Proofs.YtcdgfghcmeadgaaDoor
open Go.RowKit
set_option linter.unusedVariables false

theorem int_c (g : Nat) (a : Option Addr) (len cap : Nat) (xs : List Int) (e : Int) (p : Nat) (most : Int) (w : World) (h : RS w g a len cap xs e p) (hm : most ≤ 9223372036854775807) :
    Calls Tryd.prog 81 #[.pointer (some ⟨g, 0, none⟩), .int .i64 most] w fun r w' => r = .returned (.int .i64 (pI xs p e most).1) ∧ RS w' g a len cap xs (pI xs p e most).2.2 (pI xs p e most).2.1 ∧ w.grownBy w' (some g) := by
  unfold pI
  by_cases he : e = 0
  · subst he
    rw [if_neg (by simp)]
    exact int_ok g a len cap xs p most w h hm
  · rw [if_pos he]
    exact (int_no g e _ p most w h.rdr (by simpa using he)).mono fun r w' ⟨h1, h2⟩ => ⟨h1, by rw [h2]; exact ⟨h, World.grownBy.refl _ _⟩⟩
theorem gb_far' {a b c : World} {g : Nat} (h : a.grownBy b none) (k : b.grownBy c (some g)) (hg : a.heap.size ≤ g) : a.grownBy c none :=
  ⟨k.os.trans h.os, k.tape.trans h.tape, k.output.trans h.output, Nat.le_trans h.size k.size, fun i hi hn => (k.block i (Nat.lt_of_lt_of_le hi h.size) (fun e => by cases e; omega)).trans (h.block i hi hn)⟩
theorem results_tmp4 {P : Program} {fn : Func} {t u v x : Nat} (h : fn.results = #[.tmp t, .tmp u, .tmp v, .tmp x]) (tmps : Array Value) (w : World) :
    (results fn tmps).run P w = .ok (.tuple #[tmps.getD t undef, tmps.getD u undef, tmps.getD v undef, tmps.getD x undef]) w := by
  simp [results, h]
/-- What head answers. -/
def HA (xs : List Int) (w : World) (r : Ending) (w' : World) : Prop := r = .returned (.tuple #[.int .i64 (pk xs).1, .int .i64 (pk xs).2.1, .int .i64 ((pk xs).2.2.1 : Int), .int .i64 (pk xs).2.2.2]) ∧ w.grownBy w' none
set_option maxRecDepth 20000 in
set_option maxHeartbeats 1000000 in
theorem head_c (a : Option Addr) (len cap : Nat) (xs : List Int) (w : World) (h : Seg .u8 w a len xs) (hx : Bytes xs) (hl : len ≤ 140737488355328) (hlc : len ≤ cap) (hnz : a = none → cap = 0) :
    Calls Tryd.prog 63 #[.slice a len cap] w fun r w' => HA xs w r w' := by
  have hxl : xs.length = len := h.1
  have HM : Hid (Calls Tryd.prog 48 #[.slice a len cap] w fun r w' => r = .returned (.bool (mk4 xs)) ∧ w' = w) := marked_c a len cap xs w h hx hl hlc
  cases hm : mk4 xs with
  | false =>
    have hp : pk xs = (0, 0, 0, 92) := by unfold pk; rw [if_neg (by rw [hm]; simp)]
    unfold HA
    rw [hp]
    rw [hm] at HM
    clear h hx hp hm
    go_enter Tryd.func63, Tryd.ntmps63
    go_wp2_with (go_at_call 48; go_must (refine (Calls.mono HM.out ?_)); rintro r wq ⟨rfl, hq⟩; obtain rfl := hq.symm)
    refine bodyPost_ret (results_tmp4 rfl _ _) rfl ?_
    exact ⟨rfl, World.grownBy.refl _ _⟩
  | true =>
    rw [hm] at HM
    have h4 : 4 ≤ len := by have := len_of_mk4 hm; omega
    obtain ⟨m, hm1, hm2⟩ : ∃ m : Nat, 4 ≤ m ∧ m ≤ len ∧ ((m = len ∧ ¬ (24 : Int) < (len : Int)) ∨ (m = 24 ∧ (24 : Int) < (len : Int))) := by
      rcases Nat.lt_or_ge 24 len with q | q
      · exact ⟨24, by omega, by omega, .inr ⟨rfl, by omega⟩⟩
      · exact ⟨len, by omega, by omega, .inl ⟨rfl, by omega⟩⟩
    have hys : Bytes (xs.drop 4) := bytes_drop hx 4
    have hyl : (xs.drop 4).length = len - 4 := by rw [List.length_drop, hxl]
    obtain ⟨zs, hzs⟩ : ∃ zs, zs = (xs.drop 4).take (m - 4) := ⟨_, rfl⟩
    have hseg : Seg .u8 w (cutI a cap 4) (m - 4) zs := by rw [hzs]; exact seg_take (seg_cutI h 4 hlc) (m - 4) (by omega)
    have hzb : Bytes zs := by
      rw [hzs]
      intro i hi
      rw [List.length_take] at hi
      rw [List.getElem?_take_of_lt (by omega)]
      exact hys i (by omega)
    have e1 : ri zs 0 1152921504606846976 = h1 xs := by
      unfold h1
      rw [hzs]
      rcases hm2.2 with q | q
      · rw [List.take_of_length_le (by omega)]
      · exact ri_take _ _ _ _ (by omega)
    have e2 : pI zs (h1 xs).2.1 (h1 xs).2.2 1048576 = h2 xs := by
      unfold h2
      rw [hzs]
      have h10 : (h1 xs).2.1 ≤ 0 + 10 := ri_le10 hys 0 _
      rcases hm2.2 with q | q
      · rw [List.take_of_length_le (by omega)]
      · exact pI_take _ _ _ _ _ (by omega)
    have HN : Hid (Calls Tryd.prog 51 #[.slice (cutI a cap 4) (m - 4) (cap - 4)] w fun r w' => ∃ g a' cap', r = .returned (.pointer (some ⟨g, 0, none⟩)) ∧ RS w' g a' (m - 4) cap' zs 0 0 ∧ w.heap.size ≤ g ∧ (∀ b o s, a' = some ⟨b, o, s⟩ → w.heap.size ≤ b ∧ b < w'.heap.size) ∧ w.grownBy w' none) :=
      new_c2 _ _ _ zs w hseg hzb (by omega) (fun q => by
        unfold cutI at q
        split at q
        · omega
        · cases a with
          | none => have := hnz rfl; omega
          | some ad => cases q)
    obtain ⟨V1, p1, E1, hr1⟩ : ∃ V p E, h1 xs = (V, p, E) := ⟨_, _, _, rfl⟩
    obtain ⟨V2, p2, E2, hr2⟩ : ∃ V p E, h2 xs = (V, p, E) := ⟨_, _, _, rfl⟩
    have HI1 : Hid (∀ g a' c' W, RS W g a' (m - 4) c' zs 0 0 → Calls Tryd.prog 81 #[.pointer (some ⟨g, 0, none⟩), .int .i64 1152921504606846976] W fun r w' => r = .returned (.int .i64 V1) ∧ RS w' g a' (m - 4) c' zs E1 p1 ∧ W.grownBy w' (some g)) := fun g a' c' W hs => by
      have := int_ok g a' (m - 4) c' zs 0 1152921504606846976 W hs (by omega)
      rw [e1, hr1] at this
      exact this
    have HI2 : Hid (∀ g a' c' W, RS W g a' (m - 4) c' zs E1 p1 → Calls Tryd.prog 81 #[.pointer (some ⟨g, 0, none⟩), .int .i64 1048576] W fun r w' => r = .returned (.int .i64 V2) ∧ RS w' g a' (m - 4) c' zs E2 p2 ∧ W.grownBy w' (some g)) := fun g a' c' W hs => by
      have := int_c g a' (m - 4) c' zs E1 p1 1048576 W hs (by omega)
      rw [hr1] at e2
      rw [e2, hr2] at this
      exact this
    have hp2 : p2 ≤ 140737488355328 := by
      have : (h2 xs).2.1 ≤ (xs.drop 4).length := pI_le hys (by rw [show (h1 xs).2.1 = (ri (xs.drop 4) 0 1152921504606846976).2.1 from rfl]; exact (ri_bd hys 0 (Nat.zero_le _) _).2.2.2.1) _ _
      rw [hr2] at this
      simp only at this
      omega
    have HPK : Hid (pk xs = if E2 = 0 then (V1, V2, 4 + p2, 0) else (0, 0, 0, 92)) := by
      show _ = _
      unfold pk
      rw [hm, hr1, hr2]
      simp
    unfold HA
    have hsl := fun (H : Int) (hH : H = (m : Int)) => sliceI a len cap 4 m 4 H rfl hH hm1 (by omega)
    obtain ⟨A4, hA4⟩ : ∃ A, A = cutI a cap 4 := ⟨_, rfl⟩
    rw [← hA4] at hsl HN
    obtain ⟨M, hM⟩ : ∃ M, M = m - 4 := ⟨_, rfl⟩
    rw [← hM] at hsl HN HI1 HI2
    have hq3 := hm2.2
    clear h hx hm hseg hzb e1 e2 hr1 hr2 hys hyl hxl hzs hA4 hM hnz hm2
    by_cases hE : E2 = 0
    · subst hE
      rw [if_pos rfl] at HPK
      rw [HPK.out]
      rcases hq3 with ⟨rfl, hmin⟩ | ⟨rfl, hmin⟩
      · have hsl' := hsl m rfl
        clear hsl
        go_enter Tryd.func63, Tryd.ntmps63
        go_wp2_with (first
          | (go_at_call 48; go_must (refine (Calls.mono HM.out ?_)); rintro r wq ⟨rfl, hq⟩; obtain rfl := hq.symm)
          | (go_at_call 51; go_must (refine (Calls.mono HN.out ?_)); rintro r w2 ⟨g, a', c', rfl, k1, k2, k3, k4⟩; have H2 : Hid (RS w2 g a' M c' zs 0 0 ∧ w.heap.size ≤ g ∧ w.grownBy w2 none) := ⟨k1, k2, k4⟩; clear k1 k2 k3 k4)
          | ((fail_if_success (have z := H3)); have z := H2; clear z; go_at_call 81; go_must (refine (Calls.mono (HI1.out _ _ _ _ H2.out.1) ?_)); rintro r w3 ⟨rfl, k1, k2⟩; have H3 : Hid (RS w3 g a' M c' zs E1 p1 ∧ w.heap.size ≤ g ∧ w.grownBy w3 none) := ⟨k1, H2.out.2.1, gb_far' H2.out.2.2 k2 H2.out.2.1⟩; clear k1 k2)
          | ((fail_if_success (have z := H4)); have z := H3; clear z; go_at_call 81; go_must (refine (Calls.mono (HI2.out _ _ _ _ H3.out.1) ?_)); rintro r w4 ⟨rfl, k1, k2⟩; have H4 : Hid (RS w4 g a' M c' zs 0 p2 ∧ w.grownBy w4 none) := ⟨k1, gb_far' H3.out.2.2 k2 H3.out.2.1⟩; clear k1 k2)
          | (have z := H4; clear z; go_at_call 97; go_must (refine (err_c g _ _ _ _ H4.out.1.rdr).mono ?_); rintro r wq ⟨rfl, hq⟩; obtain rfl := hq.symm)
          | (have z := H4; clear z; go_at_call 98; go_must (refine (at_c g _ _ _ _ H4.out.1.rdr).mono ?_); rintro r wq ⟨rfl, hq⟩; obtain rfl := hq.symm))
        refine bodyPost_ret (results_tmp4 rfl _ _) rfl ?_
        exact ⟨rfl, H4.out.2⟩
      · have hsl' := hsl 24 rfl
        clear hsl
        go_enter Tryd.func63, Tryd.ntmps63
        go_wp2_with (first
          | (go_at_call 48; go_must (refine (Calls.mono HM.out ?_)); rintro r wq ⟨rfl, hq⟩; obtain rfl := hq.symm)
          | (go_at_call 51; go_must (refine (Calls.mono HN.out ?_)); rintro r w2 ⟨g, a', c', rfl, k1, k2, k3, k4⟩; have H2 : Hid (RS w2 g a' M c' zs 0 0 ∧ w.heap.size ≤ g ∧ w.grownBy w2 none) := ⟨k1, k2, k4⟩; clear k1 k2 k3 k4)
          | ((fail_if_success (have z := H3)); have z := H2; clear z; go_at_call 81; go_must (refine (Calls.mono (HI1.out _ _ _ _ H2.out.1) ?_)); rintro r w3 ⟨rfl, k1, k2⟩; have H3 : Hid (RS w3 g a' M c' zs E1 p1 ∧ w.heap.size ≤ g ∧ w.grownBy w3 none) := ⟨k1, H2.out.2.1, gb_far' H2.out.2.2 k2 H2.out.2.1⟩; clear k1 k2)
          | ((fail_if_success (have z := H4)); have z := H3; clear z; go_at_call 81; go_must (refine (Calls.mono (HI2.out _ _ _ _ H3.out.1) ?_)); rintro r w4 ⟨rfl, k1, k2⟩; have H4 : Hid (RS w4 g a' M c' zs 0 p2 ∧ w.grownBy w4 none) := ⟨k1, gb_far' H3.out.2.2 k2 H3.out.2.1⟩; clear k1 k2)
          | (have z := H4; clear z; go_at_call 97; go_must (refine (err_c g _ _ _ _ H4.out.1.rdr).mono ?_); rintro r wq ⟨rfl, hq⟩; obtain rfl := hq.symm)
          | (have z := H4; clear z; go_at_call 98; go_must (refine (at_c g _ _ _ _ H4.out.1.rdr).mono ?_); rintro r wq ⟨rfl, hq⟩; obtain rfl := hq.symm))
        refine bodyPost_ret (results_tmp4 rfl _ _) rfl ?_
        exact ⟨rfl, H4.out.2⟩
    · have hEb : (E2 != 0) = true := by simp [hE]
      rw [if_neg hE] at HPK
      rw [HPK.out]
      clear hE
      rcases hq3 with ⟨rfl, hmin⟩ | ⟨rfl, hmin⟩
      · have hsl' := hsl m rfl
        clear hsl
        go_enter Tryd.func63, Tryd.ntmps63
        go_wp2_with (first
          | (go_at_call 48; go_must (refine (Calls.mono HM.out ?_)); rintro r wq ⟨rfl, hq⟩; obtain rfl := hq.symm)
          | (go_at_call 51; go_must (refine (Calls.mono HN.out ?_)); rintro r w2 ⟨g, a', c', rfl, k1, k2, k3, k4⟩; have H2 : Hid (RS w2 g a' M c' zs 0 0 ∧ w.heap.size ≤ g ∧ w.grownBy w2 none) := ⟨k1, k2, k4⟩; clear k1 k2 k3 k4)
          | ((fail_if_success (have z := H3)); have z := H2; clear z; go_at_call 81; go_must (refine (Calls.mono (HI1.out _ _ _ _ H2.out.1) ?_)); rintro r w3 ⟨rfl, k1, k2⟩; have H3 : Hid (RS w3 g a' M c' zs E1 p1 ∧ w.heap.size ≤ g ∧ w.grownBy w3 none) := ⟨k1, H2.out.2.1, gb_far' H2.out.2.2 k2 H2.out.2.1⟩; clear k1 k2)
          | ((fail_if_success (have z := H4)); have z := H3; clear z; go_at_call 81; go_must (refine (Calls.mono (HI2.out _ _ _ _ H3.out.1) ?_)); rintro r w4 ⟨rfl, k1, k2⟩; have H4 : Hid (RS w4 g a' M c' zs E2 p2 ∧ w.grownBy w4 none) := ⟨k1, gb_far' H3.out.2.2 k2 H3.out.2.1⟩; clear k1 k2)
          | (have z := H4; clear z; go_at_call 97; go_must (refine (err_c g _ _ _ _ H4.out.1.rdr).mono ?_); rintro r wq ⟨rfl, hq⟩; obtain rfl := hq.symm)
          | (have z := H4; clear z; go_at_call 98; go_must (refine (at_c g _ _ _ _ H4.out.1.rdr).mono ?_); rintro r wq ⟨rfl, hq⟩; obtain rfl := hq.symm))
        refine bodyPost_ret (results_tmp4 rfl _ _) rfl ?_
        exact ⟨rfl, H4.out.2⟩
      · have hsl' := hsl 24 rfl
        clear hsl
        go_enter Tryd.func63, Tryd.ntmps63
        go_wp2_with (first
          | (go_at_call 48; go_must (refine (Calls.mono HM.out ?_)); rintro r wq ⟨rfl, hq⟩; obtain rfl := hq.symm)
          | (go_at_call 51; go_must (refine (Calls.mono HN.out ?_)); rintro r w2 ⟨g, a', c', rfl, k1, k2, k3, k4⟩; have H2 : Hid (RS w2 g a' M c' zs 0 0 ∧ w.heap.size ≤ g ∧ w.grownBy w2 none) := ⟨k1, k2, k4⟩; clear k1 k2 k3 k4)
          | ((fail_if_success (have z := H3)); have z := H2; clear z; go_at_call 81; go_must (refine (Calls.mono (HI1.out _ _ _ _ H2.out.1) ?_)); rintro r w3 ⟨rfl, k1, k2⟩; have H3 : Hid (RS w3 g a' M c' zs E1 p1 ∧ w.heap.size ≤ g ∧ w.grownBy w3 none) := ⟨k1, H2.out.2.1, gb_far' H2.out.2.2 k2 H2.out.2.1⟩; clear k1 k2)
          | ((fail_if_success (have z := H4)); have z := H3; clear z; go_at_call 81; go_must (refine (Calls.mono (HI2.out _ _ _ _ H3.out.1) ?_)); rintro r w4 ⟨rfl, k1, k2⟩; have H4 : Hid (RS w4 g a' M c' zs E2 p2 ∧ w.grownBy w4 none) := ⟨k1, gb_far' H3.out.2.2 k2 H3.out.2.1⟩; clear k1 k2)
          | (have z := H4; clear z; go_at_call 97; go_must (refine (err_c g _ _ _ _ H4.out.1.rdr).mono ?_); rintro r wq ⟨rfl, hq⟩; obtain rfl := hq.symm)
          | (have z := H4; clear z; go_at_call 98; go_must (refine (at_c g _ _ _ _ H4.out.1.rdr).mono ?_); rintro r wq ⟨rfl, hq⟩; obtain rfl := hq.symm))
        refine bodyPost_ret (results_tmp4 rfl _ _) rfl ?_
        exact ⟨rfl, H4.out.2⟩
end Go.Proofs.YtcdgfghcmeadgaaDoor
namespace Go.Proofs.YtcdgfghcmeadgaaDoor
open Go.RowKit
set_option linter.unusedVariables false

theorem othere_so (g q : Nat) (e : Int) (v : Value) (p : Int) (w : World) (hr : Rdr w q e v p) (he : e = 0 ∨ e = 30) : Calls Tryd.prog 130 #[.pointer (some ⟨g, 0, none⟩), .pointer (some ⟨q, 0, none⟩)] w fun r w' => r = .returned (.bool (e == 0)) ∧ w' = w := by
  have HM : Hid _ := omust_so g 92 w
  have HE : Hid (Calls Tryd.prog 97 #[.pointer (some ⟨q, 0, none⟩)] w fun r w' => r = .returned (.int .i64 e) ∧ w' = w) := err_c q e v p w hr
  clear hr
  rcases he with rfl | rfl
  all_goals
    go_enter Tryd.func130, Tryd.ntmps130
    go_wp2_with (first
      | (go_at_call 97; go_must (refine (Calls.mono HE.out ?_)); rintro r wq ⟨rfl, hq⟩; obtain rfl := hq.symm; clear hq)
      | (go_at_call 58; go_must (refine (Calls.mono HM.out ?_)); rintro r wq ⟨rfl, hq⟩; obtain rfl := hq.symm; clear hq))
    go_ret
    exact ⟨rfl, rfl⟩
theorem othere_no (g q : Nat) (o : Opn) (e : Int) (v : Value) (p : Int) (w : World) (h : OpB w g o) (hr : Rdr w q e v p) (h0 : e ≠ 0) (h3 : e ≠ 30) : Calls Tryd.prog 130 #[.pointer (some ⟨g, 0, none⟩), .pointer (some ⟨q, 0, none⟩)] w fun r w' => r = .panicked (chnE 92) ∧ OpB w' g { o with err := 92, rest := none } ∧ w.grownBy w' (some g) := by
  have HM : Hid _ := omust_no g o 92 w h
  have HE : Hid (Calls Tryd.prog 97 #[.pointer (some ⟨q, 0, none⟩)] w fun r w' => r = .returned (.int .i64 e) ∧ w' = w) := err_c q e v p w hr
  have h02 : (e == 0) = false := by simp; exact h0
  have h32 : (e == 30) = false := by simp; exact h3
  clear hr h
  go_enter Tryd.func130, Tryd.ntmps130
  go_wp2_with (first
    | (go_at_call 97; go_must (refine (Calls.mono HE.out ?_)); rintro r wq ⟨rfl, hq⟩; obtain rfl := hq.symm; clear hq)
    | (go_at_call 58; go_must (refine (Calls.mono HM.out ?_)); rintro r w1 ⟨rfl, h1, h2⟩; have H1 : Hid _ := And.intro h1 h2; clear h1 h2))
  exact ⟨rfl, rfl, H1.out⟩
end Go.Proofs.YtcdgfghcmeadgaaDoor
namespace Go.Proofs.YtcdgfghcmeadgaaDoor
open Go.RowKit
set_option linter.unusedVariables false

theorem zeroWr : Tryd.zeroCells92 = (wcells 0 (.pointer none) (List.replicate 256 0) 0 0).toArray := by kernel_rfl
theorem ws_none {w : World} {g : Nat} (h : w.heap[g]? = some (.cells Tryd.zeroCells92 92 (0, 0))) : WS w g [] 0 [] := by
  rw [zeroWr] at h
  exact ⟨none, List.replicate 256 0, 0, [], ⟨h, List.length_replicate⟩, chain_nil _, by omega, rfl, by simp, fun i hi => by simp at hi⟩
/-- A writer of one's own, with blocks of one's own alone. -/
def WM (B : Nat) (w wr : World) (ys : List Int) (e : Int) : Prop := ∃ fs, WS wr B ys e fs ∧ (∀ k ∈ fs, B ≤ k) ∧ Below B w wr ∧ B ≤ wr.heap.size
theorem WM.goes {B w wr ys e ys' e'} {f : FuncId} {A : Array Value} {v : Value} (h : WM B w wr ys e) (hc : ∀ fs, WS wr B ys e fs → Calls Tryd.prog f A wr fun r w' => r = .returned v ∧ WGoes wr B fs w' ys' e') : Calls Tryd.prog f A wr fun r w' => r = .returned v ∧ WM B w w' ys' e' := by
  obtain ⟨fs, h1, h2, h3, h4⟩ := h
  refine (hc fs h1).mono ?_
  rintro r w' ⟨hr, fs', k1, k2, k3⟩
  have := k2.size
  exact ⟨hr, fs', k1, fun k hk => by rcases k3 k hk with q | q; exact h2 k q; omega, k2.below h3 (fun k hk => by omega) h4, by omega⟩
theorem WM.drew {B w wr w' ys e} (h : WM B w wr ys e) (hd : ∃ n, w' = wr.drewN n) : WM B w w' ys e := by
  obtain ⟨n, rfl⟩ := hd
  obtain ⟨fs, h1, h2, h3, h4⟩ := h
  have hg : wr.grownBy (wr.drewN n) none := gb_drewN (World.grownBy.refl _ _) n
  exact ⟨fs, h1.new hg, h2, h3.grown hg h4 (fun k hk => by cases hk), h4⟩
theorem WM.c0 {B w wr ys e} (h : WM B w wr ys e) : wr.cell? ⟨B, 0, none⟩ = some (.int .i64 e) := by obtain ⟨fs, h1, _⟩ := h; exact h1.c0
theorem WM.must_no {B w wr ys} (h : WM B w wr ys 0) (x : Int) (b : Bool) (hx : (x == 0) = false) (hb : b = false) : Calls Tryd.prog 72 #[.pointer (some ⟨B, 0, none⟩), .bool b, .int .i64 x] wr fun r w' => r = .returned (.bool false) ∧ WM B w w' ys x :=
  h.goes (fun fs hw => (wmust_no B ys fs wr hw x b hx hb).mono (fun r w' q => ⟨q.1, q.2.2⟩))
theorem WM.must_so {B w wr ys} (h : WM B w wr ys 0) (x : Int) (b : Bool) (hb : b = true) : Calls Tryd.prog 72 #[.pointer (some ⟨B, 0, none⟩), .bool b, .int .i64 x] wr fun r w' => r = .returned (.bool true) ∧ w' = wr := by
  obtain ⟨fs, h1, _⟩ := h
  exact wmust_so B ys fs wr h1 x b hb
theorem WM.must_late {B w wr ys e} (h : WM B w wr ys e) (x : Int) (b : Bool) (he : (e == 0) = false) : Calls Tryd.prog 72 #[.pointer (some ⟨B, 0, none⟩), .bool b, .int .i64 x] wr fun r w' => r = .returned (.bool false) ∧ w' = wr := wmust_late B wr e x b he h.c0
theorem WM.int {B w wr ys} (h : WM B w wr ys 0) (x most : Int) (h0 : 0 ≤ x) (h1 : x ≤ most) (hm : most ≤ 9223372036854775807) (hb : ys.length + 10 ≤ 140737488355328) : Calls Tryd.prog 38 #[.pointer (some ⟨B, 0, none⟩), .int .i64 x, .int .i64 most] wr fun r w' => r = .returned (.tuple #[]) ∧ WM B w w' (ys ++ enc x.toNat) 0 := by
  have e0 : ferr 0 (wie x most) = 0 := by unfold ferr wie; rw [if_pos rfl, if_neg (by omega), if_neg (by omega)]
  refine h.goes (fun fs hw => ?_)
  have := wint_c B ys 0 x most fs wr hw (by omega) hb
  rw [e0] at this
  unfold wadd at this
  rw [if_pos rfl] at this
  exact this
theorem WM.textm {B w wr ys} (h : WM B w wr ys 0) (s : ByteArray) (most : Int) (hm : (s.size : Int) ≤ most) (hs : s.size ≤ 1125899906842) (hb : ys.length + s.size + 10 ≤ 140737488355328) : Calls Tryd.prog 75 #[.pointer (some ⟨B, 0, none⟩), .string s, .int .i64 most] wr fun r w' => r = .returned (.tuple #[]) ∧ WM B w w' (ys ++ (enc s.size ++ sb s)) 0 := by
  have e0 : ferr 0 (wte s.size most) = 0 := by unfold ferr wte; rw [if_pos rfl, if_neg (by omega), if_neg (by omega)]
  refine h.goes (fun fs hw => ?_)
  have := wtext_c B ys 0 s most fs wr hw hs hb
  rw [e0] at this
  unfold wadd at this
  rw [if_pos rfl] at this
  exact this
theorem WM.text {B w wr ys} (h : WM B w wr ys 0) (s : ByteArray) (hs : s.size ≤ 65536) (hb : ys.length + s.size + 10 ≤ 140737488355328) : Calls Tryd.prog 75 #[.pointer (some ⟨B, 0, none⟩), .string s, .int .i64 65536] wr fun r w' => r = .returned (.tuple #[]) ∧ WM B w w' (ys ++ (enc s.size ++ sb s)) 0 := by
  have e0 : ferr 0 (wte s.size 65536) = 0 := by unfold ferr wte; rw [if_pos rfl, if_neg (by omega), if_neg (by omega)]
  refine h.goes (fun fs hw => ?_)
  have := wtext_c B ys 0 s 65536 fs wr hw (by omega) hb
  rw [e0] at this
  unfold wadd at this
  rw [if_pos rfl] at this
  exact this
theorem WM.bytes_no {B w wr ys e} (h : WM B w wr ys e) (he : (e == 0) = false) : Calls Tryd.prog 74 #[.pointer (some ⟨B, 0, none⟩)] wr fun r w' => r = .returned (.tuple #[.slice none 0 0, .int .i64 e]) ∧ Below B w w' := by
  obtain ⟨fs, h1, h2, h3, h4⟩ := h
  refine (wbytes_no B ys e fs wr h1 he).mono ?_
  rintro r w' ⟨hr, n, rfl⟩
  exact ⟨hr, h3.grown (gb_drewN (World.grownBy.refl wr none) n) h4 (fun k hk => by cases hk)⟩
theorem WM.bytes_ok {B w wr ys} (h : WM B w wr ys 0) (hb : ys.length ≤ 140737488355328) : Calls Tryd.prog 74 #[.pointer (some ⟨B, 0, none⟩)] wr fun r w' => ∃ b, r = .returned (.tuple #[.slice (some ⟨b, 0, none⟩) ys.length ys.length, .int .i64 0]) ∧ B ≤ b ∧ Row .u8 5 w' b ys ∧ Below B w w' := by
  obtain ⟨fs, h1, h2, h3, h4⟩ := h
  refine (wbytes_ok B ys fs wr h1 hb).mono ?_
  rintro r w' ⟨b, hr, hl, hrow, hbel⟩
  exact ⟨b, hr, by omega, hrow, h3.grown (grownBy_below hbel none) h4 (fun k hk => by cases hk)⟩
end Go.Proofs.YtcdgfghcmeadgaaDoor
namespace Go.Proofs.YtcdgfghcmeadgaaDoor
open Go.RowKit
set_option linter.unusedVariables false

set_option maxRecDepth 20000 in
theorem wsize_c (g : Nat) (ys : List Int) (e : Int) (fs : List Nat) (w : World) (h : WS w g ys e fs) :
    Calls Tryd.prog 77 #[.pointer (some ⟨g, 0, none⟩)] w fun r w' => r = .returned (.int .i64 (ys.length : Int)) ∧ w' = w := by
  have cN := h.cN
  clear h
  go_enter Tryd.func77, Tryd.ntmps77
  go_wp2
  go_ret
  exact ⟨rfl, rfl⟩
end Go.Proofs.YtcdgfghcmeadgaaDoor
namespace Go.Proofs.YtcdgfghcmeadgaaDoor
open Go.RowKit
set_option linter.unusedVariables false

end Go.Proofs.YtcdgfghcmeadgaaDoor
