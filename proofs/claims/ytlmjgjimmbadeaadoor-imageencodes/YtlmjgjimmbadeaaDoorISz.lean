/-
  States in memory; what image's Size answers of one. Condition: none but that its rows can be read.
-/
import Derived.Test.YtlmjgjimmbadeaaDoorIEa
import Derived.Deep.RegionHeld3
namespace Go.Proofs.YtlmjgjimmbadeaaDoor
open Go.RowKit
set_option linter.unusedVariables false

def zRow : Rwi := ⟨.empty, .empty, 0⟩
def rAt (X : List Rwi) (k : Nat) : Rwi := X[k]?.getD zRow
/-- Rows that can be read. -/
def Rws (w : World) (a : Option Addr) (n : Nat) (X : List Rwi) : Prop :=
  X.length = n ∧ (n = 0 ∨ ∃ b off, a = some ⟨b, off, none⟩ ∧ b < w.heap.size ∧ ∀ i, i < n → w.rangeAt b (off + i * 3) (rAt X i).cells)
theorem Rws.below {w w' : World} {a : Option Addr} {n : Nat} {X : List Rwi} (h : Rws w a n X) (hb : Below w.heap.size w w') : Rws w' a n X := by
  refine ⟨h.1, ?_⟩
  rcases h.2 with h0 | ⟨b, off, ha, hlt, hc⟩
  · exact .inl h0
  · have := hb.size
    exact .inr ⟨b, off, ha, by omega, fun i hi j v hv => (hb.cell (p := ⟨b, off + i * 3 + j, none⟩) hlt).trans (hc i hi j v hv)⟩
/-- The key ahead of a row. -/
def ahd (X : List Rwi) : Nat → ByteArray
  | 0 => .empty
  | k + 1 => (rAt X k).k
/-- Whether the first rows follow one another. -/
def okTo (X : List Rwi) (seq : Int) : Nat → Bool
  | 0 => true
  | k + 1 => okTo X seq k && fwI (rAt X k) (ahd X k) seq
def rowsB (X : List Rwi) : Nat → List Int
  | 0 => []
  | k + 1 => rowsB X k ++ (rAt X k).bytes
/-- How many bytes there are up to a row. -/
def tz (seq : Int) (n : Nat) (X : List Rwi) (k : Nat) : Nat := 8 + (numB [seq, (n : Int)]).length + (rowsB X k).length
/-- The first error. -/
def sE (seq : Int) (n : Nat) (X : List Rwi) : Int :=
  if 1048576 < n then 90 else if seq < 0 ∨ 1152921504606846976 < seq then 91 else if okTo X seq n = false then 91 else if 268435456 < tz seq n X n then 90 else 0
/-- The size that is told. -/
def sN (seq : Int) (n : Nat) (X : List Rwi) : Int := if sE seq n X = 0 then ((tz seq n X n : Nat) : Int) else 0
theorem sN_no {seq : Int} {n : Nat} {X : List Rwi} (h : sE seq n X ≠ 0) : sN seq n X = 0 := if_neg h
theorem okTo_stay (X : List Rwi) (seq : Int) (k n : Nat) (h : k ≤ n) (hk : okTo X seq k = false) : okTo X seq n = false := by
  induction n with
  | zero =>
    obtain rfl : k = 0 := by omega
    exact hk
  | succ n ih =>
    rcases Nat.lt_or_ge n k with q | q
    · obtain rfl : k = n + 1 := by omega
      exact hk
    · show (okTo X seq n && _) = false
      rw [ih q, Bool.false_and]
theorem fw_bd {r : Rwi} {ahead : ByteArray} {seq : Int} (h : fwI r ahead seq = true) : r.err = 0 ∧ 1 ≤ r.k.size ∧ r.k.size ≤ 1024 ∧ r.v.size ≤ 65536 ∧ 1 ≤ r.n ∧ r.n ≤ 1152921504606846976 ∧ r.n ≤ seq := by
  unfold fwI at h
  simp only [Bool.and_eq_true, beq_iff_eq, decide_eq_true_eq] at h
  obtain ⟨⟨h1, h2⟩, h3⟩ := h
  refine ⟨h1, ?_⟩
  unfold Rwi.err Tb.rowE at h1
  simp only at h1
  split at h1
  · omega
  · split at h1
    · omega
    · split at h1
      · omega
      · omega
theorem row_len (k v : ByteArray) (n : Int) : (rowB k v n).length = (numB [(k.size : Int), (v.size : Int), n]).length + k.size + v.size := by
  unfold rowB numB
  simp [sb_length]
  omega
theorem num3_le (a b c : Int) (ha : a < 18446744073709551616) (hb : b < 18446744073709551616) (hc : c < 18446744073709551616) : (numB [a, b, c]).length ≤ 30 := by
  unfold numB
  simp only [List.flatMap_cons, List.flatMap_nil, List.append_nil, List.length_append]
  have h1 := enc_leN a.toNat (by omega)
  have h2 := enc_leN b.toNat (by omega)
  have h3 := enc_leN c.toNat (by omega)
  omega
theorem num2_le (a b : Int) (ha : a < 18446744073709551616) (hb : b < 18446744073709551616) : (numB [a, b]).length ≤ 20 := by
  unfold numB
  simp only [List.flatMap_cons, List.flatMap_nil, List.append_nil, List.length_append]
  have h1 := enc_leN a.toNat (by omega)
  have h2 := enc_leN b.toNat (by omega)
  omega
theorem nums_seg (w : World) (l : List Int) (T : TypeId) : Seg .i64 (w.alloc (.cells (l.map (Value.int .i64)).toArray T)) (some ⟨w.heap.size, 0, none⟩) l.length l := by
  refine ⟨rfl, ?_⟩
  by_cases h0 : l.length = 0
  · exact .inl h0
  · refine .inr ⟨w.heap.size, 0, rfl, by simp, fun i hi => ?_⟩
    rw [Nat.zero_add, cell_of_row _ _ i _ _ _ (heap_new w _)]
    simp [hi]
theorem num3_c (a b c : Int) (ha : 0 ≤ a ∧ a < 9223372036854775808) (hb : 0 ≤ b ∧ b < 9223372036854775808) (hc : 0 ≤ c ∧ c < 9223372036854775808) (T : TypeId) (w : World) :
    Calls Tryd.prog 43 #[.slice (some ⟨w.heap.size, 0, none⟩) 3 3] (w.alloc (.cells #[.int .i64 a, .int .i64 b, .int .i64 c] T)) fun r w' => r = .returned (.int .i64 ((numB [a, b, c]).length : Int)) ∧ w.grownBy w' none := by
  have k := numbers_c w.heap.size 3 3 [a, b, c] _ (nums_seg w [a, b, c] T) (fun i hi => by rcases (by omega : i = 0 ∨ i = 1 ∨ i = 2) with rfl | rfl | rfl <;> simpa) (by omega)
  exact k.mono fun r w' ⟨h1, h2⟩ => ⟨h1, gb_trans (gal _ _) h2⟩
theorem num3_d (a b c : Int) (ha : 0 ≤ a ∧ a < 9223372036854775808) (hb : 0 ≤ b ∧ b < 9223372036854775808) (hc : 0 ≤ c ∧ c < 9223372036854775808) (T : TypeId) (w : World) :
    Calls Tryd.prog 43 #[.slice (some ⟨w.heap.size, 0, none⟩) 3 3] (w.alloc (.cells #[.int .i64 a, .int .i64 b, .int .i64 c] T)).drew fun r w' => r = .returned (.int .i64 ((numB [a, b, c]).length : Int)) ∧ w.grownBy w' none := by
  have hd : (w.alloc (.cells #[.int .i64 a, .int .i64 b, .int .i64 c] T)).grownBy (w.alloc (.cells #[.int .i64 a, .int .i64 b, .int .i64 c] T)).drew none := gb_drewN (grf _) 1
  have k := numbers_c w.heap.size 3 3 [a, b, c] _ ((nums_seg w [a, b, c] T).grew hd (by simp)) (fun i hi => by rcases (by omega : i = 0 ∨ i = 1 ∨ i = 2) with rfl | rfl | rfl <;> simpa) (by omega)
  exact k.mono fun r w' ⟨h1, h2⟩ => ⟨h1, gb_trans (gb_trans (gal _ _) hd) h2⟩
theorem num2_c (a b : Int) (ha : 0 ≤ a ∧ a < 9223372036854775808) (hb : 0 ≤ b ∧ b < 9223372036854775808) (T : TypeId) (w : World) :
    Calls Tryd.prog 43 #[.slice (some ⟨w.heap.size, 0, none⟩) 2 2] (w.alloc (.cells #[.int .i64 a, .int .i64 b] T)) fun r w' => r = .returned (.int .i64 ((numB [a, b]).length : Int)) ∧ w.grownBy w' none := by
  have k := numbers_c w.heap.size 2 2 [a, b] _ (nums_seg w [a, b] T) (fun i hi => by rcases (by omega : i = 0 ∨ i = 1) with rfl | rfl <;> simpa) (by omega)
  exact k.mono fun r w' ⟨h1, h2⟩ => ⟨h1, gb_trans (gal _ _) h2⟩
/-- A row's variable, and what has grown since. -/
theorem held_al {x W : World} {Q : Nat} {k v : ByteArray} {n : Int} (h : (W.cell? ⟨Q, 0, none⟩ = some (.string k) ∧ W.cell? ⟨Q, 1, none⟩ = some (.string v) ∧ W.cell? ⟨Q, 2, none⟩ = some (.int .i64 n)) ∧ Hid (Q < x.heap.size ∧ x.grownBy W none)) (o : Obj) :
    ((W.alloc o).cell? ⟨Q, 0, none⟩ = some (.string k) ∧ (W.alloc o).cell? ⟨Q, 1, none⟩ = some (.string v) ∧ (W.alloc o).cell? ⟨Q, 2, none⟩ = some (.int .i64 n)) ∧ Hid (Q < x.heap.size ∧ x.grownBy (W.alloc o) none) := by
  have hq : Q < W.heap.size := Nat.lt_of_lt_of_le h.2.out.1 h.2.out.2.size
  exact ⟨⟨((gbb (gal W o)).cell hq).trans h.1.1, ((gbb (gal W o)).cell hq).trans h.1.2.1, ((gbb (gal W o)).cell hq).trans h.1.2.2⟩, h.2.out.1, gb_trans h.2.out.2 (gal _ _)⟩
theorem held_dr {x W : World} {Q : Nat} {k v : ByteArray} {n : Int} (h : (W.cell? ⟨Q, 0, none⟩ = some (.string k) ∧ W.cell? ⟨Q, 1, none⟩ = some (.string v) ∧ W.cell? ⟨Q, 2, none⟩ = some (.int .i64 n)) ∧ Hid (Q < x.heap.size ∧ x.grownBy W none)) :
    (W.drew.cell? ⟨Q, 0, none⟩ = some (.string k) ∧ W.drew.cell? ⟨Q, 1, none⟩ = some (.string v) ∧ W.drew.cell? ⟨Q, 2, none⟩ = some (.int .i64 n)) ∧ Hid (Q < x.heap.size ∧ x.grownBy W.drew none) :=
  ⟨⟨h.1.1, h.1.2.1, h.1.2.2⟩, h.2.out.1, gb_drewN h.2.out.2 1⟩
set_option maxRecDepth 20000 in
set_option maxHeartbeats 4000000 in
theorem isize_c (seq : Int) (a : Option Addr) (n cap : Nat) (X : List Rwi) (w : World) (h : Rws w a n X) :
    Calls Tryd.prog 12 #[.agg #[.int .i64 seq, .slice a n cap]] w fun r w' => r = .returned (.tuple #[.int .i64 (sN seq n X), .int .i64 (sE seq n X)]) ∧ w.grownBy w' none := by
  have H0 : Hid (w.grownBy (w.alloc (.cells #[.int .i64 seq, .slice a n cap] 24)) none) := gal _ _
  by_cases hn : 1048576 < n
  · have he : sE seq n X = 90 := by unfold sE; rw [if_pos hn]
    rw [sN_no (by rw [he]; decide), he]
    have hd : (1048576 : Int) < (n : Int) := by omega
    clear h he hn
    go_enter Tryd.func12, Tryd.ntmps12
    go_wp2
    go_ret2
    exact ⟨rfl, H0.out⟩
  · have hd : ¬ (1048576 : Int) < (n : Int) := by omega
    by_cases hs : seq < 0 ∨ 1152921504606846976 < seq
    · have he : sE seq n X = 91 := by unfold sE; rw [if_neg hn, if_pos hs]
      rw [sN_no (by rw [he]; decide), he]
      clear h he hn
      rcases hs with hs | hs
      · go_enter Tryd.func12, Tryd.ntmps12
        go_wp2
        go_ret2
        exact ⟨rfl, H0.out⟩
      · have hs0 : ¬ seq < 0 := by omega
        go_enter Tryd.func12, Tryd.ntmps12
        go_wp2
        go_ret2
        exact ⟨rfl, H0.out⟩
    · have hs0 : ¬ seq < 0 := by omega
      have hs1 : ¬ (1152921504606846976 : Int) < seq := by omega
      obtain ⟨W0, hW0⟩ : ∃ W0, W0 = w.alloc (.cells #[.int .i64 seq, .slice a n cap] 24) := ⟨_, rfl⟩
      have HB : Hid (W0.cell? ⟨w.heap.size, 0, none⟩ = some (.int .i64 seq) ∧ W0.cell? ⟨w.heap.size, 1, none⟩ = some (.slice a n cap) ∧ w.heap.size < W0.heap.size ∧ w.grownBy W0 none ∧ Rws W0 a n X ∧ W0 = w.alloc (.cells #[.int .i64 seq, .slice a n cap] 24)) := by
        have hb := (blk_new w 24 #[.int .i64 seq, .slice a n cap])
        rw [← hW0] at hb
        exact ⟨hb.1.cell 0, hb.1.cell 1, lt_of_block hb.1, hb.2, h.below (gbb hb.2), hW0⟩
      have HC0 : Hid (∀ W, W0.grownBy W none → W.cell? ⟨w.heap.size, 0, none⟩ = some (.int .i64 seq)) := fun W hg => ((gbb hg).cell (p := ⟨w.heap.size, 0, none⟩) HB.out.2.2.1).trans HB.out.1
      have HC1 : Hid (∀ W, W0.grownBy W none → W.cell? ⟨w.heap.size, 1, none⟩ = some (.slice a n cap)) := fun W hg => ((gbb hg).cell (p := ⟨w.heap.size, 1, none⟩) HB.out.2.2.1).trans HB.out.2.1
      obtain ⟨N2, hN2⟩ : ∃ N, N = (numB [seq, (n : Int)]).length := ⟨_, rfl⟩
      have hN2b : N2 ≤ 20 := by rw [hN2]; exact num2_le _ _ (by omega) (by omega)
      have HN2 : Hid (∀ W : World, Calls Tryd.prog 43 #[.slice (some ⟨W.heap.size, 0, none⟩) 2 2] (W.alloc (.cells #[.int .i64 seq, .int .i64 (n : Int)] 3)) fun r w' => r = .returned (.int .i64 (N2 : Int)) ∧ W.grownBy w' none) := fun W => by
        rw [hN2]
        exact num2_c seq n (by omega) (by omega) _ W
      have HN3 : Hid (Calls Tryd.prog 43 #[.slice (some ⟨w.heap.size + 1, 0, none⟩) 2 2] ((w.alloc (.cells #[.int .i64 seq, .slice a n cap] 24)).alloc (.cells #[.int .i64 seq, .int .i64 (n : Int)] 3)) fun r w' => r = .returned (.int .i64 (N2 : Int)) ∧ W0.grownBy w' none) := by
        have k := HN2.out W0
        rw [hW0, World.size_alloc] at k
        rw [hW0]
        exact k
      have HNE : Hid (sE seq n X = (if okTo X seq n = false then 91 else if 268435456 < tz seq n X n then 90 else 0) ∧ N2 = (numB [seq, (n : Int)]).length) := ⟨by unfold sE; rw [if_neg hn, if_neg hs], hN2⟩
      clear h hn hs hN2 HN2 hW0 H0
      go_enter Tryd.func12, Tryd.ntmps12
      go_wp2_with (go_at_call 43; go_must (refine (Calls.mono HN3.out ?_)); rintro r w1 ⟨rfl, h⟩; have H1 : Hid (W0.grownBy w1 none) := h; have d0 := HC0.out _ h; have d1 := HC1.out _ h; clear h)
      go_loopw [4, 5, 34] (fun t s i wr => ∃ (k : Nat) (T : Nat) (S : ByteArray), k ≤ n ∧ t = .int .i64 (T : Int) ∧ s = .string S ∧ i = .int .i64 (k : Int) ∧ Hid (T = tz seq n X k ∧ S = ahd X k ∧ okTo X seq k = true ∧ W0.grownBy wr none ∧ T ≤ 66700 * (k + 1))) (fun _ _ i _ => n - (intOf i).toNat)
      case atStart =>
        refine ⟨0, 4 + N2 + 4, _, Nat.zero_le _, by go_num, rfl, rfl, ?_, rfl, rfl, H1.out, by omega⟩
        unfold tz
        rw [← HNE.out.2]
        simp [rowsB]
        omega
      case round =>
        obtain ⟨k, T, S, hk, rfl, rfl, rfl, hr⟩ := hrel
        clear H1 d0 d1
        have hTb : T ≤ 69942116000 := by have := hr.out.2.2.2.2; omega
        by_cases hlt : k < n
        · have hi1 : (k : Int) < n := by omega
          rcases HB.out.2.2.2.2.1.2 with z | ⟨b, off, rfl, hbl, hcl⟩
          · omega
          obtain ⟨u, hu⟩ : ∃ u, u = rAt X k := ⟨_, rfl⟩
          have HRG : Hid (wr.rangeAt b (off + k * 3) u.cells) := by
            rw [hu]
            intro j v hv
            exact ((gbb hr.out.2.2.2.1).cell (p := ⟨b, off + k * 3 + j, none⟩) hbl).trans (hcl k hlt j v hv)
          have HNX : Hid (okTo X seq (k + 1) = fwI u S seq ∧ tz seq n X (k + 1) = T + u.bytes.length ∧ ahd X (k + 1) = u.k) := by
            refine ⟨?_, ?_, by rw [hu]; rfl⟩
            · show (okTo X seq k && fwI (rAt X k) (ahd X k) seq) = _
              rw [hr.out.2.2.1, Bool.true_and, hu, hr.out.2.1]
            · rw [hr.out.1, hu]
              unfold tz
              show 8 + _ + (rowsB X k ++ (rAt X k).bytes).length = _
              rw [List.length_append]
              omega
          clear hu hcl hbl
          obtain ⟨kk, vv, nn⟩ := u
          have hgA : W0.grownBy (wr.alloc (.cells #[.string kk, .string vv, .int .i64 nn] 48)) none := gb_trans hr.out.2.2.2.1 (gal _ _)
          have d0 := HC0.out _ hgA
          have HA : Hid (W0.grownBy (wr.alloc (.cells #[.string kk, .string vv, .int .i64 nn] 48)) none ∧ Bk 48 (wr.alloc (.cells #[.string kk, .string vv, .int .i64 nn] 48)) wr.heap.size #[.string kk, .string vv, .int .i64 nn]) := ⟨hgA, (blk_new wr _ _).1⟩
          obtain ⟨G, hG⟩ : ∃ G, G = fwI ⟨kk, vv, nn⟩ S seq := ⟨_, rfl⟩
          have HF : Hid (∀ W, Calls Tryd.prog 44 #[.agg #[.string kk, .string vv, .int .i64 nn], .string S, .int .i64 seq] W fun r w' => r = .returned (.bool G) ∧ W.grownBy w' none) := fun W => by rw [hG]; exact follows_c kk vv nn S seq W
          clear hgA
          cases G with
          | false =>
            have HE : Hid (sE seq n X = 91) := by
              show _ = _
              rw [HNE.out.1, if_pos (okTo_stay X seq (k + 1) n (by omega) (by rw [HNX.out.1, ← hG]))]
            clear hG
            go_wp2_with (first
              | (refine wpList_load_mid rfl 48 (.tmp 36) rfl b (off + k * 3) (by first | rfl | simp) [.string kk, .string vv, .int .i64 nn] _ HRG.out Tryd.underlying48 rfl (by kernel_rfl) ?_)
              | (refine wpList_load_bk 48 rfl (.tmp 7) rfl Tryd.underlying48 rfl infoRwI wr.heap.size _ rfl HA.out.2 rfl ?_)
              | (go_at_call 44; go_must (refine (Calls.mono (HF.out _) ?_)); rintro r x2 ⟨rfl, h2⟩; have A2 : Hid (w.grownBy x2 none) := gb_trans HB.out.2.2.2.1 (gb_trans HA.out.1 h2); clear h2))
            go_ret2
            rw [sN_no (by rw [HE.out]; decide), HE.out]
            exact ⟨rfl, A2.out⟩
          | true =>
            have hbd := fw_bd hG.symm
            simp only at hbd
            obtain ⟨N3, hN3⟩ : ∃ N, N = (numB [(kk.size : Int), (vv.size : Int), nn]).length := ⟨_, rfl⟩
            have hN3b : N3 ≤ 30 := by rw [hN3]; exact num3_le _ _ _ (by omega) (by omega) (by omega)
            have HNN : Hid (tz seq n X (k + 1) = T + (N3 + kk.size + vv.size) ∧ okTo X seq (k + 1) = true) := ⟨by rw [HNX.out.2.1, show Rwi.bytes ⟨kk, vv, nn⟩ = rowB kk vv nn from rfl, row_len, hN3], by rw [HNX.out.1, ← hG]⟩
            have HNM : Hid (∀ W : World, Calls Tryd.prog 43 #[.slice (some ⟨W.heap.size, 0, none⟩) 3 3] (W.alloc (.cells #[.int .i64 (kk.size : Int), .int .i64 (vv.size : Int), .int .i64 nn] 3)).drew fun r w' => r = .returned (.int .i64 (N3 : Int)) ∧ W.grownBy w' none) := fun W => by
              rw [hN3]
              exact num3_d _ _ _ (by omega) (by omega) (by omega) _ W
            have hKb : kk.size ≤ 1024 := hbd.2.2.1
            have hVb : vv.size ≤ 65536 := hbd.2.2.2.1
            have z1 : IntKind.i64.wrap ((N3 : Int) + (kk.size : Int)) = (N3 : Int) + (kk.size : Int) := IntWalk.i64_in _ ⟨by omega, by omega⟩
            have z2 : IntKind.i64.wrap ((N3 : Int) + (kk.size : Int) + (vv.size : Int)) = (N3 : Int) + (kk.size : Int) + (vv.size : Int) := IntWalk.i64_in _ ⟨by omega, by omega⟩
            have z3 : IntKind.i64.wrap ((T : Int) + ((N3 : Int) + (kk.size : Int) + (vv.size : Int))) = (T : Int) + ((N3 : Int) + (kk.size : Int) + (vv.size : Int)) := IntWalk.i64_in _ ⟨by omega, by omega⟩
            clear hG hbd hN3
            go_wp2_with (first
              | (refine wpList_load_mid rfl 48 (.tmp 36) rfl b (off + k * 3) (by first | rfl | simp) [.string kk, .string vv, .int .i64 nn] _ HRG.out Tryd.underlying48 rfl (by kernel_rfl) ?_)
              | (refine wpList_load_bk 48 rfl (.tmp 7) rfl Tryd.underlying48 rfl infoRwI wr.heap.size _ rfl HA.out.2 rfl ?_)
              | (go_at_call 44; go_must (refine (Calls.mono (HF.out _) ?_)); rintro r x2 ⟨rfl, h2⟩; have A2 : Hid (W0.grownBy x2 none ∧ Bk 48 x2 wr.heap.size #[.string kk, .string vv, .int .i64 nn]) := ⟨gb_trans HA.out.1 h2, HA.out.2.grew h2 (by simp)⟩; clear h2))
            obtain ⟨Q, hQ⟩ : ∃ Q, Q = wr.heap.size := ⟨_, rfl⟩
            rw [← hQ]
            have hS0 : (x2.cell? ⟨Q, 0, none⟩ = some (.string kk) ∧ x2.cell? ⟨Q, 1, none⟩ = some (.string vv) ∧ x2.cell? ⟨Q, 2, none⟩ = some (.int .i64 nn)) ∧ Hid (Q < x2.heap.size ∧ x2.grownBy x2 none) := by
              rw [hQ]
              exact ⟨⟨A2.out.2.cell 0, A2.out.2.cell 1, A2.out.2.cell 2⟩, lt_of_block A2.out.2, grf _⟩
            have HNU : Hid (Calls Tryd.prog 43 #[.slice (some ⟨x2.heap.size, 0, none⟩) 3 3] (x2.alloc (.cells #[.int .i64 (kk.size : Int), .int .i64 (vv.size : Int), .int .i64 nn] 3)).drew fun r w' => r = .returned (.int .i64 (N3 : Int)) ∧ ((w'.cell? ⟨Q, 0, none⟩ = some (.string kk) ∧ w'.cell? ⟨Q, 1, none⟩ = some (.string vv) ∧ w'.cell? ⟨Q, 2, none⟩ = some (.int .i64 nn)) ∧ Hid (Q < x2.heap.size ∧ x2.grownBy w' none))) := by
              refine (HNM.out x2).mono ?_
              rintro r w' ⟨h1, h2⟩
              have hq : Q < x2.heap.size := hS0.2.out.1
              exact ⟨h1, ⟨((gbb h2).cell hq).trans hS0.1.1, ((gbb h2).cell hq).trans hS0.1.2.1, ((gbb h2).cell hq).trans hS0.1.2.2⟩, hq, h2⟩
            clear hQ HNM HF HRG HA d0
            go_region_held3 (fun W => (W.cell? ⟨Q, 0, none⟩ = some (.string kk) ∧ W.cell? ⟨Q, 1, none⟩ = some (.string vv) ∧ W.cell? ⟨Q, 2, none⟩ = some (.int .i64 nn)) ∧ Hid (Q < x2.heap.size ∧ x2.grownBy W none)) (first | assumption | exact held_al (by assumption) _ | exact held_dr (by assumption)) (first
              | (go_at_call 43; refine (Calls.mono HNU.out ?_); rintro r x3 ⟨rfl, h3⟩))
            have A3 : Hid (W0.grownBy x3 none) := gb_trans A2.out.1 h3.2.out.2
            have e0 := h3.1.1
            clear h3 z1 z2 z3 HNU hS0
            go_wp2_with fail
            go_roundw
            case rel => exact ⟨k + 1, T + (N3 + kk.size + vv.size), kk, by omega, by go_num, rfl, by go_num, HNN.out.1.symm, HNX.out.2.2.symm, HNN.out.2, A3.out, by have := hr.out.2.2.2.2; omega⟩
            case measure => simp [intOf]; omega
        · obtain rfl : k = n := by omega
          have hge : ¬ (k : Int) < k := by omega
          have HEE : Hid (sE seq k X = (if 268435456 < T then 90 else 0) ∧ tz seq k X k = T ∧ w.grownBy wr none) := ⟨by rw [HNE.out.1, if_neg (by rw [hr.out.2.2.1]; decide), ← hr.out.1], hr.out.1.symm, gb_trans HB.out.2.2.2.1 hr.out.2.2.2.1⟩
          by_cases hbig : 268435456 < T
          · have hb1 : (268435456 : Int) < (T : Int) := by omega
            rw [if_pos hbig] at HEE
            clear hr
            go_wp2_with fail
            go_ret2
            rw [sN_no (by rw [HEE.out.1]; decide), HEE.out.1]
            exact ⟨rfl, HEE.out.2.2⟩
          · have hb1 : ¬ (268435456 : Int) < (T : Int) := by omega
            rw [if_neg hbig] at HEE
            clear hr
            go_wp2_with fail
            go_ret2
            have e : sN seq k X = (T : Int) := by unfold sN; rw [if_pos HEE.out.1, HEE.out.2.1]
            rw [e, HEE.out.1]
            exact ⟨rfl, HEE.out.2.2⟩
end Go.Proofs.YtlmjgjimmbadeaaDoor
