/-
  What the law's act answers over a disk that no call made: ErrMade, and that the bytes that were handed in stay. Condition: they are at most 2^47 - 4096.
-/
import Derived.Test.YtadnececnaciiaaKLw
namespace Go.Proofs.Ytadnececnaciiaa
open Go.RowKit
set_option linter.unusedVariables false

/-- Cells of a block that may be written. -/
def Wri (w : World) (g n : Nat) : Prop := ∃ cur T, w.heap[g]? = some (.cells cur T) ∧ n ≤ cur.size
theorem own_wri {B g n k : Nat} {w : World} {xs : List Int} (h : Own B w (.slice (some ⟨g, 0, none⟩) n k) n xs) : Wri w g n ∧ B ≤ g := by
  rcases h.2 with ⟨z, _⟩ | ⟨g', cap, cur, e, hb, hc, h1, h2, h3, h4⟩
  · cases z
  · cases e
    exact ⟨⟨cur, _, hc, by omega⟩, hb⟩
theorem Wri.set {w : World} {g n i : Nat} {v : Value} (h : Wri w g n) : Wri (w.setCell ⟨g, i, none⟩ v) g n := by
  obtain ⟨cur, T, hc, hn⟩ := h
  refine ⟨cur.setIfInBounds i v, T, ?_, by simpa using hn⟩
  simp only [World.setCell, Array.getElem?_modify]
  rw [if_pos trivial, hc]; rfl
theorem Wri.at_ {w : World} {g n i : Nat} (h : Wri w g n) (hi : i < n) : ∃ v, w.cell? ⟨g, i, none⟩ = some v := by
  obtain ⟨cur, T, hc, hn⟩ := h
  exact ⟨cur[i], by rw [cell_of_row w g i _ _ _ hc, Array.getElem?_eq_getElem (by omega)]⟩
theorem Wri.free {w : World} {g n i : Nat} (h : Wri w g n) : w.frozen? ⟨g, i, none⟩ = false := by
  obtain ⟨cur, T, hc, hn⟩ := h
  exact frozen_of_row w g i _ _ hc
theorem own_segK {B g n k : Nat} {w : World} {xs : List Int} (h : Own B w (.slice (some ⟨g, 0, none⟩) n k) n xs) : Seg .u8 w (some ⟨g, 0, none⟩) n xs := by
  obtain ⟨a, c, e, hs, _⟩ := Own.seg h
  cases e
  exact hs
def acells (k : Int) (s t d : ByteArray) (z : Int) : Array Value := #[.int .i64 k, .string s, .string t, .string d, .int .i64 z]
set_option maxRecDepth 20000 in
set_option maxHeartbeats 2000000 in
theorem act_no1 (p : Value) (k : Int) (s t d : ByteArray) (z : Int) (w : World) (h : Und w p) (hl : d.size ≤ 140737488351232) (hk : k = 1) :
    Calls Try.prog 16 #[p, .agg #[.int .i64 k, .string s, .string t, .string d, .int .i64 z]] w fun r w' => r = .returned (.tuple #[.int .i64 2, .bool true]) ∧ Below w.heap.size w w' := by
  obtain ⟨q, rfl⟩ : ∃ q, p = .pointer q := by
    rcases h with rfl | ⟨Z, rfl, _⟩
    · exact ⟨_, rfl⟩
    · exact ⟨_, rfl⟩
  obtain ⟨W0, hW0⟩ : ∃ W0, W0 = w.alloc (.cells (acells k s t d z) 41) := ⟨_, rfl⟩
  have HB : Hid (Below w.heap.size w W0) := by rw [hW0]; exact (Below.refl _ _).alloc (Nat.le_refl _) _
  have HU : Hid (Und W0 (.pointer q)) := h.below HB.out
  have HK : Hid (Bk 41 W0 w.heap.size (acells k s t d z)) := by rw [hW0]; exact (blk_new w 41 _).1
  clear h
  subst hk
  have HC : Hid _ := create_no _ s W0 HU.out
  unfold acells at hW0
  rw [hW0] at HC
  go_enter Try.func16, Try.ntmps16
  go_wp2_with (first
    | (go_at_call 11; go_must (refine (Calls.mono HC.out ?_)); rintro r w1 ⟨rfl, hb⟩; rw [← hW0] at hb; have H1 : Hid (Below w.heap.size w w1) := HB.out.trans (hb.mono HB.out.size); clear hb)
    | (go_at_call 9; go_must (refine (Calls.mono (num_c _ _) ?_)); rintro r wq ⟨rfl, hq⟩; obtain rfl := hq.symm; clear hq))
  go_ret2
  exact ⟨rfl, H1.out⟩
set_option maxRecDepth 20000 in
set_option maxHeartbeats 2000000 in
theorem act_no3 (p : Value) (k : Int) (s t d : ByteArray) (z : Int) (w : World) (h : Und w p) (hl : d.size ≤ 140737488351232) (hk : k = 3) :
    Calls Try.prog 16 #[p, .agg #[.int .i64 k, .string s, .string t, .string d, .int .i64 z]] w fun r w' => r = .returned (.tuple #[.int .i64 2, .bool true]) ∧ Below w.heap.size w w' := by
  obtain ⟨q, rfl⟩ : ∃ q, p = .pointer q := by
    rcases h with rfl | ⟨Z, rfl, _⟩
    · exact ⟨_, rfl⟩
    · exact ⟨_, rfl⟩
  obtain ⟨W0, hW0⟩ : ∃ W0, W0 = w.alloc (.cells (acells k s t d z) 41) := ⟨_, rfl⟩
  have HB : Hid (Below w.heap.size w W0) := by rw [hW0]; exact (Below.refl _ _).alloc (Nat.le_refl _) _
  have HU : Hid (Und W0 (.pointer q)) := h.below HB.out
  have HK : Hid (Bk 41 W0 w.heap.size (acells k s t d z)) := by rw [hW0]; exact (blk_new w 41 _).1
  clear h
  subst hk
  have HC : Hid _ := cut_no _ s z W0 HU.out
  unfold acells at hW0
  rw [hW0] at HC
  go_enter Try.func16, Try.ntmps16
  go_wp2_with (first
    | (go_at_call 58; go_must (refine (Calls.mono HC.out ?_)); rintro r w1 ⟨rfl, hb⟩; rw [← hW0] at hb; have H1 : Hid (Below w.heap.size w w1) := HB.out.trans (hb.mono HB.out.size); clear hb)
    | (go_at_call 9; go_must (refine (Calls.mono (num_c _ _) ?_)); rintro r wq ⟨rfl, hq⟩; obtain rfl := hq.symm; clear hq))
  go_ret2
  exact ⟨rfl, H1.out⟩
set_option maxRecDepth 20000 in
set_option maxHeartbeats 2000000 in
theorem act_no4 (p : Value) (k : Int) (s t d : ByteArray) (z : Int) (w : World) (h : Und w p) (hl : d.size ≤ 140737488351232) (hk : k = 4) :
    Calls Try.prog 16 #[p, .agg #[.int .i64 k, .string s, .string t, .string d, .int .i64 z]] w fun r w' => r = .returned (.tuple #[.int .i64 2, .bool true]) ∧ Below w.heap.size w w' := by
  obtain ⟨q, rfl⟩ : ∃ q, p = .pointer q := by
    rcases h with rfl | ⟨Z, rfl, _⟩
    · exact ⟨_, rfl⟩
    · exact ⟨_, rfl⟩
  obtain ⟨W0, hW0⟩ : ∃ W0, W0 = w.alloc (.cells (acells k s t d z) 41) := ⟨_, rfl⟩
  have HB : Hid (Below w.heap.size w W0) := by rw [hW0]; exact (Below.refl _ _).alloc (Nat.le_refl _) _
  have HU : Hid (Und W0 (.pointer q)) := h.below HB.out
  have HK : Hid (Bk 41 W0 w.heap.size (acells k s t d z)) := by rw [hW0]; exact (blk_new w 41 _).1
  clear h
  subst hk
  have HC : Hid _ := rename_no _ s t W0 HU.out
  unfold acells at hW0
  rw [hW0] at HC
  go_enter Try.func16, Try.ntmps16
  go_wp2_with (first
    | (go_at_call 59; go_must (refine (Calls.mono HC.out ?_)); rintro r w1 ⟨rfl, hb⟩; rw [← hW0] at hb; have H1 : Hid (Below w.heap.size w w1) := HB.out.trans (hb.mono HB.out.size); clear hb)
    | (go_at_call 9; go_must (refine (Calls.mono (num_c _ _) ?_)); rintro r wq ⟨rfl, hq⟩; obtain rfl := hq.symm; clear hq))
  go_ret2
  exact ⟨rfl, H1.out⟩
set_option maxRecDepth 20000 in
set_option maxHeartbeats 2000000 in
theorem act_no5 (p : Value) (k : Int) (s t d : ByteArray) (z : Int) (w : World) (h : Und w p) (hl : d.size ≤ 140737488351232) (hk : k = 5) :
    Calls Try.prog 16 #[p, .agg #[.int .i64 k, .string s, .string t, .string d, .int .i64 z]] w fun r w' => r = .returned (.tuple #[.int .i64 2, .bool true]) ∧ Below w.heap.size w w' := by
  obtain ⟨q, rfl⟩ : ∃ q, p = .pointer q := by
    rcases h with rfl | ⟨Z, rfl, _⟩
    · exact ⟨_, rfl⟩
    · exact ⟨_, rfl⟩
  obtain ⟨W0, hW0⟩ : ∃ W0, W0 = w.alloc (.cells (acells k s t d z) 41) := ⟨_, rfl⟩
  have HB : Hid (Below w.heap.size w W0) := by rw [hW0]; exact (Below.refl _ _).alloc (Nat.le_refl _) _
  have HU : Hid (Und W0 (.pointer q)) := h.below HB.out
  have HK : Hid (Bk 41 W0 w.heap.size (acells k s t d z)) := by rw [hW0]; exact (blk_new w 41 _).1
  clear h
  subst hk
  have HC : Hid _ := remove_no _ s W0 HU.out
  unfold acells at hW0
  rw [hW0] at HC
  go_enter Try.func16, Try.ntmps16
  go_wp2_with (first
    | (go_at_call 60; go_must (refine (Calls.mono HC.out ?_)); rintro r w1 ⟨rfl, hb⟩; rw [← hW0] at hb; have H1 : Hid (Below w.heap.size w w1) := HB.out.trans (hb.mono HB.out.size); clear hb)
    | (go_at_call 9; go_must (refine (Calls.mono (num_c _ _) ?_)); rintro r wq ⟨rfl, hq⟩; obtain rfl := hq.symm; clear hq))
  go_ret2
  exact ⟨rfl, H1.out⟩
set_option maxRecDepth 20000 in
set_option maxHeartbeats 2000000 in
theorem act_no6 (p : Value) (k : Int) (s t d : ByteArray) (z : Int) (w : World) (h : Und w p) (hl : d.size ≤ 140737488351232) (h1 : k ≠ 1) (h2 : k ≠ 2) (h3 : k ≠ 3) (h4 : k ≠ 4) (h5 : k ≠ 5) :
    Calls Try.prog 16 #[p, .agg #[.int .i64 k, .string s, .string t, .string d, .int .i64 z]] w fun r w' => r = .returned (.tuple #[.int .i64 2, .bool true]) ∧ Below w.heap.size w w' := by
  obtain ⟨q, rfl⟩ : ∃ q, p = .pointer q := by
    rcases h with rfl | ⟨Z, rfl, _⟩
    · exact ⟨_, rfl⟩
    · exact ⟨_, rfl⟩
  obtain ⟨W0, hW0⟩ : ∃ W0, W0 = w.alloc (.cells (acells k s t d z) 41) := ⟨_, rfl⟩
  have HB : Hid (Below w.heap.size w W0) := by rw [hW0]; exact (Below.refl _ _).alloc (Nat.le_refl _) _
  have HU : Hid (Und W0 (.pointer q)) := h.below HB.out
  have HK : Hid (Bk 41 W0 w.heap.size (acells k s t d z)) := by rw [hW0]; exact (blk_new w 41 _).1
  clear h
  have HC : Hid _ := sync_no _ W0 HU.out
  unfold acells at hW0
  rw [hW0] at HC
  have e1 : (k == 1) = false := by simp; exact h1
  have e2 : (k == 2) = false := by simp; exact h2
  have e3 : (k == 3) = false := by simp; exact h3
  have e4 : (k == 4) = false := by simp; exact h4
  have e5 : (k == 5) = false := by simp; exact h5
  go_enter Try.func16, Try.ntmps16
  go_wp2_with (first
    | (go_at_call 30; go_must (refine (Calls.mono HC.out ?_)); rintro r wq ⟨rfl, hq⟩; obtain rfl := hq.symm; clear hq)
    | (go_at_call 9; go_must (refine (Calls.mono (num_c _ _) ?_)); rintro r wq ⟨rfl, hq⟩; obtain rfl := hq.symm; clear hq))
  go_ret2
  exact ⟨rfl, by rw [← hW0]; exact HB.out⟩
set_option maxRecDepth 20000 in
set_option maxHeartbeats 2000000 in
theorem act_no2 (p : Value) (k : Int) (s t d : ByteArray) (z : Int) (w : World) (h : Und w p) (hl : d.size ≤ 140737488351232) (hk : k = 2) :
    Calls Try.prog 16 #[p, .agg #[.int .i64 k, .string s, .string t, .string d, .int .i64 z]] w fun r w' => r = .returned (.tuple #[.int .i64 2, .bool true]) ∧ Below w.heap.size w w' := by
  obtain ⟨q, rfl⟩ : ∃ q, p = .pointer q := by
    rcases h with rfl | ⟨Z, rfl, _⟩
    · exact ⟨_, rfl⟩
    · exact ⟨_, rfl⟩
  obtain ⟨W0, hW0⟩ : ∃ W0, W0 = w.alloc (.cells (acells k s t d z) 41) := ⟨_, rfl⟩
  have HB : Hid (Below w.heap.size w W0) := by rw [hW0]; exact (Below.refl _ _).alloc (Nat.le_refl _) _
  have HU : Hid (Und W0 (.pointer q)) := h.below HB.out
  have HK : Hid (Bk 41 W0 w.heap.size (acells k s t d z)) := by rw [hW0]; exact (blk_new w 41 _).1
  clear h
  subst hk
  have e0 : W0.heap.size = w.heap.size + 1 := by rw [hW0]; exact World.size_alloc _ _
  obtain ⟨W1, C1, hcv1, hs1, hb1⟩ := str_bytesK d W0 (by omega)
  have HB1 : Hid (Below w.heap.size w W1) := HB.out.trans (hb1.mono HB.out.size)
  rw [e0] at hcv1 hs1
  have HRo : Hid _ := roomy_c _ _ C1 _ W1 (fun h => by cases h) hs1 (by omega)
  have HU1 : Hid (Und W1 (.pointer q) ∧ Bk 41 W1 w.heap.size (acells 2 s t d z)) := ⟨HU.out.below hb1, HK.out.below hb1 (lt_of_block HK.out)⟩
  have HS2 : Hid (∀ W, ∃ W2 C, (convert 9 57 (.string d)).run Try.prog W = .ok (.slice (some ⟨W.heap.size, 0, none⟩) d.size C) W2 ∧ Seg .u8 W2 (some ⟨W.heap.size, 0, none⟩) d.size (sb d) ∧ Below W.heap.size W W2) := fun W => str_bytesK d W (by omega)
  clear hs1 hb1
  rw [hW0] at hcv1
  unfold acells at hcv1
  go_enter Try.func16, Try.ntmps16
  go_wp2_with (first
    | ((fail_if_success (have z := H2)); go_at_call 56; go_must (refine (Calls.mono HRo.out ?_)); rintro r w2 ⟨g, kk, rfl, k1, k2, k3⟩; have H2 : Hid (Own W1.heap.size w2 (.slice (some ⟨g, 0, none⟩) (d.size + 8) kk) (d.size + 8) (sb d ++ marks) ∧ d.size + 8 ≤ kk ∧ Below W1.heap.size W1 w2) := ⟨k1, k2, k3⟩; have H3 : Hid (Und w2 (.pointer q) ∧ Bk 41 w2 w.heap.size (acells 2 s t d z)) := ⟨HU1.out.1.below k3, HU1.out.2.below k3 (lt_of_block HU1.out.2)⟩; have c1 : w2.cell? ⟨w.heap.size, 1, none⟩ = some (.string s) := Bk.cell H3.out.2 1; have c3 : w2.cell? ⟨w.heap.size, 3, none⟩ = some (.string d) := Bk.cell H3.out.2 3; clear k1 k2 k3)
    | ((fail_if_success (have z := H4)); have zz := H2; clear zz; go_at_call 57; go_must (refine (Calls.mono (append_no _ s _ _ _ _ H3.out.1) ?_)); rintro r w4 ⟨rfl, k1⟩; have H4 : Hid (Below w2.heap.size w2 w4 ∧ Bk 41 w4 w.heap.size (acells 2 s t d z)) := ⟨k1, H3.out.2.below k1 (lt_of_block H3.out.2)⟩; have c4 : w4.cell? ⟨w.heap.size, 3, none⟩ = some (.string d) := Bk.cell H4.out.2 3; obtain ⟨W5, C5, hcv5, k5, k6⟩ := HS2.out w4; have H5 : Hid (Seg .u8 W5 (some ⟨w4.heap.size, 0, none⟩) d.size (sb d) ∧ Below w4.heap.size w4 W5) := ⟨k5, k6⟩; clear k1 k5 k6)
    | ((fail_if_success (have z := H6)); have zz := H5; clear zz; go_at_call 46; go_must (refine (Calls.mono (kept_c g d.size kk (sb d) _ _ _ (((own_segK H2.out.1).below H4.out.1).below H5.out.2) H2.out.2.1 H5.out.1 (by omega)) ?_)); rintro r wq ⟨rfl, hq⟩; obtain rfl := hq.symm; clear hq; have H6 : Hid True := trivial))
  have H7 : Hid (Wri W5 g d.size ∧ Below w.heap.size w W5 ∧ w.heap.size ≤ g) := by
    obtain ⟨x1, x2⟩ := own_wri H2.out.1
    have y1 := H2.out.2.2
    have y2 := H4.out.1
    have y3 := H5.out.2
    have hz1 := HB1.out.size
    have b2 : Below w.heap.size w w2 := HB1.out.trans (y1.mono hz1)
    have b4 : Below w.heap.size w w4 := b2.trans (y2.mono b2.size)
    obtain ⟨cur, T, hc, hn⟩ := x1
    have h2 := (y2.block g (lt_of_block hc)).trans hc
    have h3 := (y3.block g (lt_of_block h2)).trans h2
    exact ⟨⟨cur, T, h3, by omega⟩, b4.trans (y3.mono b4.size), by omega⟩
  clear HU1 HK HU HB HB1 HRo HS2 e0 H2 H3 H4 H5 H6 c1 c3 c4 hcv1 hcv5
  go_loopw [9] (fun i wr => ∃ j : Nat, j ≤ d.size ∧ i = .int .i64 j ∧ Hid (Wri wr g d.size ∧ Below w.heap.size w wr)) (fun i _ => d.size - (intOf i).toNat)
  case atStart => exact ⟨0, Nat.zero_le _, rfl, ⟨H7.out.1, H7.out.2.1⟩⟩
  case round =>
    obtain ⟨j, hj, rfl, HI⟩ := hrel
    by_cases hlt : j < d.size
    · obtain ⟨v, hc⟩ := HI.out.1.at_ hlt
      have hf := HI.out.1.free (i := j)
      have hj1 : (j : Int) < (d.size : Int) := by omega
      have H8 : Hid (Wri (wr.setCell ⟨g, j, none⟩ (.int .u8 77)) g d.size ∧ Below w.heap.size w (wr.setCell ⟨g, j, none⟩ (.int .u8 77))) := ⟨HI.out.1.set, HI.out.2.setCell (p := ⟨g, j, none⟩) H7.out.2.2 _⟩
      go_wp2
      go_roundw
      case rel => exact ⟨j + 1, by omega, by go_num, H8⟩
      case measure => simp [intOf]; omega
    · obtain rfl : j = d.size := by omega
      go_wp2_with (go_at_call 9; go_must (refine (Calls.mono (num_c _ _) ?_)); rintro r wq ⟨rfl, hq⟩; obtain rfl := hq.symm; clear hq)
      go_ret2
      exact ⟨rfl, HI.out.2⟩
theorem act_no (p : Value) (k : Int) (s t d : ByteArray) (z : Int) (w : World) (h : Und w p) (hl : d.size ≤ 140737488351232) :
    Calls Try.prog 16 #[p, .agg #[.int .i64 k, .string s, .string t, .string d, .int .i64 z]] w fun r w' => r = .returned (.tuple #[.int .i64 2, .bool true]) ∧ Below w.heap.size w w' := by
  by_cases h1 : k = 1
  · exact act_no1 p k s t d z w h hl h1
  by_cases h2 : k = 2
  · exact act_no2 p k s t d z w h hl h2
  by_cases h3 : k = 3
  · exact act_no3 p k s t d z w h hl h3
  by_cases h4 : k = 4
  · exact act_no4 p k s t d z w h hl h4
  by_cases h5 : k = 5
  · exact act_no5 p k s t d z w h hl h5
  exact act_no6 p k s t d z w h hl h1 h2 h3 h4 h5
end Go.Proofs.Ytadnececnaciiaa
