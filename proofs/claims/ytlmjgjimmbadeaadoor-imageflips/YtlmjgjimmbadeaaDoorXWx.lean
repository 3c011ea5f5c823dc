/-
  What the document's Writer's Row answers. Condition: what is laid down takes at most 2^47 bytes.
-/
import Derived.Test.YtlmjgjimmbadeaaDoorXWv
namespace Go.Proofs.YtlmjgjimmbadeaaDoor
open Go.RowKit
set_option linter.unusedVariables false

/-- The error of a row that may not be. -/
def wre (key val : ByteArray) (ver : Int) : Int := if key.size = 0 ∨ ver < 1 then 32 else if 1024 < key.size ∨ 65536 < val.size ∨ 1152921504606846976 < ver then 31 else 0
/-- A row's bytes. -/
def rowB (key val : ByteArray) (ver : Int) : List Int := (enc key.size ++ sb key) ++ ((enc val.size ++ sb val) ++ enc ver.toNat)
theorem ferr_keep {e x : Int} (h : e ≠ 0 ∨ x = 0) : ferr e x = e := by
  unfold ferr; split
  · rcases h with h | h
    · contradiction
    · omega
  · rfl
theorem wadd_wadd (e : Int) (ys a b : List Int) : wadd e (wadd e ys a) b = wadd e ys (a ++ b) := by
  unfold wadd; split
  · rw [List.append_assoc]
  · rfl
theorem XStep.step {B w g F w1 v1 ys1 e1 F1 w2 v2 ys2 e2 F2} (h : XStep B w g F w1 v1 ys1 e1 F1) (k : XStep B w1 g F1 w2 v2 ys2 e2 F2) : XStep B w g F w2 v2 ys2 e2 F2 := by
  obtain ⟨v3, F3, x3⟩ := h.seq ⟨v2, F2, k⟩
  refine ⟨k.1, x3.2.1, ?_⟩
  rcases k.2.2 with rfl | ⟨j, rfl, hj⟩
  · exact h.2.2
  · exact .inr ⟨j, rfl, Nat.le_trans h.2.1.size hj⟩
theorem XStep.pre {B w w0 g F w1 v1 ys1 e1 F1} (hg : w0.grownBy w none) (h : XStep B w g F w1 v1 ys1 e1 F1) : XStep B w0 g F w1 v1 ys1 e1 F1 := by
  refine ⟨h.1, (Gr.of hg (by simp)).trans h.2.1, ?_⟩
  rcases h.2.2 with f1 | ⟨k, f1, hk⟩
  · exact .inl f1
  · exact .inr ⟨k, f1, Nat.le_trans hg.size hk⟩
theorem notNew {F F' : Option Nat} {n N : Nat} (h : F' = F ∨ ∃ k, F' = some k ∧ n ≤ k) (h1 : F ≠ some N) (h2 : N < n) : F' ≠ some N := by
  rcases h with rfl | ⟨k, rfl, hk⟩
  · exact h1
  · intro e; cases e; omega
theorem key_empty (key : ByteArray) : key.toList.isEmpty = decide (key.size = 0) := by
  rw [ByteArray.toList_eq]
  have : key.size = key.data.toList.length := rfl
  rw [this]
  cases key.data.toList <;> simp

set_option maxRecDepth 20000 in
set_option maxHeartbeats 1000000 in
theorem xwrow_c (B g : Nat) (v : Value) (ys : List Int) (e : Int) (key val : ByteArray) (ver : Int) (F : Option Nat) (w : World) (h : XW B w g v ys e F) (hk : key.size ≤ 1125899906842) (hv : val.size ≤ 1125899906842) (hn : ver ≤ 9223372036854775807) (hn0 : -9223372036854775808 ≤ ver)
    (hb : ys.length + key.size + val.size + 40 ≤ 140737488355328) :
    Calls Tryd.prog 35 #[.pointer (some ⟨g, 0, none⟩), .agg #[.string key, .string val, .int .i64 ver]] w fun r w' => r = .returned (.tuple #[]) ∧ XGoes B w g F w' (wadd (ferr e (wre key val ver)) ys (rowB key val ver)) (ferr e (wre key val ver)) := by
  have HW : Hid (XW B w g v ys e F) := h
  obtain ⟨E, hE⟩ : ∃ E, E = wre key val ver := ⟨_, rfl⟩
  rw [← hE]
  obtain ⟨E1, hE1⟩ : ∃ E1, E1 = ferr e E := ⟨_, rfl⟩
  have HF : Hid (∀ w v F, XW B w g v ys e F → Calls Tryd.prog 65 #[.pointer (some ⟨g, 0, none⟩), .int .i64 E] w fun r w' => r = .returned (.tuple #[]) ∧ XGoes B w g F w' ys (ferr e E)) := fun w v F h => xwfail_c B g v ys e E F w h
  rw [← hE1] at HF ⊢
  have hE1' : E1 ≠ 0 ∨ E = 0 := by
    by_cases h0 : E = 0
    · exact .inr h0
    · left; rw [hE1]; unfold ferr; split <;> assumption
  have hek : (enc key.size).length ≤ 10 := by rw [enc_length _ (by omega)]; exact (sz_bd _).2
  have hev : (enc val.size).length ≤ 10 := by rw [enc_length _ (by omega)]; exact (sz_bd _).2
  have hsk := sb_length key
  have hsv := sb_length val
  have l1 := wadd_len E1 ys (enc key.size ++ sb key)
  have l2 := wadd_len E1 (wadd E1 ys (enc key.size ++ sb key)) (enc val.size ++ sb val)
  rw [List.length_append] at l1 l2
  have k1 : ferr E1 (wte key.size 1024) = E1 := ferr_keep (hE1'.imp id (fun h0 => by
    rw [hE] at h0; unfold wre at h0; unfold wte
    split at h0
    · omega
    · split at h0
      · omega
      · rw [if_neg (by omega), if_neg (by omega)]))
  have k2 : ferr E1 (wte val.size 65536) = E1 := ferr_keep (hE1'.imp id (fun h0 => by
    rw [hE] at h0; unfold wre at h0; unfold wte
    split at h0
    · omega
    · split at h0
      · omega
      · rw [if_neg (by omega), if_neg (by omega)]))
  have hver : E = 0 → 0 ≤ ver := fun h0 => by
    rw [hE] at h0; unfold wre at h0
    split at h0 <;> omega
  have HT1 : Hid (∀ w v F, XW B w g v ys E1 F → Calls Tryd.prog 66 #[.pointer (some ⟨g, 0, none⟩), .string key, .int .i64 1024] w fun r w' => r = .returned (.tuple #[]) ∧ XGoes B w g F w' (wadd E1 ys (enc key.size ++ sb key)) E1) := fun w v F h => by
    have := xwtext_c B g v ys E1 key 1024 F w h hk (by omega)
    rw [k1] at this; exact this
  have HT2 : Hid (∀ w v F, XW B w g v (wadd E1 ys (enc key.size ++ sb key)) E1 F → Calls Tryd.prog 66 #[.pointer (some ⟨g, 0, none⟩), .string val, .int .i64 65536] w fun r w' => r = .returned (.tuple #[]) ∧ XGoes B w g F w' (wadd E1 (wadd E1 ys (enc key.size ++ sb key)) (enc val.size ++ sb val)) E1) := fun w v F h => by
    have := xwtext_c B g v _ E1 val 65536 F w h hv (by omega)
    rw [k2] at this; exact this
  have HT3 : Hid (∀ w v F V, XW B w g v (wadd E1 (wadd E1 ys (enc key.size ++ sb key)) (enc val.size ++ sb val)) E1 F → V = IntKind.u64.wrap ver ∨ V = ver ∧ 0 ≤ ver → Calls Tryd.prog 67 #[.pointer (some ⟨g, 0, none⟩), .int .u64 V] w fun r w' => r = .returned (.tuple #[]) ∧ XGoes B w g F w' (wadd E1 ys (rowB key val ver)) E1) := fun w v F V h hV => by
    have hVb : 0 ≤ V ∧ V < 18446744073709551616 := by
      rcases hV with rfl | ⟨rfl, _⟩
      · exact wrap_u64_bd ver
      · omega
    refine (xwuint_c B g v _ E1 V F w h hVb.1 hVb.2 (by omega)).mono (fun _ _ ⟨a, b⟩ => ⟨a, ?_⟩)
    rw [wadd_wadd, wadd_wadd] at b
    unfold rowB
    rcases hE1' with h1 | h1
    · rw [wadd_err h1] at b ⊢; exact b
    · have : V = ver := by
        rcases hV with rfl | ⟨rfl, _⟩
        · rw [IntKind.wrap_u64]; have := hver h1; omega
        · rfl
      rw [this] at b; exact b
  obtain ⟨Y1, hY1⟩ : ∃ Y1, Y1 = wadd E1 ys (enc key.size ++ sb key) := ⟨_, rfl⟩
  obtain ⟨Y2, hY2⟩ : ∃ Y2, Y2 = wadd E1 Y1 (enc val.size ++ sb val) := ⟨_, rfl⟩
  obtain ⟨Y3, hY3⟩ : ∃ Y3, Y3 = wadd E1 ys (rowB key val ver) := ⟨_, rfl⟩
  rw [← hY1] at HT1 HT2 HT3
  rw [← hY2] at HT2 HT3
  rw [← hY3] at HT3 ⊢
  have HE0 : Hid (E = 0 → E1 = e) := fun h => by rw [hE1, h, ferr_zero]
  obtain ⟨N, hN⟩ : ∃ N, N = w.heap.size := ⟨_, rfl⟩
  have HN : Hid (N ≠ g) := by have := lt_of_block h.blk; show _ ≠ _; omega
  have HNF : Hid (F ≠ some N) := by
    intro hF
    have h1 := h.own.lo N (by rw [h.fb]; exact hF)
    omega
  have hem := key_empty key
  obtain ⟨KZ, hKZ⟩ : ∃ KZ, KZ = key.size := ⟨_, rfl⟩
  obtain ⟨VZ, hVZ⟩ : ∃ VZ, VZ = val.size := ⟨_, rfl⟩
  have hks : key.size = KZ := hKZ.symm
  have hvs : val.size = VZ := hVZ.symm
  have hEE : E = if KZ = 0 ∨ ver < 1 then 32 else if 1024 < KZ ∨ 65536 < VZ ∨ 1152921504606846976 < ver then 31 else 0 := by rw [hE, wre, hks, hvs]
  have hkb : KZ ≤ 1125899906842 := by omega
  have hvb : VZ ≤ 1125899906842 := by omega
  rw [hks] at hem
  clear h hE1 hY1 hY2 hY3 hE hE1' hek hev hsk hsv l1 l2 k1 k2 hver hb hk hv hKZ hVZ
  by_cases hA : KZ = 0
  · obtain rfl : E = 32 := by rw [hEE, if_pos (.inl hA)]
    subst hA
    rw [decide_eq_true rfl] at hem
    clear hEE HE0
    go_enter Tryd.func35, Tryd.ntmps35
    go_wp2_with fail
    rw [← hN]
    generalize hW1 : World.alloc w _ = W1
    have HB0 : Hid (Bk 48 W1 N #[.string key, .string val, .int .i64 ver] ∧ w.grownBy W1 none) := by rw [← hW1, hN]; exact ⟨heap_new w _, World.grownBy_alloc _ _ _⟩
    clear hW1 hN
    refine (HF.out W1 v F (HW.out.new HB0.out.2)).mono ?_
    rintro r w1 ⟨rfl, v1, F1, hw1⟩
    have HX1 : Hid (XStep B w g F w1 v1 ys E1 F1 ∧ Bk 48 w1 N #[.string key, .string val, .int .i64 ver] ∧ F1 ≠ some N) :=
      ⟨XStep.pre HB0.out.2 hw1, HB0.out.1.gr hw1.2.1 (by rintro (h | h); exact HN.out h; exact HNF.out h), notNew hw1.2.2 HNF.out (lt_of_block HB0.out.1)⟩
    clear hw1
    have b0 := HX1.out.2.1.cell 0
    have b1 := HX1.out.2.1.cell 1
    have b2 := HX1.out.2.1.cell 2
    simp at b0 b1 b2
    go_wp2_with fail
    refine (HT1.out w1 v1 F1 HX1.out.1.1).mono ?_
    rintro r w3 ⟨rfl, v3, F3, hw3⟩
    have HX3 : Hid (XStep B w g F w3 v3 Y1 E1 F3 ∧ Bk 48 w3 N #[.string key, .string val, .int .i64 ver] ∧ F3 ≠ some N) :=
      ⟨HX1.out.1.step hw3, HX1.out.2.1.gr hw3.2.1 (by rintro (h | h); exact HN.out h; exact HX1.out.2.2 h), notNew hw3.2.2 HX1.out.2.2 (lt_of_block HX1.out.2.1)⟩
    clear hw3
    have d1 := HX3.out.2.1.cell 1
    simp at d1
    go_wp2_with fail
    refine (HT2.out w3 v3 F3 HX3.out.1.1).mono ?_
    rintro r w4 ⟨rfl, v4, F4, hw4⟩
    have HX4 : Hid (XStep B w g F w4 v4 Y2 E1 F4 ∧ Bk 48 w4 N #[.string key, .string val, .int .i64 ver] ∧ F4 ≠ some N) :=
      ⟨HX3.out.1.step hw4, HX3.out.2.1.gr hw4.2.1 (by rintro (h | h); exact HN.out h; exact HX3.out.2.2 h), notNew hw4.2.2 HX3.out.2.2 (lt_of_block HX3.out.2.1)⟩
    clear hw4
    have d2 := HX4.out.2.1.cell 2
    simp at d2
    go_wp2_with fail
    refine (HT3.out w4 v4 F4 _ HX4.out.1.1 (by first | exact .inl rfl | exact .inr ⟨rfl, by omega⟩)).mono ?_
    rintro r w5 ⟨rfl, h5⟩
    have H5 : Hid (XGoes B w g F w5 Y3 E1) := HX4.out.1.seq h5
    clear h5
    go_wp2
    go_end0
    exact ⟨rfl, H5.out⟩
  · have hem2 : key.toList.isEmpty = false := by rw [hem]; exact decide_eq_false hA
    clear hem
    by_cases hB : ver < 1
    · obtain rfl : E = 32 := by rw [hEE, if_pos (.inr hB)]
      clear hEE HE0
      go_enter Tryd.func35, Tryd.ntmps35
      go_wp2_with fail
      rw [← hN]
      generalize hW1 : World.alloc w _ = W1
      have HB0 : Hid (Bk 48 W1 N #[.string key, .string val, .int .i64 ver] ∧ w.grownBy W1 none) := by rw [← hW1, hN]; exact ⟨heap_new w _, World.grownBy_alloc _ _ _⟩
      clear hW1 hN
      refine (HF.out W1 v F (HW.out.new HB0.out.2)).mono ?_
      rintro r w1 ⟨rfl, v1, F1, hw1⟩
      have HX1 : Hid (XStep B w g F w1 v1 ys E1 F1 ∧ Bk 48 w1 N #[.string key, .string val, .int .i64 ver] ∧ F1 ≠ some N) :=
        ⟨XStep.pre HB0.out.2 hw1, HB0.out.1.gr hw1.2.1 (by rintro (h | h); exact HN.out h; exact HNF.out h), notNew hw1.2.2 HNF.out (lt_of_block HB0.out.1)⟩
      clear hw1
      have b0 := HX1.out.2.1.cell 0
      have b1 := HX1.out.2.1.cell 1
      have b2 := HX1.out.2.1.cell 2
      simp at b0 b1 b2
      go_wp2_with fail
      refine (HT1.out w1 v1 F1 HX1.out.1.1).mono ?_
      rintro r w3 ⟨rfl, v3, F3, hw3⟩
      have HX3 : Hid (XStep B w g F w3 v3 Y1 E1 F3 ∧ Bk 48 w3 N #[.string key, .string val, .int .i64 ver] ∧ F3 ≠ some N) :=
        ⟨HX1.out.1.step hw3, HX1.out.2.1.gr hw3.2.1 (by rintro (h | h); exact HN.out h; exact HX1.out.2.2 h), notNew hw3.2.2 HX1.out.2.2 (lt_of_block HX1.out.2.1)⟩
      clear hw3
      have d1 := HX3.out.2.1.cell 1
      simp at d1
      go_wp2_with fail
      refine (HT2.out w3 v3 F3 HX3.out.1.1).mono ?_
      rintro r w4 ⟨rfl, v4, F4, hw4⟩
      have HX4 : Hid (XStep B w g F w4 v4 Y2 E1 F4 ∧ Bk 48 w4 N #[.string key, .string val, .int .i64 ver] ∧ F4 ≠ some N) :=
        ⟨HX3.out.1.step hw4, HX3.out.2.1.gr hw4.2.1 (by rintro (h | h); exact HN.out h; exact HX3.out.2.2 h), notNew hw4.2.2 HX3.out.2.2 (lt_of_block HX3.out.2.1)⟩
      clear hw4
      have d2 := HX4.out.2.1.cell 2
      simp at d2
      go_wp2_with fail
      refine (HT3.out w4 v4 F4 _ HX4.out.1.1 (by first | exact .inl rfl | exact .inr ⟨rfl, by omega⟩)).mono ?_
      rintro r w5 ⟨rfl, h5⟩
      have H5 : Hid (XGoes B w g F w5 Y3 E1) := HX4.out.1.seq h5
      clear h5
      go_wp2
      go_end0
      exact ⟨rfl, H5.out⟩
    · have hE2 : E = if 1024 < KZ ∨ 65536 < VZ ∨ 1152921504606846976 < ver then 31 else 0 := by rw [hEE, if_neg (by omega)]
      clear hEE
      by_cases hC1 : 1024 < KZ
      · obtain rfl : E = 31 := by rw [hE2, if_pos (.inl hC1)]
        clear hE2 HE0
        go_enter Tryd.func35, Tryd.ntmps35
        go_wp2_with fail
        rw [← hN]
        generalize hW1 : World.alloc w _ = W1
        have HB0 : Hid (Bk 48 W1 N #[.string key, .string val, .int .i64 ver] ∧ w.grownBy W1 none) := by rw [← hW1, hN]; exact ⟨heap_new w _, World.grownBy_alloc _ _ _⟩
        clear hW1 hN
        refine (HF.out W1 v F (HW.out.new HB0.out.2)).mono ?_
        rintro r w1 ⟨rfl, v1, F1, hw1⟩
        have HX1 : Hid (XStep B w g F w1 v1 ys E1 F1 ∧ Bk 48 w1 N #[.string key, .string val, .int .i64 ver] ∧ F1 ≠ some N) :=
          ⟨XStep.pre HB0.out.2 hw1, HB0.out.1.gr hw1.2.1 (by rintro (h | h); exact HN.out h; exact HNF.out h), notNew hw1.2.2 HNF.out (lt_of_block HB0.out.1)⟩
        clear hw1
        have b0 := HX1.out.2.1.cell 0
        have b1 := HX1.out.2.1.cell 1
        have b2 := HX1.out.2.1.cell 2
        simp at b0 b1 b2
        go_wp2_with fail
        refine (HT1.out w1 v1 F1 HX1.out.1.1).mono ?_
        rintro r w3 ⟨rfl, v3, F3, hw3⟩
        have HX3 : Hid (XStep B w g F w3 v3 Y1 E1 F3 ∧ Bk 48 w3 N #[.string key, .string val, .int .i64 ver] ∧ F3 ≠ some N) :=
          ⟨HX1.out.1.step hw3, HX1.out.2.1.gr hw3.2.1 (by rintro (h | h); exact HN.out h; exact HX1.out.2.2 h), notNew hw3.2.2 HX1.out.2.2 (lt_of_block HX1.out.2.1)⟩
        clear hw3
        have d1 := HX3.out.2.1.cell 1
        simp at d1
        go_wp2_with fail
        refine (HT2.out w3 v3 F3 HX3.out.1.1).mono ?_
        rintro r w4 ⟨rfl, v4, F4, hw4⟩
        have HX4 : Hid (XStep B w g F w4 v4 Y2 E1 F4 ∧ Bk 48 w4 N #[.string key, .string val, .int .i64 ver] ∧ F4 ≠ some N) :=
          ⟨HX3.out.1.step hw4, HX3.out.2.1.gr hw4.2.1 (by rintro (h | h); exact HN.out h; exact HX3.out.2.2 h), notNew hw4.2.2 HX3.out.2.2 (lt_of_block HX3.out.2.1)⟩
        clear hw4
        have d2 := HX4.out.2.1.cell 2
        simp at d2
        go_wp2_with fail
        refine (HT3.out w4 v4 F4 _ HX4.out.1.1 (by first | exact .inl rfl | exact .inr ⟨rfl, by omega⟩)).mono ?_
        rintro r w5 ⟨rfl, h5⟩
        have H5 : Hid (XGoes B w g F w5 Y3 E1) := HX4.out.1.seq h5
        clear h5
        go_wp2
        go_end0
        exact ⟨rfl, H5.out⟩
      · by_cases hC2 : 65536 < VZ
        · obtain rfl : E = 31 := by rw [hE2, if_pos (.inr (.inl hC2))]
          clear hE2 HE0
          go_enter Tryd.func35, Tryd.ntmps35
          go_wp2_with fail
          rw [← hN]
          generalize hW1 : World.alloc w _ = W1
          have HB0 : Hid (Bk 48 W1 N #[.string key, .string val, .int .i64 ver] ∧ w.grownBy W1 none) := by rw [← hW1, hN]; exact ⟨heap_new w _, World.grownBy_alloc _ _ _⟩
          clear hW1 hN
          refine (HF.out W1 v F (HW.out.new HB0.out.2)).mono ?_
          rintro r w1 ⟨rfl, v1, F1, hw1⟩
          have HX1 : Hid (XStep B w g F w1 v1 ys E1 F1 ∧ Bk 48 w1 N #[.string key, .string val, .int .i64 ver] ∧ F1 ≠ some N) :=
            ⟨XStep.pre HB0.out.2 hw1, HB0.out.1.gr hw1.2.1 (by rintro (h | h); exact HN.out h; exact HNF.out h), notNew hw1.2.2 HNF.out (lt_of_block HB0.out.1)⟩
          clear hw1
          have b0 := HX1.out.2.1.cell 0
          have b1 := HX1.out.2.1.cell 1
          have b2 := HX1.out.2.1.cell 2
          simp at b0 b1 b2
          go_wp2_with fail
          refine (HT1.out w1 v1 F1 HX1.out.1.1).mono ?_
          rintro r w3 ⟨rfl, v3, F3, hw3⟩
          have HX3 : Hid (XStep B w g F w3 v3 Y1 E1 F3 ∧ Bk 48 w3 N #[.string key, .string val, .int .i64 ver] ∧ F3 ≠ some N) :=
            ⟨HX1.out.1.step hw3, HX1.out.2.1.gr hw3.2.1 (by rintro (h | h); exact HN.out h; exact HX1.out.2.2 h), notNew hw3.2.2 HX1.out.2.2 (lt_of_block HX1.out.2.1)⟩
          clear hw3
          have d1 := HX3.out.2.1.cell 1
          simp at d1
          go_wp2_with fail
          refine (HT2.out w3 v3 F3 HX3.out.1.1).mono ?_
          rintro r w4 ⟨rfl, v4, F4, hw4⟩
          have HX4 : Hid (XStep B w g F w4 v4 Y2 E1 F4 ∧ Bk 48 w4 N #[.string key, .string val, .int .i64 ver] ∧ F4 ≠ some N) :=
            ⟨HX3.out.1.step hw4, HX3.out.2.1.gr hw4.2.1 (by rintro (h | h); exact HN.out h; exact HX3.out.2.2 h), notNew hw4.2.2 HX3.out.2.2 (lt_of_block HX3.out.2.1)⟩
          clear hw4
          have d2 := HX4.out.2.1.cell 2
          simp at d2
          go_wp2_with fail
          refine (HT3.out w4 v4 F4 _ HX4.out.1.1 (by first | exact .inl rfl | exact .inr ⟨rfl, by omega⟩)).mono ?_
          rintro r w5 ⟨rfl, h5⟩
          have H5 : Hid (XGoes B w g F w5 Y3 E1) := HX4.out.1.seq h5
          clear h5
          go_wp2
          go_end0
          exact ⟨rfl, H5.out⟩
        · by_cases hC3 : 1152921504606846976 < ver
          · obtain rfl : E = 31 := by rw [hE2, if_pos (.inr (.inr hC3))]
            clear hE2 HE0
            go_enter Tryd.func35, Tryd.ntmps35
            go_wp2_with fail
            rw [← hN]
            generalize hW1 : World.alloc w _ = W1
            have HB0 : Hid (Bk 48 W1 N #[.string key, .string val, .int .i64 ver] ∧ w.grownBy W1 none) := by rw [← hW1, hN]; exact ⟨heap_new w _, World.grownBy_alloc _ _ _⟩
            clear hW1 hN
            refine (HF.out W1 v F (HW.out.new HB0.out.2)).mono ?_
            rintro r w1 ⟨rfl, v1, F1, hw1⟩
            have HX1 : Hid (XStep B w g F w1 v1 ys E1 F1 ∧ Bk 48 w1 N #[.string key, .string val, .int .i64 ver] ∧ F1 ≠ some N) :=
              ⟨XStep.pre HB0.out.2 hw1, HB0.out.1.gr hw1.2.1 (by rintro (h | h); exact HN.out h; exact HNF.out h), notNew hw1.2.2 HNF.out (lt_of_block HB0.out.1)⟩
            clear hw1
            have b0 := HX1.out.2.1.cell 0
            have b1 := HX1.out.2.1.cell 1
            have b2 := HX1.out.2.1.cell 2
            simp at b0 b1 b2
            go_wp2_with fail
            refine (HT1.out w1 v1 F1 HX1.out.1.1).mono ?_
            rintro r w3 ⟨rfl, v3, F3, hw3⟩
            have HX3 : Hid (XStep B w g F w3 v3 Y1 E1 F3 ∧ Bk 48 w3 N #[.string key, .string val, .int .i64 ver] ∧ F3 ≠ some N) :=
              ⟨HX1.out.1.step hw3, HX1.out.2.1.gr hw3.2.1 (by rintro (h | h); exact HN.out h; exact HX1.out.2.2 h), notNew hw3.2.2 HX1.out.2.2 (lt_of_block HX1.out.2.1)⟩
            clear hw3
            have d1 := HX3.out.2.1.cell 1
            simp at d1
            go_wp2_with fail
            refine (HT2.out w3 v3 F3 HX3.out.1.1).mono ?_
            rintro r w4 ⟨rfl, v4, F4, hw4⟩
            have HX4 : Hid (XStep B w g F w4 v4 Y2 E1 F4 ∧ Bk 48 w4 N #[.string key, .string val, .int .i64 ver] ∧ F4 ≠ some N) :=
              ⟨HX3.out.1.step hw4, HX3.out.2.1.gr hw4.2.1 (by rintro (h | h); exact HN.out h; exact HX3.out.2.2 h), notNew hw4.2.2 HX3.out.2.2 (lt_of_block HX3.out.2.1)⟩
            clear hw4
            have d2 := HX4.out.2.1.cell 2
            simp at d2
            go_wp2_with fail
            refine (HT3.out w4 v4 F4 _ HX4.out.1.1 (by first | exact .inl rfl | exact .inr ⟨rfl, by omega⟩)).mono ?_
            rintro r w5 ⟨rfl, h5⟩
            have H5 : Hid (XGoes B w g F w5 Y3 E1) := HX4.out.1.seq h5
            clear h5
            go_wp2
            go_end0
            exact ⟨rfl, H5.out⟩
          · obtain rfl : E = 0 := by rw [hE2, if_neg (by omega)]
            obtain rfl := HE0.out rfl
            clear hE2 HE0
            go_enter Tryd.func35, Tryd.ntmps35
            go_wp2_with fail
            rw [← hN]
            generalize hW1 : World.alloc w _ = W1
            have HB0 : Hid (Bk 48 W1 N #[.string key, .string val, .int .i64 ver] ∧ w.grownBy W1 none) := by rw [← hW1, hN]; exact ⟨heap_new w _, World.grownBy_alloc _ _ _⟩
            clear hW1 hN
            have HX1 : Hid (XStep B w g F W1 v ys E1 F ∧ Bk 48 W1 N #[.string key, .string val, .int .i64 ver] ∧ F ≠ some N) :=
              ⟨⟨HW.out.new HB0.out.2, Gr.of HB0.out.2 (by simp), .inl rfl⟩, HB0.out.1, HNF.out⟩
            refine (HT1.out W1 v F HX1.out.1.1).mono ?_
            rintro r w3 ⟨rfl, v3, F3, hw3⟩
            have HX3 : Hid (XStep B w g F w3 v3 Y1 E1 F3 ∧ Bk 48 w3 N #[.string key, .string val, .int .i64 ver] ∧ F3 ≠ some N) :=
              ⟨HX1.out.1.step hw3, HX1.out.2.1.gr hw3.2.1 (by rintro (h | h); exact HN.out h; exact HX1.out.2.2 h), notNew hw3.2.2 HX1.out.2.2 (lt_of_block HX1.out.2.1)⟩
            clear hw3
            have d1 := HX3.out.2.1.cell 1
            simp at d1
            go_wp2_with fail
            refine (HT2.out w3 v3 F3 HX3.out.1.1).mono ?_
            rintro r w4 ⟨rfl, v4, F4, hw4⟩
            have HX4 : Hid (XStep B w g F w4 v4 Y2 E1 F4 ∧ Bk 48 w4 N #[.string key, .string val, .int .i64 ver] ∧ F4 ≠ some N) :=
              ⟨HX3.out.1.step hw4, HX3.out.2.1.gr hw4.2.1 (by rintro (h | h); exact HN.out h; exact HX3.out.2.2 h), notNew hw4.2.2 HX3.out.2.2 (lt_of_block HX3.out.2.1)⟩
            clear hw4
            have d2 := HX4.out.2.1.cell 2
            simp at d2
            go_wp2_with fail
            refine (HT3.out w4 v4 F4 _ HX4.out.1.1 (by first | exact .inl rfl | exact .inr ⟨rfl, by omega⟩)).mono ?_
            rintro r w5 ⟨rfl, h5⟩
            have H5 : Hid (XGoes B w g F w5 Y3 E1) := HX4.out.1.seq h5
            clear h5
            go_wp2
            go_end0
            exact ⟨rfl, H5.out⟩
end Go.Proofs.YtlmjgjimmbadeaaDoor
