/-
  What the document's Lay, Normal, Meet, Minus and Covers answer of whatever ranges: what is wanted of both lists, in normal form. Condition: both lists together have at most 2^40 ranges.
-/
import Derived.Test.YtdjcokepeifojaaDoorNMk
import Derived.Test.YtdjcokepeifojaaDoorNIw
import Derived.Test.YtdjcokepeifojaaDoorNMm
namespace Go.Proofs.YtdjcokepeifojaaDoor
set_option linter.unusedVariables false
open Go.RowKit

theorem cell_of_gb {w w' : World} {x : Addr} {v : Value} (h : w.grownBy w' none) (c : w.cell? x = some v) : w'.cell? x = some v := by
  have hb : x.block < w.heap.size := by
    rcases Nat.lt_or_ge x.block w.heap.size with h1 | h1
    · exact h1
    · simp [World.cell?, h1] at c
  exact ((gb_below h).cell (p := x) hb).trans c
theorem alk_of {ms : List ByteArray} {A B : List Rg} (hr : Ris ms) (hA : Ends ms A) (hB : Ends ms B) (q : Nat) : Alk ms fun t => wq q (lHas A t) (lHas B t) := fun i hi t h1 h2 => by
  show wq q (lHas A t) (lHas B t) = wq q (lHas A (mk ms i)) (lHas B (mk ms i))
  rw [has_same hr hA hi h1 h2, has_same hr hB hi h1 h2]
set_option maxRecDepth 20000 in
set_option maxHeartbeats 4000000 in
theorem glay_c (q : Nat) (hq : q < 3) (A B : List Rg) (a b : Option Addr) (ca cb : Nat) (w : World) (hA : Cells w a (flR A)) (hB : Cells w b (flR B)) (hn : A.length + B.length ≤ 1099511627776) :
    Calls Tryd.prog 24 #[.int .i64 q, .slice a A.length ca, .slice b B.length cb] w fun e w' => ∃ v R, e = .returned v ∧ w'.ownsRow w.heap.size 48 2 v R.length (flR R) ∧ Nrm R ∧ (∀ t, lHas R t = wq q (lHas A t) (lHas B t)) ∧ R.length ≤ 2 * (A.length + B.length) + 1 ∧ w.grownBy w' none := by
  have HMK : Hid _ := gmarks_c A B a b ca cb w hA hB hn
  have HWQ : Hid (∀ w' t, w.grownBy w' none → Calls Tryd.prog 36 #[.int .i64 q, .slice a A.length ca, .slice b B.length cb, .string t] w' fun e w'' => e = .returned (.bool (wq q (lHas A t) (lHas B t))) ∧ w'.grownBy w'' none) := fun w' t h => gwanted_c q hq A B t a b ca cb w' (hA.gb h) (hB.gb h) hn
  have HAL : Hid (∀ ms, Ris ms → Ends ms A → Ends ms B → Alk ms fun t => wq q (lHas A t) (lHas B t)) := fun ms h1 h2 h3 => alk_of h1 h2 h3 q
  obtain ⟨F, hF⟩ : ∃ F : ByteArray → Bool, F = fun t => wq q (lHas A t) (lHas B t) := ⟨_, rfl⟩
  have hF2 : ∀ t, wq q (lHas A t) (lHas B t) = F t := fun t => by rw [hF]
  rw [← hF] at HAL
  simp only [hF2] at HWQ ⊢
  have HE : Hid (∀ ms : List ByteArray, Ends ms A ∧ Ends ms B → Ris ms → Alk ms F) := fun ms h1 h2 => HAL.out ms h2 h1.1 h1.2
  obtain ⟨n, hna⟩ : ∃ n, n = A.length := ⟨_, rfl⟩
  obtain ⟨m, hmb⟩ : ∃ m, m = B.length := ⟨_, rfl⟩
  rw [← hna, ← hmb] at hn HMK HWQ ⊢
  clear hA hB hF hF2 hna hmb HAL hq
  go_enter Tryd.func24, Tryd.ntmps24
  go_wp2_with (first
    | (go_at_call 35; go_must (refine (Calls.mono HMK.out ?_)); rintro e w1 ⟨g, c, ms, rfl, k1, k2, k3, k4, k5, k6, k7, k8⟩; have H1 : Hid (Cells w1 (some ⟨g, 0, none⟩) (flS ms) ∧ Ris ms ∧ 0 < ms.length ∧ mk ms 0 = .empty ∧ Alk ms F ∧ ms.length ≤ 2 * (n + m) + 1 ∧ w.grownBy w1 none) := ⟨k1, k2, k3, k4, HE.out ms ⟨k5, k6⟩ k2, k7, k8⟩; clear k1 k2 k3 k4 k5 k6 k7 k8; obtain ⟨M, hM⟩ : ∃ M, M = ms.length := ⟨_, rfl⟩; rw [← hM]; have HM : Hid (M = ms.length) := hM; clear hM))
  clear HMK HE
  go_loopw [7, 9] (fun v i wr => ∃ k : Nat, ∃ R, k ≤ M ∧ i = .int .i64 k ∧ Hid (LI ms F k R ∧ wr.ownsRow w1.heap.size 48 2 v R.length (flR R) ∧ w1.grownBy wr none)) (fun _ i _ => M - (intOf i).toNat)
  case atStart => exact ⟨0, [], Nat.zero_le _, rfl, li_none F H1.out.2.2.1 H1.out.2.2.2.1, own_none _ _ _ _, gb_refl _⟩
  case round =>
    obtain ⟨k, R, hk, rfl, hr⟩ := hrel
    by_cases hlt : k < M
    · have HKM : Hid (k < ms.length) := by show _ < _; have := HM.out; omega
      have HC : Hid (∀ i, i < ms.length → wr.cell? ⟨g, i, none⟩ = some (.string (mk ms i))) := fun i hi => by
        obtain ⟨b, off, ha, hb, hc⟩ := cells_str (H1.out.1.gb hr.out.2.2) i hi
        cases ha
        rw [Nat.zero_add] at hc; exact hc
      have cK := HC.out k HKM.out
      have HNO : Hid (F (mk ms k) = false → LI ms F (k + 1) R) := fun h => li_no H1.out.2.1 H1.out.2.2.2.2.1 hr.out.1 HKM.out h
      have HNEW : Hid (F (mk ms k) = true → (∀ T a b, R = T ++ [(a, b)] → b ≠ mk ms k) → LI ms F (k + 1) (R ++ [(mk ms k, mk ms (k + 1))])) := fun h h2 => li_new H1.out.2.1 H1.out.2.2.2.2.1 hr.out.1 HKM.out h h2
      have HGR : Hid (∀ T a b, F (mk ms k) = true → R = T ++ [(a, b)] → b = mk ms k → LI ms F (k + 1) (T ++ [(a, mk ms (k + 1))])) := fun T a b h e eb => li_grow H1.out.2.1 H1.out.2.2.2.2.1 (by rw [← e]; exact hr.out.1) HKM.out h eb
      have HWK : Hid _ := HWQ.out wr (mk ms k) (gb_trans H1.out.2.2.2.2.2.2 hr.out.2.2)
      have HOW : Hid (wr.ownsRow w1.heap.size 48 2 u7 R.length (flR R) ∧ w1.grownBy wr none ∧ R.length ≤ M) := ⟨hr.out.2.1, hr.out.2.2, by have := hr.out.1.len; omega⟩
      have hMb : M ≤ 2199023255553 := by have := H1.out.2.2.2.2.2.1; have := HM.out; omega
      have i1 : (0 : Int) ≤ (k : Int) := by omega
      have i2 : (k : Int) < (M : Int) := by omega
      clear hr
      rcases (show k + 1 < M ∨ k + 1 = M by omega) with hn1 | hn1
      · have cN := HC.out (k + 1) (by have := HM.out; omega)
        have j1 : (k : Int) + 1 < (M : Int) := by omega
        have j2 : (0 : Int) ≤ (k : Int) + 1 := by omega
        have j3 : ((k : Int) + 1).toNat = k + 1 := by omega
        clear HC hn1
        generalize mk ms (k + 1) = z at *
        generalize F (mk ms k) = fb at *
        generalize mk ms k = x at *
        cases fb
        · have HR : Hid (LI ms F (k + 1) R) := HNO.out rfl
          clear HNO HNEW HGR
          obtain ⟨xa, xc, rfl, -⟩ := own_cells HOW.out.1
          go_wp2_with (first
            | (go_at_call 36; go_must (refine (Calls.mono HWK.out ?_)); rintro e w3 ⟨rfl, h3⟩; have H3 : Hid (wr.grownBy w3 none) := h3; clear h3))
          exact ⟨⟨k + 1, R, by omega, by simp, HR.out, own_gb HOW.out.1 H3.out, gb_trans HOW.out.2.1 H3.out⟩, by simp [intOf]; omega⟩
        · rcases List.eq_nil_or_concat R with rfl | ⟨T, ⟨a1, b1⟩, hR⟩
          · have HR : Hid (LI ms F (k + 1) ([] ++ [(x, z)])) := HNEW.out rfl (fun T a b e => by simp at e)
            clear HNO HNEW HGR
            have HFL : Hid (flR ([] ++ [(x, z)]) = flR [] ++ (rC (x, z)).toArray.toList) := flR_snoc _ _
            obtain ⟨xa, xc, rfl, -⟩ := own_cells HOW.out.1
            go_wp2_with (first
              | (go_at_call 36; go_must (refine (Calls.mono HWK.out ?_)); rintro e w3 ⟨rfl, h3⟩; have H3 : Hid (wr.grownBy w3 none) := h3; clear h3; have cK3 : w3.cell? ⟨g, k, none⟩ = some (.string x) := cell_of_gb H3.out cK))
            go_quiet (fail)
            generalize hW5 : World.drewN w3 _ = W5
            have cK5 : W5.cell? ⟨g, k, none⟩ = some (.string x) := by rw [← hW5]; exact cK3
            have H5 : Hid (wr.grownBy W5 none) := by rw [← hW5]; exact gb_drewN H3.out _
            clear hW5
            go_wp2_with (first
              | (at_builtin; go_must (refine wpList_lit rfl _ _ 25 rfl w1.heap.size 48 _ 2 32 Tryd.underlying25 infoGrange rfl (by decide) W5 (rC (x, z)).toArray rfl _ 0 (flR []) rfl (own_gb HOW.out.1 H5.out) rfl rfl (range_one _) (by decide) (by decide) (gb_trans HOW.out.2.1 H5.out).size ?_); intro g6 cap6 w6 ho6 hb6 _ _ _; have H6 : Hid (w6.ownsRow w1.heap.size 48 2 (.slice (some ⟨g6, 0, none⟩) (0 + 1) cap6) (0 + 1) (flR ([] ++ [(x, z)])) ∧ w1.grownBy w6 none) := ⟨(by rw [HFL.out]; exact ho6), below_gb ((gb_below (gb_trans HOW.out.2.1 H5.out)).trans hb6)⟩; clear ho6 hb6))
            exact ⟨⟨k + 1, [] ++ [(x, z)], by omega, by simp, HR.out, H6.out.1, H6.out.2⟩, by simp [intOf]; omega⟩
          · rw [List.concat_eq_append] at hR
            subst hR
            obtain ⟨p, hp⟩ : ∃ p, p = T.length := ⟨_, rfl⟩
            have HP : Hid (p = T.length) := hp
            have HO2 : Hid (wr.ownsRow w1.heap.size 48 2 u7 (p + 1) (flR (T ++ [(a1, b1)])) ∧ w1.grownBy wr none ∧ p + 1 ≤ M) := by
              have h := HOW.out
              rw [List.length_append, ← hp] at h
              exact h
            obtain ⟨g7, c7, rfl, hg71, hg72⟩ := World.ownsRow.form HO2.out.1 (by omega)
            have hpM := HO2.out.2.2
            have HG7 : Hid (w1.heap.size ≤ g7) := hg71
            have cL : wr.cell? ⟨g7, p * 2 + 1, none⟩ = some (.string b1) := by
              obtain ⟨x2, c2, he, hc, _⟩ := own_cells HO2.out.1
              cases he
              obtain ⟨b, off, ha, hb, -, hc1⟩ := cells_rg hc p (by rw [List.length_append, ← hp]; simp)
              cases ha
              rw [Nat.zero_add] at hc1
              rw [hc1, hp]; simp
            have e1 : IntKind.i64.wrap ((p : Int) + 1 - 1) = (p : Int) := (IntWalk.i64_in _ ⟨by omega, by omega⟩).trans (by omega)
            have e2 : wrap64 ((p : Int) + 1 - 1) = (p : Int) := (IntWalk.wrap64_in _ ⟨by omega, by omega⟩).trans (by omega)
            have e3 : (0 : Int) ≤ (p : Int) := by omega
            have e4 : (p : Int) < (p : Int) + 1 := by omega
            clear hp hg71 hg72 HOW
            by_cases hb : b1 = x
            · subst hb
              have HR : Hid (LI ms F (k + 1) (T ++ [(a1, z)])) := HGR.out T a1 b1 rfl rfl rfl
              clear HNO HNEW HGR
              go_wp2_with (first
                | (go_at_call 36; go_must (refine (Calls.mono HWK.out ?_)); rintro e w3 ⟨rfl, h3⟩; have H3 : Hid (wr.grownBy w3 none) := h3; clear h3; have cK3 : w3.cell? ⟨g, k, none⟩ = some (.string b1) := cell_of_gb H3.out cK; have cL3 : w3.cell? ⟨g7, p * 2 + 1, none⟩ = some (.string b1) := cell_of_gb H3.out cL))
              go_quiet (fail)
              generalize hW5 : World.drewN w3 _ = W5
              have HO5 : Hid (W5.ownsRow w1.heap.size 48 2 (.slice (some ⟨g7, 0, none⟩) (p + 1) c7) (p + 1) (flR (T ++ [(a1, b1)])) ∧ w1.grownBy W5 none) := by rw [← hW5]; exact ⟨own_gb HO2.out.1 (gb_drewN H3.out _), gb_drewN (gb_trans HO2.out.2.1 H3.out) _⟩
              clear hW5
              obtain ⟨⟨u0, y1⟩, y2⟩ := own_cellb HO5.out.1 (p * 2 + 1) (by omega)
              go_wp2
              exact ⟨⟨k + 1, T ++ [(a1, z)], by omega, by simp, HR.out, by rw [List.length_append, ← HP.out]; (have := own_set1b HO5.out.1 (u := z) (by rw [HP.out])); rwa [← HP.out] at this, gb_newer HO5.out.2 (gb_set _ _ _ _) HG7.out⟩, by simp [intOf]; omega⟩
            · have q1 : (b1.toList == x.toList) = false := by rw [te_iff]; simp [hb]
              have q3 : ¬ b1.toList = x.toList := fun e => hb (toList_inj e)
              have HR : Hid (LI ms F (k + 1) ((T ++ [(a1, b1)]) ++ [(x, z)])) := HNEW.out rfl (fun T' a' b' e => by
                obtain ⟨-, h2⟩ := List.append_inj' e rfl
                simp at h2; rw [← h2.2]; exact hb)
              clear HNO HNEW HGR hb
              have HFL : Hid (flR ((T ++ [(a1, b1)]) ++ [(x, z)]) = flR (T ++ [(a1, b1)]) ++ (rC (x, z)).toArray.toList) := flR_snoc _ _
              go_wp2_with (first
                | (go_at_call 36; go_must (refine (Calls.mono HWK.out ?_)); rintro e w3 ⟨rfl, h3⟩; have H3 : Hid (wr.grownBy w3 none) := h3; clear h3; have cK3 : w3.cell? ⟨g, k, none⟩ = some (.string x) := cell_of_gb H3.out cK; have cL3 : w3.cell? ⟨g7, p * 2 + 1, none⟩ = some (.string b1) := cell_of_gb H3.out cL))
              go_quiet (fail)
              generalize hW5 : World.drewN w3 _ = W5
              have cK5 : W5.cell? ⟨g, k, none⟩ = some (.string x) := by rw [← hW5]; exact cK3
              have HO5 : Hid (W5.ownsRow w1.heap.size 48 2 (.slice (some ⟨g7, 0, none⟩) (p + 1) c7) (p + 1) (flR (T ++ [(a1, b1)])) ∧ w1.grownBy W5 none) := by rw [← hW5]; exact ⟨own_gb HO2.out.1 (gb_drewN H3.out _), gb_drewN (gb_trans HO2.out.2.1 H3.out) _⟩
              clear hW5
              go_wp2_with (first
                | (at_builtin; go_must (refine wpList_lit rfl _ _ 25 rfl w1.heap.size 48 _ 2 32 Tryd.underlying25 infoGrange rfl (by decide) W5 (rC (x, z)).toArray rfl _ (p + 1) (flR (T ++ [(a1, b1)])) rfl HO5.out.1 rfl rfl (range_one _) (by unfold maxLen; omega) (by omega) HO5.out.2.size ?_); intro g6 cap6 w6 ho6 hb6 _ _ _; have H6 : Hid (w6.ownsRow w1.heap.size 48 2 (.slice (some ⟨g6, 0, none⟩) (p + 1 + 1) cap6) (p + 1 + 1) (flR ((T ++ [(a1, b1)]) ++ [(x, z)])) ∧ w1.grownBy w6 none) := ⟨(by rw [HFL.out]; exact ho6), below_gb ((gb_below HO5.out.2).trans hb6)⟩; clear ho6 hb6))
              exact ⟨⟨k + 1, (T ++ [(a1, b1)]) ++ [(x, z)], by omega, by simp, HR.out, by rw [List.length_append, List.length_append, ← HP.out]; exact H6.out.1, H6.out.2⟩, by simp [intOf]; omega⟩
      · have HZ : Hid (mk ms (k + 1) = .empty) := mk_end (by have := HM.out; omega)
        have j1 : ¬ (k : Int) + 1 < (M : Int) := by omega
        rw [HZ.out] at HNEW HGR
        clear HC hn1 HZ
        obtain ⟨z, hz⟩ : ∃ z : ByteArray, z = .empty := ⟨_, rfl⟩
        rw [← hz] at HNEW HGR
        have HZ : Hid (z = .empty) := hz
        subst hz
        generalize F (mk ms k) = fb at *
        generalize mk ms k = x at *
        cases fb
        · have HR : Hid (LI ms F (k + 1) R) := HNO.out rfl
          clear HNO HNEW HGR
          obtain ⟨xa, xc, rfl, -⟩ := own_cells HOW.out.1
          go_wp2_with (first
            | (go_at_call 36; go_must (refine (Calls.mono HWK.out ?_)); rintro e w3 ⟨rfl, h3⟩; have H3 : Hid (wr.grownBy w3 none) := h3; clear h3))
          exact ⟨⟨k + 1, R, by omega, by simp, HR.out, own_gb HOW.out.1 H3.out, gb_trans HOW.out.2.1 H3.out⟩, by simp [intOf]; omega⟩
        · rcases List.eq_nil_or_concat R with rfl | ⟨T, ⟨a1, b1⟩, hR⟩
          · have HR : Hid (LI ms F (k + 1) ([] ++ [(x, ByteArray.empty)])) := HNEW.out rfl (fun T a b e => by simp at e)
            clear HNO HNEW HGR
            have HFL : Hid (flR ([] ++ [(x, ByteArray.empty)]) = flR [] ++ (rC (x, ByteArray.empty)).toArray.toList) := flR_snoc _ _
            obtain ⟨xa, xc, rfl, -⟩ := own_cells HOW.out.1
            go_wp2_with (first
              | (go_at_call 36; go_must (refine (Calls.mono HWK.out ?_)); rintro e w3 ⟨rfl, h3⟩; have H3 : Hid (wr.grownBy w3 none) := h3; clear h3; have cK3 : w3.cell? ⟨g, k, none⟩ = some (.string x) := cell_of_gb H3.out cK))
            go_quiet (fail)
            generalize hW5 : World.drewN w3 _ = W5
            have cK5 : W5.cell? ⟨g, k, none⟩ = some (.string x) := by rw [← hW5]; exact cK3
            have H5 : Hid (wr.grownBy W5 none) := by rw [← hW5]; exact gb_drewN H3.out _
            clear hW5
            go_wp2_with (first
              | (at_builtin; go_must (refine wpList_lit rfl _ _ 25 rfl w1.heap.size 48 _ 2 32 Tryd.underlying25 infoGrange rfl (by decide) W5 (rC (x, ByteArray.empty)).toArray rfl _ 0 (flR []) rfl (own_gb HOW.out.1 H5.out) rfl rfl (range_one _) (by decide) (by decide) (gb_trans HOW.out.2.1 H5.out).size ?_); intro g6 cap6 w6 ho6 hb6 _ _ _; have H6 : Hid (w6.ownsRow w1.heap.size 48 2 (.slice (some ⟨g6, 0, none⟩) (0 + 1) cap6) (0 + 1) (flR ([] ++ [(x, ByteArray.empty)])) ∧ w1.grownBy w6 none) := ⟨(by rw [HFL.out]; exact ho6), below_gb ((gb_below (gb_trans HOW.out.2.1 H5.out)).trans hb6)⟩; clear ho6 hb6))
            exact ⟨⟨k + 1, [] ++ [(x, ByteArray.empty)], by omega, by simp, HR.out, H6.out.1, H6.out.2⟩, by simp [intOf]; omega⟩
          · rw [List.concat_eq_append] at hR
            subst hR
            obtain ⟨p, hp⟩ : ∃ p, p = T.length := ⟨_, rfl⟩
            have HP : Hid (p = T.length) := hp
            have HO2 : Hid (wr.ownsRow w1.heap.size 48 2 u7 (p + 1) (flR (T ++ [(a1, b1)])) ∧ w1.grownBy wr none ∧ p + 1 ≤ M) := by
              have h := HOW.out
              rw [List.length_append, ← hp] at h
              exact h
            obtain ⟨g7, c7, rfl, hg71, hg72⟩ := World.ownsRow.form HO2.out.1 (by omega)
            have hpM := HO2.out.2.2
            have HG7 : Hid (w1.heap.size ≤ g7) := hg71
            have cL : wr.cell? ⟨g7, p * 2 + 1, none⟩ = some (.string b1) := by
              obtain ⟨x2, c2, he, hc, _⟩ := own_cells HO2.out.1
              cases he
              obtain ⟨b, off, ha, hb, -, hc1⟩ := cells_rg hc p (by rw [List.length_append, ← hp]; simp)
              cases ha
              rw [Nat.zero_add] at hc1
              rw [hc1, hp]; simp
            have e1 : IntKind.i64.wrap ((p : Int) + 1 - 1) = (p : Int) := (IntWalk.i64_in _ ⟨by omega, by omega⟩).trans (by omega)
            have e2 : wrap64 ((p : Int) + 1 - 1) = (p : Int) := (IntWalk.wrap64_in _ ⟨by omega, by omega⟩).trans (by omega)
            have e3 : (0 : Int) ≤ (p : Int) := by omega
            have e4 : (p : Int) < (p : Int) + 1 := by omega
            clear hp hg71 hg72 HOW
            by_cases hb : b1 = x
            · subst hb
              have HR : Hid (LI ms F (k + 1) (T ++ [(a1, ByteArray.empty)])) := HGR.out T a1 b1 rfl rfl rfl
              clear HNO HNEW HGR
              go_wp2_with (first
                | (go_at_call 36; go_must (refine (Calls.mono HWK.out ?_)); rintro e w3 ⟨rfl, h3⟩; have H3 : Hid (wr.grownBy w3 none) := h3; clear h3; have cK3 : w3.cell? ⟨g, k, none⟩ = some (.string b1) := cell_of_gb H3.out cK; have cL3 : w3.cell? ⟨g7, p * 2 + 1, none⟩ = some (.string b1) := cell_of_gb H3.out cL))
              go_quiet (fail)
              generalize hW5 : World.drewN w3 _ = W5
              have HO5 : Hid (W5.ownsRow w1.heap.size 48 2 (.slice (some ⟨g7, 0, none⟩) (p + 1) c7) (p + 1) (flR (T ++ [(a1, b1)])) ∧ w1.grownBy W5 none) := by rw [← hW5]; exact ⟨own_gb HO2.out.1 (gb_drewN H3.out _), gb_drewN (gb_trans HO2.out.2.1 H3.out) _⟩
              clear hW5
              obtain ⟨⟨u0, y1⟩, y2⟩ := own_cellb HO5.out.1 (p * 2 + 1) (by omega)
              go_wp2
              exact ⟨⟨k + 1, T ++ [(a1, ByteArray.empty)], by omega, by simp, HR.out, by rw [List.length_append, ← HP.out]; (have := own_set1b HO5.out.1 (u := ByteArray.empty) (by rw [HP.out])); rwa [← HP.out] at this, gb_newer HO5.out.2 (gb_set _ _ _ _) HG7.out⟩, by simp [intOf]; omega⟩
            · have q1 : (b1.toList == x.toList) = false := by rw [te_iff]; simp [hb]
              have q3 : ¬ b1.toList = x.toList := fun e => hb (toList_inj e)
              have HR : Hid (LI ms F (k + 1) ((T ++ [(a1, b1)]) ++ [(x, ByteArray.empty)])) := HNEW.out rfl (fun T' a' b' e => by
                obtain ⟨-, h2⟩ := List.append_inj' e rfl
                simp at h2; rw [← h2.2]; exact hb)
              clear HNO HNEW HGR hb
              have HFL : Hid (flR ((T ++ [(a1, b1)]) ++ [(x, ByteArray.empty)]) = flR (T ++ [(a1, b1)]) ++ (rC (x, ByteArray.empty)).toArray.toList) := flR_snoc _ _
              go_wp2_with (first
                | (go_at_call 36; go_must (refine (Calls.mono HWK.out ?_)); rintro e w3 ⟨rfl, h3⟩; have H3 : Hid (wr.grownBy w3 none) := h3; clear h3; have cK3 : w3.cell? ⟨g, k, none⟩ = some (.string x) := cell_of_gb H3.out cK; have cL3 : w3.cell? ⟨g7, p * 2 + 1, none⟩ = some (.string b1) := cell_of_gb H3.out cL))
              go_quiet (fail)
              generalize hW5 : World.drewN w3 _ = W5
              have cK5 : W5.cell? ⟨g, k, none⟩ = some (.string x) := by rw [← hW5]; exact cK3
              have HO5 : Hid (W5.ownsRow w1.heap.size 48 2 (.slice (some ⟨g7, 0, none⟩) (p + 1) c7) (p + 1) (flR (T ++ [(a1, b1)])) ∧ w1.grownBy W5 none) := by rw [← hW5]; exact ⟨own_gb HO2.out.1 (gb_drewN H3.out _), gb_drewN (gb_trans HO2.out.2.1 H3.out) _⟩
              clear hW5
              go_wp2_with (first
                | (at_builtin; go_must (refine wpList_lit rfl _ _ 25 rfl w1.heap.size 48 _ 2 32 Tryd.underlying25 infoGrange rfl (by decide) W5 (rC (x, ByteArray.empty)).toArray rfl _ (p + 1) (flR (T ++ [(a1, b1)])) rfl HO5.out.1 rfl rfl (range_one _) (by unfold maxLen; omega) (by omega) HO5.out.2.size ?_); intro g6 cap6 w6 ho6 hb6 _ _ _; have H6 : Hid (w6.ownsRow w1.heap.size 48 2 (.slice (some ⟨g6, 0, none⟩) (p + 1 + 1) cap6) (p + 1 + 1) (flR ((T ++ [(a1, b1)]) ++ [(x, ByteArray.empty)])) ∧ w1.grownBy w6 none) := ⟨(by rw [HFL.out]; exact ho6), below_gb ((gb_below HO5.out.2).trans hb6)⟩; clear ho6 hb6))
              exact ⟨⟨k + 1, (T ++ [(a1, b1)]) ++ [(x, ByteArray.empty)], by omega, by simp, HR.out, by rw [List.length_append, List.length_append, ← HP.out]; exact H6.out.1, H6.out.2⟩, by simp [intOf]; omega⟩
    · obtain rfl : k = M := by omega
      have hd := hr.out.1
      rw [HM.out] at hd
      obtain ⟨d1, d2⟩ := li_done hd
      have HF : Hid (wr.ownsRow w1.heap.size 48 2 u7 R.length (flR R) ∧ Nrm R ∧ (∀ t, lHas R t = F t) ∧ R.length ≤ 2 * (n + m) + 1 ∧ w.heap.size ≤ w1.heap.size ∧ w.grownBy wr none) := ⟨hr.out.2.1, d1, d2, by have := hr.out.1.len; have := H1.out.2.2.2.2.2.1; have := HM.out; omega, H1.out.2.2.2.2.2.2.size, gb_trans H1.out.2.2.2.2.2.2 hr.out.2.2⟩
      clear hr hd d1 d2
      go_wp2
      go_ret
      exact ⟨u7, R, rfl, own_base HF.out.1 HF.out.2.2.2.2.1, HF.out.2.1, HF.out.2.2.1, HF.out.2.2.2.1, HF.out.2.2.2.2.2⟩

theorem gmeet_c (A B : List Rg) (a b : Option Addr) (ca cb : Nat) (w : World) (hA : Cells w a (flR A)) (hB : Cells w b (flR B)) (hn : A.length + B.length ≤ 1099511627776) :
    Calls Tryd.prog 15 #[.slice a A.length ca, .slice b B.length cb] w fun e w' => ∃ v R, e = .returned v ∧ w'.ownsRow w.heap.size 48 2 v R.length (flR R) ∧ Nrm R ∧ (∀ t, lHas R t = (lHas A t && lHas B t)) ∧ R.length ≤ 2 * (A.length + B.length) + 1 ∧ w.grownBy w' none := by
  have HL : Hid _ := glay_c 1 (by decide) A B a b ca cb w hA hB hn
  clear hA hB
  go_enter Tryd.func15, Tryd.ntmps15
  go_wp2_with (first
    | (go_at_call 24; go_must (refine (Calls.mono HL.out ?_)); rintro e w1 ⟨v, R, rfl, h1, h2, h3, h4, h5⟩; have H1 : Hid (w1.ownsRow w.heap.size 48 2 v R.length (flR R) ∧ Nrm R ∧ (∀ t, lHas R t = (lHas A t && lHas B t)) ∧ R.length ≤ 2 * (A.length + B.length) + 1 ∧ w.grownBy w1 none) := ⟨h1, h2, h3, h4, h5⟩; clear h1 h2 h3 h4 h5))
  go_ret
  exact ⟨_, R, rfl, H1.out⟩
theorem gminus_c (A B : List Rg) (a b : Option Addr) (ca cb : Nat) (w : World) (hA : Cells w a (flR A)) (hB : Cells w b (flR B)) (hn : A.length + B.length ≤ 1099511627776) :
    Calls Tryd.prog 16 #[.slice a A.length ca, .slice b B.length cb] w fun e w' => ∃ v R, e = .returned v ∧ w'.ownsRow w.heap.size 48 2 v R.length (flR R) ∧ Nrm R ∧ (∀ t, lHas R t = (lHas A t && !lHas B t)) ∧ R.length ≤ 2 * (A.length + B.length) + 1 ∧ w.grownBy w' none := by
  have HL : Hid _ := glay_c 2 (by decide) A B a b ca cb w hA hB hn
  clear hA hB
  go_enter Tryd.func16, Tryd.ntmps16
  go_wp2_with (first
    | (go_at_call 24; go_must (refine (Calls.mono HL.out ?_)); rintro e w1 ⟨v, R, rfl, h1, h2, h3, h4, h5⟩; have H1 : Hid (w1.ownsRow w.heap.size 48 2 v R.length (flR R) ∧ Nrm R ∧ (∀ t, lHas R t = (lHas A t && !lHas B t)) ∧ R.length ≤ 2 * (A.length + B.length) + 1 ∧ w.grownBy w1 none) := ⟨h1, h2, h3, h4, h5⟩; clear h1 h2 h3 h4 h5))
  go_ret
  exact ⟨_, R, rfl, H1.out⟩
theorem gnormal_c (A : List Rg) (a : Option Addr) (ca : Nat) (w : World) (hA : Cells w a (flR A)) (hn : A.length ≤ 1099511627776) :
    Calls Tryd.prog 8 #[.slice a A.length ca] w fun e w' => ∃ v R, e = .returned v ∧ w'.ownsRow w.heap.size 48 2 v R.length (flR R) ∧ Nrm R ∧ (∀ t, lHas R t = lHas A t) ∧ R.length ≤ 2 * A.length + 1 ∧ w.grownBy w' none := by
  have HL : Hid _ := glay_c 0 (by decide) A [] a none ca 0 w hA (.inl rfl) (by simpa using hn)
  clear hA
  go_enter Tryd.func8, Tryd.ntmps8
  go_wp2_with (first
    | (go_at_call 24; go_must (refine (Calls.mono HL.out ?_)); rintro e w1 ⟨v, R, rfl, h1, h2, h3, h4, h5⟩; have H1 : Hid (w1.ownsRow w.heap.size 48 2 v R.length (flR R) ∧ Nrm R ∧ (∀ t, lHas R t = lHas A t) ∧ R.length ≤ 2 * A.length + 1 ∧ w.grownBy w1 none) := ⟨h1, h2, fun t => by rw [h3]; simp [wq, lHas], by simpa using h4, h5⟩; clear h1 h2 h3 h4 h5))
  go_ret
  exact ⟨_, R, rfl, H1.out⟩
theorem gcovers_c (A B : List Rg) (a b : Option Addr) (ca cb : Nat) (w : World) (hA : Cells w a (flR A)) (hB : Cells w b (flR B)) (hn : A.length + B.length ≤ 1099511627776) :
    Calls Tryd.prog 17 #[.slice a A.length ca, .slice b B.length cb] w fun e w' => ∃ z, e = .returned (.bool z) ∧ (z = true ↔ lCov A B) ∧ w.grownBy w' none := by
  have HL : Hid _ := glay_c 2 (by decide) B A b a cb ca w hB hA (by omega)
  clear hA hB
  go_enter Tryd.func17, Tryd.ntmps17
  go_wp2_with (first
    | (go_at_call 24; go_must (refine (Calls.mono HL.out ?_)); rintro e w1 ⟨v, R, rfl, h1, h2, h3, h4, h5⟩; obtain ⟨x, cx, rfl, -⟩ := own_cells h1; have H1 : Hid (Nrm R ∧ (∀ t, lHas R t = (lHas B t && !lHas A t)) ∧ w.grownBy w1 none) := ⟨h2, h3, h5⟩; clear h1 h2 h3 h4 h5))
  go_ret
  refine ⟨_, rfl, ?_, H1.out.2.2⟩
  have e : (R.length = 0) ↔ lCov A B := by
    rw [List.length_eq_zero_iff, nrm_nil H1.out.1]
    constructor
    · intro h t; rw [← H1.out.2.1]; exact h t
    · intro h t; rw [H1.out.2.1]; exact h t
  rw [← e]
  simp
end Go.Proofs.YtdjcokepeifojaaDoor
