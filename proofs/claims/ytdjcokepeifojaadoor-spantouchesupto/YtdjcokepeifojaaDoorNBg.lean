/-
  What the document's Buckets answers of whatever ranges: the numbers of the buckets that meet one of them, rising. Condition: at most 2^40 ranges.
-/
import Derived.Test.YtdjcokepeifojaaDoorNTo
import Derived.Test.YtdjcokepeifojaaDoorNOf
import Derived.Test.YtdjcokepeifojaaDoorNCg
import Derived.Test.YtdjcokepeifojaaDoorNHa
import Derived.Test.YtdjcokepeifojaaDoorNRi
import Derived.BigQuiet
namespace Go.Proofs.YtdjcokepeifojaaDoor
set_option linter.unusedVariables false
open Go.RowKit

theorem cell_gb {w w' : World} {x : Addr} {v : Value} (h : w.grownBy w' none) (c : w.cell? x = some v) : w'.cell? x = some v := by
  have hb : x.block < w.heap.size := by
    rcases Nat.lt_or_ge x.block w.heap.size with h1 | h1
    · exact h1
    · simp [World.cell?, h1] at c
  exact ((gb_below h).cell (p := x) hb).trans c
set_option maxRecDepth 20000 in
set_option maxHeartbeats 4000000 in
theorem gbuckets_c (d : Int) (A : List Rg) (a : Option Addr) (ca : Nat) (w : World) (hA : Cells w a (flR A)) (hn : A.length ≤ 1099511627776) :
    Calls Tryd.prog 19 #[.int .i64 d, .slice a A.length ca] w fun e w' => ∃ v, e = .returned (.tuple #[v, .int .i64 (dE d)]) ∧ w'.ownsRow w.heap.size 3 1 v (bmt d A).length (i64s (bmt d A)) ∧ w.grownBy w' none := by
  have HA : Hid (Cells w a (flR A)) := hA
  have HC : Hid _ := fun w => gcount_c d w
  obtain ⟨L, hL⟩ : ∃ L, L = A.length := ⟨_, rfl⟩
  rw [← hL] at hn ⊢
  have HL : Hid (L = A.length) := hL
  clear hA hL
  rcases deep_cases d with ⟨D, rfl, h1, h3⟩ | h
  · have hnb := nbk_bd D h1 h3
    obtain ⟨n, hnn⟩ : ∃ n : Nat, nbk D = (n : Int) := ⟨(nbk D).toNat, by omega⟩
    have HE : Hid (dE (D : Int) = 0) := by show _ = _; unfold dE; rw [if_neg (by omega)]
    have HB : Hid (bmt (D : Int) A = mt D A n) := by show _ = _; unfold bmt; rw [hnn]; rfl
    rw [HE.out, HB.out]
    have HO : Hid (∀ k : Nat, k < n → ∀ w, Calls Tryd.prog 32 #[.int .i64 D, .int .i64 k] w fun r w' => r = .returned (.tuple #[rv (ofR D k), .int .i64 0]) ∧ w.grownBy w' none) := fun k hk w => by
      have := gof_c D k w
      have e := ofE_yes h1 h3 (b := (k : Int)) ⟨by omega, by omega⟩
      rwa [e.1] at this
    rw [hnn] at HC hnb
    have HH : Hid _ := fun r t w => ghas_c r t w
    clear hnn
    have hz : ¬ (n : Int) = 0 := by omega
    go_enter Tryd.func19, Tryd.ntmps19
    go_wp2_with (first
      | (go_at_call 31; go_must (refine (HC.out _).mono ?_); rintro e w1 ⟨rfl, hq⟩; obtain rfl := hq.symm))
    clear HC
    try rw [show ((n : Int) == 0) = false from by rw [beq_eq_false_iff_ne]; exact hz]
    go_loopw [7, 8] (fun v i wr => ∃ k : Nat, k ≤ n ∧ i = .int .i64 k ∧ Hid (wr.ownsRow w.heap.size 3 1 v (mt D A k).length (i64s (mt D A k)) ∧ w.grownBy wr none)) (fun _ i _ => n - (intOf i).toNat)
    case atStart => exact ⟨0, Nat.zero_le _, rfl, own_none _ _ _ _, gb_refl _⟩
    case round =>
      obtain ⟨k, hk, rfl, hr⟩ := hrel
      by_cases hlt : k < n
      · have i2 : (k : Int) < (n : Int) := by omega
        have HOK : Hid _ := HO.out k hlt
        have HMS : Hid _ := mt_succ D A k
        have HML : Hid _ := mt_len D A k
        generalize ofR (D : Int) (k : Int) = r at *
        obtain ⟨f, u⟩ := r
        unfold rv at HOK
        go_wp2_with (first
          | (go_at_call 32; go_must (refine (HOK.out _).mono ?_); rintro e w3 ⟨rfl, h⟩; have H3 : Hid (Bk 48 (w3.alloc (.cells #[.string f, .string u] 48)) w3.heap.size #[.string f, .string u] ∧ wr.grownBy (w3.alloc (.cells #[.string f, .string u] 48)) none) := ⟨(blk_new w3 48 #[.string f, .string u]).1, gb_trans h (gb_alloc _ _)⟩; clear h))
        obtain ⟨W4, hW4⟩ : ∃ W4, w3.alloc (.cells #[.string f, .string u] 48) = W4 := ⟨_, rfl⟩
        obtain ⟨b, hb⟩ : ∃ b, w3.heap.size = b := ⟨_, rfl⟩
        rw [hW4, hb] at H3
        simp only [hW4, hb]
        clear hW4 hb
        obtain ⟨Wo, rfl⟩ : ∃ Wo, Wo = wr := ⟨_, rfl⟩
        go_loopw [11, 12] (fun q i wx => ∃ j : Nat, ∃ qb : Bool, j ≤ L ∧ i = .int .i64 j ∧ q = .bool qb ∧ Hid (qb = tch (f, u) (A.take j)) ∧ Hid (W4.grownBy wx none)) (fun _ i _ => L - (intOf i).toNat)
        case atStart => exact ⟨0, false, Nat.zero_le _, rfl, rfl, rfl, gb_refl _⟩
        case round =>
          obtain ⟨j, qb, hj, rfl, rfl, hq, hx⟩ := hrel
          by_cases hjl : j < L
          · obtain ⟨ba, oa, hab, hba, c0, c1⟩ := cells_rg (((HA.out.gb hr.out.2).gb H3.out.2).gb hx.out) j (by have := HL.out; omega)
            have HTK : Hid _ := tch_take (A := A) (k := j) (by have := HL.out; omega) (f, u)
            unfold rg0 at HTK
            generalize A.getD j (.empty, .empty) = s at *
            obtain ⟨g, t⟩ := s
            have j1 : (0 : Int) ≤ (j : Int) := by omega
            have j2 : (j : Int) < (L : Int) := by omega
            have HAB : Hid _ := hab
            have b0 : wr.cell? ⟨b, 0, none⟩ = some (.string f) := (H3.out.1.grew hx.out (by simp)).cell 0
            have b1 : wr.cell? ⟨b, 1, none⟩ = some (.string u) := (H3.out.1.grew hx.out (by simp)).cell 1
            have hgt := run_gtr g f
            rw [hab]
            clear hab
            cases hfg : tl f g
            · have HM : Hid (mx (f, u) (g, t) = f) := by show _ = _; unfold mx; simp [hfg]
              have HTM : Hid (tm (f, u) (g, t) = (rHas (f, u) f && rHas (g, t) f)) := by show _ = _; unfold tm; rw [HM.out]
              have HX : Hid _ := HH.out (f, u) f
              have HY : Hid _ := HH.out (g, t) f
              unfold rv at HX HY
              rw [HTM.out] at HTK
              rw [hfg] at hgt
              clear HM HTM hfg
              generalize rHas (f, u) f = x at *
              generalize rHas (g, t) f = y at *
              cases x
              · go_wp2_with (first
                  | (go_at_call 33; go_must (refine (HX.out _).mono ?_); rintro e w5 ⟨rfl, h5⟩; have H5 : Hid (W4.grownBy w5 none) := gb_trans hx.out h5; clear h5))
                try rw [← HAB.out]
                exact ⟨⟨j + 1, qb, by omega, by simp, rfl, (by show _ = _; rw [HTK.out, ← hq.out]; simp), H5⟩, by simp [intOf]; omega⟩
              · cases y
                · go_wp2_with (first
                    | ((fail_if_success (have zz := H5)); go_at_call 33; go_must (refine (HX.out _).mono ?_); rintro e w5 ⟨rfl, h5⟩; have d0 := cell_gb h5 c0; have d1 := cell_gb h5 c1; have H5 : Hid (W4.grownBy w5 none) := gb_trans hx.out h5; clear h5)
                    | (have zz := H5; clear zz; go_at_call 33; go_must (refine (HY.out _).mono ?_); rintro e w6 ⟨rfl, h6⟩; have H6 : Hid (W4.grownBy w6 none) := gb_trans H5.out h6; clear h6))
                  try rw [← HAB.out]
                  exact ⟨⟨j + 1, qb, by omega, by simp, rfl, (by show _ = _; rw [HTK.out, ← hq.out]; simp), H6⟩, by simp [intOf]; omega⟩
                · go_wp2_with (first
                    | ((fail_if_success (have zz := H5)); go_at_call 33; go_must (refine (HX.out _).mono ?_); rintro e w5 ⟨rfl, h5⟩; have d0 := cell_gb h5 c0; have d1 := cell_gb h5 c1; have H5 : Hid (W4.grownBy w5 none) := gb_trans hx.out h5; clear h5)
                    | (have zz := H5; clear zz; go_at_call 33; go_must (refine (HY.out _).mono ?_); rintro e w6 ⟨rfl, h6⟩; have H6 : Hid (W4.grownBy w6 none) := gb_trans H5.out h6; clear h6))
                  try rw [← HAB.out]
                  exact ⟨⟨j + 1, true, by omega, by simp, rfl, (by show _ = _; rw [HTK.out]; simp), H6⟩, by simp [intOf]; omega⟩
            · have HM : Hid (mx (f, u) (g, t) = g) := by show _ = _; unfold mx; simp [hfg]
              have HTM : Hid (tm (f, u) (g, t) = (rHas (f, u) g && rHas (g, t) g)) := by show _ = _; unfold tm; rw [HM.out]
              have HX : Hid _ := HH.out (f, u) g
              have HY : Hid _ := HH.out (g, t) g
              unfold rv at HX HY
              rw [HTM.out] at HTK
              rw [hfg] at hgt
              clear HM HTM hfg
              generalize rHas (f, u) g = x at *
              generalize rHas (g, t) g = y at *
              cases x
              · go_wp2_with (first
                  | (go_at_call 33; go_must (refine (HX.out _).mono ?_); rintro e w5 ⟨rfl, h5⟩; have H5 : Hid (W4.grownBy w5 none) := gb_trans hx.out h5; clear h5))
                try rw [← HAB.out]
                exact ⟨⟨j + 1, qb, by omega, by simp, rfl, (by show _ = _; rw [HTK.out, ← hq.out]; simp), H5⟩, by simp [intOf]; omega⟩
              · cases y
                · go_wp2_with (first
                    | ((fail_if_success (have zz := H5)); go_at_call 33; go_must (refine (HX.out _).mono ?_); rintro e w5 ⟨rfl, h5⟩; have d0 := cell_gb h5 c0; have d1 := cell_gb h5 c1; have H5 : Hid (W4.grownBy w5 none) := gb_trans hx.out h5; clear h5)
                    | (have zz := H5; clear zz; go_at_call 33; go_must (refine (HY.out _).mono ?_); rintro e w6 ⟨rfl, h6⟩; have H6 : Hid (W4.grownBy w6 none) := gb_trans H5.out h6; clear h6))
                  try rw [← HAB.out]
                  exact ⟨⟨j + 1, qb, by omega, by simp, rfl, (by show _ = _; rw [HTK.out, ← hq.out]; simp), H6⟩, by simp [intOf]; omega⟩
                · go_wp2_with (first
                    | ((fail_if_success (have zz := H5)); go_at_call 33; go_must (refine (HX.out _).mono ?_); rintro e w5 ⟨rfl, h5⟩; have d0 := cell_gb h5 c0; have d1 := cell_gb h5 c1; have H5 : Hid (W4.grownBy w5 none) := gb_trans hx.out h5; clear h5)
                    | (have zz := H5; clear zz; go_at_call 33; go_must (refine (HY.out _).mono ?_); rintro e w6 ⟨rfl, h6⟩; have H6 : Hid (W4.grownBy w6 none) := gb_trans H5.out h6; clear h6))
                  try rw [← HAB.out]
                  exact ⟨⟨j + 1, true, by omega, by simp, rfl, (by show _ = _; rw [HTK.out]; simp), H6⟩, by simp [intOf]; omega⟩
          · obtain rfl : j = L := by omega
            have HQ : Hid (qb = tch (f, u) A) := by show _ = _; rw [hq.out, List.take_of_length_le (by have := HL.out; omega)]
            rw [← HQ.out] at HMS
            have HOW : Hid (wr.ownsRow w.heap.size 3 1 u7 (mt D A k).length (i64s (mt D A k)) ∧ w.grownBy wr none) := ⟨own_gb hr.out.1 (gb_trans H3.out.2 hx.out), gb_trans hr.out.2 (gb_trans H3.out.2 hx.out)⟩
            obtain ⟨m, hm⟩ : ∃ m, m = (mt D A k).length := ⟨_, rfl⟩
            have HM : Hid (m = (mt D A k).length) := hm
            rw [← hm] at HOW
            have hmb : m ≤ k := by have := HML.out; omega
            clear hm hq HQ
            cases qb
            · have HS : Hid (mt D A (k + 1) = mt D A k) := by show _ = _; rw [HMS.out]; simp
              clear HMS
              go_wp2
              exact ⟨⟨k + 1, by omega, by simp, by rw [HS.out, ← HM.out]; exact HOW.out.1, HOW.out.2⟩, by simp [intOf]; omega⟩
            · have HS : Hid (mt D A (k + 1) = mt D A k ++ [(k : Int)]) := by show _ = _; rw [HMS.out]; simp
              clear HMS
              have HF : Hid (i64s (mt D A k ++ [(k : Int)]) = i64s (mt D A k) ++ (#[Value.int .i64 (k : Int)] : Array Value).toList) := by show _ = _; simp [i64s]
              go_wp2_with (first
                | (at_builtin; go_must (refine wpList_lit rfl _ _ 34 rfl w.heap.size 3 _ 1 8 Tryd.underlying34 infoInt rfl (by decide) wr #[.int .i64 (k : Int)] rfl _ m (i64s (mt D A k)) rfl HOW.out.1 rfl rfl (by simp [Value.oneCell']) (by unfold maxLen; omega) (by omega) HOW.out.2.size ?_); intro g6 cap6 w6 ho6 hb6 _ _ _; have H6 : Hid (w6.ownsRow w.heap.size 3 1 (.slice (some ⟨g6, 0, none⟩) (m + 1) cap6) (m + 1) (i64s (mt D A k ++ [(k : Int)])) ∧ w.grownBy w6 none) := ⟨(by rw [HF.out]; exact ho6), below_gb ((gb_below HOW.out.2).trans hb6)⟩; clear ho6 hb6))
              exact ⟨⟨k + 1, by omega, by simp, by rw [HS.out, List.length_append, ← HM.out]; exact H6.out.1, H6.out.2⟩, by simp [intOf]; omega⟩
      · obtain rfl : k = n := by omega
        go_wp2
        go_ret2
        first
          | exact ⟨_, rfl, hr.out.1, hr.out.2⟩
          | exact ⟨rfl, hr.out.1, hr.out.2⟩
  · have HE : Hid (dE d = 61) := by show _ = _; unfold dE; rw [if_pos (nbk_none h)]
    have HB : Hid (bmt d A = []) := by show _ = _; unfold bmt; rw [nbk_none h]; rfl
    rw [HE.out, HB.out]
    rw [nbk_none h] at HC
    go_enter Tryd.func19, Tryd.ntmps19
    go_wp2_with (first
      | (go_at_call 31; go_must (refine (HC.out _).mono ?_); rintro e w1 ⟨rfl, hq⟩; obtain rfl := hq.symm))
    go_ret2
    first
      | exact ⟨_, rfl, own_none _ _ _ _, gb_refl _⟩
      | exact ⟨rfl, own_none _ _ _ _, gb_refl _⟩
end Go.Proofs.YtdjcokepeifojaaDoor
