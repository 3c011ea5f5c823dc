/-
  What the document's Ranges answers of whatever numbers: the texts of these buckets, in normal form. Condition: there are at most 2^62 numbers.
-/
import Derived.Test.YtggkkpbgnlmfeabNGp
import Derived.Test.YtggkkpbgnlmfeabNOf
import Derived.Test.YtggkkpbgnlmfeabNCg
import Derived.OwnWalk
namespace Go.Proofs.Ytggkkpbgnlmfeab
set_option linter.unusedVariables false
open Go.RowKit

theorem own_set1b {w : World} {B : Nat} {g n cap : Nat} {T : List Rg} {a b u : ByteArray} {e : TypeId} (h : w.ownsRow B e 2 (.slice (some ⟨g, 0, none⟩) n cap) n (flR (T ++ [(a, b)]))) (hn : n = T.length + 1) :
    (w.setCell ⟨g, T.length * 2 + 1, none⟩ (.string u)).ownsRow B e 2 (.slice (some ⟨g, 0, none⟩) n cap) n (flR (T ++ [(a, u)])) := by
  have hl : flR (T ++ [(a, u)]) = (flR (T ++ [(a, b)])).set (T.length * 2 + 1) (.string u) := by
    rw [flR_app, flR_app, List.set_append_right _ _ (by rw [flR_len]; omega), flR_len, Nat.add_sub_cancel_left]
    rfl
  rw [hl]
  refine ⟨by have := h.1; simpa using this, .inr ?_⟩
  rcases h.2 with ⟨h', _⟩ | ⟨g', cap', cur, h', hB, hg, hn', hm, hsz, htake⟩
  · simp at h'
  · simp only [Value.slice.injEq, Option.some.injEq, Addr.mk.injEq, and_true, true_and] at h'
    obtain ⟨rfl, rfl⟩ := h'
    refine ⟨g, cap, cur.setIfInBounds (T.length * 2 + 1) (.string u), rfl, hB, ?_, hn', hm, by simpa using hsz, ?_⟩
    · rw [heap_setCell_same w g _ _ e _ hg]
    · rw [Array.toList_setIfInBounds, List.take_set, htake]
theorem own_cellb {w : World} {B : Nat} {g n cap : Nat} {xs : List Value} {e : TypeId} (h : w.ownsRow B e 2 (.slice (some ⟨g, 0, none⟩) n cap) n xs) (i : Nat) (hi : i < n * 2) : (∃ u, w.cell? ⟨g, i, none⟩ = some u) ∧ w.frozen? ⟨g, i, none⟩ = false := by
  rcases h.2 with ⟨h', _⟩ | ⟨g', cap', cur, h', hB, hg, hn, hm, hsz, htake⟩
  · simp at h'
  · simp only [Value.slice.injEq, Option.some.injEq, Addr.mk.injEq, and_true, true_and] at h'
    obtain ⟨rfl, rfl⟩ := h'
    exact ⟨⟨_, by rw [cell_of_row w g _ _ _ _ hg]; exact Array.getElem?_eq_getElem (by omega)⟩, frozen_of_row _ _ i _ _ hg⟩
set_option maxRecDepth 20000 in
set_option maxHeartbeats 4000000 in
theorem granges_c (d : Int) (X : List Int) (a : Option Addr) (ca : Nat) (w : World) (hX : Cells w a (i64s X)) (hn : X.length ≤ 4611686018427387903) :
    Calls Try.prog 7 #[.int .i64 d, .slice a X.length ca] w fun e w' => ∃ v R, e = .returned (.tuple #[v, .int .i64 (rgE d X)]) ∧ w'.ownsRow w.heap.size 48 2 v R.length (flR R) ∧ Nrm R ∧ (rgE d X = 0 → ∀ t, lHas R t = decide (bkt t d.toNat ∈ X)) ∧ (¬ rgE d X = 0 → R = []) ∧ R.length ≤ 8193 ∧ w.grownBy w' none := by
  have HX : Hid (Cells w a (i64s X)) := hX
  have HC : Hid _ := fun w => gcount_c d w
  obtain ⟨L, hL⟩ : ∃ L, L = X.length := ⟨_, rfl⟩
  rw [← hL] at hn ⊢
  have HL : Hid (L = X.length) := hL
  clear hX hL
  rcases deep_cases d with ⟨D, rfl, h1, h3⟩ | h
  · have hnb := nbk_bd D h1 h3
    obtain ⟨n, hnn⟩ : ∃ n : Nat, nbk D = (n : Int) := ⟨(nbk D).toNat, by omega⟩
    obtain ⟨E, hE⟩ : ∃ E, E = rgE D X := ⟨_, rfl⟩
    have HE : Hid (E = rgE D X) := hE
    rw [← hE]
    have HO : Hid (∀ k : Nat, k < n → ∀ w, Calls Try.prog 22 #[.int .i64 D, .int .i64 k] w fun r w' => r = .returned (.tuple #[rv (rgP D (k, k + 1)), .int .i64 0]) ∧ w.grownBy w' none) := fun k hk w => by
      have := gof_c D k w
      have e := ofE_yes h1 h3 (b := (k : Int)) ⟨by omega, by omega⟩
      rwa [e.1, e.2] at this
    have HNB : Hid (nbk D = (n : Int)) := hnn
    rw [hnn] at HC hnb
    clear hE hnn
    have hz : ¬ (n : Int) = 0 := by omega
    go_enter Try.func7, Try.ntmps7
    go_wp2_with (first
      | (go_at_call 21; go_must (refine (HC.out _).mono ?_); rintro e w1 ⟨rfl, rfl⟩))
    clear HC
    try rw [show ((n : Int) == 0) = false from by rw [beq_eq_false_iff_ne]; exact hz]
    go_loopw [7, 8] (fun v i wr => ∃ k : Nat, k ≤ n ∧ i = .int .i64 k ∧ Hid (wr.ownsRow w1.heap.size 4 1 v k (bl k (nm X 0)) ∧ w1.grownBy wr none)) (fun _ i _ => n - (intOf i).toNat)
    case atStart => exact ⟨0, Nat.zero_le _, rfl, own_none _ _ _ _, gb_refl _⟩
    case round =>
      obtain ⟨k, hk, rfl, hr⟩ := hrel
      by_cases hlt : k < n
      · have i2 : (k : Int) < (n : Int) := by omega
        go_wp2_with (first
          | (at_builtin; go_must (refine wpList_lit rfl _ _ 45 rfl w1.heap.size 4 (.bool false) 1 1 Try.underlying45 infoBool rfl (by decide) wr #[.bool false] rfl _ k (bl k (nm X 0)) rfl hr.out.1 rfl rfl (by simp [Value.oneCell']) (by unfold maxLen; omega) (by omega) hr.out.2.size ?_); intro g2 cap2 w4 ho2 hb2 _ _ _; have HO2 : Hid (w4.ownsRow w1.heap.size 4 1 (.slice (some ⟨g2, 0, none⟩) (k + 1) cap2) (k + 1) (bl (k + 1) (nm X 0)) ∧ w1.grownBy w4 none) := ⟨(by simpa [bl, nm, List.range_succ] using ho2), below_gb ((gb_below hr.out.2).trans hb2)⟩; clear ho2 hb2))
        go_roundw
        case rel => exact ⟨k + 1, by omega, by simp, HO2.out.1, HO2.out.2⟩
        case measure => simp [intOf]; omega
      · obtain rfl : n = k := by omega
        obtain ⟨g, cap, rfl, hg1, hg2⟩ := World.ownsRow.form hr.out.1 (by omega)
        have H2 : Hid (wr.ownsRow w1.heap.size 4 1 (.slice (some ⟨g, 0, none⟩) n cap) n (bl n (nm X 0)) ∧ w1.grownBy wr none ∧ ∀ x ∈ X.take 0, 0 ≤ x ∧ x < (n : Int)) := ⟨hr.out.1, hr.out.2, fun x hx => by simp at hx⟩
        clear hr
        obtain ⟨W0, rfl⟩ : ∃ W0, W0 = wr := ⟨_, rfl⟩
        go_wp2
        go_loopw [9] (fun i wr => ∃ k : Nat, k ≤ L ∧ i = .int .i64 k ∧ Hid (wr.ownsRow w1.heap.size 4 1 (.slice (some ⟨g, 0, none⟩) n cap) n (bl n (nm X k)) ∧ w1.grownBy wr none ∧ ∀ x ∈ X.take k, 0 ≤ x ∧ x < (n : Int))) (fun i _ => L - (intOf i).toNat)
        case atStart => exact ⟨0, Nat.zero_le _, rfl, H2⟩
        case round =>
          obtain ⟨k, hk, rfl, hr⟩ := hrel
          clear H2
          by_cases hlt : k < L
          · obtain ⟨ba, oa, hab, hba, c0⟩ := cells_int (HX.out.gb hr.out.2.1) k (by have := HL.out; omega)
            have HST : Hid _ := nm_step X k n (by have := HL.out; omega)
            have HME : Hid (X.getD k 0 ∈ X) := by
              have hk' : k < X.length := by have := HL.out; omega
              have e : X.getD k 0 = X[k] := by simp [hk']
              show _ ∈ _
              rw [e]; exact List.getElem_mem hk'
            have HTK : Hid (X.take (k + 1) = X.take k ++ [X.getD k 0]) := by
              have hk' : k < X.length := by have := HL.out; omega
              show _ = _
              rw [List.take_succ_eq_append_getElem hk']; simp [hk']
            generalize X.getD k 0 = x at *
            have i1 : (0 : Int) ≤ (k : Int) := by omega
            have i2 : (k : Int) < (L : Int) := by omega
            have HAB : Hid _ := hab
            rw [hab]
            clear hab
            by_cases hbad : x < 0 ∨ (n : Int) ≤ x
            · have HEE : Hid (E = 62) := by show _ = _; rw [HE.out]; exact rgE_no h1 h3 HME.out (by rw [HNB.out]; exact hbad)
              rcases (show x < 0 ∨ (¬ x < 0 ∧ (n : Int) ≤ x) by omega) with hx | ⟨hx, hx2⟩
              · go_wp2
                go_ret2
                first
                  | exact ⟨.slice none 0 0, ([] : List Rg), by rw [HEE.out]; rfl, own_none _ _ _ _, trivial, (fun h => by rw [HEE.out] at h; cases h), (fun _ => rfl), by simp, hr.out.2.1⟩
                  | exact ⟨.slice none 0 0, by rw [HEE.out]; rfl, ([] : List Rg), own_none _ _ _ _, trivial, (fun h => by rw [HEE.out] at h; cases h), (fun _ => rfl), by simp, hr.out.2.1⟩
              · go_wp2
                go_ret2
                first
                  | exact ⟨.slice none 0 0, ([] : List Rg), by rw [HEE.out]; rfl, own_none _ _ _ _, trivial, (fun h => by rw [HEE.out] at h; cases h), (fun _ => rfl), by simp, hr.out.2.1⟩
                  | exact ⟨.slice none 0 0, by rw [HEE.out]; rfl, ([] : List Rg), own_none _ _ _ _, trivial, (fun h => by rw [HEE.out] at h; cases h), (fun _ => rfl), by simp, hr.out.2.1⟩
            · have hx1 : ¬ x < 0 := by omega
              have hx2 : ¬ (n : Int) ≤ x := by omega
              have hx3 : (0 : Int) ≤ x := by omega
              have hx4 : x < (n : Int) := by omega
              obtain ⟨q, hq⟩ : ∃ q : Nat, x = q := ⟨x.toNat, by omega⟩
              have HS2 : Hid _ := HST.out hx3 hx4
              have hc1 := own_cell1 hr.out.1 q (by omega)
              have hc2 : wr.cell? ⟨g, q, none⟩ = some (.bool (nm X k q)) := by rw [hc1.1]; simp [bl, show q < n by omega]
              have hc3 := hc1.2
              have HNX : Hid (∀ y ∈ X.take (k + 1), 0 ≤ y ∧ y < (n : Int)) := fun y hy => by
                rw [HTK.out] at hy
                rcases List.mem_append.1 hy with hy | hy
                · exact hr.out.2.2 y hy
                · simp at hy; omega
              have HOW : Hid _ := own_set1 hr.out.1 q (.bool true)
              subst hq
              have hqn : ((q : Int)).toNat = q := by omega
              rw [hqn] at HS2
              rw [HS2.out] at HOW
              clear hc1 hbad HST HTK HS2
              go_wp2
              try rw [← HAB.out]
              go_roundw
              case rel => exact ⟨k + 1, by omega, by simp, HOW.out, gb_newer hr.out.2.1 (gb_set _ _ _ _) hg1, HNX.out⟩
              case measure => simp [intOf]; omega
          · obtain rfl : k = L := by omega
            have hall := hr.out.2.2
            rw [List.take_of_length_le (by have := HL.out; omega)] at hall
            have HEE : Hid (E = 0) := by show _ = _; rw [HE.out]; exact rgE_yes h1 h3 (fun x hx => by rw [HNB.out]; exact hall x hx)
            have HNM : Hid (Cells wr (some ⟨g, 0, none⟩) (bl n (nm X k))) := by
              obtain ⟨x, c, he, hc, _⟩ := own_cells hr.out.1
              cases he
              exact hc
            have HF : Hid (∀ j, nm X k j = decide ((j : Int) ∈ X)) := fun j => by
              unfold nm
              rw [List.take_of_length_le (by have := HL.out; omega)]
            have HG : Hid (w1.grownBy wr none) := hr.out.2.1
            generalize nm X k = F at *
            obtain ⟨W2, rfl⟩ : ∃ W2, W2 = wr := ⟨_, rfl⟩
            clear hr hall
            go_wp2
            go_loopw [10, 11] (fun v i wr => ∃ j : Nat, j ≤ n ∧ i = .int .i64 j ∧ ∃ M, Hid (GI F j M ∧ wr.ownsRow W2.heap.size 48 2 v M.length (flR (M.map (rgP D))) ∧ W2.grownBy wr none)) (fun _ i _ => n - (intOf i).toNat)
            case atStart => exact ⟨0, Nat.zero_le _, rfl, [], gi_none _, own_none _ _ _ _, gb_refl _⟩
            case round =>
              obtain ⟨j, hj, rfl, M, hr⟩ := hrel
              by_cases hjn : j < n
              · have hcF := cells_bl (HNM.out.gb hr.out.2.2) j hjn
                have hlen := hr.out.1.len
                have i1 : (0 : Int) ≤ (j : Int) := by omega
                have i2 : (j : Int) < (n : Int) := by omega
                cases hFj : F j
                · rw [hFj] at hcF
                  have HF2 : Hid (F j = false) := hFj
                  clear hFj
                  go_wp2
                  exact ⟨⟨j + 1, by omega, by simp, M, gi_skip hr.out.1 HF2.out, hr.out.2.1, hr.out.2.2⟩, by simp [intOf]; omega⟩
                · rw [hFj] at hcF
                  have HF2 : Hid (F j = true) := hFj
                  clear hFj
                  have HOJ : Hid _ := HO.out j hjn
                  have HRP : Hid (rgP D (j, j + 1) = (lst D j, lst D ((j + 1 : Nat) : Int))) := rfl
                  rw [HRP.out] at HOJ
                  obtain ⟨f, hf⟩ : ∃ f, f = lst D j := ⟨_, rfl⟩
                  obtain ⟨u, hu⟩ : ∃ u, u = lst D ((j + 1 : Nat) : Int) := ⟨_, rfl⟩
                  rw [← hf, ← hu] at HOJ HRP
                  have HU : Hid (u = lst D ((j + 1 : Nat) : Int)) := hu
                  clear hf hu
                  unfold rv at HOJ
                  by_cases hgo : 0 < j ∧ F (j - 1) = true
                  · obtain ⟨M', i, rfl⟩ := hr.out.1.last hgo.1 hgo.2
                    obtain ⟨m, rfl⟩ : ∃ m, j = m + 1 := ⟨j - 1, by omega⟩
                    obtain ⟨T, hT⟩ : ∃ T, T = M'.map (rgP D) := ⟨_, rfl⟩
                    have HT : Hid (T = M'.map (rgP D)) := hT
                    have HL1 : Hid (T.length = M'.length) := by show _ = _; rw [hT]; simp
                    have HOW : Hid (wr.ownsRow W2.heap.size 48 2 u10 (T.length + 1) (flR (T ++ [(lst D i, lst D ((m + 1 : Nat) : Int))]))) := by
                      have := hr.out.2.1
                      rw [List.map_append, ← hT, List.length_append] at this
                      rw [HL1.out]; exact this
                    obtain ⟨g6, c6, rfl, hg61, hg62⟩ := World.ownsRow.form HOW.out (by omega)
                    have HFm : Hid (F m = true) := by have := hgo.2; rw [Nat.add_sub_cancel] at this; exact this
                    have hlT : T.length ≤ 4096 := by have := HL1.out; simp at hlen; omega
                    clear hgo hT hlen
                    have HFIN : Hid (∀ w' : World, w'.ownsRow W2.heap.size 48 2 (.slice (some ⟨g6, 0, none⟩) (T.length + 1) c6) (T.length + 1) (flR (T ++ [(lst D i, u)])) → w'.ownsRow W2.heap.size 48 2 (.slice (some ⟨g6, 0, none⟩) (T.length + 1) c6) (M' ++ [(i, m + 1 + 1)]).length (flR ((M' ++ [(i, m + 1 + 1)]).map (rgP D)))) := fun w' h => by
                      rw [List.map_append, ← HT.out, List.length_append, ← HL1.out]
                      rw [HU.out] at h; exact h
                    go_wp2_with (first
                      | (go_at_call 22; go_must (refine (HOJ.out _).mono ?_); rintro e w3 ⟨rfl, h⟩; have q1 : (w3.alloc (.cells #[.string f, .string u] 48)).cell? ⟨g, m, none⟩ = some (.bool true) := by (have := cells_bl (HNM.out.gb (gb_trans (gb_trans hr.out.2.2 h) (gb_alloc _ (.cells #[.string f, .string u] 48)))) m (by omega); rw [HFm.out] at this; exact this))
                        <;> (have HO4 : Hid _ := own_gb HOW.out (gb_trans h (gb_alloc w3 (.cells #[.string f, .string u] 48)))) <;> (obtain ⟨⟨c9, q2⟩, q3⟩ := own_cellb HO4.out (T.length * 2 + 1) (by omega)) <;> (have H4 : Hid (W2.grownBy (w3.alloc (.cells #[.string f, .string u] 48)) none) := gb_trans (gb_trans hr.out.2.2 h) (gb_alloc _ _)) <;> (clear h)
                      | (fail))
                    exact ⟨⟨m + 1 + 1, by omega, by simp, M' ++ [(i, m + 1 + 1)], gi_more hr.out.1 HF2.out, HFIN.out _ (own_set1b HO4.out rfl), gb_newer H4.out (gb_set _ _ _ _) hg61⟩, by simp [intOf]; omega⟩
                  · have HNG : Hid (¬ (0 < j ∧ F (j - 1) = true)) := hgo
                    have HFI : Hid (∀ (w' : World) (v : Value), w'.ownsRow W2.heap.size 48 2 v (M.length + 1) (flR (M.map (rgP D) ++ [(f, u)])) → w'.ownsRow W2.heap.size 48 2 v (M ++ [(j, j + 1)]).length (flR ((M ++ [(j, j + 1)]).map (rgP D)))) := fun w' v h => by
                      rw [List.map_append, List.length_append, show List.map (rgP D) [(j, j + 1)] = [(f, u)] from by rw [← HRP.out]; rfl]
                      exact h
                    clear hgo
                    rcases (show j = 0 ∨ 0 < j by omega) with rfl | hj0
                    · go_wp2_with (first
                        | (go_at_call 22; go_must (refine (HOJ.out _).mono ?_); rintro e w3 ⟨rfl, h⟩; have H3 : Hid (w3.ownsRow W2.heap.size 48 2 _ M.length (flR (M.map (rgP D))) ∧ W2.grownBy w3 none) := ⟨own_gb hr.out.2.1 h, gb_trans hr.out.2.2 h⟩; clear h)
                        | (at_builtin; go_must (refine wpList_lit rfl _ _ 27 rfl W2.heap.size 48 _ 2 32 Try.underlying27 infoGrange rfl (by decide) (w3.alloc (.cells #[.string f, .string u] 48)) (rC (f, u)).toArray rfl _ M.length (flR (M.map (rgP D))) rfl (own_gb H3.out.1 (gb_alloc _ _)) (by show Value.slice (some ⟨_, 0, none⟩) 1 1 = _; rw [World.size_alloc]) rfl (range_one _) (by unfold maxLen; omega) (by omega) (Nat.le_trans H3.out.2.size (gb_alloc _ _).size) ?_); intro g6 cap6 w6 ho6 hb6 _ _ _; have H6 : Hid (w6.ownsRow W2.heap.size 48 2 (.slice (some ⟨g6, 0, none⟩) (M.length + 1) cap6) (M.length + 1) (flR (M.map (rgP D) ++ [(f, u)])) ∧ W2.grownBy w6 none) := ⟨(by rw [flR_snoc]; exact ho6), below_gb ((gb_below (gb_trans H3.out.2 (gb_alloc _ _))).trans hb6)⟩; clear ho6 hb6))
                      exact ⟨⟨0 + 1, by omega, by simp, M ++ [(0, 0 + 1)], gi_new hr.out.1 HF2.out HNG.out, HFI.out _ _ H6.out.1, H6.out.2⟩, by simp [intOf]; omega⟩
                    · obtain ⟨m, rfl⟩ : ∃ m, j = m + 1 := ⟨j - 1, by omega⟩
                      have HFm : Hid (F m = false) := by
                        have := HNG.out
                        rw [Nat.add_sub_cancel] at this
                        show _ = _
                        cases h : F m
                        · rfl
                        · exact absurd ⟨by omega, h⟩ this
                      go_wp2_with (first
                        | (go_at_call 22; go_must (refine (HOJ.out _).mono ?_); rintro e w3 ⟨rfl, h⟩; have H3 : Hid (w3.ownsRow W2.heap.size 48 2 _ M.length (flR (M.map (rgP D))) ∧ W2.grownBy w3 none) := ⟨own_gb hr.out.2.1 h, gb_trans hr.out.2.2 h⟩; have q1 : (w3.alloc (.cells #[.string f, .string u] 48)).cell? ⟨g, m, none⟩ = some (.bool false) := by (have := cells_bl (HNM.out.gb (gb_trans (gb_trans hr.out.2.2 h) (gb_alloc _ (.cells #[.string f, .string u] 48)))) m (by omega); rw [HFm.out] at this; exact this))
                          <;> (clear h)
                        | (at_builtin; go_must (refine wpList_lit rfl _ _ 27 rfl W2.heap.size 48 _ 2 32 Try.underlying27 infoGrange rfl (by decide) (w3.alloc (.cells #[.string f, .string u] 48)) (rC (f, u)).toArray rfl _ M.length (flR (M.map (rgP D))) rfl (own_gb H3.out.1 (gb_alloc _ _)) (by show Value.slice (some ⟨_, 0, none⟩) 1 1 = _; rw [World.size_alloc]) rfl (range_one _) (by unfold maxLen; omega) (by omega) (Nat.le_trans H3.out.2.size (gb_alloc _ _).size) ?_); intro g6 cap6 w6 ho6 hb6 _ _ _; have H6 : Hid (w6.ownsRow W2.heap.size 48 2 (.slice (some ⟨g6, 0, none⟩) (M.length + 1) cap6) (M.length + 1) (flR (M.map (rgP D) ++ [(f, u)])) ∧ W2.grownBy w6 none) := ⟨(by rw [flR_snoc]; exact ho6), below_gb ((gb_below (gb_trans H3.out.2 (gb_alloc _ _))).trans hb6)⟩; clear ho6 hb6))
                      exact ⟨⟨m + 1 + 1, by omega, by simp, M ++ [(m + 1, m + 1 + 1)], gi_new hr.out.1 HF2.out HNG.out, HFI.out _ _ H6.out.1, H6.out.2⟩, by simp [intOf]; omega⟩
              · obtain rfl : n = j := by omega
                have hlen := hr.out.1.len
                obtain ⟨xl, cl, rfl, hcl, -⟩ := own_cells hr.out.2.1
                have HHA : Hid (∀ t, lHas (M.map (rgP D)) t = decide (bkt t D ∈ X)) := fun t => by
                  have hb := bkt_lt D h1 h3 t
                  rw [gi_has D n h1 h3 HNB.out hr.out.1 t, HF.out, Int.toNat_of_nonneg hb.1]
                clear hcl
                go_wp2
                go_ret2
                refine ⟨_, M.map (rgP D), by rw [HEE.out]; rfl, own_base (by rw [List.length_map]; exact hr.out.2.1) HG.out.size, nrm_pairs D n h1 h3 HNB.out M hr.out.1.bd hr.out.1.pw, (fun _ t => by rw [HHA.out, Int.toNat_natCast]), (fun h => absurd HEE.out h), by rw [List.length_map]; omega, gb_trans HG.out hr.out.2.2⟩
  · have e1 : rgE d X = 61 := by unfold rgE; rw [if_pos (nbk_none h)]
    rw [e1]
    rw [nbk_none h] at HC
    go_enter Try.func7, Try.ntmps7
    go_wp2_with (first
      | (go_at_call 21; go_must (refine (HC.out _).mono ?_); rintro e w1 ⟨rfl, rfl⟩))
    go_ret2
    exact ⟨_, [], rfl, own_none _ _ _ _, trivial, (fun h => by cases h), (fun _ => rfl), by simp, gb_refl _⟩
end Go.Proofs.Ytggkkpbgnlmfeab
