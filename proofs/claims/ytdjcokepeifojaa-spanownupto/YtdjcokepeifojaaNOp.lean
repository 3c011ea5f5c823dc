/-
  What span Of answers. No condition.
-/
import Derived.Test.YtdjcokepeifojaaNCt
import Derived.Test.YtdjcokepeifojaaNLe
import Derived.Test.YtdjcokepeifojaaNHp
namespace Go.Proofs.Ytdjcokepeifojaa
set_option linter.unusedVariables false
open Go.RowKit

def ofE (d b : Int) : Int := if nbk d = 0 then 61 else if b < 0 ∨ nbk d ≤ b then 62 else 0
def ofR (d b : Int) : Rg := if ofE d b = 0 then (lst d.toNat b, lst d.toNat (b + 1)) else (.empty, .empty)
theorem lst_last (D : Nat) (h1 : 1 ≤ D) (h3 : D ≤ 3) : lst D (nbk D) = .empty := by
  rw [← bs_none]
  rcases (show D = 1 ∨ D = 2 ∨ D = 3 by omega) with rfl | rfl | rfl <;> decide +kernel
theorem nbk_bd (D : Nat) (h1 : 1 ≤ D) (h3 : D ≤ 3) : 16 ≤ nbk D ∧ nbk D ≤ 4096 := by
  rcases (show D = 1 ∨ D = 2 ∨ D = 3 by omega) with rfl | rfl | rfl <;> decide
theorem of_no {d b : Int} (h : ¬ ofE d b = 0) : ofR d b = (.empty, .empty) := by unfold ofR; rw [if_neg h]
theorem ofE_deep {d b : Int} (h : d < 1 ∨ 3 < d) : ofE d b = 61 := by unfold ofE; rw [if_pos (nbk_none h)]
theorem ofE_yes {D : Nat} {b : Int} (h1 : 1 ≤ D) (h3 : D ≤ 3) (h : 0 ≤ b ∧ b < nbk D) : ofE D b = 0 ∧ ofR D b = (lst D b, lst D (b + 1)) := by
  have e : ofE D b = 0 := by have := nbk_bd D h1 h3; unfold ofE; rw [if_neg (by omega), if_neg (by omega)]
  exact ⟨e, by unfold ofR; rw [if_pos e, Int.toNat_natCast]⟩
theorem ofE_no {D : Nat} {b : Int} (h1 : 1 ≤ D) (h3 : D ≤ 3) (h : b < 0 ∨ nbk D ≤ b) : ofE D b = 62 := by
  have := nbk_bd D h1 h3; unfold ofE; rw [if_neg (by omega), if_pos h]
set_option maxRecDepth 20000 in
set_option maxHeartbeats 1000000 in
theorem of_c (d b : Int) (w : World) : Calls Try.prog 17 #[.int .i64 d, .int .i64 b] w fun r w' => r = .returned (.tuple #[rv (ofR d b), .int .i64 (ofE d b)]) ∧ w.grownBy w' none := by
  have HC : Hid _ := fun w => count_c d w
  have HNEW : Hid _ := blk_new w 39 #[.string { data := #[] }, .string { data := #[] }]
  rcases deep_cases d with ⟨D, rfl, h1, h3⟩ | h
  · have hn := nbk_bd D h1 h3
    by_cases hb : 0 ≤ b ∧ b < nbk D
    · obtain ⟨e1, e2⟩ := ofE_yes h1 h3 hb
      rw [e1, e2]
      have HL1 : Hid _ := fun w => least_c D b h1 h3 ⟨hb.1, by omega⟩ w
      have HL2 : Hid _ := fun w => least_c D (b + 1) h1 h3 ⟨by omega, by omega⟩ w
      generalize lst D b = X at *
      generalize lst D (b + 1) = Y at *
      have hb1 : ¬ b < 0 := by omega
      have hb2 : ¬ nbk D ≤ b := by omega
      have hz : ¬ nbk D = 0 := by omega
      clear e1 e2
      generalize nbk D = C at *
      go_enter Try.func17, Try.ntmps17
      go_wp2_with (first
        | (go_at_call 16; go_must (refine (HC.out _).mono ?_); rintro e w1 ⟨rfl, hw1⟩; (have H1 : Hid (Bk 39 w1 w.heap.size #[.string { data := #[] }, .string { data := #[] }] ∧ w.grownBy w1 none) := (by rw [hw1]; exact HNEW)); clear hw1 HNEW)
        | ((fail_if_success (have z := H2)); go_at_call 28; go_must (refine (HL1.out _).mono ?_); rintro e w2 ⟨rfl, h2⟩; have H2 : Hid _ := h2; clear h2)
        | (have z := H2; clear z; go_at_call 28; go_must (refine (HL2.out _).mono ?_); rintro e w3 ⟨rfl, h3'⟩; have H3 : Hid (Bk 39 w3 w.heap.size #[.string { data := #[] }, .string { data := #[] }] ∧ w.grownBy w3 none) := ⟨(H1.out.1.grew H2.out (by simp)).grew h3' (by simp), gb_trans (gb_trans H1.out.2 H2.out) h3'⟩; clear h3')
        | (refine wpList_store_bk 39 rfl (.tmp 4) (.tmp 27) rfl info28 w.heap.size _ #[.string X, .string Y] rfl rfl H3.out.1 rfl rfl (two_one _ _) ?_; intro w4 k1 k2; have H4 : Hid (Bk 39 w4 w.heap.size #[.string X, .string Y] ∧ w.grownBy w4 none) := ⟨k1, gb_newer H3.out.2 k2 (Nat.le_refl _)⟩; clear k1 k2))
      refine bodyPost_ret (results_cell2 Try.results17 _ _ _ ⟨w.heap.size, 0, none⟩ _ _ rfl rfl (bk_load Try.underlying39 rfl info28 H4.out.1 rfl)) rfl ?_
      exact ⟨rfl, H4.out.2⟩
    · have e1 : ofE D b = 62 := ofE_no h1 h3 (by omega)
      rw [of_no (by rw [e1]; decide), e1]
      have hz : ¬ nbk D = 0 := by omega
      generalize nbk D = C at *
      clear e1
      rcases (show b < 0 ∨ (¬ b < 0 ∧ C ≤ b) by omega) with hb1 | ⟨hb1, hb2⟩
      · go_enter Try.func17, Try.ntmps17
        go_wp2_with (first
          | (go_at_call 16; go_must (refine (HC.out _).mono ?_); rintro e w1 ⟨rfl, hw1⟩; (have H1 : Hid (Bk 39 w1 w.heap.size #[.string { data := #[] }, .string { data := #[] }] ∧ w.grownBy w1 none) := (by rw [hw1]; exact HNEW)); clear hw1 HNEW)
          | (refine wpList_store_bk 39 rfl (.tmp 4) (.tmp 19) rfl info28 w.heap.size _ #[.string .empty, .string .empty] rfl rfl H1.out.1 rfl rfl (two_one _ _) ?_; intro w4 k1 k2; have H4 : Hid (Bk 39 w4 w.heap.size #[.string .empty, .string .empty] ∧ w.grownBy w4 none) := ⟨k1, gb_newer H1.out.2 k2 (Nat.le_refl _)⟩; clear k1 k2))
        refine bodyPost_ret (results_cell2 Try.results17 _ _ _ ⟨w.heap.size, 0, none⟩ _ _ rfl rfl (bk_load Try.underlying39 rfl info28 H4.out.1 rfl)) rfl ?_
        exact ⟨rfl, H4.out.2⟩
      · go_enter Try.func17, Try.ntmps17
        go_wp2_with (first
          | (go_at_call 16; go_must (refine (HC.out _).mono ?_); rintro e w1 ⟨rfl, hw1⟩; (have H1 : Hid (Bk 39 w1 w.heap.size #[.string { data := #[] }, .string { data := #[] }] ∧ w.grownBy w1 none) := (by rw [hw1]; exact HNEW)); clear hw1 HNEW)
          | (refine wpList_store_bk 39 rfl (.tmp 4) (.tmp 19) rfl info28 w.heap.size _ #[.string .empty, .string .empty] rfl rfl H1.out.1 rfl rfl (two_one _ _) ?_; intro w4 k1 k2; have H4 : Hid (Bk 39 w4 w.heap.size #[.string .empty, .string .empty] ∧ w.grownBy w4 none) := ⟨k1, gb_newer H1.out.2 k2 (Nat.le_refl _)⟩; clear k1 k2))
        refine bodyPost_ret (results_cell2 Try.results17 _ _ _ ⟨w.heap.size, 0, none⟩ _ _ rfl rfl (bk_load Try.underlying39 rfl info28 H4.out.1 rfl)) rfl ?_
        exact ⟨rfl, H4.out.2⟩
  · have e1 : ofE d b = 61 := ofE_deep h
    rw [of_no (by rw [e1]; decide), e1]
    have h0 := nbk_none h
    rw [h0] at HC
    go_enter Try.func17, Try.ntmps17
    go_wp2_with (first
      | (go_at_call 16; go_must (refine (HC.out _).mono ?_); rintro e w1 ⟨rfl, hw1⟩; (have H1 : Hid (Bk 39 w1 w.heap.size #[.string { data := #[] }, .string { data := #[] }] ∧ w.grownBy w1 none) := (by rw [hw1]; exact HNEW)); clear hw1 HNEW)
      | (refine wpList_store_bk 39 rfl (.tmp 4) (.tmp 11) rfl info28 w.heap.size _ #[.string .empty, .string .empty] rfl rfl H1.out.1 rfl rfl (two_one _ _) ?_; intro w4 k1 k2; have H4 : Hid (Bk 39 w4 w.heap.size #[.string .empty, .string .empty] ∧ w.grownBy w4 none) := ⟨k1, gb_newer H1.out.2 k2 (Nat.le_refl _)⟩; clear k1 k2))
    refine bodyPost_ret (results_cell2 Try.results17 _ _ _ ⟨w.heap.size, 0, none⟩ _ _ rfl rfl (bk_load Try.underlying39 rfl info28 H4.out.1 rfl)) rfl ?_
    exact ⟨rfl, H4.out.2⟩

end Go.Proofs.Ytdjcokepeifojaa
