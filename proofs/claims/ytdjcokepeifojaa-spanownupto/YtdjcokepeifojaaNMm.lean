/-
  What span's Meet, Minus and Covers answer of whatever ranges. Condition: both lists together have at most 2^40 ranges.
-/
import Derived.Test.YtdjcokepeifojaaNLcM
import Derived.Test.YtdjcokepeifojaaNLcD
namespace Go.Proofs.Ytdjcokepeifojaa
set_option linter.unusedVariables false
open Go.RowKit

theorem meet_c (A B : List Rg) (a b : Option Addr) (ca cb : Nat) (w : World) (hA : Cells w a (flR A)) (hB : Cells w b (flR B)) (hn : A.length + B.length ≤ 1099511627776) :
    Calls Try.prog 12 #[.slice a A.length ca, .slice b B.length cb] w fun e w' => ∃ v R, e = .returned v ∧ w'.ownsRow w.heap.size 39 2 v R.length (flR R) ∧ Nrm R ∧ (∀ t, lHas R t = (lHas A t && lHas B t)) ∧ R.length ≤ 2 * (A.length + B.length) + 1 ∧ w.grownBy w' none := by
  have HL : Hid _ := layM_c A B a b ca cb w hA hB hn
  clear hA hB
  go_enter Try.func12, Try.ntmps12
  go_wp2_with (first
    | (go_at_call 21; go_must (refine (Calls.mono HL.out ?_)); rintro e w1 ⟨v, R, rfl, h1, h2, h3, h4, h5⟩; have H1 : Hid (w1.ownsRow w.heap.size 39 2 v R.length (flR R) ∧ Nrm R ∧ (∀ t, lHas R t = (lHas A t && lHas B t)) ∧ R.length ≤ 2 * (A.length + B.length) + 1 ∧ w.grownBy w1 none) := ⟨h1, h2, h3, h4, h5⟩; clear h1 h2 h3 h4 h5))
  go_ret
  exact ⟨_, R, rfl, H1.out⟩
theorem minus_c (A B : List Rg) (a b : Option Addr) (ca cb : Nat) (w : World) (hA : Cells w a (flR A)) (hB : Cells w b (flR B)) (hn : A.length + B.length ≤ 1099511627776) :
    Calls Try.prog 13 #[.slice a A.length ca, .slice b B.length cb] w fun e w' => ∃ v R, e = .returned v ∧ w'.ownsRow w.heap.size 39 2 v R.length (flR R) ∧ Nrm R ∧ (∀ t, lHas R t = (lHas A t && !lHas B t)) ∧ R.length ≤ 2 * (A.length + B.length) + 1 ∧ w.grownBy w' none := by
  have HL : Hid _ := layD_c A B a b ca cb w hA hB hn
  clear hA hB
  go_enter Try.func13, Try.ntmps13
  go_wp2_with (first
    | (go_at_call 21; go_must (refine (Calls.mono HL.out ?_)); rintro e w1 ⟨v, R, rfl, h1, h2, h3, h4, h5⟩; have H1 : Hid (w1.ownsRow w.heap.size 39 2 v R.length (flR R) ∧ Nrm R ∧ (∀ t, lHas R t = (lHas A t && !lHas B t)) ∧ R.length ≤ 2 * (A.length + B.length) + 1 ∧ w.grownBy w1 none) := ⟨h1, h2, h3, h4, h5⟩; clear h1 h2 h3 h4 h5))
  go_ret
  exact ⟨_, R, rfl, H1.out⟩
/-- Has the first list all of the second one? -/
def lCov (A B : List Rg) : Prop := ∀ t, (lHas B t && !lHas A t) = false
theorem nrm_nil {R : List Rg} (h : Nrm R) : R = [] ↔ ∀ t, lHas R t = false := by
  constructor
  · rintro rfl t; rfl
  · intro k
    exact h.uniq (m := []) trivial (fun t => by rw [k]; rfl)
end Go.Proofs.Ytdjcokepeifojaa
