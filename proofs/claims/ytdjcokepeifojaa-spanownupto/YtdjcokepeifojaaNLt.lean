/-
  The order of texts as the order of lists of numbers. No condition.
-/
import Derived.Test.YtdjcokepeifojaaNBa
namespace Go.Proofs.Ytdjcokepeifojaa
set_option linter.unusedVariables false
open Go.RowKit

/-- The order of lists of numbers. -/
def ltI : List Int → List Int → Bool
  | _, [] => false
  | [], _ :: _ => true
  | a :: x, b :: y => decide (a < b) || (decide (a = b) && ltI x y)
theorem ltI_bl : ∀ a b : List UInt8, ltI (a.map fun c => (c.toNat : Int)) (b.map fun c => (c.toNat : Int)) = Op.bytesLess a b
  | _, [] => by rename_i a; cases a <;> rfl
  | [], _ :: _ => rfl
  | x :: a, y :: b => by
    simp only [List.map_cons, ltI, Op.bytesLess, ltI_bl a b]
    have h1 : decide ((x.toNat : Int) < (y.toNat : Int)) = decide (x < y) := by
      rw [decide_eq_decide, UInt8.lt_iff_toNat_lt]; omega
    have h2 : decide ((x.toNat : Int) = (y.toNat : Int)) = (x == y) := by
      by_cases e : x = y
      · subst e; simp
      · have : ¬ (x.toNat : Int) = y.toNat := fun h => e (UInt8.toNat_inj.1 (by omega))
        simp [e, this]
    rw [h1, h2]
theorem tl_int (s t : ByteArray) : tl s t = ltI (bs s) (bs t) := by rw [tl_bs]; exact (ltI_bl _ _).symm

end Go.Proofs.Ytdjcokepeifojaa
