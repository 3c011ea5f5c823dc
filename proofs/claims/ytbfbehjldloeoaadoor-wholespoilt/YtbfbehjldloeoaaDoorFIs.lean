/-
  What the laws' may and is answer, called with whatever frames. Condition: the bytes can be read.
-/
import Derived.Test.YtbfbehjldloeoaaDoorRows
import Derived.Test.YtbfbehjldloeoaaDoorFCu
import Derived.Test.YtbfbehjldloeoaaDoorFa
namespace Go.Proofs.YtbfbehjldloeoaaDoor
set_option linter.unusedVariables false
open Go.RowKit

theorem below_of {w W : World} {o : Obj} (h : w.alloc o = W) : Below w.heap.size w W := by rw [← h]; exact (Below.refl _ _).alloc (Nat.le_refl _) _
theorem bk_of {w W : World} {T : TypeId} {cs : Array Value} {N : Nat} (h : w.alloc (.cells cs T) = W) (hN : N = w.heap.size) : Bk T W N cs := by subst hN; rw [← h]; exact heap_new w _
/-- May a frame be? -/
def fmay (t : Int) (n : Nat) : Bool := decide (1 ≤ t ∧ t ≤ 255 ∧ n ≤ 1048576)
end Go.Proofs.YtbfbehjldloeoaaDoor
