/-
  What the laws' num answers: an error's number. No condition.
-/
import Derived.Test.YtlfijnegmnploaaDoorRows
import Derived.Test.YtlfijnegmnploaaDoorWord
namespace Go.Proofs.YtlfijnegmnploaaDoor
set_option linter.unusedVariables false
open Go.RowKit

theorem num_c (n : Int) (w : World) :
    Calls Tryd.prog 7 #[.int .i64 n] w fun e w' => e = .returned (.int .i64 n) ∧ w' = w := by
  go_enter Tryd.func7, Tryd.ntmps7
  go_wp2
  go_ret
  exact ⟨rfl, rfl⟩

end Go.Proofs.YtlfijnegmnploaaDoor
