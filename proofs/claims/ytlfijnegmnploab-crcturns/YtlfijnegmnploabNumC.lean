/-
  What the laws' num answers: an error's number. No condition.
-/
import Derived.Test.YtlfijnegmnploabRows
import Derived.Test.YtlfijnegmnploabWord
namespace Go.Proofs.Ytlfijnegmnploab
set_option linter.unusedVariables false
open Go.RowKit

theorem num_c (n : Int) (w : World) :
    Calls Try.prog 8 #[.int .i64 n] w fun e w' => e = .returned (.int .i64 n) ∧ w' = w := by
  go_enter Try.func8, Try.ntmps8
  go_wp2
  go_ret
  exact ⟨rfl, rfl⟩

end Go.Proofs.Ytlfijnegmnploab
