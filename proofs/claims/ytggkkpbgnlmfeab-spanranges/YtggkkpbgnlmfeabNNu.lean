/-
  What the laws num answers. No condition.
-/
import Derived.Test.YtggkkpbgnlmfeabNBp
namespace Go.Proofs.Ytggkkpbgnlmfeab
set_option linter.unusedVariables false
open Go.RowKit

theorem num_c (e : Int) (w : World) : Calls Try.prog 9 #[.int .i64 e] w fun r w' => r = .returned (.int .i64 e) ∧ w' = w := by
  go_enter Try.func9, Try.ntmps9
  go_wp2
  go_ret
  exact ⟨rfl, rfl⟩

end Go.Proofs.Ytggkkpbgnlmfeab
