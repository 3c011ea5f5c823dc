/-
  What the laws num answers. No condition.
-/
import Derived.Test.YtdjcokepeifojaaDoorNBp
namespace Go.Proofs.YtdjcokepeifojaaDoor
set_option linter.unusedVariables false
open Go.RowKit

theorem num_c (e : Int) (w : World) : Calls Tryd.prog 21 #[.int .i64 e] w fun r w' => r = .returned (.int .i64 e) ∧ w' = w := by
  go_enter Tryd.func21, Tryd.ntmps21
  go_wp2
  go_ret
  exact ⟨rfl, rfl⟩

end Go.Proofs.YtdjcokepeifojaaDoor
