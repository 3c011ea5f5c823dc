/-
  What leb.Zig answers, called with whatever number of 64 bits with a sign. No condition.
-/
import Derived.Test.YtfhdbfbblnhnhaaRows
import Derived.Test.YtfhdbfbblnhnhaaNum
namespace Go.Proofs.Ytfhdbfbblnhnhaa
set_option linter.unusedVariables false
open Go.RowKit

theorem zig_c (a : Int) (h1 : -9223372036854775808 ≤ a) (h2 : a ≤ 9223372036854775807) (w : World) :
    Calls Try.prog 23 #[.int .i64 a] w fun e w' => e = .returned (.int .u64 (zig a)) ∧ w' = w := by
  by_cases h0 : 0 ≤ a
  · go_enter Try.func23, Try.ntmps23
    go_wp2
    go_ret
    exact ⟨ret_int (by unfold zig; split <;> omega), rfl⟩
  · go_enter Try.func23, Try.ntmps23
    go_wp2
    go_ret
    exact ⟨ret_int (by unfold zig; split <;> omega), rfl⟩

end Go.Proofs.Ytfhdbfbblnhnhaa
