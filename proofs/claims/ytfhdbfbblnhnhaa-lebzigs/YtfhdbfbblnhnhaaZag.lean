/-
  What leb.Zag and the document's Zig answer, called with whatever numbers of their kinds. No condition.
-/
import Derived.Test.YtfhdbfbblnhnhaaRows
import Derived.Test.YtfhdbfbblnhnhaaNum
namespace Go.Proofs.Ytfhdbfbblnhnhaa
set_option linter.unusedVariables false
open Go.RowKit

theorem refzig_c (a : Int) (h1 : -9223372036854775808 ≤ a) (h2 : a ≤ 9223372036854775807) (w : World) :
    Calls Try.prog 24 #[.int .i64 a] w fun e w' => e = .returned (.int .u64 (zig a)) ∧ w' = w := by
  by_cases h0 : 0 ≤ a
  · go_enter Try.func24, Try.ntmps24
    go_wp2
    go_ret
    exact ⟨ret_int (by unfold zig; split <;> omega), rfl⟩
  · go_enter Try.func24, Try.ntmps24
    go_wp2
    go_ret
    exact ⟨ret_int (by unfold zig; split <;> omega), rfl⟩
theorem zag_c (a : Int) (h1 : 0 ≤ a) (h2 : a < 18446744073709551616) (w : World) :
    Calls Try.prog 25 #[.int .u64 a] w fun e w' => e = .returned (.int .i64 (zag a)) ∧ w' = w := by
  by_cases h0 : a % 2 = 0
  · go_enter Try.func25, Try.ntmps25
    go_wp2
    go_ret
    exact ⟨ret_int (by unfold zag; split <;> omega), rfl⟩
  · go_enter Try.func25, Try.ntmps25
    go_wp2
    go_ret
    exact ⟨ret_int (by unfold zag; split <;> omega), rfl⟩

end Go.Proofs.Ytfhdbfbblnhnhaa
