/-
  What crc.Join answers, called with whatever words and number. No condition.
-/
import Derived.Test.YtbfbehjldloeoaaDoorRows
import Derived.Test.YtbfbehjldloeoaaDoorMovC
namespace Go.Proofs.YtbfbehjldloeoaaDoor
set_option linter.unusedVariables false
open Go.RowKit

theorem join_c (a b : Wd) (n : Int) (h0 : 0 ≤ n) (h1 : n ≤ 9223372036854775807) (w : World) :
    Calls Tryd.prog 42 #[.int .u32 (W a), .int .u32 (W b), .int .i64 n] w fun e w' => e = .returned (.tuple #[.int .u32 (W (txn (8 * n.toNat) a ^^^ b)), .int .i64 0]) ∧ w' = w := by
  have hc : decide (n < 0) = false := by simpa using h0
  obtain ⟨T, hT⟩ : ∃ T, T = txn (8 * n.toNat) a := ⟨_, rfl⟩
  have HC := fun w => moved_c a n h0 (by omega) w
  rw [← hT] at HC ⊢
  clear hT
  replace HC : Hid _ := HC
  go_enter Tryd.func42, Tryd.ntmps42
  go_wp2_with (go_at_call 44; go_must (refine (HC.out _).mono ?_); rintro e w' ⟨rfl, rfl⟩)
  go_ret2
  rw [W_xor]
  exact ⟨rfl, rfl⟩
theorem join_neg (a b : Wd) (n : Int) (h0 : n < 0) (h1 : -9223372036854775808 ≤ n) (w : World) :
    Calls Tryd.prog 42 #[.int .u32 (W a), .int .u32 (W b), .int .i64 n] w fun e w' => e = .returned (.tuple #[.int .u32 0, .int .i64 1]) ∧ w' = w := by
  go_enter Tryd.func42, Tryd.ntmps42
  go_wp2
  go_ret2
  exact ⟨rfl, rfl⟩
end Go.Proofs.YtbfbehjldloeoaaDoor
