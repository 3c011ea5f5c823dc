/-
  What the document's eights answers, called with whatever number of 0 or more. No condition but that.
-/
import Derived.Test.YtlfijnegmnploaaDoorRows
import Derived.Test.YtlfijnegmnploaaDoorRPowC
namespace Go.Proofs.YtlfijnegmnploaaDoor
set_option linter.unusedVariables false
open Go.RowKit

theorem eights_c (n : Int) (h0 : 0 ≤ n) (h1 : n ≤ 9223372036854775807) (w : World) :
    Calls Tryd.prog 23 #[.int .i64 n] w fun e w' => e = .returned (.int .u32 (W (pw (8 * n.toNat)))) ∧ w' = w := by
  go_enter Tryd.func23, Tryd.ntmps23
  go_wp2_with (go_at_call 20; go_must (refine (rpower_c _ (by omega) (by omega) _).mono ?_); rintro e w' ⟨rfl, rfl⟩)
  go_loop [3, 4] (fun p i => ∃ k : Nat, k ≤ 3 ∧ i = .int .i64 k ∧ p = .int .u32 (W (pw (2 ^ k * n.toNat)))) (fun _ i => 3 - (intOf i).toNat)
  case atStart => exact ⟨0, by omega, rfl, by rw [Nat.pow_zero, Nat.one_mul]⟩
  case round =>
    obtain ⟨k, hk, rfl, rfl⟩ := hrel
    by_cases hlt : k < 3
    · go_wp2_with (go_at_call 19; go_must (refine (rmul_c _ _ _).mono ?_); rintro e w' ⟨rfl, rfl⟩)
      go_round
      case rel => exact ⟨k + 1, by omega, by go_num, congrArg (Value.int .u32) (by rw [pw_add, Nat.pow_succ, Nat.mul_assoc, Nat.mul_left_comm, Nat.two_mul])⟩
      case measure => simp [intOf]; omega
    · go_wp2
      go_ret
      obtain rfl : k = 3 := by omega
      exact ⟨rfl, rfl⟩

end Go.Proofs.YtlfijnegmnploaaDoor
