/-
  What crc.Power answers, called with whatever number. No condition.
-/
import Derived.Test.YtlfijnegmnploacDoorRows
import Derived.Test.YtlfijnegmnploacDoorRaiC
namespace Go.Proofs.YtlfijnegmnploacDoor
set_option linter.unusedVariables false
open Go.RowKit

theorem x_pw : (1073741824 : Int) = W (pw 1) := by decide +kernel
theorem power_c (n : Int) (h0 : 0 ≤ n) (h1 : n < 18446744073709551616) (w : World) :
    Calls Tryd.prog 17 #[.int .u64 n] w fun e w' => e = .returned (.int .u32 (W (pw n.toNat))) ∧ w' = w := by
  have HE : Hid (wpow (pw 1) n.toNat = pw n.toNat) := by
    show _ = _; rw [wpow_pw, Nat.one_mul]
  go_enter Tryd.func17, Tryd.ntmps17
  go_wp2_with fail
  rw [x_pw]
  refine (raised_c _ _ h0 h1 _).mono ?_
  rintro e w' ⟨rfl, rfl⟩
  go_wp2
  go_ret
  exact ⟨ret_int (by rw [HE.out]), rfl⟩

end Go.Proofs.YtlfijnegmnploacDoor
