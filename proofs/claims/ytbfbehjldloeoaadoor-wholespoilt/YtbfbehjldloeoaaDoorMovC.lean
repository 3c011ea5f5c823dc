/-
  What crc.moved answers, called with whatever word and number. No condition.
-/
import Derived.Test.YtbfbehjldloeoaaDoorRows
import Derived.Test.YtbfbehjldloeoaaDoorRaiC
namespace Go.Proofs.YtbfbehjldloeoaaDoor
set_option linter.unusedVariables false
open Go.RowKit

theorem x8_pw : (8388608 : Int) = W (pw 8) := by decide +kernel
theorem moved_c (v : Wd) (n : Int) (h0 : 0 ≤ n) (h1 : n < 18446744073709551616) (w : World) :
    Calls Tryd.prog 44 #[.int .u32 (W v), .int .u64 n] w fun e w' => e = .returned (.int .u32 (W (txn (8 * n.toNat) v))) ∧ w' = w := by
  have HE : Hid (mul v (wpow (pw 8) n.toNat) = txn (8 * n.toNat) v) := by
    show _ = _; rw [wpow_pw, mul_pw]
  have h2 := W_nn v
  have h3 := W_lt v
  go_enter Tryd.func44, Tryd.ntmps44
  go_wp2_with fail
  rw [x8_pw]
  refine (raised_c _ _ h0 h1 _).mono ?_
  rintro e w' ⟨rfl, rfl⟩
  go_wp2_with fail
  refine (mul_c _ _ _).mono ?_
  rintro e w' ⟨rfl, rfl⟩
  go_wp2
  go_ret
  exact ⟨ret_int (by rw [HE.out]), rfl⟩

end Go.Proofs.YtbfbehjldloeoaaDoor
