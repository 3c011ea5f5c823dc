/-
  What the document's Power answers, called with whatever number. No condition.
-/
import Derived.Test.YtegbgmihcokblaaDoorRows
import Derived.Test.YtegbgmihcokblaaDoorRMulC
namespace Go.Proofs.YtegbgmihcokblaaDoor
set_option linter.unusedVariables false
open Go.RowKit

theorem rpower_c (n : Int) (h0 : 0 ≤ n) (h1 : n < 18446744073709551616) (w : World) :
    Calls Tryd.prog 64 #[.int .u64 n] w fun e w' => e = .returned (.int .u32 (W (pw n.toNat))) ∧ w' = w := by
  go_enter Tryd.func64, Tryd.ntmps64
  go_wp2
  go_loop [0, 3, 4] (fun m p x => ∃ (X P : Wd) (M : Int), x = .int .u32 (W X) ∧ m = .int .u64 M ∧ (0 ≤ M ∧ M < 18446744073709551616) ∧ p = .int .u32 (W P) ∧ Hid (mul P (wpow X M.toNat) = pw n.toNat)) (fun m _ _ => (intOf m).toNat)
  case atStart => exact ⟨pw 1, one, n, rfl, rfl, ⟨h0, h1⟩, rfl, by show _ = _; rw [one_mul, wpow_pw, Nat.one_mul]⟩
  case round =>
    obtain ⟨X, P, M, rfl, rfl, ⟨hM0, hM1⟩, rfl, hm⟩ := hrel
    clear h0 h1
    have h2 := W_nn X
    have h3 := W_lt X
    have h4 := W_nn P
    have h5 := W_lt P
    by_cases hz : 0 < M
    · rcases (show M % (2 : Int) = 0 ∨ M % (2 : Int) = 1 by omega) with hp | hp
      · have HM : Hid (mul P (wpow (mul X X) (M / 2).toNat) = pw n.toNat) := by
          have := wpow_even P X M.toNat (by omega)
          rw [show M.toNat / 2 = (M / 2).toNat from by omega, hm.out] at this; exact this
        clear hm
        go_wp2_with (go_at_call 63; go_must (refine (rmul_c _ _ _).mono ?_); rintro e w' ⟨rfl, rfl⟩)
        go_round
        case rel => exact ⟨mul X X, P, M / 2, rfl, rfl, ⟨by omega, by omega⟩, rfl, HM⟩
        case measure => simp [intOf]; omega
      · have HM : Hid (mul (mul X P) (wpow (mul X X) (M / 2).toNat) = pw n.toNat) := by
          have := wpow_odd P X M.toNat (by omega)
          rw [show M.toNat / 2 = (M / 2).toNat from by omega, hm.out, mul_comm P X] at this; exact this
        clear hm
        go_wp2_with (go_at_call 63; go_must (refine (rmul_c _ _ _).mono ?_); rintro e w' ⟨rfl, rfl⟩)
        go_round
        case rel => exact ⟨mul X X, mul X P, M / 2, rfl, rfl, ⟨by omega, by omega⟩, rfl, HM⟩
        case measure => simp [intOf]; omega
    · go_wp2
      go_ret
      exact ⟨ret_int (by have := hm.out; rw [show M.toNat = 0 from by omega] at this; rw [← this]; exact congrArg W (mul_one P).symm), rfl⟩

end Go.Proofs.YtegbgmihcokblaaDoor
