/-
  What crc.raised answers, called with whatever words and numbers. No condition.
-/
import Derived.Test.YtbfbehjldloeoaaDoorRows
import Derived.Test.YtbfbehjldloeoaaDoorMulC
namespace Go.Proofs.YtbfbehjldloeoaaDoor
set_option linter.unusedVariables false
open Go.RowKit

theorem u64_low (n : Int) (h0 : 0 ≤ n) (h1 : n < 18446744073709551616) : bits .and .u64 n 1 = n % 2 := by
  have h := u64_and n 1 h0 h1 (by decide) (by decide)
  rw [h, show (1 : Int).toNat = 1 from rfl, Nat.and_one_is_mod]; omega
theorem raised_c (v : Wd) (n : Int) (h0 : 0 ≤ n) (h1 : n < 18446744073709551616) (w : World) :
    Calls Tryd.prog 46 #[.int .u32 (W v), .int .u64 n] w fun e w' => e = .returned (.int .u32 (W (wpow v n.toNat))) ∧ w' = w := by
  go_enter Tryd.func46, Tryd.ntmps46
  go_wp2
  go_loop [0, 1, 5] (fun x m p => ∃ (X P : Wd) (M : Int), x = .int .u32 (W X) ∧ m = .int .u64 M ∧ (0 ≤ M ∧ M < 18446744073709551616) ∧ p = .int .u32 (W P) ∧ Hid (mul P (wpow X M.toNat) = wpow v n.toNat)) (fun _ m _ => (intOf m).toNat)
  case atStart => exact ⟨v, one, n, rfl, rfl, ⟨h0, h1⟩, rfl, one_mul _⟩
  case round =>
    obtain ⟨X, P, M, rfl, rfl, ⟨hM0, hM1⟩, rfl, hm⟩ := hrel
    clear h0 h1
    have h2 := W_nn X
    have h3 := W_lt X
    have h4 := W_nn P
    have h5 := W_lt P
    have hl := u64_low M hM0 hM1
    by_cases hz : M = 0
    · have hc : (M != 0) = false := by rw [hz]; rfl
      have HZ : Hid (M = 0) := hz
      clear hz hl
      go_wp2
      go_ret
      exact ⟨ret_int (by have := hm.out; rw [HZ.out] at this; rw [← this]; exact congrArg W (mul_one P).symm), rfl⟩
    · have hc : (M != 0) = true := by simpa using hz
      have HZ : Hid (M ≠ 0) := hz
      clear hz
      rcases (show M % (2 : Int) = 0 ∨ M % (2 : Int) = 1 by omega) with hp | hp
      · have hc2 : (bits .and .u64 M 1 != 0) = false := by rw [hl, hp]; rfl
        have HM : Hid (mul P (wpow (mul X X) (M / 2).toNat) = wpow v n.toNat) := by
          have := wpow_even P X M.toNat (by omega)
          rw [show M.toNat / 2 = (M / 2).toNat from by omega, hm.out] at this; exact this
        clear hl hp hm
        go_wp2_with (go_at_call 45; go_must (refine (mul_c _ _ _).mono ?_); rintro e w' ⟨rfl, rfl⟩)
        go_round
        case rel => exact ⟨mul X X, P, M / 2, rfl, rfl, ⟨by omega, by omega⟩, rfl, HM⟩
        case measure => have := HZ.out; simp [intOf]; omega
      · have hc2 : (bits .and .u64 M 1 != 0) = true := by rw [hl, hp]; rfl
        have HM : Hid (mul (mul P X) (wpow (mul X X) (M / 2).toNat) = wpow v n.toNat) := by
          have := wpow_odd P X M.toNat (by omega)
          rw [show M.toNat / 2 = (M / 2).toNat from by omega, hm.out] at this; exact this
        clear hl hp hm
        go_wp2_with (go_at_call 45; go_must (refine (mul_c _ _ _).mono ?_); rintro e w' ⟨rfl, rfl⟩)
        go_round
        case rel => exact ⟨mul X X, mul P X, M / 2, rfl, rfl, ⟨by omega, by omega⟩, rfl, HM⟩
        case measure => have := HZ.out; simp [intOf]; omega

end Go.Proofs.YtbfbehjldloeoaaDoor
