/-
  What span count answers. No condition.
-/
import Derived.Test.YtdjcokepeifojaaNBp
namespace Go.Proofs.Ytdjcokepeifojaa
set_option linter.unusedVariables false
open Go.RowKit

theorem count_c (d : Int) (w : World) : Calls Try.prog 16 #[.int .i64 d] w fun r w' => r = .returned (.int .i64 (nbk d)) ∧ w' = w := by
  rcases deep_cases d with ⟨D, rfl, h1, h3⟩ | h
  · rw [nbk_pow D h1 h3]
    have a1 : ¬ (D : Int) < 1 := by omega
    have a2 : ¬ (3 : Int) < D := by omega
    go_enter Try.func16, Try.ntmps16
    go_wp2
    go_loop [3, 11] (fun n i => ∃ k : Nat, k ≤ D ∧ i = .int .i64 k ∧ n = .int .i64 (p16 k)) (fun _ i => D - (intOf i).toNat)
    case atStart => exact ⟨0, Nat.zero_le _, rfl, rfl⟩
    case round =>
      obtain ⟨k, hk, rfl, rfl⟩ := hrel
      by_cases hlt : k < D
      · have hs := p16_step k (by omega)
        have hi : (k : Int) < D := by omega
        generalize p16 k = P at *
        go_wp2
        go_round
        case rel => exact ⟨k + 1, by omega, by simp, by rw [hs]⟩
        case measure => simp [intOf]; omega
      · obtain rfl : k = D := by omega
        go_wp2
        go_ret
        exact ⟨rfl, rfl⟩
  · rw [nbk_none h]
    rcases h with h | h
    · go_enter Try.func16, Try.ntmps16
      go_wp2
      go_ret
      exact ⟨rfl, rfl⟩
    · have h1 : ¬ d < 1 := by omega
      go_enter Try.func16, Try.ntmps16
      go_wp2
      go_ret
      exact ⟨rfl, rfl⟩

end Go.Proofs.Ytdjcokepeifojaa
