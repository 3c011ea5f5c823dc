/-
  What probe's width and Bound answer, and the document's Bound: the same numbers. No condition.
-/
import Derived.Test.YtmkmbnojgheabaaRows
import Derived.WalkKit
import Derived.Below
import Derived.BigQuiet
import Derived.Deep.RegionHeld3
import Derived.Deep.DeepMust
import Derived.Sort.AtCall
import Derived.ProofKit
import Derived.Deep.QuietTactic
namespace Go.Proofs.Ytmkmbnojgheabaa
set_option linter.unusedVariables false
open Go.RowKit

def p16 : Nat → Int
  | 0 => 1
  | k + 1 => p16 k * 16
theorem p16_bd (k : Nat) (h : k ≤ 3) : 1 ≤ p16 k ∧ p16 k ≤ 4096 := by
  rcases (by omega : k = 0 ∨ k = 1 ∨ k = 2 ∨ k = 3) with rfl | rfl | rfl | rfl <;> decide
/-- How many digests are asked for up to a level. -/
def sm (u : Int) : Nat → Int
  | 0 => 1
  | k + 1 => sm u k + 16 * (if p16 k < u then p16 k else u)
theorem sm_bd (u : Int) (h0 : 0 ≤ u) (h1 : u ≤ 4096) (k : Nat) (h : k ≤ 3) : 1 ≤ sm u k ∧ sm u k ≤ 200000 := by
  have hstep : ∀ k, k < 3 → 0 ≤ (if p16 k < u then p16 k else u) ∧ (if p16 k < u then p16 k else u) ≤ 4096 := fun k hk => by
    have := p16_bd k (by omega)
    split <;> omega
  have s0 := hstep 0 (by omega)
  have s1 := hstep 1 (by omega)
  have s2 := hstep 2 (by omega)
  have e1 : sm u 1 = 1 + 16 * (if p16 0 < u then p16 0 else u) := rfl
  have e2 : sm u 2 = sm u 1 + 16 * (if p16 1 < u then p16 1 else u) := rfl
  have e3 : sm u 3 = sm u 2 + 16 * (if p16 2 < u then p16 2 else u) := rfl
  have e0 : sm u 0 = 1 := rfl
  rcases (by omega : k = 0 ∨ k = 1 ∨ k = 2 ∨ k = 3) with rfl | rfl | rfl | rfl <;> omega
theorem sm_zero : ∀ k : Nat, k ≤ 3 → sm 0 k = 1 := by
  intro k h
  rcases (by omega : k = 0 ∨ k = 1 ∨ k = 2 ∨ k = 3) with rfl | rfl | rfl | rfl <;> decide
def bN (d u : Int) : Int := if d < 1 ∨ 3 < d then 0 else if u < 0 ∨ p16 d.toNat < u then 0 else sm u d.toNat
def bE (d u : Int) : Int := if d < 1 ∨ 3 < d then 1 else if u < 0 ∨ p16 d.toNat < u then 1 else 0
theorem width_c (D : Nat) (h3 : D ≤ 3) (w : World) : Calls Try.prog 6 #[.int .i64 D] w fun r w' => r = .returned (.int .i64 (p16 D)) ∧ w' = w := by
  go_enter Try.func6, Try.ntmps6
  go_wp2
  go_loop [3, 5] (fun n i => ∃ k : Nat, k ≤ D ∧ i = .int .i64 k ∧ n = .int .i64 (p16 k)) (fun _ i => D - (intOf i).toNat)
  case atStart => exact ⟨0, Nat.zero_le _, rfl, rfl⟩
  case round =>
    obtain ⟨k, hk, rfl, rfl⟩ := hrel
    by_cases hlt : k < D
    · have hb := p16_bd k (by omega)
      have hs : p16 (k + 1) = p16 k * 16 := rfl
      have hi : (k : Int) < D := by omega
      have hz : 0 ≤ p16 k * 16 ∧ p16 k * 16 ≤ 65536 := by omega
      generalize p16 k = P at *
      go_wp2
      go_round
      case rel => exact ⟨k + 1, by omega, by go_num, by rw [hs]⟩
      case measure => simp [intOf]; omega
    · obtain rfl : k = D := by omega
      go_wp2
      go_ret
      exact ⟨rfl, rfl⟩
end Go.Proofs.Ytmkmbnojgheabaa
