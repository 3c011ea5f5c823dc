/-
  What a pack Reader's Uint (behind an error), Left, At, End and Int answer: what the plain functions give. Condition: the Reader's bytes can be read, and their length is one that a machine has.
-/
import Derived.Test.YtekefbbjocekiaaPUi
namespace Go.Proofs.Ytekefbbjocekiaa
open Go.RowKit
set_option linter.unusedVariables false

/-- What End answers. -/
def rend (len : Nat) (e : Int) (p : Nat) : Int := if e = 0 then (if p < len then 34 else 0) else e
/-- What Int takes up: the number, the place behind it, the error. -/
def ri (xs : List Int) (p : Nat) (most : Int) : Int × Nat × Int :=
  if most < 0 then (0, p, 1) else if (ru xs p).2.2 ≠ 0 then (0, p, (ru xs p).2.2) else if most < (ru xs p).1 then (0, p, 31) else ((ru xs p).1, p + (ru xs p).2.1, 0)

theorem nm_zero {e : Int} (h0 : 0 ≤ e) : nm e = 0 ↔ e = 0 := by
  unfold nm
  split
  · omega
  · split
    · omega
    · split <;> omega
theorem ru_err {xs : List Int} (hx : Bytes xs) (p : Nat) (h : (ru xs p).2.2 ≠ 0) : (ru xs p).1 = 0 ∧ (ru xs p).2.1 = 0 := by
  have hb := (rd_bd _ (bytes_drop hx p)).2.2.1
  have h2 : (rd (xs.drop p)).2.2 ≠ 0 := fun e => h ((nm_zero hb).2 e)
  simp only [ru]
  generalize xs.drop p = ys at h2 ⊢
  unfold rd at h2 ⊢
  split
  · simp
  · split
    · simp
    · split
      · simp
      · rename_i a b c
        rw [if_neg a, if_neg b, if_neg c] at h2
        simp at h2
theorem ru_bd {xs : List Int} (hx : Bytes xs) (p : Nat) : 0 ≤ (ru xs p).1 ∧ (ru xs p).1 < 18446744073709551616 := (rd_bd _ (bytes_drop hx p)).1

theorem ri_bd {xs : List Int} (hx : Bytes xs) (p : Nat) (hp : p ≤ xs.length) (most : Int) : 0 ≤ (ri xs p most).1 ∧ ((ri xs p most).1 ≤ most ∨ (ri xs p most).1 = 0) ∧ p ≤ (ri xs p most).2.1 ∧ (ri xs p most).2.1 ≤ xs.length ∧ ((ri xs p most).2.2 ≠ 0 → (ri xs p most).1 = 0 ∧ (ri xs p most).2.1 = p) := by
  have h1 := ru_bd hx p
  have h2 := ru_le hx p hp
  unfold ri
  split
  · simp; omega
  · split
    · simp; omega
    · split
      · simp; omega
      · simp only; refine ⟨h1.1, .inl (by omega), by omega, h2, fun h => absurd rfl h⟩
end Go.Proofs.Ytekefbbjocekiaa
