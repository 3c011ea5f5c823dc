/-
  What a pack Reader's Text answers: what the plain function rt gives. Condition: the Reader's bytes can be read, and their length is one that a machine has.
-/
import Derived.Test.YteilmkibbdlnoaaPTx
namespace Go.Proofs.Yteilmkibbdlnoaa
open Go.RowKit
set_option linter.unusedVariables false

/-- What Text takes up: the text's bytes, the place behind it, the error. -/
def rt (xs : List Int) (p : Nat) (most : Int) : List Int × Nat × Int :=
  if (ri xs p most).2.2 ≠ 0 then ([], p, (ri xs p most).2.2)
  else if ((xs.length - (ri xs p most).2.1 : Nat) : Int) < (ri xs p most).1 then ([], p, 30)
  else ((xs.drop (ri xs p most).2.1).take (ri xs p most).1.toNat, (ri xs p most).2.1 + (ri xs p most).1.toNat, 0)

theorem well_r (g : Nat) (a : Option Addr) (len cap : Nat) (xs : List Int) (e : Int) (p : Nat) (w : World) (h : RS w g a len cap xs e p) :
    Calls Try.prog 27 #[.pointer (some ⟨g, 0, none⟩)] w fun r w' => r = .returned (.bool (e == 0)) ∧ w' = w := well_c g e w h.rdr.c0

theorem rt_bd {xs : List Int} (hx : Bytes xs) (p : Nat) (hp : p ≤ xs.length) (most : Int) : (rt xs p most).2.1 ≤ xs.length ∧ p ≤ (rt xs p most).2.1 ∧ (rt xs p most).1.length ≤ xs.length ∧ ((rt xs p most).2.2 ≠ 0 → (rt xs p most).1 = [] ∧ (rt xs p most).2.1 = p) ∧ Bytes (rt xs p most).1 := by
  have h1 := ri_bd hx p hp most
  unfold rt
  split
  · exact ⟨hp, Nat.le_refl _, Nat.zero_le _, fun _ => ⟨rfl, rfl⟩, fun i hi => by simp at hi⟩
  · split
    · exact ⟨hp, Nat.le_refl _, Nat.zero_le _, fun _ => ⟨rfl, rfl⟩, fun i hi => by simp at hi⟩
    · refine ⟨by simp only; omega, by simp only; omega, by simp; omega, fun h => absurd rfl h, bytes_take (bytes_drop hx _) _⟩
end Go.Proofs.Yteilmkibbdlnoaa
