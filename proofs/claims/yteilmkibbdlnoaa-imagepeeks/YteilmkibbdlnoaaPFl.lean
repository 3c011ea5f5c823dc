/-
  What a pack Reader's Flag and Count answer: what the plain functions rf and rc give. Condition: the Reader's bytes can be read, and their length is one that a machine has.
-/
import Derived.Test.YteilmkibbdlnoaaPTx
namespace Go.Proofs.Yteilmkibbdlnoaa
open Go.RowKit
set_option linter.unusedVariables false

/-- What Flag takes up. -/
def rf (xs : List Int) (p : Nat) : Bool × Nat × Int :=
  if xs.length ≤ p then (false, p, 30) else if 1 < xs[p]?.getD 0 then (false, p, 32) else (xs[p]?.getD 0 == 1, p + 1, 0)
/-- What Count takes up. -/
def rc (xs : List Int) (p : Nat) (most least : Int) : Int × Nat × Int :=
  if most < 0 ∨ least < 0 then (0, p, 1) else if (ri xs p most).2.2 ≠ 0 then (0, p, (ri xs p most).2.2)
  else if 0 < least ∧ ((xs.length - (ri xs p most).2.1 : Nat) : Int) / least < (ri xs p most).1 then (0, p, 30)
  else ((ri xs p most).1, (ri xs p most).2.1, 0)

theorem ready_r (g : Nat) (a : Option Addr) (len cap : Nat) (xs : List Int) (e : Int) (p : Nat) (w : World) (h : RS w g a len cap xs e p) :
    Calls Try.prog 21 #[.pointer (some ⟨g, 0, none⟩)] w fun r w' => r = .returned (.bool (e == 0)) ∧ RS w' g a len cap xs e p ∧ w.grownBy w' (some g) :=
  (ready_c g e _ _ w h.rdr).mono (fun _ _ ⟨h1, h2⟩ => ⟨h1, by rw [h2]; exact ⟨h, World.grownBy.refl _ _⟩⟩)

end Go.Proofs.Yteilmkibbdlnoaa
