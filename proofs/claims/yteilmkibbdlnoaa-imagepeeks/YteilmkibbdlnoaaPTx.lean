/-
  What a pack Reader's take and Text answer: what the plain functions give. Condition: the Reader's bytes can be read, and their length is one that a machine has.
-/
import Derived.Test.YteilmkibbdlnoaaPInt
import Derived.Test.YteilmkibbdlnoaaStr
namespace Go.Proofs.Yteilmkibbdlnoaa
open Go.RowKit
set_option linter.unusedVariables false

theorem must_r (g : Nat) (a : Option Addr) (len cap : Nat) (xs : List Int) (e : Int) (p : Nat) (x : Int) (w : World) (h : RS w g a len cap xs e p) :
    Calls Try.prog 22 #[.pointer (some ⟨g, 0, none⟩), .bool true, .int .i64 x] w fun r w' => r = .returned (.bool (e == 0)) ∧ RS w' g a len cap xs e p ∧ w.grownBy w' (some g) :=
  (must_so g e x w h.rdr.c0).mono (fun _ _ ⟨h1, h2⟩ => ⟨h1, by rw [h2]; exact ⟨h, World.grownBy.refl _ _⟩⟩)
theorem must_n (g : Nat) (a : Option Addr) (len cap : Nat) (xs : List Int) (e : Int) (p : Nat) (x : Int) (w : World) (h : RS w g a len cap xs e p) (he : (e == 0) = false) (b : Bool) :
    Calls Try.prog 22 #[.pointer (some ⟨g, 0, none⟩), .bool b, .int .i64 x] w fun r w' => r = .returned (.bool false) ∧ RS w' g a len cap xs e p ∧ w.grownBy w' (some g) := by
  cases b with
  | false => exact (must_no g e x w h.rdr.c0 he).mono (fun _ _ ⟨h1, h2⟩ => ⟨h1, by rw [h2]; exact ⟨h, World.grownBy.refl _ _⟩⟩)
  | true => exact (must_so g e x w h.rdr.c0).mono (fun _ _ ⟨h1, h2⟩ => ⟨by rw [h1, he], by rw [h2]; exact ⟨h, World.grownBy.refl _ _⟩⟩)

end Go.Proofs.Yteilmkibbdlnoaa
