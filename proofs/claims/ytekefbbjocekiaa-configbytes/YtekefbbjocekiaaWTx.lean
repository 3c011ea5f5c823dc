/-
  What the Writer's Text answers. Condition: what is laid down takes at most 2^47 bytes.
-/
import Derived.Test.YtekefbbjocekiaaWInt
import Derived.Test.YtekefbbjocekiaaPSb
namespace Go.Proofs.Ytekefbbjocekiaa
open Go.RowKit
set_option linter.unusedVariables false

/-- The three ways of must, of a Writer. -/
theorem wmust_no (g : Nat) (ys : List Int) (fs : List Nat) (w : World) (h : WS w g ys 0 fs) (x : Int) (b : Bool) (hx : (x == 0) = false) (hb : b = false) :
    Calls Try.prog 50 #[.pointer (some ⟨g, 0, none⟩), .bool b, .int .i64 x] w fun r w' => r = .returned (.bool false) ∧ w'.cell? ⟨g, 0, none⟩ = some (.int .i64 x) ∧ WGoes w g fs w' ys x := by
  subst hb
  refine (must_ok g x w h.c0 (h.free 0) hx).mono ?_
  rintro r w' ⟨rfl, rfl⟩
  exact ⟨rfl, (h.setE x).c0, WGoes.err h x⟩
theorem wmust_so (g : Nat) (ys : List Int) (fs : List Nat) (w : World) (h : WS w g ys 0 fs) (x : Int) (b : Bool) (hb : b = true) :
    Calls Try.prog 50 #[.pointer (some ⟨g, 0, none⟩), .bool b, .int .i64 x] w fun r w' => r = .returned (.bool true) ∧ w' = w := by
  subst hb; exact must_so g 0 x w h.c0
theorem wmust_late (g : Nat) (w : World) (e x : Int) (b : Bool) (he : (e == 0) = false) (h : w.cell? ⟨g, 0, none⟩ = some (.int .i64 e)) :
    Calls Try.prog 50 #[.pointer (some ⟨g, 0, none⟩), .bool b, .int .i64 x] w fun r w' => r = .returned (.bool false) ∧ w' = w := by
  cases b with
  | true => have := must_so g e x w h; rw [he] at this; exact this
  | false => exact must_no g e x w h he

end Go.Proofs.Ytekefbbjocekiaa
