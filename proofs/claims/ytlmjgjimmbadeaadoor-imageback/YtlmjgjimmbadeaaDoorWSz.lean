/-
  What the Writer's Size answers. No condition of its own.
-/
import Derived.Test.YtlmjgjimmbadeaaDoorFb
namespace Go.Proofs.YtlmjgjimmbadeaaDoor
open Go.RowKit
set_option linter.unusedVariables false

set_option maxRecDepth 20000 in
theorem wsize_c (g : Nat) (ys : List Int) (e : Int) (fs : List Nat) (w : World) (h : WS w g ys e fs) :
    Calls Tryd.prog 77 #[.pointer (some ⟨g, 0, none⟩)] w fun r w' => r = .returned (.int .i64 (ys.length : Int)) ∧ w' = w := by
  have cN := h.cN
  clear h
  go_enter Tryd.func77, Tryd.ntmps77
  go_wp2
  go_ret
  exact ⟨rfl, rfl⟩
end Go.Proofs.YtlmjgjimmbadeaaDoor
