/-
  What span Has answers, and the document Has, Empty: the same plain functions. No condition.
-/
import Derived.Test.YtdjcokepeifojaaDoorNHp
namespace Go.Proofs.YtdjcokepeifojaaDoor
set_option linter.unusedVariables false
open Go.RowKit

theorem ghas_c (r : Rg) (t : ByteArray) (w : World) : Calls Tryd.prog 33 #[rv r, .string t] w fun e w' => e = .returned (.bool (rHas r t)) ∧ w.grownBy w' none := by
  obtain ⟨f, u⟩ := r
  have h1 := run_geq t f
  have h2 := run_lss t u
  show Calls _ _ _ _ (fun e w' => e = .returned (.bool (!tl t f && !rPast (f, u) t)) ∧ w.grownBy w' none)
  unfold rv at *
  cases hb : tl t f
  · rw [hb] at h1
    by_cases hu : u.toList = []
    · rw [past_no hu]
      go_enter Tryd.func33, Tryd.ntmps33
      go_wp2
      go_ret
      exact ⟨rfl, gb_alloc _ _⟩
    · rw [past_yes hu, Bool.not_not]
      have hu' := ne_nil hu
      go_enter Tryd.func33, Tryd.ntmps33
      go_wp2
      go_ret
      exact ⟨rfl, gb_alloc _ _⟩
  · rw [hb] at h1
    go_enter Tryd.func33, Tryd.ntmps33
    go_wp2
    go_ret
    exact ⟨rfl, gb_alloc _ _⟩
end Go.Proofs.YtdjcokepeifojaaDoor
