/-
  What span Has answers, and the document Has, Empty: the same plain functions. No condition.
-/
import Derived.Test.YtggkkpbgnlmfeaaNHp
namespace Go.Proofs.Ytggkkpbgnlmfeaa
set_option linter.unusedVariables false
open Go.RowKit

theorem has_c (r : Rg) (t : ByteArray) (w : World) : Calls Try.prog 15 #[rv r, .string t] w fun e w' => e = .returned (.bool (rHas r t)) ∧ w.grownBy w' none := by
  have HP : Hid _ := fun w => past_c r t w
  obtain ⟨f, u⟩ := r
  have h1 := run_geq t f
  unfold rHas
  have HN : Hid _ := (blk_new w 28 #[.string f, .string u])
  show Calls _ _ _ _ (fun e w' => e = .returned (.bool (!tl t f && !rPast (f, u) t)) ∧ w.grownBy w' none)
  unfold rv at *
  generalize rPast (f, u) t = b at *
  cases hb : tl t f
  · rw [hb] at h1
    go_enter Try.func15, Try.ntmps15
    go_wp2_with (first
      | (go_at_call 31; go_must (refine (HP.out _).mono ?_); rintro e w1 ⟨rfl, h1⟩)
      | (refine wpList_load_bkG 28 rfl (.tmp 2) rfl Try.underlying28 rfl info28 w.heap.size #[.string f, .string u] rfl HN.out.1 rfl ?_))
    go_ret
    exact ⟨rfl, gb_trans HN.out.2 h1⟩
  · rw [hb] at h1
    go_enter Try.func15, Try.ntmps15
    go_wp2
    go_ret
    exact ⟨rfl, gb_alloc _ _⟩
theorem ghas_c (r : Rg) (t : ByteArray) (w : World) : Calls Try.prog 16 #[rv r, .string t] w fun e w' => e = .returned (.bool (rHas r t)) ∧ w.grownBy w' none := by
  obtain ⟨f, u⟩ := r
  have h1 := run_geq t f
  have h2 := run_lss t u
  show Calls _ _ _ _ (fun e w' => e = .returned (.bool (!tl t f && !rPast (f, u) t)) ∧ w.grownBy w' none)
  unfold rv at *
  cases hb : tl t f
  · rw [hb] at h1
    by_cases hu : u.toList = []
    · rw [past_no hu]
      go_enter Try.func16, Try.ntmps16
      go_wp2
      go_ret
      exact ⟨rfl, gb_alloc _ _⟩
    · rw [past_yes hu, Bool.not_not]
      have hu' := ne_nil hu
      go_enter Try.func16, Try.ntmps16
      go_wp2
      go_ret
      exact ⟨rfl, gb_alloc _ _⟩
  · rw [hb] at h1
    go_enter Try.func16, Try.ntmps16
    go_wp2
    go_ret
    exact ⟨rfl, gb_alloc _ _⟩
theorem gempty_c (r : Rg) (w : World) : Calls Try.prog 18 #[rv r] w fun e w' => e = .returned (.bool (rEmpty r)) ∧ w.grownBy w' none := by
  obtain ⟨f, u⟩ := r
  have h1 := run_leq u f
  unfold rEmpty
  by_cases hu : u.toList = []
  · rw [past_no hu]
    unfold rv
    go_enter Try.func18, Try.ntmps18
    go_wp2
    go_ret
    exact ⟨rfl, gb_alloc _ _⟩
  · rw [past_yes hu]
    have hu' := ne_nil hu
    unfold rv
    generalize (!tl f u) = b at *
    go_enter Try.func18, Try.ntmps18
    go_wp2
    go_ret
    exact ⟨rfl, gb_alloc _ _⟩

end Go.Proofs.Ytggkkpbgnlmfeaa
