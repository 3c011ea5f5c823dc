/-
  What cmp.Compare answers of two texts. No condition.
-/
import Derived.Test.YtdmchcdkfbijlabTJn
namespace Go.Proofs.Ytdmchcdkfbijlab
open Go.RowKit
set_option linter.unusedVariables false

theorem meth_place (a : Array Value) (W : World) : Sem.run Try.prog (method 203 52 (.agg a) "hawser/table.place") W = .ok (74, .agg a) W := by kernel_rfl
def cmpT (s t : ByteArray) : Int := if tl s t = true then -1 else if tl t s = true then 1 else 0
theorem isNaN_c (s : ByteArray) (w : World) : Calls Try.prog 45 #[.string s] w fun r w' => r = .returned (.bool false) ∧ w' = w := by
  have h1 := run_neq s s
  simp only [decide_true, Bool.not_true] at h1
  go_enter Try.func45, Try.ntmps45
  go_wp2
  go_ret
  exact ⟨rfl, rfl⟩
theorem compare_c (s t : ByteArray) (w : World) : Calls Try.prog 34 #[.string s, .string t] w fun r w' => r = .returned (.int .i64 (cmpT s t)) ∧ w' = w := by
  have h1 := run_lss s t
  have h2 := run_gtr s t
  have HC : Hid (∀ u W, Calls Try.prog 45 #[.string u] W fun r w' => r = .returned (.bool false) ∧ w' = W) := isNaN_c
  unfold cmpT
  cases hb : tl s t
  · cases hc : tl t s
    · rw [hb] at h1
      have hb1 : Op.bytesLess s.toList t.toList = _ := hb
      rw [hc] at h2
      go_enter Try.func34, Try.ntmps34
      go_wp2_with (go_at_call 45; refine (HC.out _ _).mono ?_; rintro r wq ⟨rfl, rfl⟩)
      go_ret
      exact ⟨rfl, rfl⟩
    · rw [hb] at h1
      have hb1 : Op.bytesLess s.toList t.toList = _ := hb
      rw [hc] at h2
      go_enter Try.func34, Try.ntmps34
      go_wp2_with (go_at_call 45; refine (HC.out _ _).mono ?_; rintro r wq ⟨rfl, rfl⟩)
      go_ret
      exact ⟨rfl, rfl⟩
  · rw [hb] at h1
    have hb1 : Op.bytesLess s.toList t.toList = _ := hb
    go_enter Try.func34, Try.ntmps34
    go_wp2_with (go_at_call 45; refine (HC.out _ _).mono ?_; rintro r wq ⟨rfl, rfl⟩)
    go_ret
    exact ⟨rfl, rfl⟩
end Go.Proofs.Ytdmchcdkfbijlab
