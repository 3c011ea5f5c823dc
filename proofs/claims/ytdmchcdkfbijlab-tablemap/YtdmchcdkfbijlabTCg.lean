/-
  What the document's Check answers of a row. No condition.
-/
import Derived.Test.YtdmchcdkfbijlabTCk
namespace Go.Proofs.Ytdmchcdkfbijlab
open Go.RowKit
set_option linter.unusedVariables false

theorem gcheck_c (x : Rw) (w : World) : Calls Try.prog 18 #[iv x] w fun r w' => r = .returned (.int .i64 (rowE x)) ∧ w.grownBy w' none := by
  obtain ⟨k, v, n⟩ := x
  have HN : Hid (w.grownBy (w.alloc (.cells #[.string k, .string v, .int .i64 n] 28)) none) := gb_alloc _ _
  unfold iv rowE
  simp only
  by_cases h0 : k.size < 1
  · rw [if_pos (.inl h0)]
    go_enter Try.func18, Try.ntmps18
    go_wp2
    go_ret
    exact ⟨rfl, HN.out⟩
  · by_cases h1 : 1024 < k.size
    · rw [if_pos (.inr h1)]
      go_enter Try.func18, Try.ntmps18
      go_wp2
      go_ret
      exact ⟨rfl, HN.out⟩
    · rw [if_neg (by omega)]
      by_cases h2 : 65536 < v.size
      · rw [if_pos h2]
        go_enter Try.func18, Try.ntmps18
        go_wp2
        go_ret
        exact ⟨rfl, HN.out⟩
      · rw [if_neg h2]
        by_cases h3 : n < 1
        · rw [if_pos (.inl h3)]
          go_enter Try.func18, Try.ntmps18
          go_wp2
          go_ret
          exact ⟨rfl, HN.out⟩
        · by_cases h4 : 1152921504606846976 < n
          · rw [if_pos (.inr h4)]
            go_enter Try.func18, Try.ntmps18
            go_wp2
            go_ret
            exact ⟨rfl, HN.out⟩
          · rw [if_neg (by omega)]
            go_enter Try.func18, Try.ntmps18
            go_wp2
            go_ret
            exact ⟨rfl, HN.out⟩
end Go.Proofs.Ytdmchcdkfbijlab
