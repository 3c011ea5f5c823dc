/-
  What table's Check answers of a row, and the document's: the same number. No condition.
-/
import Derived.Test.YtdmchcdkfbijlabTTr
namespace Go.Proofs.Ytdmchcdkfbijlab
open Go.RowKit
set_option linter.unusedVariables false

/-- What a row may not be. -/
def rowE (x : Rw) : Int := if x.1.size < 1 ∨ 1024 < x.1.size then 70 else if 65536 < x.2.1.size then 71 else if x.2.2 < 1 ∨ 1152921504606846976 < x.2.2 then 72 else 0
theorem ncheck_c (s : ByteArray) (w : World) : Calls Try.prog 32 #[.string s] w fun r w' => r = .returned (.int .i64 (if s.size < 1 ∨ 1024 < s.size then 60 else 0)) ∧ w' = w := by
  by_cases h1 : s.size < 1
  · rw [if_pos (.inl h1)]
    go_enter Try.func32, Try.ntmps32
    go_wp2
    go_ret
    exact ⟨rfl, rfl⟩
  · by_cases h2 : 1024 < s.size
    · rw [if_pos (.inr h2)]
      go_enter Try.func32, Try.ntmps32
      go_wp2
      go_ret
      exact ⟨rfl, rfl⟩
    · rw [if_neg (by omega)]
      go_enter Try.func32, Try.ntmps32
      go_wp2
      go_ret
      exact ⟨rfl, rfl⟩
theorem tcheck_c (x : Rw) (w : World) : Calls Try.prog 20 #[iv x] w fun r w' => r = .returned (.int .i64 (rowE x)) ∧ w.grownBy w' none := by
  obtain ⟨k, v, n⟩ := x
  have HC : Hid (∀ W, Calls Try.prog 32 #[.string k] W fun r w' => r = .returned (.int .i64 (if k.size < 1 ∨ 1024 < k.size then 60 else 0)) ∧ w' = W) := ncheck_c k
  have HN : Hid (w.grownBy (w.alloc (.cells #[.string k, .string v, .int .i64 n] 28)) none) := gb_alloc _ _
  unfold iv rowE
  simp only
  by_cases h1 : k.size < 1 ∨ 1024 < k.size
  · rw [if_pos h1]
    rw [if_pos h1] at HC
    clear h1
    go_enter Try.func20, Try.ntmps20
    go_wp2_with (go_at_call 32; refine (Calls.mono (HC.out _) ?_); rintro e wq ⟨rfl, rfl⟩)
    go_ret
    exact ⟨rfl, HN.out⟩
  · rw [if_neg h1]
    rw [if_neg h1] at HC
    clear h1
    by_cases h2 : 65536 < v.size
    · rw [if_pos h2]
      go_enter Try.func20, Try.ntmps20
      go_wp2_with (go_at_call 32; refine (Calls.mono (HC.out _) ?_); rintro e wq ⟨rfl, rfl⟩)
      go_ret
      exact ⟨rfl, HN.out⟩
    · rw [if_neg h2]
      by_cases h3 : n < 1
      · rw [if_pos (.inl h3)]
        go_enter Try.func20, Try.ntmps20
        go_wp2_with (go_at_call 32; refine (Calls.mono (HC.out _) ?_); rintro e wq ⟨rfl, rfl⟩)
        go_ret
        exact ⟨rfl, HN.out⟩
      · by_cases h4 : 1152921504606846976 < n
        · rw [if_pos (.inr h4)]
          go_enter Try.func20, Try.ntmps20
          go_wp2_with (go_at_call 32; refine (Calls.mono (HC.out _) ?_); rintro e wq ⟨rfl, rfl⟩)
          go_ret
          exact ⟨rfl, HN.out⟩
        · rw [if_neg (by omega)]
          go_enter Try.func20, Try.ntmps20
          go_wp2_with (go_at_call 32; refine (Calls.mono (HC.out _) ?_); rintro e wq ⟨rfl, rfl⟩)
          go_ret
          exact ⟨rfl, HN.out⟩
end Go.Proofs.Ytdmchcdkfbijlab
