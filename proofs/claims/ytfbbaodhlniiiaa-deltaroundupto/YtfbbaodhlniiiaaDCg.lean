/-
  What the document's Check answers of an operation: the same number as delta's. No condition.
-/
import Derived.Test.YtfbbaodhlniiiaaDCk
namespace Go.Proofs.Ytfbbaodhlniiiaa.Dl
open Go.RowKit
set_option linter.unusedVariables false

theorem guser_c (s : ByteArray) (w : World) : Calls Try.prog 101 #[.string s] w fun r w' => r = .returned (.bool (usr s)) ∧ w' = w := by
  unfold usr
  by_cases h1 : 1 ≤ s.size
  · by_cases h2 : s.size ≤ 1024
    · have e : (decide (1 ≤ s.size) && decide (s.size ≤ 1024) && (by0 s != 0)) = (by0 s != 0) := by
        rw [decide_eq_true h1, decide_eq_true h2]; rfl
      rw [e]
      have hx := idx0 s (by omega)
      generalize by0 s = c at *
      clear e
      go_enter Try.func101, Try.ntmps101
      go_wp2
      go_ret
      exact ⟨rfl, rfl⟩
    · have e : (decide (1 ≤ s.size) && decide (s.size ≤ 1024) && (by0 s != 0)) = false := by
        rw [decide_eq_false h2]; simp
      rw [e]
      clear e
      go_enter Try.func101, Try.ntmps101
      go_wp2
      go_ret
      exact ⟨rfl, rfl⟩
  · have e : (decide (1 ≤ s.size) && decide (s.size ≤ 1024) && (by0 s != 0)) = false := by
      rw [decide_eq_false h1]; simp
    rw [e]
    clear e
    go_enter Try.func101, Try.ntmps101
    go_wp2
    go_ret
    exact ⟨rfl, rfl⟩
set_option maxRecDepth 20000 in
set_option maxHeartbeats 1000000 in
theorem gcheck_c (k : Int) (key val : ByteArray) (ver : Int) (w : World) : Calls Try.prog 89 #[.agg #[.int .i64 k, .string key, .string val, .int .i64 ver]] w fun r w' => r = .returned (.int .i64 (opE k key val ver)) ∧ w.grownBy w' none := by
  have HC : Hid (∀ W, Calls Try.prog 101 #[.string key] W fun r w' => r = .returned (.bool (usr key)) ∧ w' = W) := guser_c key
  have HN : Hid (w.grownBy (w.alloc (.cells #[.int .i64 k, .string key, .string val, .int .i64 ver] 94)) none) := hg_alloc _ _ _
  unfold opE
  generalize usr key = u at *
  by_cases h1 : k < 1
  · rw [if_pos (.inl h1)]
    go_enter Try.func89, Try.ntmps89
    go_wp2_with (go_at_call 101; refine (Calls.mono (HC.out _) ?_); rintro e wq ⟨rfl, rfl⟩)
    go_ret
    exact ⟨rfl, HN.out⟩
  by_cases h2 : 3 < k
  · rw [if_pos (.inr h2)]
    go_enter Try.func89, Try.ntmps89
    go_wp2_with (go_at_call 101; refine (Calls.mono (HC.out _) ?_); rintro e wq ⟨rfl, rfl⟩)
    go_ret
    exact ⟨rfl, HN.out⟩
  rw [if_neg (by omega)]
  cases u with
  | false =>
    rw [if_pos rfl]
    go_enter Try.func89, Try.ntmps89
    go_wp2_with (go_at_call 101; refine (Calls.mono (HC.out _) ?_); rintro e wq ⟨rfl, rfl⟩)
    go_ret
    exact ⟨rfl, HN.out⟩
  | true =>
    rw [if_neg (by decide)]
    by_cases h3 : 65536 < val.size
    · rw [if_pos (.inl h3)]
      go_enter Try.func89, Try.ntmps89
      go_wp2_with (go_at_call 101; refine (Calls.mono (HC.out _) ?_); rintro e wq ⟨rfl, rfl⟩)
      go_ret
      exact ⟨rfl, HN.out⟩
    by_cases h4 : k = 2
    · subst h4
      by_cases h5 : val = .empty
      · subst h5
        rw [if_neg (by simp)]
        clear h1 h2 h3
        by_cases h6 : ver < 0
        · rw [if_pos (.inl (.inl h6))]
          go_enter Try.func89, Try.ntmps89
          go_wp2_with (go_at_call 101; refine (Calls.mono (HC.out _) ?_); rintro e wq ⟨rfl, rfl⟩)
          go_ret
          exact ⟨rfl, HN.out⟩
        by_cases h7 : 1152921504606846976 < ver
        · rw [if_pos (.inl (.inr h7))]
          go_enter Try.func89, Try.ntmps89
          go_wp2_with (go_at_call 101; refine (Calls.mono (HC.out _) ?_); rintro e wq ⟨rfl, rfl⟩)
          go_ret
          exact ⟨rfl, HN.out⟩
        by_cases h8 : ver = 0
        · subst h8
          rw [if_neg (by omega)]
          go_enter Try.func89, Try.ntmps89
          go_wp2_with (go_at_call 101; refine (Calls.mono (HC.out _) ?_); rintro e wq ⟨rfl, rfl⟩)
          go_ret
          exact ⟨rfl, HN.out⟩
        have hb8 : (ver != 0) = true := by simp [h8]
        rw [if_pos (by omega)]
        clear h8
        go_enter Try.func89, Try.ntmps89
        go_wp2_with (go_at_call 101; refine (Calls.mono (HC.out _) ?_); rintro e wq ⟨rfl, rfl⟩)
        go_ret
        exact ⟨rfl, HN.out⟩
      · rw [if_pos (.inr ⟨rfl, h5⟩)]
        have hb := ne_empty h5
        clear h5
        go_enter Try.func89, Try.ntmps89
        go_wp2_with (go_at_call 101; refine (Calls.mono (HC.out _) ?_); rintro e wq ⟨rfl, rfl⟩)
        go_ret
        exact ⟨rfl, HN.out⟩
    have hb4 : (k == 2) = false := by simp [h4]
    rw [if_neg (fun q => q.elim (fun q => h3 q) (fun q => h4 q.1))]
    by_cases h5 : k = 3
    · subst h5
      clear h1 h2 h4
      by_cases h6 : ver < 0
      · rw [if_pos (.inl (.inl h6))]
        go_enter Try.func89, Try.ntmps89
        go_wp2_with (go_at_call 101; refine (Calls.mono (HC.out _) ?_); rintro e wq ⟨rfl, rfl⟩)
        go_ret
        exact ⟨rfl, HN.out⟩
      by_cases h7 : 1152921504606846976 < ver
      · rw [if_pos (.inl (.inr h7))]
        go_enter Try.func89, Try.ntmps89
        go_wp2_with (go_at_call 101; refine (Calls.mono (HC.out _) ?_); rintro e wq ⟨rfl, rfl⟩)
        go_ret
        exact ⟨rfl, HN.out⟩
      rw [if_neg (by omega)]
      go_enter Try.func89, Try.ntmps89
      go_wp2_with (go_at_call 101; refine (Calls.mono (HC.out _) ?_); rintro e wq ⟨rfl, rfl⟩)
      go_ret
      exact ⟨rfl, HN.out⟩
    obtain rfl : k = 1 := by omega
    clear h1 h2 h4 h5
    by_cases h6 : ver < 0
    · rw [if_pos (.inl (.inl h6))]
      go_enter Try.func89, Try.ntmps89
      go_wp2_with (go_at_call 101; refine (Calls.mono (HC.out _) ?_); rintro e wq ⟨rfl, rfl⟩)
      go_ret
      exact ⟨rfl, HN.out⟩
    by_cases h7 : 1152921504606846976 < ver
    · rw [if_pos (.inl (.inr h7))]
      go_enter Try.func89, Try.ntmps89
      go_wp2_with (go_at_call 101; refine (Calls.mono (HC.out _) ?_); rintro e wq ⟨rfl, rfl⟩)
      go_ret
      exact ⟨rfl, HN.out⟩
    by_cases h8 : ver = 0
    · subst h8
      rw [if_neg (by omega)]
      go_enter Try.func89, Try.ntmps89
      go_wp2_with (go_at_call 101; refine (Calls.mono (HC.out _) ?_); rintro e wq ⟨rfl, rfl⟩)
      go_ret
      exact ⟨rfl, HN.out⟩
    have hb8 : (ver != 0) = true := by simp [h8]
    rw [if_pos (by omega)]
    clear h8
    go_enter Try.func89, Try.ntmps89
    go_wp2_with (go_at_call 101; refine (Calls.mono (HC.out _) ?_); rintro e wq ⟨rfl, rfl⟩)
    go_ret
    exact ⟨rfl, HN.out⟩
end Go.Proofs.Ytfbbaodhlniiiaa.Dl
