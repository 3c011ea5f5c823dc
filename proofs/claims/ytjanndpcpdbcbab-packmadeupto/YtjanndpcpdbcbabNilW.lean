/-
  What a nil pack Writer's methods answer: nothing is laid down. No condition.
-/
import Derived.Test.YtjanndpcpdbcbabPRs
namespace Go.Proofs.Ytjanndpcpdbcbab
open Go.RowKit
set_option linter.unusedVariables false

theorem nready_c (w : World) : Calls Try.prog 46 #[.pointer none] w fun r w' => r = .returned (.bool false) ∧ w' = w := by
  go_enter Try.func46, Try.ntmps46
  go_wp2
  go_ret
  exact ⟨rfl, rfl⟩
theorem nuint_c (V : Int) (w : World) : Calls Try.prog 16 #[.pointer none, .int .u64 V] w fun r w' => r = .returned (.tuple #[]) ∧ w' = w := by
  go_enter Try.func16, Try.ntmps16
  go_wp2_with fail
  refine (nready_c w).mono ?_
  rintro r w1 ⟨rfl, rfl⟩
  go_wp2
  go_end0
  exact ⟨rfl, rfl⟩
theorem nint_c (x m : Int) (w : World) : Calls Try.prog 44 #[.pointer none, .int .i64 x, .int .i64 m] w fun r w' => r = .returned (.tuple #[]) ∧ w' = w := by
  go_enter Try.func44, Try.ntmps44
  go_wp2_with fail
  refine (nready_c w).mono ?_
  rintro r w1 ⟨rfl, rfl⟩
  go_wp2
  first | go_end0 | (simp only [Exit.inBlock, Exit.then]; refine bodyPost_ret (results_none rfl _ _ _) rfl ?_) | refine bodyPost_ret (results_none rfl _ _ _) rfl ?_
  exact ⟨rfl, rfl⟩
theorem ntext_c (s : ByteArray) (m : Int) (w : World) : Calls Try.prog 45 #[.pointer none, .string s, .int .i64 m] w fun r w' => r = .returned (.tuple #[]) ∧ w' = w := by
  go_enter Try.func45, Try.ntmps45
  go_wp2_with fail
  refine (nready_c w).mono ?_
  rintro r w1 ⟨rfl, rfl⟩
  go_wp2
  first | go_end0 | (simp only [Exit.inBlock, Exit.then]; refine bodyPost_ret (results_none rfl _ _ _) rfl ?_) | refine bodyPost_ret (results_none rfl _ _ _) rfl ?_
  exact ⟨rfl, rfl⟩
theorem nflag_c (f : Bool) (w : World) : Calls Try.prog 53 #[.pointer none, .bool f] w fun r w' => r = .returned (.tuple #[]) ∧ w' = w := by
  go_enter Try.func53, Try.ntmps53
  go_wp2_with fail
  refine (nready_c w).mono ?_
  rintro r w1 ⟨rfl, rfl⟩
  go_wp2
  first | go_end0 | (simp only [Exit.inBlock, Exit.then]; refine bodyPost_ret (results_none rfl _ _ _) rfl ?_) | refine bodyPost_ret (results_none rfl _ _ _) rfl ?_
  exact ⟨rfl, rfl⟩
theorem ndigest_c (C : Array Value) (w : World) : Calls Try.prog 55 #[.pointer none, .agg C] w fun r w' => r = .returned (.tuple #[]) ∧ w.grownBy w' none := by
  go_enter Try.func55, Try.ntmps55
  go_wp2_with fail
  refine (nready_c _).mono ?_
  rintro r w1 ⟨rfl, rfl⟩
  go_wp2
  go_end0
  exact ⟨rfl, World.grownBy_alloc _ _ _⟩
theorem nrow_c (a b c : Value) (w : World) : Calls Try.prog 57 #[.pointer none, .agg #[a, b, c]] w fun r w' => r = .returned (.tuple #[]) ∧ w.grownBy w' none := by
  go_enter Try.func57, Try.ntmps57
  go_wp2_with fail
  refine (nready_c _).mono ?_
  rintro r w1 ⟨rfl, rfl⟩
  go_wp2
  first | go_end0 | (simp only [Exit.inBlock, Exit.then]; refine bodyPost_ret (results_none rfl _ _ _) rfl ?_) | refine bodyPost_ret (results_none rfl _ _ _) rfl ?_
  exact ⟨rfl, World.grownBy_alloc _ _ _⟩
theorem nfail_c (x : Int) (w : World) : Calls Try.prog 59 #[.pointer none, .int .i64 x] w fun r w' => r = .returned (.tuple #[]) ∧ w' = w := by
  go_enter Try.func59, Try.ntmps59
  go_wp2
  go_end0
  exact ⟨rfl, rfl⟩
theorem nsize_c (w : World) : Calls Try.prog 23 #[.pointer none] w fun r w' => r = .returned (.int .i64 0) ∧ w' = w := by
  go_enter Try.func23, Try.ntmps23
  go_wp2
  go_ret
  exact ⟨rfl, rfl⟩
theorem nbytes_c (w : World) : Calls Try.prog 17 #[.pointer none] w fun r w' => r = .returned (.tuple #[.slice none 0 0, .int .i64 2]) ∧ w' = w := by
  go_enter Try.func17, Try.ntmps17
  go_wp2
  go_ret2
  exact ⟨rfl, rfl⟩
end Go.Proofs.Ytjanndpcpdbcbab
