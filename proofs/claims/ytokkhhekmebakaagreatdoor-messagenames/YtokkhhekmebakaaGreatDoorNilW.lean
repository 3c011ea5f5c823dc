/-
  What a nil pack Writer's methods answer: nothing is laid down. No condition.
-/
import Derived.Test.YtokkhhekmebakaaGreatDoorPRs
namespace Go.Proofs.YtokkhhekmebakaaGreatDoor
open Go.RowKit
set_option linter.unusedVariables false

theorem nready_c (w : World) : Calls Tryz.prog 182 #[.pointer none] w fun r w' => r = .returned (.bool false) ∧ w' = w := by
  go_enter Tryz.func182, Tryz.ntmps182
  go_wp2
  go_ret
  exact ⟨rfl, rfl⟩
theorem nuint_c (V : Int) (w : World) : Calls Tryz.prog 183 #[.pointer none, .int .u64 V] w fun r w' => r = .returned (.tuple #[]) ∧ w' = w := by
  go_enter Tryz.func183, Tryz.ntmps183
  go_wp2_with fail
  refine (nready_c w).mono ?_
  rintro r w1 ⟨rfl, rfl⟩
  go_wp2
  go_end0
  exact ⟨rfl, rfl⟩
theorem nint_c (x m : Int) (w : World) : Calls Tryz.prog 161 #[.pointer none, .int .i64 x, .int .i64 m] w fun r w' => r = .returned (.tuple #[]) ∧ w' = w := by
  go_enter Tryz.func161, Tryz.ntmps161
  go_wp2_with fail
  refine (nready_c w).mono ?_
  rintro r w1 ⟨rfl, rfl⟩
  go_wp2
  first | go_end0 | (simp only [Exit.inBlock, Exit.then]; refine bodyPost_ret (results_none rfl _ _ _) rfl ?_) | refine bodyPost_ret (results_none rfl _ _ _) rfl ?_
  exact ⟨rfl, rfl⟩
theorem ntext_c (s : ByteArray) (m : Int) (w : World) : Calls Tryz.prog 190 #[.pointer none, .string s, .int .i64 m] w fun r w' => r = .returned (.tuple #[]) ∧ w' = w := by
  go_enter Tryz.func190, Tryz.ntmps190
  go_wp2_with fail
  refine (nready_c w).mono ?_
  rintro r w1 ⟨rfl, rfl⟩
  go_wp2
  first | go_end0 | (simp only [Exit.inBlock, Exit.then]; refine bodyPost_ret (results_none rfl _ _ _) rfl ?_) | refine bodyPost_ret (results_none rfl _ _ _) rfl ?_
  exact ⟨rfl, rfl⟩
theorem nflag_c (f : Bool) (w : World) : Calls Tryz.prog 192 #[.pointer none, .bool f] w fun r w' => r = .returned (.tuple #[]) ∧ w' = w := by
  go_enter Tryz.func192, Tryz.ntmps192
  go_wp2_with fail
  refine (nready_c w).mono ?_
  rintro r w1 ⟨rfl, rfl⟩
  go_wp2
  first | go_end0 | (simp only [Exit.inBlock, Exit.then]; refine bodyPost_ret (results_none rfl _ _ _) rfl ?_) | refine bodyPost_ret (results_none rfl _ _ _) rfl ?_
  exact ⟨rfl, rfl⟩
theorem ndigest_c (C : Array Value) (w : World) : Calls Tryz.prog 218 #[.pointer none, .agg C] w fun r w' => r = .returned (.tuple #[]) ∧ w.grownBy w' none := by
  go_enter Tryz.func218, Tryz.ntmps218
  go_wp2_with fail
  refine (nready_c _).mono ?_
  rintro r w1 ⟨rfl, rfl⟩
  go_wp2
  go_end0
  exact ⟨rfl, World.grownBy_alloc _ _ _⟩
theorem nrow_c (a b c : Value) (w : World) : Calls Tryz.prog 195 #[.pointer none, .agg #[a, b, c]] w fun r w' => r = .returned (.tuple #[]) ∧ w.grownBy w' none := by
  go_enter Tryz.func195, Tryz.ntmps195
  go_wp2_with fail
  refine (nready_c _).mono ?_
  rintro r w1 ⟨rfl, rfl⟩
  go_wp2
  first | go_end0 | (simp only [Exit.inBlock, Exit.then]; refine bodyPost_ret (results_none rfl _ _ _) rfl ?_) | refine bodyPost_ret (results_none rfl _ _ _) rfl ?_
  exact ⟨rfl, World.grownBy_alloc _ _ _⟩
theorem nbytes_c (w : World) : Calls Tryz.prog 37 #[.pointer none] w fun r w' => r = .returned (.tuple #[.slice none 0 0, .int .i64 2]) ∧ w' = w := by
  go_enter Tryz.func37, Tryz.ntmps37
  go_wp2
  go_ret2
  exact ⟨rfl, rfl⟩
end Go.Proofs.YtokkhhekmebakaaGreatDoor
