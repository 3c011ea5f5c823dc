/-
  What config's and the document's Settings answer. No condition.
-/
import Derived.Test.YtekefbbjocekiabCGt
namespace Go.Proofs.Ytekefbbjocekiab
open Go.RowKit
set_option linter.unusedVariables false

/-- Settings' answer. -/
def sto (V0 V1 V2 V3 V4 : Int) : Int := if (inB V0 1 3 && inB V1 1 64 && inB V2 1 100 && inB V3 64 262144 && inB V4 1 4096) = true then 0 else 1
theorem inB_lo {v a b : Int} (h : v < a) : inB v a b = false := inB_no (fun z => by omega)
theorem inB_hi {v a b : Int} (h : b < v) : inB v a b = false := inB_no (fun z => by omega)
theorem run_indexS (cs : Array Value) (k : Nat) (hk : k < 5) (W : World) (hc : cs.size = 15) : Sem.run Try.prog (Instr.index 74 (.agg cs) (.int .i64 (k : Int))) W = .ok (.agg (cs.extract (k * 3) (k * 3 + 3))) W := by
  have h1 : Try.prog.underlying 74 = some (.array 5 73) := by kernel_rfl
  have h2 : (0 : Int) ≤ k ∧ (k : Int) < 5 := by omega
  have h3 : (isAgg 73).run Try.prog W = .ok true W := by kernel_rfl
  have h4 : (sizeOf 73).run Try.prog W = .ok 3 W := by kernel_rfl
  simp [Instr.index, run_underlying h1, asIntOf, part, go_sem, h4]
  intro h
  omega
set_option maxRecDepth 20000 in
set_option maxHeartbeats 4000000 in
theorem settings_c (V0 V1 V2 V3 V4 : Int) (w : World) : Calls Try.prog 13 #[.agg #[.int .i64 V0, .int .i64 V1, .int .i64 V2, .int .i64 V3, .int .i64 V4]] w fun r w' => r = .returned (.int .i64 (sto V0 V1 V2 V3 V4)) ∧ Below w.heap.size w w' := by
  have HW : Hid (∀ v a b W, Calls Try.prog 38 #[.int .i64 v, .int .i64 a, .int .i64 b] W fun r w' => r = .returned (.bool (inB v a b)) ∧ w' = W) := within_c
  have HB : Hid (∀ W o, Below w.heap.size w W → Below w.heap.size w (W.alloc o)) := fun W o h => h.alloc h.size o
  have ix0 : ∀ W, Sem.run Try.prog (Instr.index 74 (.agg #[.int .i64 V0, .int .i64 1, .int .i64 3, .int .i64 V1, .int .i64 1, .int .i64 64, .int .i64 V2, .int .i64 1, .int .i64 100, .int .i64 V3, .int .i64 64, .int .i64 262144, .int .i64 V4, .int .i64 1, .int .i64 4096]) (.int .i64 0)) W = .ok (.agg #[.int .i64 V0, .int .i64 1, .int .i64 3]) W := fun W => run_indexS #[.int .i64 V0, .int .i64 1, .int .i64 3, .int .i64 V1, .int .i64 1, .int .i64 64, .int .i64 V2, .int .i64 1, .int .i64 100, .int .i64 V3, .int .i64 64, .int .i64 262144, .int .i64 V4, .int .i64 1, .int .i64 4096] 0 (by decide) W rfl
  have ix1 : ∀ W, Sem.run Try.prog (Instr.index 74 (.agg #[.int .i64 V0, .int .i64 1, .int .i64 3, .int .i64 V1, .int .i64 1, .int .i64 64, .int .i64 V2, .int .i64 1, .int .i64 100, .int .i64 V3, .int .i64 64, .int .i64 262144, .int .i64 V4, .int .i64 1, .int .i64 4096]) (.int .i64 1)) W = .ok (.agg #[.int .i64 V1, .int .i64 1, .int .i64 64]) W := fun W => run_indexS #[.int .i64 V0, .int .i64 1, .int .i64 3, .int .i64 V1, .int .i64 1, .int .i64 64, .int .i64 V2, .int .i64 1, .int .i64 100, .int .i64 V3, .int .i64 64, .int .i64 262144, .int .i64 V4, .int .i64 1, .int .i64 4096] 1 (by decide) W rfl
  have ix2 : ∀ W, Sem.run Try.prog (Instr.index 74 (.agg #[.int .i64 V0, .int .i64 1, .int .i64 3, .int .i64 V1, .int .i64 1, .int .i64 64, .int .i64 V2, .int .i64 1, .int .i64 100, .int .i64 V3, .int .i64 64, .int .i64 262144, .int .i64 V4, .int .i64 1, .int .i64 4096]) (.int .i64 2)) W = .ok (.agg #[.int .i64 V2, .int .i64 1, .int .i64 100]) W := fun W => run_indexS #[.int .i64 V0, .int .i64 1, .int .i64 3, .int .i64 V1, .int .i64 1, .int .i64 64, .int .i64 V2, .int .i64 1, .int .i64 100, .int .i64 V3, .int .i64 64, .int .i64 262144, .int .i64 V4, .int .i64 1, .int .i64 4096] 2 (by decide) W rfl
  have ix3 : ∀ W, Sem.run Try.prog (Instr.index 74 (.agg #[.int .i64 V0, .int .i64 1, .int .i64 3, .int .i64 V1, .int .i64 1, .int .i64 64, .int .i64 V2, .int .i64 1, .int .i64 100, .int .i64 V3, .int .i64 64, .int .i64 262144, .int .i64 V4, .int .i64 1, .int .i64 4096]) (.int .i64 3)) W = .ok (.agg #[.int .i64 V3, .int .i64 64, .int .i64 262144]) W := fun W => run_indexS #[.int .i64 V0, .int .i64 1, .int .i64 3, .int .i64 V1, .int .i64 1, .int .i64 64, .int .i64 V2, .int .i64 1, .int .i64 100, .int .i64 V3, .int .i64 64, .int .i64 262144, .int .i64 V4, .int .i64 1, .int .i64 4096] 3 (by decide) W rfl
  have ix4 : ∀ W, Sem.run Try.prog (Instr.index 74 (.agg #[.int .i64 V0, .int .i64 1, .int .i64 3, .int .i64 V1, .int .i64 1, .int .i64 64, .int .i64 V2, .int .i64 1, .int .i64 100, .int .i64 V3, .int .i64 64, .int .i64 262144, .int .i64 V4, .int .i64 1, .int .i64 4096]) (.int .i64 4)) W = .ok (.agg #[.int .i64 V4, .int .i64 1, .int .i64 4096]) W := fun W => run_indexS #[.int .i64 V0, .int .i64 1, .int .i64 3, .int .i64 V1, .int .i64 1, .int .i64 64, .int .i64 V2, .int .i64 1, .int .i64 100, .int .i64 V3, .int .i64 64, .int .i64 262144, .int .i64 V4, .int .i64 1, .int .i64 4096] 4 (by decide) W rfl
  have H0 : Hid (Below w.heap.size w (w.alloc (.cells #[.int .i64 V0, .int .i64 V1, .int .i64 V2, .int .i64 V3, .int .i64 V4] 38))) := (Below.refl _ _).alloc (Nat.le_refl _) _
  cases h0 : inB V0 1 3 with
  | false =>
    have HR : Hid (sto V0 V1 V2 V3 V4 = 1) := by show _ = _; unfold sto; rw [h0]; simp
    go_enter Try.func13, Try.ntmps13
    go_wp2
    refine wp_loop_rounds 6 ?_
    rw [rounds_succ]
    go_wp2_with (go_at_call 38; refine (Calls.mono (HW.out _ _ _ _) ?_); rintro r wq ⟨rfl, hq⟩; obtain rfl := hq.symm; clear hq)
    go_ret
    exact ⟨by rw [HR.out]; rfl, (HB.out _ _ H0.out)⟩
  | true =>
  cases h1 : inB V1 1 64 with
  | false =>
    have HR : Hid (sto V0 V1 V2 V3 V4 = 1) := by show _ = _; unfold sto; rw [h1]; simp
    go_enter Try.func13, Try.ntmps13
    go_wp2
    refine wp_loop_rounds 6 ?_
    rw [rounds_succ]
    go_wp2_with (go_at_call 38; refine (Calls.mono (HW.out _ _ _ _) ?_); rintro r wq ⟨rfl, hq⟩; obtain rfl := hq.symm; clear hq)
    rw [rounds_succ]
    go_wp2_with (go_at_call 38; refine (Calls.mono (HW.out _ _ _ _) ?_); rintro r wq ⟨rfl, hq⟩; obtain rfl := hq.symm; clear hq)
    go_ret
    exact ⟨by rw [HR.out]; rfl, (HB.out _ _ (HB.out _ _ H0.out))⟩
  | true =>
  cases h2 : inB V2 1 100 with
  | false =>
    have HR : Hid (sto V0 V1 V2 V3 V4 = 1) := by show _ = _; unfold sto; rw [h2]; simp
    go_enter Try.func13, Try.ntmps13
    go_wp2
    refine wp_loop_rounds 6 ?_
    rw [rounds_succ]
    go_wp2_with (go_at_call 38; refine (Calls.mono (HW.out _ _ _ _) ?_); rintro r wq ⟨rfl, hq⟩; obtain rfl := hq.symm; clear hq)
    rw [rounds_succ]
    go_wp2_with (go_at_call 38; refine (Calls.mono (HW.out _ _ _ _) ?_); rintro r wq ⟨rfl, hq⟩; obtain rfl := hq.symm; clear hq)
    rw [rounds_succ]
    go_wp2_with (go_at_call 38; refine (Calls.mono (HW.out _ _ _ _) ?_); rintro r wq ⟨rfl, hq⟩; obtain rfl := hq.symm; clear hq)
    go_ret
    exact ⟨by rw [HR.out]; rfl, (HB.out _ _ (HB.out _ _ (HB.out _ _ H0.out)))⟩
  | true =>
  cases h3 : inB V3 64 262144 with
  | false =>
    have HR : Hid (sto V0 V1 V2 V3 V4 = 1) := by show _ = _; unfold sto; rw [h3]; simp
    go_enter Try.func13, Try.ntmps13
    go_wp2
    refine wp_loop_rounds 6 ?_
    rw [rounds_succ]
    go_wp2_with (go_at_call 38; refine (Calls.mono (HW.out _ _ _ _) ?_); rintro r wq ⟨rfl, hq⟩; obtain rfl := hq.symm; clear hq)
    rw [rounds_succ]
    go_wp2_with (go_at_call 38; refine (Calls.mono (HW.out _ _ _ _) ?_); rintro r wq ⟨rfl, hq⟩; obtain rfl := hq.symm; clear hq)
    rw [rounds_succ]
    go_wp2_with (go_at_call 38; refine (Calls.mono (HW.out _ _ _ _) ?_); rintro r wq ⟨rfl, hq⟩; obtain rfl := hq.symm; clear hq)
    rw [rounds_succ]
    go_wp2_with (go_at_call 38; refine (Calls.mono (HW.out _ _ _ _) ?_); rintro r wq ⟨rfl, hq⟩; obtain rfl := hq.symm; clear hq)
    go_ret
    exact ⟨by rw [HR.out]; rfl, (HB.out _ _ (HB.out _ _ (HB.out _ _ (HB.out _ _ H0.out))))⟩
  | true =>
  cases h4 : inB V4 1 4096 with
  | false =>
    have HR : Hid (sto V0 V1 V2 V3 V4 = 1) := by show _ = _; unfold sto; rw [h4]; simp
    go_enter Try.func13, Try.ntmps13
    go_wp2
    refine wp_loop_rounds 6 ?_
    rw [rounds_succ]
    go_wp2_with (go_at_call 38; refine (Calls.mono (HW.out _ _ _ _) ?_); rintro r wq ⟨rfl, hq⟩; obtain rfl := hq.symm; clear hq)
    rw [rounds_succ]
    go_wp2_with (go_at_call 38; refine (Calls.mono (HW.out _ _ _ _) ?_); rintro r wq ⟨rfl, hq⟩; obtain rfl := hq.symm; clear hq)
    rw [rounds_succ]
    go_wp2_with (go_at_call 38; refine (Calls.mono (HW.out _ _ _ _) ?_); rintro r wq ⟨rfl, hq⟩; obtain rfl := hq.symm; clear hq)
    rw [rounds_succ]
    go_wp2_with (go_at_call 38; refine (Calls.mono (HW.out _ _ _ _) ?_); rintro r wq ⟨rfl, hq⟩; obtain rfl := hq.symm; clear hq)
    rw [rounds_succ]
    go_wp2_with (go_at_call 38; refine (Calls.mono (HW.out _ _ _ _) ?_); rintro r wq ⟨rfl, hq⟩; obtain rfl := hq.symm; clear hq)
    go_ret
    exact ⟨by rw [HR.out]; rfl, (HB.out _ _ (HB.out _ _ (HB.out _ _ (HB.out _ _ (HB.out _ _ H0.out)))))⟩
  | true =>
  have HR : Hid (sto V0 V1 V2 V3 V4 = 0) := by show _ = _; unfold sto; rw [h0, h1, h2, h3, h4]; rfl
  go_enter Try.func13, Try.ntmps13
  go_wp2
  refine wp_loop_rounds 6 ?_
  rw [rounds_succ]
  go_wp2_with (go_at_call 38; refine (Calls.mono (HW.out _ _ _ _) ?_); rintro r wq ⟨rfl, hq⟩; obtain rfl := hq.symm; clear hq)
  rw [rounds_succ]
  go_wp2_with (go_at_call 38; refine (Calls.mono (HW.out _ _ _ _) ?_); rintro r wq ⟨rfl, hq⟩; obtain rfl := hq.symm; clear hq)
  rw [rounds_succ]
  go_wp2_with (go_at_call 38; refine (Calls.mono (HW.out _ _ _ _) ?_); rintro r wq ⟨rfl, hq⟩; obtain rfl := hq.symm; clear hq)
  rw [rounds_succ]
  go_wp2_with (go_at_call 38; refine (Calls.mono (HW.out _ _ _ _) ?_); rintro r wq ⟨rfl, hq⟩; obtain rfl := hq.symm; clear hq)
  rw [rounds_succ]
  go_wp2_with (go_at_call 38; refine (Calls.mono (HW.out _ _ _ _) ?_); rintro r wq ⟨rfl, hq⟩; obtain rfl := hq.symm; clear hq)
  rw [rounds_succ]
  go_wp2_with (go_at_call 38; refine (Calls.mono (HW.out _ _ _ _) ?_); rintro r wq ⟨rfl, hq⟩; obtain rfl := hq.symm; clear hq)
  go_ret
  exact ⟨by rw [HR.out]; rfl, (HB.out _ _ (HB.out _ _ (HB.out _ _ (HB.out _ _ (HB.out _ _ H0.out)))))⟩
set_option maxRecDepth 20000 in
set_option maxHeartbeats 4000000 in
theorem qsettings_c (V0 V1 V2 V3 V4 : Int) (w : World) : Calls Try.prog 14 #[.int .i64 V0, .int .i64 V1, .int .i64 V2, .int .i64 V3, .int .i64 V4] w fun r w' => r = .returned (.int .i64 (sto V0 V1 V2 V3 V4)) ∧ w' = w := by
  by_cases l0 : V0 < 1
  · have a0 : decide (V0 < (1 : Int)) = true := decide_eq_true l0
    have HR : Hid (sto V0 V1 V2 V3 V4 = 1) := by show _ = _; unfold sto; rw [inB_lo l0]; simp
    clear l0
    go_enter Try.func14, Try.ntmps14
    go_wp2
    go_ret
    exact ⟨by rw [HR.out]; rfl, rfl⟩
  have a0 : decide (V0 < (1 : Int)) = false := decide_eq_false l0
  by_cases g0 : 3 < V0
  · have b0 : decide ((3 : Int) < V0) = true := decide_eq_true g0
    have HR : Hid (sto V0 V1 V2 V3 V4 = 1) := by show _ = _; unfold sto; rw [inB_hi g0]; simp
    clear l0 g0
    go_enter Try.func14, Try.ntmps14
    go_wp2
    go_ret
    exact ⟨by rw [HR.out]; rfl, rfl⟩
  have b0 : decide ((3 : Int) < V0) = false := decide_eq_false g0
  have n0 : inB V0 1 3 = true := inB_yes (by omega) (by omega)
  by_cases l1 : V1 < 1
  · have a1 : decide (V1 < (1 : Int)) = true := decide_eq_true l1
    have HR : Hid (sto V0 V1 V2 V3 V4 = 1) := by show _ = _; unfold sto; rw [inB_lo l1]; simp
    clear l1
    go_enter Try.func14, Try.ntmps14
    go_wp2
    go_ret
    exact ⟨by rw [HR.out]; rfl, rfl⟩
  have a1 : decide (V1 < (1 : Int)) = false := decide_eq_false l1
  by_cases g1 : 64 < V1
  · have b1 : decide ((64 : Int) < V1) = true := decide_eq_true g1
    have HR : Hid (sto V0 V1 V2 V3 V4 = 1) := by show _ = _; unfold sto; rw [inB_hi g1]; simp
    clear l1 g1
    go_enter Try.func14, Try.ntmps14
    go_wp2
    go_ret
    exact ⟨by rw [HR.out]; rfl, rfl⟩
  have b1 : decide ((64 : Int) < V1) = false := decide_eq_false g1
  have n1 : inB V1 1 64 = true := inB_yes (by omega) (by omega)
  by_cases l2 : V2 < 1
  · have a2 : decide (V2 < (1 : Int)) = true := decide_eq_true l2
    have HR : Hid (sto V0 V1 V2 V3 V4 = 1) := by show _ = _; unfold sto; rw [inB_lo l2]; simp
    clear l2
    go_enter Try.func14, Try.ntmps14
    go_wp2
    go_ret
    exact ⟨by rw [HR.out]; rfl, rfl⟩
  have a2 : decide (V2 < (1 : Int)) = false := decide_eq_false l2
  by_cases g2 : 100 < V2
  · have b2 : decide ((100 : Int) < V2) = true := decide_eq_true g2
    have HR : Hid (sto V0 V1 V2 V3 V4 = 1) := by show _ = _; unfold sto; rw [inB_hi g2]; simp
    clear l2 g2
    go_enter Try.func14, Try.ntmps14
    go_wp2
    go_ret
    exact ⟨by rw [HR.out]; rfl, rfl⟩
  have b2 : decide ((100 : Int) < V2) = false := decide_eq_false g2
  have n2 : inB V2 1 100 = true := inB_yes (by omega) (by omega)
  by_cases l3 : V3 < 64
  · have a3 : decide (V3 < (64 : Int)) = true := decide_eq_true l3
    have HR : Hid (sto V0 V1 V2 V3 V4 = 1) := by show _ = _; unfold sto; rw [inB_lo l3]; simp
    clear l3
    go_enter Try.func14, Try.ntmps14
    go_wp2
    go_ret
    exact ⟨by rw [HR.out]; rfl, rfl⟩
  have a3 : decide (V3 < (64 : Int)) = false := decide_eq_false l3
  by_cases g3 : 262144 < V3
  · have b3 : decide ((262144 : Int) < V3) = true := decide_eq_true g3
    have HR : Hid (sto V0 V1 V2 V3 V4 = 1) := by show _ = _; unfold sto; rw [inB_hi g3]; simp
    clear l3 g3
    go_enter Try.func14, Try.ntmps14
    go_wp2
    go_ret
    exact ⟨by rw [HR.out]; rfl, rfl⟩
  have b3 : decide ((262144 : Int) < V3) = false := decide_eq_false g3
  have n3 : inB V3 64 262144 = true := inB_yes (by omega) (by omega)
  by_cases l4 : V4 < 1
  · have a4 : decide (V4 < (1 : Int)) = true := decide_eq_true l4
    have HR : Hid (sto V0 V1 V2 V3 V4 = 1) := by show _ = _; unfold sto; rw [inB_lo l4]; simp
    clear l4
    go_enter Try.func14, Try.ntmps14
    go_wp2
    go_ret
    exact ⟨by rw [HR.out]; rfl, rfl⟩
  have a4 : decide (V4 < (1 : Int)) = false := decide_eq_false l4
  by_cases g4 : 4096 < V4
  · have b4 : decide ((4096 : Int) < V4) = true := decide_eq_true g4
    have HR : Hid (sto V0 V1 V2 V3 V4 = 1) := by show _ = _; unfold sto; rw [inB_hi g4]; simp
    clear l4 g4
    go_enter Try.func14, Try.ntmps14
    go_wp2
    go_ret
    exact ⟨by rw [HR.out]; rfl, rfl⟩
  have b4 : decide ((4096 : Int) < V4) = false := decide_eq_false g4
  have n4 : inB V4 1 4096 = true := inB_yes (by omega) (by omega)
  have HR : Hid (sto V0 V1 V2 V3 V4 = 0) := by show _ = _; unfold sto; rw [n0, n1, n2, n3, n4]; rfl
  go_enter Try.func14, Try.ntmps14
  go_wp2
  go_ret
  exact ⟨by rw [HR.out]; rfl, rfl⟩
end Go.Proofs.Ytekefbbjocekiab
