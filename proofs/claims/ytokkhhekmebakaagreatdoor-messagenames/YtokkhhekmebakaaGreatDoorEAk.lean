/-
  When message.Alike holds two messages for the same: as plain data. Condition: their lists can be read.
-/
import Derived.Test.YtokkhhekmebakaaGreatDoorEMg
import Derived.Test.YtokkhhekmebakaaGreatDoorEEq
import Derived.Test.YtokkhhekmebakaaGreatDoorEAn
import Derived.Test.YtokkhhekmebakaaGreatDoorELa
namespace Go.Proofs.YtokkhhekmebakaaGreatDoor
open Go.RowKit
set_option linter.unusedVariables false

theorem eqi_run (T : TypeId) (hT : Tryz.prog.underlying T = some (.int .i64)) (x y : Operand) (a b : Int) (w : World) : (eqGuard .eql T x y (.int .i64 a) (.int .i64 b)).run Tryz.prog w = .ok () w ∧ (binOp .eql T (.int .i64 a) (.int .i64 b)).run Tryz.prog w = .ok (.bool (decide (a = b))) w := by
  refine ⟨?_, ?_⟩
  · simp [eqGuard, go_sem]
  · by_cases h : a = b <;> simp [binOp, go_sem, h]
theorem eqs_run (x y : Operand) (a b : ByteArray) (w : World) : (eqGuard .eql 9 x y (.string a) (.string b)).run Tryz.prog w = .ok () w ∧ (binOp .eql 9 (.string a) (.string b)).run Tryz.prog w = .ok (.bool (decide (a = b))) w := by
  refine ⟨?_, ?_⟩
  · simp [eqGuard, go_sem]
  · have e := qStr 0 a b w
    simp [Op.equalIn, run_underlying Tryz.underlying9] at e
    simp [binOp, go_sem, Op.stringOp]
    rw [← beq_toListBytes]
    exact e
theorem qBool (d : Nat) (a b : Bool) (w : World) : (Op.equalIn (d + 1) 4 (.bool a) (.bool b)).run Tryz.prog w = .ok (decide (a = b)) w := by
  cases a <;> cases b <;> simp [Op.equalIn, run_underlying Tryz.underlying4]
theorem eqb_run (x y : Operand) (a b : Bool) (w : World) : (eqGuard .eql 4 x y (.bool a) (.bool b)).run Tryz.prog w = .ok () w ∧ (binOp .eql 4 (.bool a) (.bool b)).run Tryz.prog w = .ok (.bool (decide (a = b))) w := by
  refine ⟨?_, ?_⟩
  · simp [eqGuard, go_sem]
  · have h := qBool 9999 a b w
    simp only [binOp, Op.equal, Op.maxDepth, Sem.run_bind, Sem.run_pure]
    rw [h]
    rfl
theorem eqo_run (x y : Operand) (k k' : Int) (s s' : ByteArray) (t t' : ByteArray) (v v' : Int) (w : World) : (eqGuard .eql 32 x y (.agg #[.int .i64 k, .string s, .string t, .int .i64 v]) (.agg #[.int .i64 k', .string s', .string t', .int .i64 v'])).run Tryz.prog w = .ok () w ∧ (binOp .eql 32 (.agg #[.int .i64 k, .string s, .string t, .int .i64 v]) (.agg #[.int .i64 k', .string s', .string t', .int .i64 v'])).run Tryz.prog w = .ok (.bool (decide (k = k') && decide (s = s') && decide (t = t') && decide (v = v'))) w := by
  have h := qAop 9998 k k' s s' t t' v v' w
  refine ⟨?_, ?_⟩
  · simp [eqGuard, go_sem]
  · simp only [binOp, Op.equal, Op.maxDepth, Sem.run_bind, Sem.run_pure]
    rw [h]
    rfl
theorem eqr_run (x y : Operand) (k k' : Int) (v v' : Int) (w : World) : (eqGuard .eql 37 x y (.agg #[.int .i64 k, .int .i64 v]) (.agg #[.int .i64 k', .int .i64 v'])).run Tryz.prog w = .ok () w ∧ (binOp .eql 37 (.agg #[.int .i64 k, .int .i64 v]) (.agg #[.int .i64 k', .int .i64 v'])).run Tryz.prog w = .ok (.bool (decide (k = k') && decide (v = v'))) w := by
  have h := qRes 9998 k k' v v' w
  refine ⟨?_, ?_⟩
  · simp [eqGuard, go_sem]
  · simp only [binOp, Op.equal, Op.maxDepth, Sem.run_bind, Sem.run_pure]
    rw [h]
    rfl
theorem eqw_run (x y : Operand) (s s' : ByteArray) (t t' : ByteArray) (v v' : Int) (w : World) : (eqGuard .eql 39 x y (.agg #[.string s, .string t, .int .i64 v]) (.agg #[.string s', .string t', .int .i64 v'])).run Tryz.prog w = .ok () w ∧ (binOp .eql 39 (.agg #[.string s, .string t, .int .i64 v]) (.agg #[.string s', .string t', .int .i64 v'])).run Tryz.prog w = .ok (.bool (decide (s = s') && decide (t = t') && decide (v = v'))) w := by
  have h := qRow 9998 s s' t t' v v' w
  refine ⟨?_, ?_⟩
  · simp [eqGuard, go_sem]
  · simp only [binOp, Op.equal, Op.maxDepth, Sem.run_bind, Sem.run_pure]
    rw [h]
    rfl
theorem eqt_run (x y : Operand) (a a' : Int) (b b' : Int) (c c' : Int) (w : World) : (eqGuard .eql 47 x y (.agg #[.int .i64 a, .int .i64 b, .int .i64 c]) (.agg #[.int .i64 a', .int .i64 b', .int .i64 c'])).run Tryz.prog w = .ok () w ∧ (binOp .eql 47 (.agg #[.int .i64 a, .int .i64 b, .int .i64 c]) (.agg #[.int .i64 a', .int .i64 b', .int .i64 c'])).run Tryz.prog w = .ok (.bool (decide (a = a') && decide (b = b') && decide (c = c'))) w := by
  have h := qTok 9998 a a' b b' c c' w
  refine ⟨?_, ?_⟩
  · simp [eqGuard, go_sem]
  · simp only [binOp, Op.equal, Op.maxDepth, Sem.run_bind, Sem.run_pure]
    rw [h]
    rfl
theorem equ_run (x y : Operand) (q q' : Int) (c c' : Int) (n n' : Int) (k k' : Int) (s s' : ByteArray) (t t' : ByteArray) (v v' : Int) (w : World) : (eqGuard .eql 34 x y (.agg #[.int .i64 q, .int .i64 c, .int .i64 n, .int .i64 k, .string s, .string t, .int .i64 v]) (.agg #[.int .i64 q', .int .i64 c', .int .i64 n', .int .i64 k', .string s', .string t', .int .i64 v'])).run Tryz.prog w = .ok () w ∧ (binOp .eql 34 (.agg #[.int .i64 q, .int .i64 c, .int .i64 n, .int .i64 k, .string s, .string t, .int .i64 v]) (.agg #[.int .i64 q', .int .i64 c', .int .i64 n', .int .i64 k', .string s', .string t', .int .i64 v'])).run Tryz.prog w = .ok (.bool (decide (q = q') && decide (c = c') && decide (n = n') && (decide (k = k') && decide (s = s') && decide (t = t') && decide (v = v')))) w := by
  have h := qUpd 9997 q q' c c' n n' k k' s s' t t' v v' w
  refine ⟨?_, ?_⟩
  · simp [eqGuard, go_sem]
  · simp only [binOp, Op.equal, Op.maxDepth, Sem.run_bind, Sem.run_pure]
    rw [h]
    rfl
end Go.Proofs.YtokkhhekmebakaaGreatDoor
