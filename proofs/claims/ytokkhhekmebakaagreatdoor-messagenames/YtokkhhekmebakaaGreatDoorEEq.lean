/-
  When the program holds two operations, updates, results, rows or tokens for the same. No condition.
-/
import Derived.Test.YtokkhhekmebakaaGreatDoorRows
import Derived.RowKit
import Derived.WalkKit
import Derived.Laws.StructEq
namespace Go.Proofs.YtokkhhekmebakaaGreatDoor
open Go.RowKit
set_option linter.unusedVariables false

theorem qInt (T : TypeId) (hT : Tryz.prog.underlying T = some (.int .i64)) (d : Nat) (a b : Int) (w : World) : (Op.equalIn (d + 1) T (.int .i64 a) (.int .i64 b)).run Tryz.prog w = .ok (decide (a = b)) w := by
  by_cases h : a = b <;> simp [Op.equalIn, run_underlying hT, h]
theorem qStr (d : Nat) (a b : ByteArray) (w : World) : (Op.equalIn (d + 1) 9 (.string a) (.string b)).run Tryz.prog w = .ok (decide (a = b)) w := by
  have e : (a == b) = decide (a = b) := by
    by_cases h : a = b
    · subst h
      obtain ⟨⟨x⟩⟩ := a
      show ((⟨x⟩ : Array UInt8) == ⟨x⟩) = _
      simp
    · obtain ⟨⟨x⟩⟩ := a
      obtain ⟨⟨y⟩⟩ := b
      have hxy : x ≠ y := fun z => h (by rw [z])
      show ((⟨x⟩ : Array UInt8) == ⟨y⟩) = _
      simp [h, hxy]
  simp [Op.equalIn, run_underlying Tryz.underlying9, e]
theorem qAop (d : Nat) (k k' : Int) (s s' : ByteArray) (t t' : ByteArray) (v v' : Int) (w : World) : (Op.equalIn (d + 2) 32 (.agg #[.int .i64 k, .string s, .string t, .int .i64 v]) (.agg #[.int .i64 k', .string s', .string t', .int .i64 v'])).run Tryz.prog w = .ok (decide (k = k') && decide (s = s') && decide (t = t') && decide (v = v')) w := by
  have h0 := qInt 30 Tryz.underlying30 d k k' w
  have h1 := qStr d s s' w
  have h2 := qStr d t t' w
  have h3 := qInt 3 Tryz.underlying3 d v v' w
  rw [Op.equalIn]
  simp [run_underlying Tryz.underlying32, run_underlying Tryz.underlying30, run_underlying Tryz.underlying9, run_underlying Tryz.underlying3, part, isAgg, h0, h1, h2, h3]
  by_cases g0 : k = k' <;> by_cases g1 : s = s' <;> by_cases g2 : t = t' <;> by_cases g3 : v = v' <;> simp [g0, g1, g2, g3]
theorem qRes (d : Nat) (k k' : Int) (v v' : Int) (w : World) : (Op.equalIn (d + 2) 37 (.agg #[.int .i64 k, .int .i64 v]) (.agg #[.int .i64 k', .int .i64 v'])).run Tryz.prog w = .ok (decide (k = k') && decide (v = v')) w := by
  have h0 := qInt 35 Tryz.underlying35 d k k' w
  have h1 := qInt 3 Tryz.underlying3 d v v' w
  rw [Op.equalIn]
  simp [run_underlying Tryz.underlying37, run_underlying Tryz.underlying35, run_underlying Tryz.underlying3, part, isAgg, h0, h1]
  by_cases g0 : k = k' <;> by_cases g1 : v = v' <;> simp [g0, g1]
theorem qRow (d : Nat) (s s' : ByteArray) (t t' : ByteArray) (v v' : Int) (w : World) : (Op.equalIn (d + 2) 39 (.agg #[.string s, .string t, .int .i64 v]) (.agg #[.string s', .string t', .int .i64 v'])).run Tryz.prog w = .ok (decide (s = s') && decide (t = t') && decide (v = v')) w := by
  have h0 := qStr d s s' w
  have h1 := qStr d t t' w
  have h2 := qInt 3 Tryz.underlying3 d v v' w
  rw [Op.equalIn]
  simp [run_underlying Tryz.underlying39, run_underlying Tryz.underlying9, run_underlying Tryz.underlying3, part, isAgg, h0, h1, h2]
  by_cases g0 : s = s' <;> by_cases g1 : t = t' <;> by_cases g2 : v = v' <;> simp [g0, g1, g2]
theorem qTok (d : Nat) (a a' : Int) (b b' : Int) (c c' : Int) (w : World) : (Op.equalIn (d + 2) 47 (.agg #[.int .i64 a, .int .i64 b, .int .i64 c]) (.agg #[.int .i64 a', .int .i64 b', .int .i64 c'])).run Tryz.prog w = .ok (decide (a = a') && decide (b = b') && decide (c = c')) w := by
  have h0 := qInt 3 Tryz.underlying3 d a a' w
  have h1 := qInt 3 Tryz.underlying3 d b b' w
  have h2 := qInt 3 Tryz.underlying3 d c c' w
  rw [Op.equalIn]
  simp [run_underlying Tryz.underlying47, run_underlying Tryz.underlying3, part, isAgg, h0, h1, h2]
  by_cases g0 : a = a' <;> by_cases g1 : b = b' <;> by_cases g2 : c = c' <;> simp [g0, g1, g2]
theorem qUpd (d : Nat) (q q' c c' n n' k k' : Int) (s s' t t' : ByteArray) (v v' : Int) (w : World) : (Op.equalIn (d + 3) 34 (.agg #[.int .i64 q, .int .i64 c, .int .i64 n, .int .i64 k, .string s, .string t, .int .i64 v]) (.agg #[.int .i64 q', .int .i64 c', .int .i64 n', .int .i64 k', .string s', .string t', .int .i64 v'])).run Tryz.prog w = .ok (decide (q = q') && decide (c = c') && decide (n = n') && (decide (k = k') && decide (s = s') && decide (t = t') && decide (v = v'))) w := by
  have h1 := qInt 3 Tryz.underlying3 (d + 1) q q' w
  have h2 := qInt 3 Tryz.underlying3 (d + 1) c c' w
  have h3 := qInt 3 Tryz.underlying3 (d + 1) n n' w
  have h4 := qAop d k k' s s' t t' v v' w
  obtain ⟨b, hb⟩ : ∃ b, (decide (k = k') && decide (s = s') && decide (t = t') && decide (v = v')) = b := ⟨_, rfl⟩
  rw [hb] at h4 ⊢
  clear hb
  rw [Op.equalIn]
  simp [run_underlying Tryz.underlying34, part, isAgg, run_underlying Tryz.underlying32, run_underlying Tryz.underlying3, h1, h2, h3, h4]
  by_cases g1 : q = q' <;> by_cases g2 : c = c' <;> by_cases g3 : n = n' <;> cases b <;> simp [g1, g2, g3]
end Go.Proofs.YtokkhhekmebakaaGreatDoor
