/-
  For the document's Own: marks; lists of one's own that grow, each in memory apart from the others'. No condition of its own.
-/
import Derived.Test.YtlmjgjimmbadeaaDoorFa
import Derived.Deep.Light
import Derived.Maps.AppendAt
namespace Go.Proofs.YtlmjgjimmbadeaaDoor
open Go.RowKit
set_option linter.unusedVariables false

/-- The mark of a list and a place. -/
def mrk (i k : Nat) : Int := (((i * 37 + k * 11 + 5 : Nat) : Int)) % 256
def mks (i n : Nat) : List Int := (List.range n).map (mrk i)
theorem mks_length (i n : Nat) : (mks i n).length = n := by simp [mks]
theorem mks_succ (i n : Nat) : mks i (n + 1) = mks i n ++ [mrk i n] := by simp [mks, List.range_succ]
theorem mks_at (i n k : Nat) (h : k < n) : (mks i n)[k]?.getD 0 = mrk i k := by simp [mks, h]
set_option maxRecDepth 20000 in
theorem mark_c (i k : Nat) (hi : i ≤ 1048576) (hk : k ≤ 140737488355328) (w : World) : Calls Tryd.prog 45 #[.int .i64 (i : Int), .int .i64 (k : Int)] w fun r w' => r = .returned (.int .u8 (mrk i k)) ∧ w' = w := by
  have h1 : (i : Int) ≤ 1048576 := by omega
  have h2 : (k : Int) ≤ 140737488355328 := by omega
  have h3 : (0 : Int) ≤ (i : Int) := by omega
  have h4 : (0 : Int) ≤ (k : Int) := by omega
  have HE : Hid (∀ z : Int, z = (i : Int) * 37 + (k : Int) * 11 + 5 → z % 256 = mrk i k) := fun z hz => by unfold mrk; rw [hz]; congr 1
  go_enter Tryd.func45, Tryd.ntmps45
  go_wp2
  go_ret
  exact ⟨ret_int (HE.out _ (by omega)), rfl⟩
end Go.Proofs.YtlmjgjimmbadeaaDoor
