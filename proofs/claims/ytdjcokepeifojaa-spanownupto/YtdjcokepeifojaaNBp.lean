/-
  Buckets as plain numbers: how many there are, digits, the bucket of a text, the errors. No condition.
-/
import Derived.Test.YtdjcokepeifojaaNBa
namespace Go.Proofs.Ytdjcokepeifojaa
set_option linter.unusedVariables false
open Go.RowKit

/-- How many buckets there are. -/
def nbk (d : Int) : Int := if d = 1 then 16 else if d = 2 then 256 else if d = 3 then 4096 else 0
def p16 : Nat → Int
  | 0 => 1
  | k + 1 => p16 k * 16
theorem nbk_cases (d : Int) : (d = 1 ∧ nbk d = 16) ∨ (d = 2 ∧ nbk d = 256) ∨ (d = 3 ∧ nbk d = 4096) ∨ ((d < 1 ∨ 3 < d) ∧ nbk d = 0) := by
  unfold nbk; split
  · omega
  · split
    · omega
    · split <;> omega
/-- A digit. -/
def dg (s : ByteArray) (i : Nat) : Int := if i % 2 = 0 then (bs s).getD (i / 2) 0 / 16 else (bs s).getD (i / 2) 0 % 16
theorem dg_bd (s : ByteArray) (i : Nat) : 0 ≤ dg s i ∧ dg s i < 16 := by
  have := bs_bd s (i / 2)
  unfold dg; split <;> omega
theorem dg_far (s : ByteArray) (i : Nat) (h : s.size ≤ i / 2) : dg s i = 0 := by
  have : (bs s).getD (i / 2) 0 = 0 := by rw [List.getD_eq_getElem?_getD, List.getElem?_eq_none (by rw [bs_len]; exact h)]; rfl
  unfold dg; rw [this]; split <;> rfl
/-- The number of the first k digits. -/
def bkt (s : ByteArray) : Nat → Int
  | 0 => 0
  | k + 1 => bkt s k * 16 + dg s k
theorem bkt_bd (s : ByteArray) (k : Nat) : 0 ≤ bkt s k ∧ bkt s k < p16 k := by
  induction k with
  | zero => simp [bkt, p16]
  | succ k ih => have := dg_bd s k; simp only [bkt, p16]; omega
def keyE (s : ByteArray) : Int := if s.size < 1 ∨ 1024 < s.size then 60 else 0
def bucE (d : Int) (s : ByteArray) : Int := if nbk d = 0 then 61 else keyE s
def bucN (d : Int) (s : ByteArray) : Int := if nbk d = 0 then 0 else if keyE s = 0 then bkt s d.toNat else 0
theorem w64 (x : Int) (h : -9223372036854775808 ≤ x ∧ x ≤ 9223372036854775807) : wrap64 x = x := IntWalk.wrap64_in x h
theorem p16_step (k : Nat) (h : k < 3) : wrap64 (p16 k * 16) = p16 (k + 1) := by
  rcases (show k = 0 ∨ k = 1 ∨ k = 2 by omega) with rfl | rfl | rfl <;> exact w64 _ (by decide)
theorem nbk_pow (D : Nat) (h : 1 ≤ D) (h3 : D ≤ 3) : nbk D = p16 D := by
  rcases (show D = 1 ∨ D = 2 ∨ D = 3 by omega) with rfl | rfl | rfl <;> decide
theorem nbk_none {d : Int} (h : d < 1 ∨ 3 < d) : nbk d = 0 := by rcases nbk_cases d with h | h | h | h <;> omega
theorem deep_cases (d : Int) : (∃ D : Nat, d = D ∧ 1 ≤ D ∧ D ≤ 3) ∨ d < 1 ∨ 3 < d := by
  by_cases h : d < 1
  · exact .inr (.inl h)
  · by_cases h3 : 3 < d
    · exact .inr (.inr h3)
    · exact .inl ⟨d.toNat, by omega, by omega, by omega⟩
theorem keyE_not {s : ByteArray} (h : ¬ keyE s = 0) : keyE s = 60 := by
  unfold keyE at h ⊢
  by_cases hq : s.size < 1 ∨ 1024 < s.size
  · rw [if_pos hq]
  · rw [if_neg hq] at h; exact absurd rfl h

end Go.Proofs.Ytdjcokepeifojaa
