/-
  Plain mathematics: the sum of a part of some bytes, by the sums up to its two ends. No condition of its own.
-/
import Derived.Test.YtbfbehjldloeoaaDoorRows
import Derived.Test.YtbfbehjldloeoaaDoorFa
namespace Go.Proofs.YtbfbehjldloeoaaDoor
set_option linter.unusedVariables false
open Go.RowKit

theorem not_ones (a : Wd) : ~~~ a = a ^^^ ones := by
  show ~~~ a = a ^^^ BitVec.allOnes 32
  rw [BitVec.xor_allOnes]
theorem sum_app (p q : List Int) : sum (p ++ q) = txn (8 * q.length) (sum p) ^^^ sum q := by
  have h1 : reg ones p = sum p ^^^ ones := by
    unfold sum
    rw [← not_ones, BitVec.not_not]
  have h2 := reg_lin q (sum p) ones
  have h3 : sum (p ++ q) = ~~~ (reg (sum p ^^^ ones) q) := by
    show ~~~ (reg ones (p ++ q)) = _
    rw [reg_append, h1]
  rw [h3, h2, not_ones, BitVec.xor_assoc, ← not_ones]
  rfl
/-- The sum of the bytes from a place up to another one. -/
theorem sum_part (xs : List Int) (a e : Nat) (ha : a ≤ e) (he : e ≤ xs.length) : sum ((xs.take e).drop a) = txn (8 * (e - a)) (sum (xs.take a)) ^^^ sum (xs.take e) := by
  have h1 : xs.take e = xs.take a ++ (xs.take e).drop a := by
    have := List.take_append_drop a (xs.take e)
    rw [List.take_take, Nat.min_eq_left ha] at this
    exact this.symm
  have h2 : ((xs.take e).drop a).length = e - a := by rw [List.length_drop, List.length_take]; omega
  have h3 := sum_app (xs.take a) ((xs.take e).drop a)
  rw [← h1, h2] at h3
  rw [h3, ← BitVec.xor_assoc, BitVec.xor_self, BitVec.zero_xor]
/-- The sum of the first so many bytes, by a mark ahead of them. -/
theorem sum_more (xs : List Int) (m e : Nat) (hm : m ≤ e) (he : e ≤ xs.length) : ~~~ (reg (~~~ (sum (xs.take m))) ((xs.take e).drop m)) = sum (xs.take e) := by
  have h1 : xs.take e = xs.take m ++ (xs.take e).drop m := by
    have := List.take_append_drop m (xs.take e)
    rw [List.take_take, Nat.min_eq_left hm] at this
    exact this.symm
  conv => rhs; rw [h1]
  unfold sum
  rw [BitVec.not_not, reg_append]
end Go.Proofs.YtbfbehjldloeoaaDoor
