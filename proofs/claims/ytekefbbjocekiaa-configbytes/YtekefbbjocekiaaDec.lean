/-
  What leb.Decode answers, called with whatever bytes: what the plain function rd gives. Condition: the slice can be read, and its length is one that a machine has.
-/
import Derived.Test.YtekefbbjocekiaaNum
import Derived.Deep.Light
import Derived.Lib.EndianBits
namespace Go.Proofs.Ytekefbbjocekiaa
open Go.RowKit
set_option linter.unusedVariables false

theorem or_group (X c : Int) (k : Nat) (hk : k ≤ 9) (hX0 : 0 ≤ X) (hX : X < 2 ^ (7 * k)) (h0 : 0 ≤ c) (h1 : c < 128) (h9 : k = 9 → c ≤ 1) :
    bits .or .u64 X (IntKind.u64.wrap (c * 2 ^ (7 * k))) = X + 2 ^ (7 * k) * c := by
  have hp := pow_pos2 (7 * k)
  have hm : 0 ≤ c * 2 ^ (7 * k) := Int.mul_nonneg h0 (by omega)
  have hb : c * 2 ^ (7 * k) < 18446744073709551616 := by
    by_cases hk9 : k = 9
    · subst hk9
      have := h9 rfl
      have e : (2 : Int) ^ (7 * 9) = 9223372036854775808 := by decide
      rw [e]; omega
    · have hle : (2 : Int) ^ (7 * k) ≤ 2 ^ 56 := by
        have : (2 : Nat) ^ (7 * k) ≤ 2 ^ 56 := Nat.pow_le_pow_right (by omega) (by omega)
        exact_mod_cast this
      have e : (2 : Int) ^ 56 = 72057594037927936 := by decide
      have := Int.mul_le_mul (Int.le_of_lt h1) hle (by omega) (by omega)
      rw [e] at this
      omega
  have hX64 : X < 18446744073709551616 := by
    have hle : (2 : Int) ^ (7 * k) ≤ 2 ^ 63 := by
      have : (2 : Nat) ^ (7 * k) ≤ 2 ^ 63 := Nat.pow_le_pow_right (by omega) (by omega)
      exact_mod_cast this
    have e : (2 : Int) ^ 63 = 9223372036854775808 := by decide
    omega
  rw [u64_wrap_id _ hm hb]
  have e64 : (2 : Int) ^ 64 = 18446744073709551616 := by decide
  rw [bits_join_low .u64 64 (by decide) wraps_u64 (7 * k) X (c * 2 ^ (7 * k)) hX0 hX (by rw [e64]; exact hX64) hm (Int.mul_emod_left _ _) (by rw [e64]; exact hb), Int.mul_comm c]

theorem or_val (xs : List Int) (X : Int) (k : Nat) (hk : k < xs.length) (hk9 : k ≤ 9) (hX : X = val (xs.take k)) (h0 : 0 ≤ xs[k]?.getD 0) (h9 : k = 9 → xs[k]?.getD 0 % 128 ≤ 1) :
    bits .or .u64 X (IntKind.u64.wrap (xs[k]?.getD 0 % 128 * 2 ^ (7 * k))) = val (xs.take (k + 1)) := by
  have hln : (xs.take k).length = k := by simp; omega
  have hlt := val_lt (xs.take k)
  have hn := val_nonneg (xs.take k)
  rw [hln] at hlt
  rw [or_group X _ k hk9 (by omega) (by omega) (by omega) (by omega) h9, take_snoc xs k hk, val_snoc, hln, hX]

theorem ret3 {k1 k2 k3 : IntKind} {a b c a' b' c' : Int} (h1 : a = a') (h2 : b = b') (h3 : c = c') : Ending.returned (.tuple #[.int k1 a, .int k2 b, .int k3 c]) = .returned (.tuple #[.int k1 a', .int k2 b', .int k3 c']) := by rw [h1, h2, h3]
theorem ret3rd {k1 k2 k3 : IntKind} {xs : List Int} {a b c : Int} (h : rd xs = (a, b, c)) : Ending.returned (.tuple #[.int k1 a, .int k2 b, .int k3 c]) = .returned (.tuple #[.int k1 (rd xs).1, .int k2 (rd xs).2.1, .int k3 (rd xs).2.2]) := by rw [h]

end Go.Proofs.Ytekefbbjocekiaa
