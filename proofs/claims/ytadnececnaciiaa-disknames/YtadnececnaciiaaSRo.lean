/-
  What sha's turn answers, called with one of the ten numbers that the rounds take, and what word answers, called with four bytes or more. Condition: the bytes can be read.
-/
import Derived.Test.YtadnececnaciiaaSPu
import Derived.Test.YtadnececnaciiaaSeg
import Derived.BigQuiet
namespace Go.Proofs.Ytadnececnaciiaa
set_option linter.unusedVariables false
open Go.RowKit

def rotI (n : Int) (x : Wd) : Wd := rot n.toNat x
theorem word_w (z0 z1 z2 z3 : Int) (h0 : 0 ≤ z0 ∧ z0 < 256) (h1 : 0 ≤ z1 ∧ z1 < 256) (h2 : 0 ≤ z2 ∧ z2 < 256) (h3 : 0 ≤ z3 ∧ z3 < 256) :
    bits .or .u32 (bits .or .u32 (bits .or .u32 (z0 * 16777216) (z1 * 65536)) (z2 * 256)) z3 = W (BitVec.ofNat 32 (z0.toNat * 16777216 + z1.toNat * 65536 + z2.toNat * 256 + z3.toNat)) := by
  obtain ⟨a, rfl⟩ := Int.eq_ofNat_of_zero_le h0.1
  obtain ⟨b, rfl⟩ := Int.eq_ofNat_of_zero_le h1.1
  obtain ⟨c, rfl⟩ := Int.eq_ofNat_of_zero_le h2.1
  obtain ⟨d, rfl⟩ := Int.eq_ofNat_of_zero_le h3.1
  have e0 : (a : Int) * 16777216 = W (BitVec.ofNat 32 (a * 16777216)) := by unfold W; rw [BitVec.toNat_ofNat]; omega
  have e1 : (b : Int) * 65536 = W (BitVec.ofNat 32 (b * 65536)) := by unfold W; rw [BitVec.toNat_ofNat]; omega
  have e2 : (c : Int) * 256 = W (BitVec.ofNat 32 (c * 256)) := by unfold W; rw [BitVec.toNat_ofNat]; omega
  have e3 : (d : Int) = W (BitVec.ofNat 32 d) := by unfold W; rw [BitVec.toNat_ofNat]; omega
  rw [e0, e1, e2, e3, W_or, W_or, W_or]
  congr 1
  apply BitVec.eq_of_toNat_eq
  simp only [BitVec.toNat_or, BitVec.toNat_ofNat, Int.toNat_natCast]
  have ha : a < 256 := by omega
  have hb : b < 256 := by omega
  have hc : c < 256 := by omega
  have hd : d < 256 := by omega
  have t0 : a * 16777216 % 2 ^ 32 = a * 2 ^ 24 := Nat.mod_eq_of_lt (by omega)
  have t1 : b * 65536 % 2 ^ 32 = b * 2 ^ 16 := Nat.mod_eq_of_lt (by omega)
  have t2 : c * 256 % 2 ^ 32 = c * 2 ^ 8 := Nat.mod_eq_of_lt (by omega)
  have t3 : d % 2 ^ 32 = d := by omega
  rw [t0, t1, t2, t3]
  have u1 : a * 2 ^ 24 ||| b * 2 ^ 16 = a * 2 ^ 24 + b * 2 ^ 16 := by
    rw [Nat.mul_comm]; exact (Nat.two_pow_add_eq_or_of_lt (i := 24) (by omega) a).symm
  have u2 : (a * 2 ^ 24 + b * 2 ^ 16) ||| c * 2 ^ 8 = a * 2 ^ 24 + b * 2 ^ 16 + c * 2 ^ 8 := by
    rw [show a * 2 ^ 24 + b * 2 ^ 16 = 2 ^ 16 * (a * 256 + b) from by omega]; exact (Nat.two_pow_add_eq_or_of_lt (i := 16) (by omega) _).symm
  have u3 : (a * 2 ^ 24 + b * 2 ^ 16 + c * 2 ^ 8) ||| d = a * 2 ^ 24 + b * 2 ^ 16 + c * 2 ^ 8 + d := by
    rw [show a * 2 ^ 24 + b * 2 ^ 16 + c * 2 ^ 8 = 2 ^ 8 * (a * 65536 + b * 256 + c) from by omega]; exact (Nat.two_pow_add_eq_or_of_lt (i := 8) (by omega) _).symm
  rw [u1, u2, u3]; omega

end Go.Proofs.Ytadnececnaciiaa
