/-
  Words of 32 bits as the program holds them, and how often one can be moved. No condition.
-/
import Derived.Test.YtalfoenoekcdaaaRows
import Derived.Test.YtalfoenoekcdaaaPoly
import Derived.WalkKit
import Derived.WalkSmall
import Derived.Laws.Bits64b
import Derived.WalkSpells
namespace Go.Proofs.Ytalfoenoekcdaaa
set_option linter.unusedVariables false
open Go.RowKit

/-- A word as the program's number. -/
def W (v : Wd) : Int := (v.toNat : Int)
theorem W_nn (v : Wd) : 0 ≤ W v := by unfold W; omega
theorem W_lt (v : Wd) : W v < 4294967296 := by have := v.isLt; unfold W; omega
theorem W_inj {a b : Wd} (h : W a = W b) : a = b := BitVec.eq_of_toNat_eq (by unfold W at h; omega)
theorem W_of (a : Int) (h0 : 0 ≤ a) (h1 : a < 4294967296) : ∃ v : Wd, a = W v := by
  refine ⟨BitVec.ofNat 32 a.toNat, ?_⟩
  unfold W; rw [BitVec.toNat_ofNat]; omega
theorem ret_int {k : IntKind} {a b : Int} (h : a = b) : Ending.returned (.int k a) = .returned (.int k b) := by rw [h]
theorem W_xor (a b : Wd) : bits .xor .u32 (W a) (W b) = W (a ^^^ b) := by
  have h := u32_xor (W a) (W b) (W_nn a) (W_lt a) (W_nn b) (W_lt b)
  rw [h]; unfold W; rw [BitVec.toNat_xor]; simp
theorem W_not (a : Wd) : bits .xor .u32 4294967295 (W a) = W (~~~ a) := by
  have : (4294967295 : Int) = W (BitVec.allOnes 32) := rfl
  rw [this, W_xor, BitVec.allOnes_xor]
theorem W_neg (a : Wd) : bits .xor .u32 IntKind.u32.max (W a) = W (~~~ a) := by
  rw [show IntKind.u32.max = 4294967295 from rfl, W_not]
theorem W_com (a : Wd) : bits .xor .u32 (if IntKind.u32.signed = true then -1 else IntKind.u32.max) (W a) = W (~~~ a) := W_neg a
theorem W_lit (a : Wd) (n : Int) (m : Wd) (h : n = W m) : bits .xor .u32 (W a) n = W (a ^^^ m) := by rw [h, W_xor]
theorem W_half (a : Wd) : W a / (2 : Int) = W (a >>> 1) := by
  unfold W; rw [BitVec.toNat_ushiftRight, Nat.shiftRight_eq_div_pow]; omega
theorem W_dbl (a : Wd) : W a * (2 : Int) % (4294967296 : Int) = W (a <<< 1) := by
  unfold W; rw [BitVec.toNat_shiftLeft, Nat.shiftLeft_eq]; omega
theorem W_zero (a : Wd) : (W a = 0) ↔ a = 0 := ⟨fun h => W_inj (b := 0) (by rw [h]; rfl), fun h => by rw [h]; rfl⟩
theorem nat_and_one (n : Nat) : n &&& 1 = n % 2 := Nat.and_one_is_mod n
theorem W_low (a : Wd) : bits .and .u32 (W a) 1 = (if a.getLsbD 0 then 1 else 0) := by
  have h := u32_and (W a) 1 (W_nn a) (W_lt a) (by decide) (by decide)
  rw [h]
  have e : (W a).toNat = a.toNat := by unfold W; simp
  rw [e, show (1 : Int).toNat = 1 from rfl, Nat.and_one_is_mod]
  have hb : a.getLsbD 0 = decide (a.toNat % 2 = 1) := by
    show a.toNat.testBit 0 = _
    rw [Nat.testBit_zero]
  rw [hb]
  rcases Nat.mod_two_eq_zero_or_one a.toNat with h | h <;> simp [h]
theorem W_top (a : Wd) : bits .and .u32 (W a) 2147483648 = (if a.msb then 2147483648 else 0) := by
  have h := u32_and (W a) 2147483648 (W_nn a) (W_lt a) (by decide) (by decide)
  rw [h]
  have e : (W a).toNat = a.toNat := by unfold W; simp
  have q : a.toNat &&& 2 ^ 31 = (a.toNat.testBit 31).toNat * 2 ^ 31 := by
    apply Nat.eq_of_testBit_eq
    intro i
    rw [Nat.testBit_and, Nat.testBit_two_pow]
    by_cases h : 31 = i
    · subst h; cases a.toNat.testBit 31 <;> decide
    · cases a.toNat.testBit 31 with
      | false => simp [h]
      | true => rw [show true.toNat * 2 ^ 31 = 2 ^ 31 from rfl, Nat.testBit_two_pow]; simp [h]
  rw [e, show (2147483648 : Int).toNat = 2 ^ 31 from rfl, q]
  have hb : a.msb = a.toNat.testBit 31 := BitVec.msb_eq_getLsbD_last a
  rw [hb]
  cases a.toNat.testBit 31 <;> rfl

theorem ofI_W (a : Wd) : BitVec.ofInt 32 (W a) = a := by unfold W; rw [BitVec.ofInt_natCast]; simp
theorem W_bit (a : Wd) (i : Nat) (h : i < 32) : bits .and .u32 (W a / (2 : Int) ^ i) 1 = (if a.getLsbD i then 1 else 0) := by
  have e : W a / (2 : Int) ^ i = W (a >>> i) := by
    unfold W; rw [BitVec.toNat_ushiftRight, Nat.shiftRight_eq_div_pow]
    rw [Int.natCast_ediv, Int.natCast_pow]; rfl
  rw [e, W_low, BitVec.getLsbD_ushiftRight]; rfl

/-- How often a word can be moved up until nothing is left. -/
def cnt : Nat → Wd → Nat
  | 0, _ => 0
  | k + 1, v => if v = 0 then 0 else 1 + cnt k (v <<< 1)
theorem cnt_end (k : Nat) : ∀ v : Wd, v <<< k = 0 → cnt (k + 1) v = cnt k v := by
  induction k with
  | zero => intro v h; have : v = 0 := by simpa using h
            rw [this]; rfl
  | succ k ih =>
    intro v h
    show (if v = 0 then 0 else 1 + cnt (k + 1) (v <<< 1)) = (if v = 0 then 0 else 1 + cnt k (v <<< 1))
    rw [ih (v <<< 1) (by rw [← BitVec.shiftLeft_add, Nat.add_comm]; exact h)]
theorem cnt_less (v : Wd) (h : v ≠ 0) : cnt 32 (v <<< 1) < cnt 32 v := by
  have e : cnt 32 (v <<< 1) = cnt 31 (v <<< 1) := cnt_end 31 _ (by rw [← BitVec.shiftLeft_add]; apply BitVec.eq_of_getLsbD_eq; intro i hi; simp)
  have e2 : cnt 32 v = 1 + cnt 31 (v <<< 1) := by show (if v = 0 then 0 else 1 + cnt 31 (v <<< 1)) = _; rw [if_neg h]
  omega

end Go.Proofs.Ytalfoenoekcdaaa
