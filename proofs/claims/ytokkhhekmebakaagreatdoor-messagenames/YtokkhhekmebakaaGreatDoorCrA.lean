/-
  Plain mathematics for the laws of package crc: words of 32 bits as polynomials over two elements, modulo the generator. No condition of its own; it imports nothing of the program.
  Words of 32 bits as the program holds them, and how often one can be moved. No condition.
  Slices of integers that can be read, and lists of bytes. No condition of its own.
  Plain mathematics for the laws of package crc: the register moved over bytes, the document's long division, and that both are one; the way back. No condition of its own; it imports nothing of the program.
  The table of package crc as memory holds it, and what crc.More answers, called with whatever word and bytes. Condition: the table lies in memory as the program's text lays it; the bytes can be read.
  What crc.Sum answers, called with whatever parts. Condition: the table lies in memory as the program's text lays it; the parts can be read.
  Rows of integers in memory that a call made itself: what is read there, what a store leaves. No condition of its own.
  What crc.laid answers, and crc.overX and crc.Tail: a word's four bytes, the lowest first. No condition.
  Slices of bytes as strings. No condition of its own.
  What bytes.Equal and crc.Holds answer, called with whatever bytes. Condition: the table lies in memory as the program's text lays it; the bytes can be read, and are at most 2^47.
-/
import Derived.Test.YtokkhhekmebakaaGreatDoorRows
import Derived.WalkKit
import Derived.WalkSmall
import Derived.Laws.Bits64b
import Derived.WalkSpells
import Derived.Below
import Derived.Deep.Light
import Derived.Laws.CopyOwn
import Derived.Laws.BytesArg
import Derived.Deep.RegionHeld3
namespace Go.Proofs.YtokkhhekmebakaaGreatDoor.Cr
set_option linter.unusedVariables false

/-- A word as a polynomial: the highest bit is 1, the lowest x^31. -/
abbrev Wd := BitVec 32
/-- The generator, without x^32. -/
def gen : Wd := 0x82f63b78#32
def one : Wd := 0x80000000#32
/-- A word times x. -/
def tx (a : Wd) : Wd := if a.getLsbD 0 then (a >>> 1) ^^^ gen else a >>> 1
/-- A word times x^n. -/
def txn : Nat → Wd → Wd
  | 0, a => a
  | n + 1, a => tx (txn n a)
/-- Some rounds of a product: the coefficients of a from 1 on. -/
def ms : Nat → Wd → Wd → Wd → Wd
  | 0, _, _, s => s
  | k + 1, a, b, s => ms k (a <<< 1) (tx b) (if a.msb then s ^^^ b else s)
def mul (a b : Wd) : Wd := ms 32 a b 0

/-- Linear over two elements. -/
def Lin (f : Wd → Wd) : Prop := ∀ a b, f (a ^^^ b) = f a ^^^ f b

theorem xor4 (a b c d : Wd) : (a ^^^ b) ^^^ (c ^^^ d) = (a ^^^ c) ^^^ (b ^^^ d) := by
  rw [BitVec.xor_assoc, ← BitVec.xor_assoc b c d, BitVec.xor_comm b c, BitVec.xor_assoc c b d, ← BitVec.xor_assoc]

theorem tx_lin : Lin tx := by
  intro a b
  unfold tx
  rw [BitVec.getLsbD_xor, BitVec.ushiftRight_xor_distrib]
  cases a.getLsbD 0 <;> cases b.getLsbD 0 <;> simp
  · rw [BitVec.xor_assoc]
  · rw [BitVec.xor_assoc, BitVec.xor_comm (b >>> 1), BitVec.xor_assoc]
  · rw [xor4, BitVec.xor_self, BitVec.xor_zero]
theorem lin_zero {f : Wd → Wd} (h : Lin f) : f 0 = 0 := by
  have := h 0 0
  rw [BitVec.xor_self, BitVec.xor_self] at this
  exact this
theorem txn_lin (n : Nat) : Lin (txn n) := by
  induction n with
  | zero => intro a b; rfl
  | succ n ih => intro a b; show tx (txn n (a ^^^ b)) = _; rw [ih, tx_lin]; rfl
theorem txn_zero (n : Nat) : txn n 0 = 0 := lin_zero (txn_lin n)
theorem txn_add (m n : Nat) (a : Wd) : txn (m + n) a = txn m (txn n a) := by
  induction m with
  | zero => rw [Nat.zero_add]; rfl
  | succ m ih => rw [Nat.succ_add]; show tx (txn (m + n) a) = tx (txn m (txn n a)); rw [ih]
theorem txn_tx (n : Nat) (a : Wd) : txn n (tx a) = tx (txn n a) := by
  rw [show tx a = txn 1 a from rfl, ← txn_add, Nat.add_comm, txn_add]; rfl

theorem ms_acc (k : Nat) : ∀ a b s : Wd, ms k a b s = s ^^^ ms k a b 0 := by
  induction k with
  | zero => intro a b s; simp [ms]
  | succ k ih =>
    intro a b s
    unfold ms
    rw [ih (a <<< 1) (tx b) (if a.msb then s ^^^ b else s), ih (a <<< 1) (tx b) (if a.msb then 0 ^^^ b else 0)]
    cases a.msb
    · simp
    · simp [BitVec.xor_assoc]
theorem ms_lin_r (k : Nat) : ∀ a b c : Wd, ms k a (b ^^^ c) 0 = ms k a b 0 ^^^ ms k a c 0 := by
  induction k with
  | zero => intro a b c; simp [ms]
  | succ k ih =>
    intro a b c
    unfold ms
    rw [ms_acc, ms_acc k _ (tx b), ms_acc k _ (tx c), tx_lin, ih]
    cases a.msb
    · simp
    · simp only [if_true]; rw [show (0 : Wd) ^^^ (b ^^^ c) = b ^^^ c from BitVec.zero_xor, show (0 : Wd) ^^^ b = b from BitVec.zero_xor, show (0 : Wd) ^^^ c = c from BitVec.zero_xor, xor4]
theorem ms_lin_l (k : Nat) : ∀ a b c : Wd, ms k (a ^^^ b) c 0 = ms k a c 0 ^^^ ms k b c 0 := by
  induction k with
  | zero => intro a b c; simp [ms]
  | succ k ih =>
    intro a b c
    unfold ms
    rw [ms_acc, ms_acc k (a <<< 1), ms_acc k (b <<< 1), BitVec.shiftLeft_xor_distrib, ih, BitVec.msb_xor]
    cases a.msb <;> cases b.msb <;> simp
    · rw [← BitVec.xor_assoc, ← BitVec.xor_assoc, BitVec.xor_comm c]
    · rw [BitVec.xor_assoc]
    · rw [xor4, BitVec.xor_self, BitVec.zero_xor]
theorem ms_tx (k : Nat) : ∀ a b : Wd, ms k a (tx b) 0 = tx (ms k a b 0) := by
  induction k with
  | zero => intro a b; exact (lin_zero tx_lin).symm
  | succ k ih =>
    intro a b
    unfold ms
    rw [ms_acc, ms_acc k _ (tx b), tx_lin, ih (a <<< 1) (tx b)]
    cases a.msb
    · simp only [Bool.false_eq_true, if_false]; rw [lin_zero tx_lin]
    · simp
theorem ms_nil (k : Nat) : ∀ b s : Wd, ms k 0 b s = s := by
  induction k with
  | zero => intro b s; rfl
  | succ k ih => intro b s; unfold ms; rw [show (0 : Wd) <<< 1 = 0 from by decide, ih]; rfl

theorem mul_lin_r (a : Wd) : Lin (mul a) := fun b c => ms_lin_r 32 a b c
theorem mul_lin_l (b : Wd) : Lin (fun a => mul a b) := fun a c => ms_lin_l 32 a c b
theorem mul_tx (a b : Wd) : mul a (tx b) = tx (mul a b) := ms_tx 32 a b
theorem mul_txn (n : Nat) (a b : Wd) : mul a (txn n b) = txn n (mul a b) := by
  induction n with
  | zero => rfl
  | succ n ih => show mul a (tx (txn n b)) = tx (txn n (mul a b)); rw [mul_tx, ih]

/-- What is linear is known by its answers at the words with one bit. -/
theorem lin_ext {f g : Wd → Wd} (hf : Lin f) (hg : Lin g) (h : ∀ i, i < 32 → f (1#32 <<< i) = g (1#32 <<< i)) : ∀ a, f a = g a := by
  have key : ∀ k, k ≤ 32 → ∀ a : Wd, a.toNat < 2 ^ k → f a = g a := by
    intro k
    induction k with
    | zero =>
      intro _ a ha
      have : a = 0 := by apply BitVec.eq_of_toNat_eq; simp at ha ⊢; omega
      rw [this, lin_zero hf, lin_zero hg]
    | succ k ih =>
      intro hk a ha
      by_cases hb : a.toNat < 2 ^ k
      · exact ih (by omega) a hb
      · have e : a = (a ^^^ (1#32 <<< k)) ^^^ (1#32 <<< k) := by rw [BitVec.xor_assoc, BitVec.xor_self, BitVec.xor_zero]
        have hp : 2 ^ k < 2 ^ 32 := Nat.pow_lt_pow_right (by omega) (by omega)
        have h1 : (1#32 <<< k).toNat = 2 ^ k := by
          rw [BitVec.toNat_shiftLeft, Nat.shiftLeft_eq, show (1#32).toNat = 1 from rfl, Nat.one_mul]; exact Nat.mod_eq_of_lt hp
        have hl : (a ^^^ (1#32 <<< k)).toNat < 2 ^ k := by
          rw [BitVec.toNat_xor, h1]
          apply Nat.lt_of_not_le
          intro hle
          have hlt : a.toNat ^^^ 2 ^ k < 2 ^ (k + 1) := Nat.xor_lt_two_pow ha (by rw [Nat.pow_succ]; have := Nat.two_pow_pos k; omega)
          have t1 : (a.toNat ^^^ 2 ^ k).testBit k = true := by
            rw [Nat.testBit_eq_decide_div_mod_eq]
            have := Nat.two_pow_pos k
            have : (a.toNat ^^^ 2 ^ k) / 2 ^ k = 1 := by
              apply Nat.div_eq_of_lt_le <;> omega
            rw [this]; rfl
          have t2 : a.toNat.testBit k = true := by
            rw [Nat.testBit_eq_decide_div_mod_eq]
            have := Nat.two_pow_pos k
            have : a.toNat / 2 ^ k = 1 := by
              apply Nat.div_eq_of_lt_le <;> omega
            rw [this]; rfl
          rw [Nat.testBit_xor, t2, Nat.testBit_two_pow_self] at t1
          exact absurd t1 (by decide)
        rw [e, hf, hg, ih (by omega) _ hl, h k (by omega)]
  intro a
  exact key 32 (by omega) a a.isLt

theorem bit_pw : ∀ i, i < 32 → 1#32 <<< i = txn (31 - i) one := by decide +kernel
theorem mul_bit : ∀ i, i < 32 → ∀ b, mul (1#32 <<< i) b = txn (31 - i) b := by
  intro i hi
  refine lin_ext (mul_lin_r _) (txn_lin _) ?_
  revert i
  decide +kernel
theorem mul_comm (a b : Wd) : mul a b = mul b a := by
  refine lin_ext (f := fun a => mul a b) (g := mul b) (mul_lin_l b) (mul_lin_r b) ?_ a
  intro i hi
  show mul (1#32 <<< i) b = mul b (1#32 <<< i)
  rw [mul_bit i hi, bit_pw i hi, mul_txn]
  congr 1
  refine lin_ext (f := fun b => b) (g := fun b => mul b one) (fun _ _ => rfl) (mul_lin_l one) ?_ b
  intro j hj
  show 1#32 <<< j = mul (1#32 <<< j) one
  rw [mul_bit j hj, bit_pw j hj]
theorem mul_one (a : Wd) : mul a one = a := by
  rw [mul_comm]
  have := mul_bit 31 (by omega) a
  exact this
theorem one_mul (a : Wd) : mul one a = a := by rw [mul_comm, mul_one]
theorem txn_mul (n : Nat) (a b : Wd) : mul (txn n a) b = txn n (mul a b) := by
  rw [mul_comm, mul_txn, mul_comm]
theorem mul_assoc (a b c : Wd) : mul (mul a b) c = mul a (mul b c) := by
  refine lin_ext (f := fun a => mul (mul a b) c) (g := fun a => mul a (mul b c)) ?_ (mul_lin_l _) ?_ a
  · intro x y
    show mul (mul (x ^^^ y) b) c = mul (mul x b) c ^^^ mul (mul y b) c
    rw [show mul (x ^^^ y) b = mul x b ^^^ mul y b from mul_lin_l b x y]
    exact mul_lin_l c _ _
  · intro i hi
    show mul (mul (1#32 <<< i) b) c = mul (1#32 <<< i) (mul b c)
    rw [mul_bit i hi, mul_bit i hi, txn_mul]

/-- x^n. -/
def pw (n : Nat) : Wd := txn n one
theorem pw_add (m n : Nat) : mul (pw m) (pw n) = pw (m + n) := by
  unfold pw; rw [txn_mul, one_mul, txn_add]
theorem mul_pw (a : Wd) (n : Nat) : mul a (pw n) = txn n a := by
  unfold pw; rw [mul_txn, mul_one]
theorem pw_mul (a : Wd) (n : Nat) : mul (pw n) a = txn n a := by rw [mul_comm, mul_pw]

/-- A word's power. -/
def wpow (w : Wd) : Nat → Wd
  | 0 => one
  | n + 1 => mul w (wpow w n)
theorem wpow_pw (k n : Nat) : wpow (pw k) n = pw (k * n) := by
  induction n with
  | zero => rfl
  | succ n ih => unfold wpow; rw [ih, pw_add, Nat.mul_succ, Nat.add_comm]
theorem wpow_sq (w : Wd) (n : Nat) : wpow (mul w w) n = wpow w (2 * n) := by
  induction n with
  | zero => rfl
  | succ n ih =>
    rw [show 2 * (n + 1) = 2 * n + 1 + 1 from by omega]
    unfold wpow
    rw [ih, mul_assoc]
    rfl
theorem wpow_even (p w : Wd) (n : Nat) (h : n % 2 = 0) : mul p (wpow (mul w w) (n / 2)) = mul p (wpow w n) := by
  rw [wpow_sq, show 2 * (n / 2) = n from by omega]
theorem wpow_odd (p w : Wd) (n : Nat) (h : n % 2 = 1) : mul (mul p w) (wpow (mul w w) (n / 2)) = mul p (wpow w n) := by
  rw [wpow_sq, mul_assoc, show mul w (wpow w (2 * (n / 2))) = wpow w (2 * (n / 2) + 1) from rfl, show 2 * (n / 2) + 1 = n from by omega]

end Go.Proofs.YtokkhhekmebakaaGreatDoor.Cr
namespace Go.Proofs.YtokkhhekmebakaaGreatDoor.Cr
set_option linter.unusedVariables false
open Go.RowKit

/-- A word as the program's number. -/
def W (v : Wd) : Int := (v.toNat : Int)
theorem W_nn (v : Wd) : 0 ≤ W v := by unfold W; omega
theorem W_lt (v : Wd) : W v < 4294967296 := by have := v.isLt; unfold W; omega
theorem W_inj {a b : Wd} (h : W a = W b) : a = b := BitVec.eq_of_toNat_eq (by unfold W at h; omega)
theorem W_of (a : Int) (h0 : 0 ≤ a) (h1 : a < 4294967296) : ∃ v : Wd, a = W v := by
  refine ⟨BitVec.ofNat 32 a.toNat, ?_⟩
  unfold W; rw [BitVec.toNat_ofNat]; omega
theorem ret_int {k : IntKind} {a b : Int} (h : a = b) : Ending.returned (.int k a) = .returned (.int k b) := by rw [h]
theorem W_xor (a b : Wd) : bits .xor .u32 (W a) (W b) = W (a ^^^ b) := by
  have h := u32_xor (W a) (W b) (W_nn a) (W_lt a) (W_nn b) (W_lt b)
  rw [h]; unfold W; rw [BitVec.toNat_xor]; simp
theorem W_not (a : Wd) : bits .xor .u32 4294967295 (W a) = W (~~~ a) := by
  have : (4294967295 : Int) = W (BitVec.allOnes 32) := rfl
  rw [this, W_xor, BitVec.allOnes_xor]
theorem W_neg (a : Wd) : bits .xor .u32 IntKind.u32.max (W a) = W (~~~ a) := by
  rw [show IntKind.u32.max = 4294967295 from rfl, W_not]
theorem W_com (a : Wd) : bits .xor .u32 (if IntKind.u32.signed = true then -1 else IntKind.u32.max) (W a) = W (~~~ a) := W_neg a
theorem W_lit (a : Wd) (n : Int) (m : Wd) (h : n = W m) : bits .xor .u32 (W a) n = W (a ^^^ m) := by rw [h, W_xor]
theorem W_half (a : Wd) : W a / (2 : Int) = W (a >>> 1) := by
  unfold W; rw [BitVec.toNat_ushiftRight, Nat.shiftRight_eq_div_pow]; omega
theorem W_dbl (a : Wd) : W a * (2 : Int) % (4294967296 : Int) = W (a <<< 1) := by
  unfold W; rw [BitVec.toNat_shiftLeft, Nat.shiftLeft_eq]; omega
theorem W_zero (a : Wd) : (W a = 0) ↔ a = 0 := ⟨fun h => W_inj (b := 0) (by rw [h]; rfl), fun h => by rw [h]; rfl⟩
theorem nat_and_one (n : Nat) : n &&& 1 = n % 2 := Nat.and_one_is_mod n
theorem W_low (a : Wd) : bits .and .u32 (W a) 1 = (if a.getLsbD 0 then 1 else 0) := by
  have h := u32_and (W a) 1 (W_nn a) (W_lt a) (by decide) (by decide)
  rw [h]
  have e : (W a).toNat = a.toNat := by unfold W; simp
  rw [e, show (1 : Int).toNat = 1 from rfl, Nat.and_one_is_mod]
  have hb : a.getLsbD 0 = decide (a.toNat % 2 = 1) := by
    show a.toNat.testBit 0 = _
    rw [Nat.testBit_zero]
  rw [hb]
  rcases Nat.mod_two_eq_zero_or_one a.toNat with h | h <;> simp [h]
theorem W_top (a : Wd) : bits .and .u32 (W a) 2147483648 = (if a.msb then 2147483648 else 0) := by
  have h := u32_and (W a) 2147483648 (W_nn a) (W_lt a) (by decide) (by decide)
  rw [h]
  have e : (W a).toNat = a.toNat := by unfold W; simp
  have q : a.toNat &&& 2 ^ 31 = (a.toNat.testBit 31).toNat * 2 ^ 31 := by
    apply Nat.eq_of_testBit_eq
    intro i
    rw [Nat.testBit_and, Nat.testBit_two_pow]
    by_cases h : 31 = i
    · subst h; cases a.toNat.testBit 31 <;> decide
    · cases a.toNat.testBit 31 with
      | false => simp [h]
      | true => rw [show true.toNat * 2 ^ 31 = 2 ^ 31 from rfl, Nat.testBit_two_pow]; simp [h]
  rw [e, show (2147483648 : Int).toNat = 2 ^ 31 from rfl, q]
  have hb : a.msb = a.toNat.testBit 31 := BitVec.msb_eq_getLsbD_last a
  rw [hb]
  cases a.toNat.testBit 31 <;> rfl

theorem ofI_W (a : Wd) : BitVec.ofInt 32 (W a) = a := by unfold W; rw [BitVec.ofInt_natCast]; simp
theorem W_bit (a : Wd) (i : Nat) (h : i < 32) : bits .and .u32 (W a / (2 : Int) ^ i) 1 = (if a.getLsbD i then 1 else 0) := by
  have e : W a / (2 : Int) ^ i = W (a >>> i) := by
    unfold W; rw [BitVec.toNat_ushiftRight, Nat.shiftRight_eq_div_pow]
    rw [Int.natCast_ediv, Int.natCast_pow]; rfl
  rw [e, W_low, BitVec.getLsbD_ushiftRight]; rfl

/-- How often a word can be moved up until nothing is left. -/
def cnt : Nat → Wd → Nat
  | 0, _ => 0
  | k + 1, v => if v = 0 then 0 else 1 + cnt k (v <<< 1)
theorem cnt_end (k : Nat) : ∀ v : Wd, v <<< k = 0 → cnt (k + 1) v = cnt k v := by
  induction k with
  | zero => intro v h; have : v = 0 := by simpa using h
            rw [this]; rfl
  | succ k ih =>
    intro v h
    show (if v = 0 then 0 else 1 + cnt (k + 1) (v <<< 1)) = (if v = 0 then 0 else 1 + cnt k (v <<< 1))
    rw [ih (v <<< 1) (by rw [← BitVec.shiftLeft_add, Nat.add_comm]; exact h)]
theorem cnt_less (v : Wd) (h : v ≠ 0) : cnt 32 (v <<< 1) < cnt 32 v := by
  have e : cnt 32 (v <<< 1) = cnt 31 (v <<< 1) := cnt_end 31 _ (by rw [← BitVec.shiftLeft_add]; apply BitVec.eq_of_getLsbD_eq; intro i hi; simp)
  have e2 : cnt 32 v = 1 + cnt 31 (v <<< 1) := by show (if v = 0 then 0 else 1 + cnt 31 (v <<< 1)) = _; rw [if_neg h]
  omega

end Go.Proofs.YtokkhhekmebakaaGreatDoor.Cr
namespace Go.Proofs.YtokkhhekmebakaaGreatDoor.Cr
set_option linter.unusedVariables false
open Go.RowKit

def Bytes (xs : List Int) : Prop := ∀ i, i < xs.length → 0 ≤ xs[i]?.getD 0 ∧ xs[i]?.getD 0 < 256
theorem take_snoc (l : List Int) (k : Nat) (h : k < l.length) : l.take (k + 1) = l.take k ++ [l[k]?.getD 0] := by
  rw [List.take_succ_eq_append_getElem h]; simp [h]
theorem Bytes.mem {xs : List Int} (h : Bytes xs) : ∀ z ∈ xs, 0 ≤ z ∧ z < 256 := by
  intro z hz
  obtain ⟨i, hi, rfl⟩ := List.getElem_of_mem hz
  have := h i hi
  simpa [hi] using this
theorem bytes_of_mem {xs : List Int} (h : ∀ z ∈ xs, 0 ≤ z ∧ z < 256) : Bytes xs := by
  intro i hi
  have := h _ (List.getElem_mem hi)
  simpa [hi] using this
/-- A slice of integers of a kind that can be read: these are its elements. -/
def Seg (k : IntKind) (w : World) (a : Option Addr) (len : Nat) (xs : List Int) : Prop :=
  xs.length = len ∧ (len = 0 ∨ ∃ b off, a = some ⟨b, off, none⟩ ∧ b < w.heap.size ∧ ∀ i, i < len → w.cell? ⟨b, off + i, none⟩ = some (.int k (xs[i]?.getD 0)))
theorem Seg.below {k : IntKind} {w w' : World} {a : Option Addr} {len : Nat} {xs : List Int} (h : Seg k w a len xs) (hb : Below w.heap.size w w') : Seg k w' a len xs := by
  refine ⟨h.1, ?_⟩
  rcases h.2 with h0 | ⟨b, off, ha, hlt, hc⟩
  · exact .inl h0
  · have := hb.size
    exact .inr ⟨b, off, ha, by omega, fun i hi => (hb.cell (p := ⟨b, off + i, none⟩) hlt).trans (hc i hi)⟩

theorem Seg.keep {k : IntKind} {w w' : World} {B b : Nat} {len : Nat} {xs : List Int} (h : Seg k w (some ⟨b, 0, none⟩) len xs) (hb : Below B w w') (hlt : b < B) : Seg k w' (some ⟨b, 0, none⟩) len xs := by
  refine ⟨h.1, ?_⟩
  rcases h.2 with h0 | ⟨b', off, ha, hw, hc⟩
  · exact .inl h0
  · cases ha
    have := hb.size
    exact .inr ⟨b, 0, rfl, by omega, fun i hi => (hb.cell (p := ⟨b, 0 + i, none⟩) hlt).trans (hc i hi)⟩

theorem wf_u64 {n : Int} (h : (Lit.int .u64 n).wf = true) : 0 ≤ n ∧ n < 18446744073709551616 := by
  simp [Lit.wf, IntKind.min, IntKind.max, IntKind.signed, IntKind.bits] at h; omega
theorem wf_u8 {n : Int} (h : (Lit.int .u8 n).wf = true) : 0 ≤ n ∧ n < 256 := by
  simp [Lit.wf, IntKind.min, IntKind.max, IntKind.signed, IntKind.bits] at h; omega
/-- A slice that came in. -/
theorem seg_of_row {k : IntKind} {R : Nat} {w : World} {a : Option Addr} {len cap : Nat} {zs : List Int}
    (h : (a = none ∧ len = 0 ∧ cap = 0 ∧ zs = []) ∨
      ∃ x, a = some x ∧ len ≤ cap ∧ cap ≤ R ∧ zs.length = cap ∧ (∀ i, i < zs.length → w.cell? (x.add i) = some (.int k (zs.getD i 0))) ∧ ∀ n ∈ zs, (Lit.int k n).wf = true) :
    Seg k w a len (zs.take len) ∧ len ≤ cap ∧ cap ≤ R ∧ ∀ i, i < (zs.take len).length → (Lit.int k ((zs.take len)[i]?.getD 0)).wf = true := by
  rcases h with ⟨rfl, rfl, rfl, rfl⟩ | ⟨x, rfl, hl, hm, hz, hc, hw⟩
  · exact ⟨⟨rfl, .inl rfl⟩, Nat.le_refl _, Nat.zero_le _, fun i hi => by simp at hi⟩
  · refine ⟨⟨by simp; omega, ?_⟩, hl, hm, fun i hi => ?_⟩
    · by_cases h0 : len = 0
      · exact .inl h0
      · right
        obtain ⟨b, off, spot⟩ := x
        have hspot : spot = none := by simpa [Addr.add] using World.cell?_spot (hc 0 (by omega))
        subst hspot
        have hc0 : ∀ i, i < len → w.cell? ⟨b, off + i, none⟩ = some (.int k ((zs.take len)[i]?.getD 0)) := fun i hi => by
          have := hc i (by omega)
          rw [Go.WideShapes.add_plain] at this
          rw [this, List.getElem?_take_of_lt hi]; simp
        refine ⟨b, off, rfl, ?_, hc0⟩
        have := hc0 0 (by omega)
        rcases Nat.lt_or_ge b w.heap.size with h | h
        · exact h
        · simp [World.cell?, h] at this
    · have hi' : i < zs.length := by simp at hi; omega
      have hi2 : i < len := by simp at hi; omega
      rw [List.getElem?_take_of_lt hi2]
      exact hw _ (by simp [hi'])

/-- A slice that a literal makes. -/
theorem seg_new (w : World) (k : IntKind) (C : Array Value) (T : TypeId) (n : Nat) (xs : List Int) (hC : C = (xs.map (Value.int k)).toArray) (hn : n = xs.length) :
    Seg k (w.alloc (.cells C T)) (some ⟨w.heap.size, 0, none⟩) n xs := by
  subst hC hn
  refine ⟨rfl, .inr ⟨_, _, rfl, by simp, fun i hi => ?_⟩⟩
  rw [Nat.zero_add, World.cell?_alloc_new]
  simp [hi]

theorem seg_at (n0 : Nat) (w : World) (k : IntKind) (C : Array Value) (T : TypeId) (n : Nat) (xs : List Int) (h0 : n0 = w.heap.size) (hC : C = (xs.map (Value.int k)).toArray) (hn : n = xs.length) :
    Seg k (w.alloc (.cells C T)) (some ⟨n0, 0, none⟩) n xs := by
  subst h0; exact seg_new w k C T n xs hC hn

/-- The same, where the run-time has laid its mark behind (a constant string's bytes). -/
theorem seg_mark (n0 : Nat) (w : World) (k : IntKind) (C : Array Value) (T : TypeId) (fr : Nat × Nat) (n : Nat) (xs : List Int) (h0 : n0 = w.heap.size) (hC : C = (xs.map (Value.int k)).toArray) (hn : n = xs.length) :
    Seg k (w.alloc (.cells C T fr)) (some ⟨n0, 0, none⟩) n xs := by
  subst h0 hC hn
  refine ⟨rfl, .inr ⟨_, _, rfl, by simp, fun i hi => ?_⟩⟩
  rw [Nat.zero_add, World.cell?_alloc_mark]
  simp [hi]

end Go.Proofs.YtokkhhekmebakaaGreatDoor.Cr
namespace Go.Proofs.YtokkhhekmebakaaGreatDoor.Cr
set_option linter.unusedVariables false

/-- A byte as a word. -/
def wb (z : Int) : Wd := BitVec.ofInt 32 z
/-- The register moved over one byte. -/
def stp (r : Wd) (z : Int) : Wd := txn 8 (r ^^^ wb z)
/-- The register moved over bytes. -/
def reg (r : Wd) (l : List Int) : Wd := l.foldl stp r

theorem reg_nil (r : Wd) : reg r [] = r := rfl
theorem reg_cons (r : Wd) (z : Int) (l : List Int) : reg r (z :: l) = reg (stp r z) l := rfl
theorem reg_append (r : Wd) (l m : List Int) : reg r (l ++ m) = reg (reg r l) m := by
  unfold reg; rw [List.foldl_append]
theorem reg_snoc (r : Wd) (l : List Int) (z : Int) : reg r (l ++ [z]) = stp (reg r l) z := by
  rw [reg_append]; rfl
theorem reg_lin (l : List Int) : ∀ r s : Wd, reg (r ^^^ s) l = txn (8 * l.length) r ^^^ reg s l := by
  induction l with
  | nil => intro r s; rfl
  | cons z l ih =>
    intro r s
    rw [reg_cons, reg_cons]
    have e : stp (r ^^^ s) z = txn 8 r ^^^ stp s z := by
      unfold stp; rw [BitVec.xor_assoc, txn_lin]
    rw [e, ih, List.length_cons, ← txn_add]
    congr 2
theorem reg_zero (r : Wd) (l : List Int) : reg r l = txn (8 * l.length) r ^^^ reg 0 l := by
  have := reg_lin l r 0
  rw [show r ^^^ (0 : Wd) = r from BitVec.xor_zero] at this
  exact this

/-- What comes in when the low four bits leave. -/
def tabl : List Int := [0x00000000, 0x105ec76f, 0x20bd8ede, 0x30e349b1, 0x417b1dbc, 0x5125dad3, 0x61c69362, 0x7198540d, 0x82f63b78, 0x92a8fc17, 0xa24bb5a6, 0xb21572c9, 0xc38d26c4, 0xd3d3e1ab, 0xe330a81a, 0xf36e6f75]
def tab4 (n : Nat) : Wd := BitVec.ofInt 32 (tabl.getD n 0)
theorem tab4_is : ∀ n, n < 16 → txn 4 (BitVec.ofNat 32 n) = tab4 n := by decide +kernel
theorem tx_low (a : Wd) (h : a.getLsbD 0 = false) : tx a = a >>> 1 := by unfold tx; rw [h]; rfl
theorem txn_low (n : Nat) (a : Wd) (h : ∀ i, i < n → a.getLsbD i = false) : txn n a = a >>> n := by
  induction n with
  | zero => simp [txn]
  | succ n ih =>
    show tx (txn n a) = _
    rw [ih (fun i hi => h i (by omega)), tx_low]
    · rw [BitVec.shiftRight_add]
    · rw [BitVec.getLsbD_ushiftRight]; exact h (n + 0) (by omega)
theorem low_high (n : Nat) (r : Wd) : r = ((r >>> n) <<< n) ^^^ (r % (1#32 <<< n)) ∨ 32 ≤ n := by
  by_cases hn : 32 ≤ n
  · exact .inr hn
  left
  apply BitVec.eq_of_getLsbD_eq
  intro i hi
  have e : (r % (1#32 <<< n)).getLsbD i = (decide (i < n) && r.getLsbD i) := by
    have h1 : (1#32 <<< n).toNat = 2 ^ n := by
      rw [BitVec.toNat_shiftLeft, Nat.shiftLeft_eq, show (1#32).toNat = 1 from rfl, Nat.one_mul]
      exact Nat.mod_eq_of_lt (Nat.pow_lt_pow_right (by omega) (by omega))
    show (r % (1#32 <<< n)).toNat.testBit i = _
    rw [BitVec.toNat_umod, h1, Nat.testBit_mod_two_pow]; rfl
  rw [BitVec.getLsbD_xor, e, BitVec.getLsbD_shiftLeft, BitVec.getLsbD_ushiftRight]
  by_cases h : i < n
  · simp [h, hi]
  · simp [h, hi, show n + (i - n) = i from by omega]
theorem txn4 (r : Wd) : txn 4 r = (r >>> 4) ^^^ tab4 (r.toNat % 16) := by
  rcases low_high 4 r with h | h
  · rw [← tab4_is _ (Nat.mod_lt _ (by omega))]
    have e : r % (1#32 <<< 4) = BitVec.ofNat 32 (r.toNat % 16) := by
      apply BitVec.eq_of_toNat_eq
      rw [BitVec.toNat_umod, BitVec.toNat_ofNat]
      have : (1#32 <<< 4).toNat = 16 := by decide
      rw [this]; omega
    rw [e] at h
    have h2 : txn 4 ((r >>> 4) <<< 4) = r >>> 4 := by
      rw [txn_low 4 _ (by intro i hi; rw [BitVec.getLsbD_shiftLeft]; simp [hi])]
      apply BitVec.eq_of_toNat_eq
      have := r.isLt
      simp only [BitVec.toNat_ushiftRight, BitVec.toNat_shiftLeft, Nat.shiftRight_eq_div_pow, Nat.shiftLeft_eq]
      omega
    calc txn 4 r = txn 4 (((r >>> 4) <<< 4) ^^^ BitVec.ofNat 32 (r.toNat % 16)) := by rw [← h]
      _ = _ := by rw [txn_lin, h2]
  · omega

/-- Some rounds of the long division, over the bits of bytes. -/
def hz (zs : List Int) : Nat → Wd
  | 0 => 0
  | i + 1 => tx (hz zs i) ^^^ (if i < 8 * zs.length ∧ (zs.getD (i / 8) 0) / 2 ^ (i % 8) % 2 = 1 then one else 0)
/-- Some rounds over the bits of one byte. -/
def hy (z : Int) : Nat → Wd
  | 0 => 0
  | i + 1 => tx (hy z i) ^^^ (if z / 2 ^ i % 2 = 1 then one else 0)
theorem hz_succ (zs : List Int) (i : Nat) : hz zs (i + 1) = tx (hz zs i) ^^^ (if i < 8 * zs.length ∧ (zs.getD (i / 8) 0) / 2 ^ (i % 8) % 2 = 1 then one else 0) := rfl
theorem hy_is : ∀ n : Nat, n < 256 → hy n 8 = wb n <<< 24 := by decide +kernel
theorem wb_up : ∀ n : Nat, n < 256 → txn 32 (wb n <<< 24) = txn 8 (wb n) := by decide +kernel
theorem hz_byte (zs : List Int) (k : Nat) (hk : k < zs.length) : ∀ j, j ≤ 8 → hz zs (8 * k + j) = txn j (hz zs (8 * k)) ^^^ hy (zs.getD k 0) j := by
  intro j
  induction j with
  | zero => intro _; show _ = hz zs (8 * k) ^^^ 0; rw [show ∀ a : Wd, a ^^^ 0 = a from fun a => BitVec.xor_zero]; rfl
  | succ j ih =>
    intro hj
    rw [← Nat.add_assoc, hz_succ]
    show _ = tx (txn j (hz zs (8 * k))) ^^^ (tx (hy (zs.getD k 0) j) ^^^ _)
    rw [ih (by omega), tx_lin, BitVec.xor_assoc, show (8 * k + j) / 8 = k from by omega, show (8 * k + j) % 8 = j from by omega]
    have : (8 * k + j < 8 * zs.length) = True := by apply eq_true; omega
    simp only [this, true_and]
theorem hz_reg (zs : List Int) (hb : ∀ z ∈ zs, 0 ≤ z ∧ z < 256) : ∀ k, k ≤ zs.length → txn 32 (hz zs (8 * k)) = reg 0 (zs.take k) := by
  intro k
  induction k with
  | zero => intro _; exact txn_zero 32
  | succ k ih =>
    intro hk
    have hk' : k < zs.length := by omega
    have h1 := hz_byte zs k hk' 8 (by omega)
    rw [Nat.mul_succ, h1]
    have hg : zs.getD k 0 = zs[k] := by simp [List.getD, List.getElem?_eq_getElem hk']
    have hm := hb _ (List.getElem_mem hk')
    obtain ⟨n, hn⟩ := Int.eq_ofNat_of_zero_le hm.1
    have hn' : n < 256 := by omega
    rw [hg, hn, show ((n : Nat) : Int) = (n : Int) from rfl, hy_is n hn', txn_lin, wb_up n hn', ← txn_add, Nat.add_comm, txn_add, ih (by omega), List.take_succ_eq_append_getElem hk', reg_snoc, hn]
    unfold stp
    rw [txn_lin]
theorem hz_tail (zs : List Int) (j : Nat) : hz zs (8 * zs.length + j) = txn j (hz zs (8 * zs.length)) := by
  induction j with
  | zero => rfl
  | succ j ih =>
    rw [← Nat.add_assoc, hz_succ]
    show _ = tx (txn j (hz zs (8 * zs.length)))
    rw [ih, if_neg (by omega)]
    exact BitVec.xor_zero
/-- The long division answers what the register does. -/
theorem hz_end (zs : List Int) (hb : ∀ z ∈ zs, 0 ≤ z ∧ z < 256) : hz zs (8 * zs.length + 32) = reg 0 zs := by
  rw [hz_tail, hz_reg zs hb _ (Nat.le_refl _), List.take_length]

/-- What undoes a word times x. -/
def ux (w : Wd) : Wd := if w.msb then ((w ^^^ gen) <<< 1) ||| 1#32 else w <<< 1
def uxn : Nat → Wd → Wd
  | 0, a => a
  | n + 1, a => ux (uxn n a)
theorem tx_ux (w : Wd) : tx (ux w) = w := by
  unfold tx ux
  cases h : w.msb
  · simp only [Bool.false_eq_true, if_false]
    have : (w <<< 1).getLsbD 0 = false := by simp
    rw [this]
    simp only [Bool.false_eq_true, if_false]
    rw [BitVec.msb_eq_false_iff_two_mul_lt] at h
    apply BitVec.eq_of_toNat_eq
    simp only [BitVec.toNat_ushiftRight, BitVec.toNat_shiftLeft, Nat.shiftRight_eq_div_pow, Nat.shiftLeft_eq]
    omega
  · simp only [if_true]
    have h0 : (((w ^^^ gen) <<< 1) ||| 1#32).getLsbD 0 = true := by simp
    rw [h0]
    simp only [if_true]
    have hm : (w ^^^ gen).msb = false := by rw [BitVec.msb_xor, h]; decide
    have e : (((w ^^^ gen) <<< 1) ||| 1#32) >>> 1 = w ^^^ gen := by
      apply BitVec.eq_of_getLsbD_eq
      intro i hi
      rw [BitVec.getLsbD_ushiftRight, BitVec.getLsbD_or, BitVec.getLsbD_shiftLeft]
      by_cases h31 : i = 31
      · subst h31
        have : (w ^^^ gen).getLsbD 31 = false := by rw [← hm, BitVec.msb_eq_getLsbD_last]
        rw [this]; simp
      · have : (1#32).getLsbD (1 + i) = false := by
          rw [BitVec.getLsbD_one]; simp
        rw [this]
        simp [show 1 + i < 32 from by omega]
    rw [e, BitVec.xor_assoc, BitVec.xor_self]
    exact BitVec.xor_zero
theorem txn_uxn (n : Nat) (w : Wd) : txn n (uxn n w) = w := by
  induction n generalizing w with
  | zero => rfl
  | succ n ih =>
    show tx (txn n (ux (uxn n w))) = w
    rw [← txn_tx, tx_ux, ih]

/-- A word's four bytes, the lowest first. -/
def by4 (t : Wd) : List Int := [(t.toNat % 256 : Nat), (t.toNat / 256 % 256 : Nat), (t.toNat / 65536 % 256 : Nat), (t.toNat / 16777216 % 256 : Nat)]
theorem wb_nat (n : Nat) : wb (n : Int) = BitVec.ofNat 32 n := by unfold wb; rw [BitVec.ofInt_natCast]
theorem txn8_up (r : Wd) (v : Nat) (h : v < 2 ^ 32) : txn 8 (r ^^^ BitVec.ofNat 32 v) = txn 8 (r ^^^ BitVec.ofNat 32 (v % 256)) ^^^ BitVec.ofNat 32 (v / 256) := by
  have e : BitVec.ofNat 32 v = BitVec.ofNat 32 (v % 256) ^^^ (BitVec.ofNat 32 (v / 256) <<< 8) := by
    have := low_high 8 (BitVec.ofNat 32 v)
    rcases this with h1 | h1
    · have a : BitVec.ofNat 32 v >>> 8 = BitVec.ofNat 32 (v / 256) := by
        apply BitVec.eq_of_toNat_eq
        simp only [BitVec.toNat_ushiftRight, BitVec.toNat_ofNat, Nat.shiftRight_eq_div_pow]; omega
      have b : BitVec.ofNat 32 v % (1#32 <<< 8) = BitVec.ofNat 32 (v % 256) := by
        apply BitVec.eq_of_toNat_eq
        rw [BitVec.toNat_umod, BitVec.toNat_ofNat, BitVec.toNat_ofNat]
        have : (1#32 <<< 8).toNat = 256 := by decide
        rw [this]; omega
      rw [a, b, BitVec.xor_comm] at h1
      exact h1
    · omega
  rw [e, ← BitVec.xor_assoc, txn_lin 8 (r ^^^ _)]
  congr 1
  rw [txn_low 8 _ (by intro i hi; rw [BitVec.getLsbD_shiftLeft]; simp [hi])]
  apply BitVec.eq_of_toNat_eq
  simp only [BitVec.toNat_ushiftRight, BitVec.toNat_shiftLeft, BitVec.toNat_ofNat, Nat.shiftRight_eq_div_pow, Nat.shiftLeft_eq]
  omega
theorem reg_by4 (r t : Wd) : reg r (by4 t) = txn 32 (r ^^^ t) := by
  have ht := t.isLt
  have e : t = BitVec.ofNat 32 t.toNat := by simp
  have s1 := txn8_up r t.toNat ht
  have s2 := txn8_up (txn 8 (r ^^^ BitVec.ofNat 32 (t.toNat % 256))) (t.toNat / 256) (by omega)
  have s3 := txn8_up (txn 8 (txn 8 (r ^^^ BitVec.ofNat 32 (t.toNat % 256)) ^^^ BitVec.ofNat 32 (t.toNat / 256 % 256))) (t.toNat / 256 / 256) (by omega)
  have s4 := txn8_up (txn 8 (txn 8 (txn 8 (r ^^^ BitVec.ofNat 32 (t.toNat % 256)) ^^^ BitVec.ofNat 32 (t.toNat / 256 % 256)) ^^^ BitVec.ofNat 32 (t.toNat / 256 / 256 % 256))) (t.toNat / 256 / 256 / 256) (by omega)
  have z : t.toNat / 256 / 256 / 256 / 256 = 0 := by omega
  have lhs : reg r (by4 t) = txn 8 (txn 8 (txn 8 (txn 8 (r ^^^ BitVec.ofNat 32 (t.toNat % 256)) ^^^ BitVec.ofNat 32 (t.toNat / 256 % 256)) ^^^ BitVec.ofNat 32 (t.toNat / 256 / 256 % 256)) ^^^ BitVec.ofNat 32 (t.toNat / 256 / 256 / 256 % 256)) := by
    show stp (stp (stp (stp r _) _) _) _ = _
    unfold stp
    rw [wb_nat, wb_nat, wb_nat, wb_nat]
    rw [show t.toNat / 65536 = t.toNat / 256 / 256 from by omega, show t.toNat / 16777216 = t.toNat / 256 / 256 / 256 from by omega]
  rw [lhs]
  have q : txn 32 (r ^^^ t) = txn 8 (txn 8 (txn 8 (txn 8 (r ^^^ BitVec.ofNat 32 t.toNat)))) := by
    rw [← e, ← txn_add, ← txn_add, ← txn_add]
  rw [q, s1, s2, s3, s4, z]
  exact BitVec.xor_zero.symm

end Go.Proofs.YtokkhhekmebakaaGreatDoor.Cr
namespace Go.Proofs.YtokkhhekmebakaaGreatDoor.Cr
set_option linter.unusedVariables false
open Go.RowKit

/-- The table's cells. -/
def Tab (w : World) : Prop := ∀ i, i < 16 → w.cell? ⟨1, i, none⟩ = some (.int .u32 (tabl.getD i 0))
theorem Tab.pos {w : World} (h : Tab w) : 1 < w.heap.size := by
  have := h 0 (by omega)
  rcases Nat.lt_or_ge 1 w.heap.size with h | h
  · exact h
  · simp [World.cell?, Array.getElem?_eq_none h] at this
theorem Tab.below {w w' : World} (h : Tab w) (hb : Below w.heap.size w w') : Tab w' := fun i hi =>
  (hb.cell (p := ⟨1, i, none⟩) h.pos).trans (h i hi)
theorem tab_word : ∀ i, i < 16 → tabl.getD i 0 = W (tab4 i) := by decide +kernel
theorem Tab.cell {w : World} (h : Tab w) (r : Wd) : w.cell? ⟨1, (W r % (16 : Int)).toNat, none⟩ = some (.int .u32 (W (tab4 (r.toNat % 16)))) := by
  have e : (W r % (16 : Int)).toNat = r.toNat % 16 := by unfold W; omega
  rw [e, h _ (by omega), tab_word _ (by omega)]
theorem Tab.at {w : World} (h : Tab w) (r : Wd) : ∃ I : Int, (W r).tmod (16 : Int) = I ∧ 0 ≤ I ∧ I < 16 ∧ w.cell? ⟨1, I.toNat, none⟩ = some (.int .u32 (W (tab4 (r.toNat % 16)))) := by
  have e : (W r).tmod (16 : Int) = W r % 16 := Int.tmod_eq_emod_of_nonneg (W_nn r)
  exact ⟨W r % 16, e, by omega, by omega, h.cell r⟩
theorem W_sixteenth (a : Wd) : W a / (16 : Int) = W (a >>> 4) := by
  unfold W; rw [BitVec.toNat_ushiftRight, Nat.shiftRight_eq_div_pow]; omega
theorem W_byte (a : Wd) (z : Int) (h0 : 0 ≤ z) (h1 : z < 256) : bits .xor .u32 (W a) z = W (a ^^^ wb z) := by
  have e : z = W (wb z) := by
    obtain ⟨n, rfl⟩ := Int.eq_ofNat_of_zero_le h0
    unfold W
    rw [wb_nat, BitVec.toNat_ofNat]
    omega
  rw [e, W_xor, ← e]

theorem more_c (c : Wd) (a : Option Addr) (len cap : Nat) (xs : List Int) (w : World) (hseg : Seg .u8 w a len xs) (hx : Bytes xs) (ht : Tab w) (hl : len ≤ 1125899906842624) :
    Calls Tryz.prog 156 #[.int .u32 (W c), .slice a len cap] w fun e w' => e = .returned (.int .u32 (W (~~~ (reg (~~~ c) xs)))) ∧ w' = w := by
  obtain ⟨hlen, hseg⟩ := hseg
  have HL : Hid (xs.length = len) := hlen
  have hn := W_neg c
  go_enter Tryz.func156, Tryz.ntmps156
  go_wp2
  go_loop [5, 12] (fun r i => ∃ k : Nat, k ≤ len ∧ i = .int .i64 k ∧ r = .int .u32 (W (reg (~~~ c) (xs.take k)))) (fun _ i => len - (intOf i).toNat)
  case atStart => exact ⟨0, Nat.zero_le _, rfl, rfl⟩
  case round =>
    obtain ⟨k, hk, rfl, rfl⟩ := hrel
    by_cases hlt : k < len
    · obtain ⟨b, off, rfl, hbw, hc⟩ := hseg.resolve_left (by omega)
      have hcell := hc k hlt
      have hxk := hx k (by omega)
      have HS : Hid (reg (~~~ c) (xs.take (k + 1)) = stp (reg (~~~ c) (xs.take k)) (xs[k]?.getD 0)) := by
        rw [take_snoc xs k (by omega)]; exact reg_snoc _ _ _
      obtain ⟨R, hR⟩ : ∃ R, R = reg (~~~ c) (xs.take k) := ⟨_, rfl⟩
      rw [← hR] at HS ⊢
      obtain ⟨R1, hR1⟩ : ∃ R1, R1 = R ^^^ wb (xs[k]?.getD 0) := ⟨_, rfl⟩
      obtain ⟨R2, hR2⟩ : ∃ R2, R2 = txn 4 R1 := ⟨_, rfl⟩
      obtain ⟨R3, hR3⟩ : ∃ R3, R3 = txn 4 R2 := ⟨_, rfl⟩
      have hb1 := W_byte R (xs[k]?.getD 0) hxk.1 hxk.2
      rw [← hR1] at hb1
      obtain ⟨I1, hi1, hp1, hq1', hc1⟩ := ht.at R1
      obtain ⟨I2, hi2, hp2, hq2', hc2⟩ := ht.at R2
      have hx1 := W_xor (R1 >>> 4) (tab4 (R1.toNat % 16))
      have hx2 := W_xor (R2 >>> 4) (tab4 (R2.toNat % 16))
      rw [← txn4, ← hR2] at hx1
      rw [← txn4, ← hR3] at hx2
      have HE : Hid (stp R (xs[k]?.getD 0) = R3) := by
        show txn 8 (R ^^^ wb _) = R3
        rw [hR3, hR2, hR1, ← txn_add]
      have hq1 := W_sixteenth R1
      have hq2 := W_sixteenth R2
      obtain ⟨Q1, hQ1⟩ : ∃ Q, Q = R1 >>> 4 := ⟨_, rfl⟩
      obtain ⟨Q2, hQ2⟩ : ∃ Q, Q = R2 >>> 4 := ⟨_, rfl⟩
      obtain ⟨T1, hT1⟩ : ∃ Q, Q = tab4 (R1.toNat % 16) := ⟨_, rfl⟩
      obtain ⟨T2, hT2⟩ : ∃ Q, Q = tab4 (R2.toNat % 16) := ⟨_, rfl⟩
      rw [← hQ1] at hq1 hx1
      rw [← hQ2] at hq2 hx2
      rw [← hT1] at hx1 hc1
      rw [← hT2] at hx2 hc2
      clear hR hR1 hR2 hR3 hQ1 hQ2 hT1 hT2 hc hx hlen ht hseg hn
      go_wp2
      go_round
      case rel => exact ⟨k + 1, by omega, by go_num, congrArg (Value.int .u32) (by rw [HS.out, HE.out])⟩
      case measure => simp [intOf]; omega
    · have HK : Hid (xs.take k = xs) := by
        show xs.take k = xs
        exact List.take_of_length_le (by omega)
      have hm := W_neg (reg (~~~ c) xs)
      rw [HK.out]
      clear hseg hx hlen ht hn
      go_wp2
      go_ret
      exact ⟨rfl, rfl⟩

end Go.Proofs.YtokkhhekmebakaaGreatDoor.Cr
namespace Go.Proofs.YtokkhhekmebakaaGreatDoor.Cr
set_option linter.unusedVariables false
open Go.RowKit

/-- A slice of slices of bytes that can be read: these are its elements. -/
def Segs (w : World) (a : Option Addr) (n : Nat) (X : List (List Int)) : Prop :=
  X.length = n ∧ (n = 0 ∨ ∃ b off, a = some ⟨b, off, none⟩ ∧ b < w.heap.size ∧ ∀ i, i < n → ∃ pa pl pc, w.cell? ⟨b, off + i, none⟩ = some (.slice pa pl pc) ∧ Seg .u8 w pa pl (X[i]?.getD []) ∧ Bytes (X[i]?.getD []) ∧ pl ≤ 1125899906842624)
theorem Segs.below {w w' : World} {a : Option Addr} {n : Nat} {X : List (List Int)} (h : Segs w a n X) (hb : Below w.heap.size w w') : Segs w' a n X := by
  refine ⟨h.1, ?_⟩
  rcases h.2 with h0 | ⟨b, off, ha, hlt, hc⟩
  · exact .inl h0
  · have := hb.size
    refine .inr ⟨b, off, ha, by omega, fun i hi => ?_⟩
    obtain ⟨pa, pl, pc, h1, h2, h3⟩ := hc i hi
    exact ⟨pa, pl, pc, (hb.cell (p := ⟨b, off + i, none⟩) hlt).trans h1, h2.below hb, h3⟩
/-- A list of one part, that a call makes. -/
theorem segs_one {w : World} {a : Option Addr} {len cap : Nat} {xs : List Int} (T : TypeId) (h : Seg .u8 w a len xs) (hx : Bytes xs) (hl : len ≤ 1125899906842624) :
    Segs (w.alloc (.cells #[.slice a len cap] T)) (some ⟨w.heap.size, 0, none⟩) 1 [xs] := by
  refine ⟨rfl, .inr ⟨_, _, rfl, by simp, fun i hi => ?_⟩⟩
  obtain rfl : i = 0 := by omega
  refine ⟨a, len, cap, ?_, ?_, hx, hl⟩
  · rw [World.cell?_alloc_new]; rfl
  · exact h.below ((Below.refl _ _).alloc (Nat.le_refl _) _)
theorem segs_at {w : World} {a : Option Addr} {len cap : Nat} {xs : List Int} (n0 : Nat) (T : TypeId) (h0 : n0 = w.heap.size) (h : Seg .u8 w a len xs) (hx : Bytes xs) (hl : len ≤ 1125899906842624) :
    Segs (w.alloc (.cells #[.slice a len cap] T)) (some ⟨n0, 0, none⟩) 1 [xs] := by
  subst h0; exact segs_one T h hx hl
theorem segs_nil (w : World) (a : Option Addr) : Segs w a 0 [] := ⟨rfl, .inl rfl⟩

def ones : Wd := BitVec.allOnes 32
/-- The sum of bytes. -/
def sum (xs : List Int) : Wd := ~~~ (reg ones xs)

theorem flat_snoc (X : List (List Int)) (k : Nat) (h : k < X.length) : (X.take (k + 1)).flatten = (X.take k).flatten ++ X[k]?.getD [] := by
  rw [List.take_succ_eq_append_getElem h, List.flatten_append]; simp [h]

theorem sum_c (a : Option Addr) (n cap : Nat) (X : List (List Int)) (w : World) (hseg : Segs w a n X) (ht : Tab w) (hn : n ≤ 1125899906842624) :
    Calls Tryz.prog 104 #[.slice a n cap] w fun e w' => e = .returned (.int .u32 (W (sum X.flatten))) ∧ w' = w := by
  obtain ⟨hlen, hseg⟩ := hseg
  have HL : Hid (X.length = n) := hlen
  have HT : Hid (Tab w) := ht
  clear ht
  go_enter Tryz.func104, Tryz.ntmps104
  go_wp2
  go_loop [3, 8] (fun r i => ∃ k : Nat, k ≤ n ∧ i = .int .i64 k ∧ r = .int .u32 (W (sum (X.take k).flatten))) (fun _ i => n - (intOf i).toNat)
  case atStart => exact ⟨0, Nat.zero_le _, rfl, congrArg (Value.int .u32) (show (0 : Int) = W (~~~ ones) by decide +kernel)⟩
  case round =>
    obtain ⟨k, hk, rfl, rfl⟩ := hrel
    by_cases hlt : k < n
    · obtain ⟨b, off, rfl, hbw, hc⟩ := hseg.resolve_left (by omega)
      obtain ⟨pa, pl, pc, hcell, h2, h3, h4⟩ := hc k hlt
      have HC := more_c (sum (X.take k).flatten) pa pl pc _ w h2 h3 HT.out h4
      have e : ~~~ (reg (~~~ (sum (X.take k).flatten)) (X[k]?.getD [])) = sum (X.take (k + 1)).flatten := by
        unfold sum
        rw [BitVec.not_not, flat_snoc X k (by omega), reg_append]
      rw [e] at HC
      replace HC : Hid _ := HC
      clear hc h2 h3 e hlen
      go_wp2_with (go_at_call 156; go_must (refine Calls.mono HC.out ?_); rintro e w' ⟨rfl, rfl⟩)
      go_round
      case rel => exact ⟨k + 1, by omega, by go_num, rfl⟩
      case measure => simp [intOf]; omega
    · have HK : Hid (X.take k = X) := by
        show X.take k = X
        exact List.take_of_length_le (by omega)
      rw [HK.out]
      clear hseg hlen
      go_wp2
      go_ret
      exact ⟨rfl, rfl⟩

end Go.Proofs.YtokkhhekmebakaaGreatDoor.Cr
namespace Go.Proofs.YtokkhhekmebakaaGreatDoor.Cr
open Go.RowKit
set_option linter.unusedVariables false

/-- Block g holds these integers, and nothing else. -/
def Row (k : IntKind) (T : TypeId) (w : World) (g : Nat) (xs : List Int) : Prop := w.heap[g]? = some (.cells (xs.map (Value.int k)).toArray T (0, 0))
theorem Row.lt {k T w g xs} (h : Row k T w g xs) : g < w.heap.size := lt_of_block h
theorem Row.cell {k T w g xs} (h : Row k T w g xs) (i : Nat) (hi : i < xs.length) : w.cell? ⟨g, i, none⟩ = some (.int k (xs[i]?.getD 0)) := by
  rw [cell_of_row w g i _ T (0, 0) h]; simp [hi]
theorem Row.free {k T w g xs} (h : Row k T w g xs) (i : Nat) : w.frozen? ⟨g, i, none⟩ = false := frozen_of_row w g i _ T h
theorem Row.set {k T w g xs} (h : Row k T w g xs) (i : Nat) (v : Int) : Row k T (w.setCell ⟨g, i, none⟩ (.int k v)) g (xs.set i v) := by
  unfold Row
  rw [heap_setCell_same w g i _ T _ h]; simp [List.map_set]
theorem Row.below {k T w w' g xs B} (h : Row k T w g xs) (hb : Below B w w') (hg : g < B) : Row k T w' g xs := (hb.block g hg).trans h
theorem Row.seg {k T w g xs} (h : Row k T w g xs) (len : Nat) (hl : len ≤ xs.length) : Seg k w (some ⟨g, 0, none⟩) len (xs.take len) := by
  refine ⟨by simp; omega, .inr ⟨g, 0, rfl, h.lt, fun i hi => ?_⟩⟩
  rw [Nat.zero_add, h.cell i (by omega), List.getElem?_take_of_lt hi]
theorem Row.segAll {k T w g xs} (h : Row k T w g xs) (len : Nat) (hl : len = xs.length) : Seg k w (some ⟨g, 0, none⟩) len xs := by
  have := h.seg len (by omega)
  rw [hl, List.take_length] at this
  rw [hl]; exact this
theorem Row.drewN {k T w g xs} (h : Row k T w g xs) (n : Nat) : Row k T (w.drewN n) g xs := by
  unfold Row
  rw [show (w.drewN n).heap = w.heap from by simp]
  exact h
/-- A row that 'make' has made. -/
theorem row_of_own {k T w base g n} {L : List Value} (xs : List Int) (h : w.ownsRow base T 1 (.slice (some ⟨g, 0, none⟩) n n) n L) (hL : L = xs.map (Value.int k)) : Row k T w g xs := by
  rcases h.2 with ⟨h', _⟩ | ⟨g', cap', cur, h', _, hg, _, _, hs, htake⟩
  · simp at h'
  · simp only [Value.slice.injEq, Option.some.injEq, Addr.mk.injEq, and_true, true_and] at h'
    obtain ⟨rfl, rfl⟩ := h'
    unfold Row
    rw [List.take_of_length_le (by rw [Array.length_toList, hs]; exact Nat.le_refl _)] at htake
    rw [hg, ← hL, ← htake]

theorem Tryz.infoU8 : (Tryz.prog.info? 5).map (fun i => (i.zero, i.size, i.bytes)) = some (some (.int .u8 0), 1, 1) := by kernel_rfl

/-- The elements of a slice, as cells. -/
theorem seg_news' {k : IntKind} {w : World} {a : Option Addr} {m : Nat} {ys : List Int} (h : Seg k w a m ys) (ad : Addr) (ha : a = some ad) : ∀ j u, (ys.map (Value.int k))[j]? = some u → w.cell? (ad.add j) = some u := by
  intro j u hj
  have hjl : j < ys.length := by
    rcases Nat.lt_or_ge j ys.length with h' | h'
    · exact h'
    · rw [List.getElem?_eq_none (by simpa using h')] at hj; cases hj
  rcases h.2 with h0 | ⟨b, off, hb, _, hc⟩
  · rw [h.1] at hjl; omega
  · rw [hb] at ha; cases ha
    rw [Go.WideShapes.add_plain, hc j (by rw [← h.1]; exact hjl), ← hj]
    simp [hjl]
end Go.Proofs.YtokkhhekmebakaaGreatDoor.Cr
namespace Go.Proofs.YtokkhhekmebakaaGreatDoor.Cr
set_option linter.unusedVariables false
open Go.RowKit

/-- A word's bytes as an array. -/
def arr4 (t : Wd) : Value := .agg ((by4 t).map (Value.int .u8)).toArray

theorem arr4_is (t : Wd) (V : Int) (h : V = W t) : arr4 t = .agg #[.int .u8 (V % 256), .int .u8 (V / 256 % 256), .int .u8 (V / 65536 % 256), .int .u8 (V / 16777216)] := by
  have e : ∀ a b c d a' b' c' d' : Int, a = a' → b = b' → c = c' → d = d' → Value.agg #[.int .u8 a, .int .u8 b, .int .u8 c, .int .u8 d] = Value.agg #[.int .u8 a', .int .u8 b', .int .u8 c', .int .u8 d'] := by
    rintro _ _ _ _ _ _ _ _ rfl rfl rfl rfl; rfl
  have := t.isLt
  subst h
  exact e _ _ _ _ _ _ _ _ (by unfold W; omega) (by unfold W; omega) (by unfold W; omega) (by unfold W; omega)
theorem arr4_ex (t : Wd) : ∃ b0 b1 b2 b3 : Int, arr4 t = .agg #[.int .u8 b0, .int .u8 b1, .int .u8 b2, .int .u8 b3] ∧ by4 t = [b0, b1, b2, b3] := ⟨_, _, _, _, rfl, rfl⟩
theorem by4_bytes (t : Wd) : ∀ z ∈ by4 t, 0 ≤ z ∧ z < 256 := by
  intro z hz
  unfold by4 at hz
  simp only [List.mem_cons, List.not_mem_nil, or_false] at hz
  rcases hz with rfl | rfl | rfl | rfl <;> omega
/-- A new variable of four bytes, as a call that made memory of its own behind it leaves it. -/
theorem var4 {w w2 : World} {C : Array Value} {T : TypeId} (h : Below (w.alloc (.cells C T)).heap.size (w.alloc (.cells C T)) w2) (hC : C = #[.int .u8 0, .int .u8 0, .int .u8 0, .int .u8 0]) :
    ∀ i, i < 4 → w2.cell? ⟨w.heap.size, i, none⟩ = some (.int .u8 0) ∧ w2.frozen? ⟨w.heap.size, i, none⟩ = false := by
  intro i hi
  subst hC
  refine ⟨?_, ?_⟩
  · rw [h.cell (by simp), World.cell?_alloc_new]
    match i, hi with
    | 0, _ => rfl
    | 1, _ => rfl
    | 2, _ => rfl
    | 3, _ => rfl
  · rw [h.frozen (by simp)]
    have hb : (w.alloc (.cells #[.int .u8 0, .int .u8 0, .int .u8 0, .int .u8 0] T)).heap[w.heap.size]? = some (.cells #[.int .u8 0, .int .u8 0, .int .u8 0, .int .u8 0] T (0, 0)) := by
      show (w.heap.push _)[w.heap.size]? = _
      rw [Array.getElem?_push, if_pos rfl]
    exact frozen_of_row _ _ i _ T hb
theorem laid_c (t : Wd) (w : World) :
    Calls Tryz.prog 103 #[.int .u32 (W t)] w fun e w' => e = .returned (arr4 t) ∧ Below w.heap.size w w' := by
  obtain ⟨V, hV⟩ : ∃ V : Int, V = W t := ⟨_, rfl⟩
  have h0 := W_nn t
  have h1 := W_lt t
  rw [← hV] at h0 h1 ⊢
  have HV : Hid (V = W t) := hV
  clear hV
  go_enter Tryz.func103, Tryz.ntmps103
  go_wp2
  refine bodyPost_ret (v := .agg #[.int .u8 (V % 256), .int .u8 (V / 256 % 256), .int .u8 (V / 65536 % 256), .int .u8 (V / 16777216)]) (by simp [results, Tryz.results103, go_sem]) rfl ⟨?_, (Below.refl _ _).alloc (Nat.le_refl _) _⟩
  rw [arr4_is t V HV.out]

end Go.Proofs.YtokkhhekmebakaaGreatDoor.Cr
namespace Go.Proofs.YtokkhhekmebakaaGreatDoor.Cr
open Go.RowKit
set_option linter.unusedVariables false

/-- A slice of bytes as a string. -/
theorem seg_string {P : Program} {w : World} {a : Option Addr} {len : Nat} {xs : List Int} (src dst e : TypeId) (cap : Nat) (h : Seg .u8 w a len xs) (hs : P.underlying src = some (.slice e)) (he : P.underlying e = some (.int .u8)) (hd : P.underlying dst = some .string) :
    (convert src dst (.slice a len cap)).run P w = .ok (.string (strOfNums xs)) w := by
  rcases h.2 with rfl | ⟨b, off, rfl, _, hc⟩
  · obtain rfl : xs = [] := List.eq_nil_of_length_eq_zero h.1
    cases a with
    | none => exact run_convert_bytes_nil w src e hs he 0 cap dst hd
    | some ad =>
      rw [run_convert_bytes_string w src dst e _ 0 cap hs he hd, run_bytesToString w ad 0 cap [] (run_loadCells_list (P := P) w ad [] (fun j v hj => by simp at hj))]
      rfl
  · exact run_convert_bytes_arg w src e hs he b off len cap xs h.1 (fun i hi => by rw [hc i hi]; simp) dst hd
theorem strOfNums_inj {xs ys : List Int} (hx : Bytes xs) (hy : Bytes ys) (h : strOfNums xs = strOfNums ys) : xs = ys := by
  have h1 : xs.map (fun n => UInt8.ofNat n.toNat) = ys.map (fun n => UInt8.ofNat n.toNat) := by
    rw [← strOfNums_data, ← strOfNums_data, h]
  have hl : xs.length = ys.length := by simpa using congrArg List.length h1
  apply List.ext_getElem hl
  intro i i1 i2
  have h2 := congrArg (fun l => l[i]?) h1
  simp [i1, i2] at h2
  have a := hx i i1
  have b := hy i i2
  simp [i1] at a
  simp [i2] at b
  have h3 := congrArg UInt8.toNat h2
  simp [UInt8.toNat_ofNat'] at h3
  omega
theorem str_eq {xs ys : List Int} (hx : Bytes xs) (hy : Bytes ys) : ((strOfNums xs).toList == (strOfNums ys).toList) = decide (xs = ys) := by
  by_cases h : xs = ys
  · subst h; simp
  · have : (strOfNums xs).toList ≠ (strOfNums ys).toList := fun e => h (strOfNums_inj hx hy (by
      rw [ByteArray.toList_eq, ByteArray.toList_eq] at e
      exact Go.WideShapes.bytes_inj e))
    simp [h, this]

end Go.Proofs.YtokkhhekmebakaaGreatDoor.Cr
namespace Go.Proofs.YtokkhhekmebakaaGreatDoor.Cr
set_option linter.unusedVariables false
open Go.RowKit

theorem beq_c (a b : Option Addr) (la ca lb cb : Nat) (xs ys : List Int) (w : World) (h1 : Seg .u8 w a la xs) (h2 : Seg .u8 w b lb ys) (hx : Bytes xs) (hy : Bytes ys) :
    Calls Tryz.prog 158 #[.slice a la ca, .slice b lb cb] w fun e w' => e = .returned (.bool (decide (xs = ys))) ∧ w' = w := by
  have r1 := seg_string (P := Tryz.prog) 56 9 5 ca h1 Tryz.underlying56 Tryz.underlying5 Tryz.underlying9
  have r2 := seg_string (P := Tryz.prog) 56 9 5 cb h2 Tryz.underlying56 Tryz.underlying5 Tryz.underlying9
  have HE : Hid (((strOfNums xs).toList == (strOfNums ys).toList) = decide (xs = ys)) := str_eq hx hy
  clear h1 h2 hx hy
  go_enter Tryz.func158, Tryz.ntmps158
  go_wp2
  go_ret
  exact ⟨by rw [← HE.out]; rfl, rfl⟩

/-- Do bytes end with the sum of those ahead? -/
def holds (xs : List Int) : Bool := decide (4 ≤ xs.length ∧ xs.drop (xs.length - 4) = by4 (sum (xs.take (xs.length - 4))))
theorem Seg.take {w : World} {a : Option Addr} {len : Nat} {xs : List Int} (h : Seg .u8 w a len xs) (n : Nat) (hn : n ≤ len) : Seg .u8 w a n (xs.take n) := by
  refine ⟨by have := h.1; simp; omega, ?_⟩
  rcases h.2 with h0 | ⟨b, off, ha, hw, hc⟩
  · left; omega
  · exact .inr ⟨b, off, ha, hw, fun i hi => by rw [hc i (by omega), List.getElem?_take_of_lt hi]⟩
theorem Seg.drop {w : World} {b off : Nat} {len : Nat} {xs : List Int} (h : Seg .u8 w (some ⟨b, off, none⟩) len xs) (n : Nat) (hn : n ≤ len) (h0 : 0 < len) : Seg .u8 w (some ⟨b, off + n, none⟩) (len - n) (xs.drop n) := by
  refine ⟨by have := h.1; simp; omega, ?_⟩
  rcases h.2 with h0 | ⟨b', off', ha, hw, hc⟩
  · omega
  · cases ha
    exact .inr ⟨b, off + n, rfl, hw, fun i hi => by rw [show off + n + i = off + (n + i) from by omega, hc (n + i) (by omega), List.getElem?_drop]⟩
theorem Bytes.take {xs : List Int} (h : Bytes xs) (n : Nat) : Bytes (xs.take n) := bytes_of_mem fun z hz => h.mem z (List.mem_of_mem_take hz)
theorem Bytes.drop {xs : List Int} (h : Bytes xs) (n : Nat) : Bytes (xs.drop n) := bytes_of_mem fun z hz => h.mem z (List.mem_of_mem_drop hz)

theorem Seg.held {w w3 wr : World} {a : Option Addr} {len : Nat} {xs : List Int} (h : Seg .u8 w a len xs) (hw : Below w.heap.size w w3) (hh : Hid (Below w3.heap.size w3 wr)) : Seg .u8 wr a len xs := h.below (hw.trans (hh.out.mono hw.size))

set_option maxHeartbeats 1000000 in
theorem holds_c (a : Option Addr) (len cap : Nat) (xs : List Int) (w : World) (hlc : len ≤ cap) (hs : Seg .u8 w a len xs) (hx : Bytes xs) (hl : len ≤ 140737488355328) (ht : Tab w) :
    Calls Tryz.prog 107 #[.slice a len cap] w fun e w' => e = .returned (.bool (holds xs)) ∧ Below w.heap.size w w' := by
  have HLN : Hid (xs.length = len) := hs.1
  by_cases h4 : len < 4
  · have HF : Hid (holds xs = false) := by
      show holds xs = false
      unfold holds
      rw [HLN.out]
      exact decide_eq_false (by omega)
    clear hs
    go_enter Tryz.func107, Tryz.ntmps107
    go_wp2
    go_ret
    rw [HF.out]
    exact ⟨rfl, Below.refl _ _⟩
  · obtain ⟨b, off, rfl, hseg2⟩ := hs.2.resolve_left (by omega)
    obtain ⟨n, hn⟩ : ∃ n, len = n + 4 := ⟨len - 4, by omega⟩
    have HF : Hid (holds xs = decide (xs.drop n = by4 (sum (xs.take n)))) := by
      show _ = _
      unfold holds
      rw [HLN.out, hn]
      simp
    have HS1 : Hid (Seg .u8 w (some ⟨b, off, none⟩) n (xs.take n)) := hs.take n (by omega)
    have HS2 : Hid (Seg .u8 w (some ⟨b, off + n, none⟩) 4 (xs.drop n)) := by
      have := hs.drop n (by omega) (by omega)
      rw [show len - n = 4 from by omega] at this; exact this
    have HX1 : Hid (Bytes (xs.take n)) := hx.take n
    have HX2 : Hid (Bytes (xs.drop n)) := hx.drop n
    have HT : Hid (Tab w) := ht
    obtain ⟨ys, hys⟩ : ∃ ys, ys = xs.take n := ⟨_, rfl⟩
    rw [← hys] at HF HS1 HX1
    obtain ⟨b0, b1, b2, b3, hA, hB⟩ := arr4_ex (sum ys)
    have HB4 : Hid (Bytes [b0, b1, b2, b3]) := by rw [← hB]; exact bytes_of_mem (by4_bytes _)
    rw [hB] at HF
    replace hA : Hid _ := hA
    subst hn
    clear hs hx hys hB h4 HLN ht hseg2
    go_enter Tryz.func107, Tryz.ntmps107
    go_wp2_with (first
      | (go_at_call 104; refine (sum_c _ 1 1 [ys] _ ?_ (HT.out.below ((Below.refl _ _).alloc (Nat.le_refl _) _)) (by omega)).mono ?_; exact segs_at _ _ rfl HS1.out HX1.out (by omega); rintro e w1 ⟨rfl, rfl⟩; rw [show [ys].flatten = ys from by simp])
      | (go_at_call 103; go_must (refine (laid_c _ _).mono ?_); rintro e w2 ⟨rfl, hb2⟩; rw [hA.out]; replace hb2 : Hid _ := hb2))
    have HW : Hid (Below w.heap.size w (w2.alloc (Obj.cells #[.int .u8 b0, .int .u8 b1, .int .u8 b2, .int .u8 b3] 178))) := by
      have h1 : Below w.heap.size w w2 := ((Below.refl _ _).alloc (Nat.le_refl _) _).trans (hb2.out.mono (by simp))
      exact h1.alloc h1.size _
    have HG : Hid (Seg .u8 (w2.alloc (Obj.cells #[.int .u8 b0, .int .u8 b1, .int .u8 b2, .int .u8 b3] 178)) (some ⟨w2.heap.size, 0, none⟩) 4 [b0, b1, b2, b3]) := seg_new w2 .u8 _ 178 4 [b0, b1, b2, b3] rfl rfl
    clear hb2
    generalize (w2.alloc (Obj.cells #[.int .u8 b0, .int .u8 b1, .int .u8 b2, .int .u8 b3] 178)) = w3 at HW HG ⊢
    generalize w2.heap.size = g at HG ⊢
    have hS : Hid (Below w3.heap.size w3 w3) := Below.refl _ _
    have hSd : Hid (Below w3.heap.size w3 w3.drew) := (Below.refl _ _).drew
    have i1 : (0 : Int) ≤ (n : Int) := by omega
    have i2 : (n : Int) ≤ ((n + 4 : Nat) : Int) := by omega
    have i3 : n + 4 - n = 4 := by omega
    have i4 : ¬ cap = n := by omega
    have i5 : (n : Int) ≤ (n : Int) + 4 := by omega
    have i6 : (n : Int) + 4 ≤ (cap : Int) := by omega
    go_region_held3 (fun wr => Hid (Below w3.heap.size w3 wr)) (assumption) (first
      | (go_at_call 158; refine (beq_c _ _ _ _ _ _ (xs.drop n) [b0, b1, b2, b3] _ (HS2.out.held HW.out (by assumption)) (HG.out.held (Below.refl _ _) (by assumption)) HX2.out HB4.out).mono ?_; rintro e w5 ⟨rfl, rfl⟩; rw [← HF.out]))
    go_wp2
    go_ret
    exact ⟨rfl, HW.out.drew⟩

end Go.Proofs.YtokkhhekmebakaaGreatDoor.Cr
