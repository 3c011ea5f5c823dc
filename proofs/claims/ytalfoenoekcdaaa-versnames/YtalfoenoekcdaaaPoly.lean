/-
  Plain mathematics for the laws of package crc: words of 32 bits as polynomials over two elements, modulo the generator. No condition of its own; it imports nothing of the program.
-/
namespace Go.Proofs.Ytalfoenoekcdaaa
set_option linter.unusedVariables false

/-- A word as a polynomial: the highest bit is 1, the lowest x^31. -/
abbrev Wd := BitVec 32
/-- The generator, without x^32. -/
def gen : Wd := 0x82f63b78#32
def one : Wd := 0x80000000#32
/-- A word times x. -/
def tx (a : Wd) : Wd := if a.getLsbD 0 then (a >>> 1) ^^^ gen else a >>> 1
/-- A word times x^n. -/
def txn : Nat → Wd → Wd
  | 0, a => a
  | n + 1, a => tx (txn n a)
/-- Some rounds of a product: the coefficients of a from 1 on. -/
def ms : Nat → Wd → Wd → Wd → Wd
  | 0, _, _, s => s
  | k + 1, a, b, s => ms k (a <<< 1) (tx b) (if a.msb then s ^^^ b else s)
def mul (a b : Wd) : Wd := ms 32 a b 0

/-- Linear over two elements. -/
def Lin (f : Wd → Wd) : Prop := ∀ a b, f (a ^^^ b) = f a ^^^ f b

theorem xor4 (a b c d : Wd) : (a ^^^ b) ^^^ (c ^^^ d) = (a ^^^ c) ^^^ (b ^^^ d) := by
  rw [BitVec.xor_assoc, ← BitVec.xor_assoc b c d, BitVec.xor_comm b c, BitVec.xor_assoc c b d, ← BitVec.xor_assoc]

theorem tx_lin : Lin tx := by
  intro a b
  unfold tx
  rw [BitVec.getLsbD_xor, BitVec.ushiftRight_xor_distrib]
  cases a.getLsbD 0 <;> cases b.getLsbD 0 <;> simp
  · rw [BitVec.xor_assoc]
  · rw [BitVec.xor_assoc, BitVec.xor_comm (b >>> 1), BitVec.xor_assoc]
  · rw [xor4, BitVec.xor_self, BitVec.xor_zero]
theorem lin_zero {f : Wd → Wd} (h : Lin f) : f 0 = 0 := by
  have := h 0 0
  rw [BitVec.xor_self, BitVec.xor_self] at this
  exact this
theorem txn_lin (n : Nat) : Lin (txn n) := by
  induction n with
  | zero => intro a b; rfl
  | succ n ih => intro a b; show tx (txn n (a ^^^ b)) = _; rw [ih, tx_lin]; rfl
theorem txn_zero (n : Nat) : txn n 0 = 0 := lin_zero (txn_lin n)
theorem txn_add (m n : Nat) (a : Wd) : txn (m + n) a = txn m (txn n a) := by
  induction m with
  | zero => rw [Nat.zero_add]; rfl
  | succ m ih => rw [Nat.succ_add]; show tx (txn (m + n) a) = tx (txn m (txn n a)); rw [ih]
theorem txn_tx (n : Nat) (a : Wd) : txn n (tx a) = tx (txn n a) := by
  rw [show tx a = txn 1 a from rfl, ← txn_add, Nat.add_comm, txn_add]; rfl

theorem ms_acc (k : Nat) : ∀ a b s : Wd, ms k a b s = s ^^^ ms k a b 0 := by
  induction k with
  | zero => intro a b s; simp [ms]
  | succ k ih =>
    intro a b s
    unfold ms
    rw [ih (a <<< 1) (tx b) (if a.msb then s ^^^ b else s), ih (a <<< 1) (tx b) (if a.msb then 0 ^^^ b else 0)]
    cases a.msb
    · simp
    · simp [BitVec.xor_assoc]
theorem ms_lin_r (k : Nat) : ∀ a b c : Wd, ms k a (b ^^^ c) 0 = ms k a b 0 ^^^ ms k a c 0 := by
  induction k with
  | zero => intro a b c; simp [ms]
  | succ k ih =>
    intro a b c
    unfold ms
    rw [ms_acc, ms_acc k _ (tx b), ms_acc k _ (tx c), tx_lin, ih]
    cases a.msb
    · simp
    · simp only [if_true]; rw [show (0 : Wd) ^^^ (b ^^^ c) = b ^^^ c from BitVec.zero_xor, show (0 : Wd) ^^^ b = b from BitVec.zero_xor, show (0 : Wd) ^^^ c = c from BitVec.zero_xor, xor4]
theorem ms_lin_l (k : Nat) : ∀ a b c : Wd, ms k (a ^^^ b) c 0 = ms k a c 0 ^^^ ms k b c 0 := by
  induction k with
  | zero => intro a b c; simp [ms]
  | succ k ih =>
    intro a b c
    unfold ms
    rw [ms_acc, ms_acc k (a <<< 1), ms_acc k (b <<< 1), BitVec.shiftLeft_xor_distrib, ih, BitVec.msb_xor]
    cases a.msb <;> cases b.msb <;> simp
    · rw [← BitVec.xor_assoc, ← BitVec.xor_assoc, BitVec.xor_comm c]
    · rw [BitVec.xor_assoc]
    · rw [xor4, BitVec.xor_self, BitVec.zero_xor]
theorem ms_tx (k : Nat) : ∀ a b : Wd, ms k a (tx b) 0 = tx (ms k a b 0) := by
  induction k with
  | zero => intro a b; exact (lin_zero tx_lin).symm
  | succ k ih =>
    intro a b
    unfold ms
    rw [ms_acc, ms_acc k _ (tx b), tx_lin, ih (a <<< 1) (tx b)]
    cases a.msb
    · simp only [Bool.false_eq_true, if_false]; rw [lin_zero tx_lin]
    · simp
theorem ms_nil (k : Nat) : ∀ b s : Wd, ms k 0 b s = s := by
  induction k with
  | zero => intro b s; rfl
  | succ k ih => intro b s; unfold ms; rw [show (0 : Wd) <<< 1 = 0 from by decide, ih]; rfl

theorem mul_lin_r (a : Wd) : Lin (mul a) := fun b c => ms_lin_r 32 a b c
theorem mul_lin_l (b : Wd) : Lin (fun a => mul a b) := fun a c => ms_lin_l 32 a c b
theorem mul_tx (a b : Wd) : mul a (tx b) = tx (mul a b) := ms_tx 32 a b
theorem mul_txn (n : Nat) (a b : Wd) : mul a (txn n b) = txn n (mul a b) := by
  induction n with
  | zero => rfl
  | succ n ih => show mul a (tx (txn n b)) = tx (txn n (mul a b)); rw [mul_tx, ih]

/-- What is linear is known by its answers at the words with one bit. -/
theorem lin_ext {f g : Wd → Wd} (hf : Lin f) (hg : Lin g) (h : ∀ i, i < 32 → f (1#32 <<< i) = g (1#32 <<< i)) : ∀ a, f a = g a := by
  have key : ∀ k, k ≤ 32 → ∀ a : Wd, a.toNat < 2 ^ k → f a = g a := by
    intro k
    induction k with
    | zero =>
      intro _ a ha
      have : a = 0 := by apply BitVec.eq_of_toNat_eq; simp at ha ⊢; omega
      rw [this, lin_zero hf, lin_zero hg]
    | succ k ih =>
      intro hk a ha
      by_cases hb : a.toNat < 2 ^ k
      · exact ih (by omega) a hb
      · have e : a = (a ^^^ (1#32 <<< k)) ^^^ (1#32 <<< k) := by rw [BitVec.xor_assoc, BitVec.xor_self, BitVec.xor_zero]
        have hp : 2 ^ k < 2 ^ 32 := Nat.pow_lt_pow_right (by omega) (by omega)
        have h1 : (1#32 <<< k).toNat = 2 ^ k := by
          rw [BitVec.toNat_shiftLeft, Nat.shiftLeft_eq, show (1#32).toNat = 1 from rfl, Nat.one_mul]; exact Nat.mod_eq_of_lt hp
        have hl : (a ^^^ (1#32 <<< k)).toNat < 2 ^ k := by
          rw [BitVec.toNat_xor, h1]
          apply Nat.lt_of_not_le
          intro hle
          have hlt : a.toNat ^^^ 2 ^ k < 2 ^ (k + 1) := Nat.xor_lt_two_pow ha (by rw [Nat.pow_succ]; have := Nat.two_pow_pos k; omega)
          have t1 : (a.toNat ^^^ 2 ^ k).testBit k = true := by
            rw [Nat.testBit_eq_decide_div_mod_eq]
            have := Nat.two_pow_pos k
            have : (a.toNat ^^^ 2 ^ k) / 2 ^ k = 1 := by
              apply Nat.div_eq_of_lt_le <;> omega
            rw [this]; rfl
          have t2 : a.toNat.testBit k = true := by
            rw [Nat.testBit_eq_decide_div_mod_eq]
            have := Nat.two_pow_pos k
            have : a.toNat / 2 ^ k = 1 := by
              apply Nat.div_eq_of_lt_le <;> omega
            rw [this]; rfl
          rw [Nat.testBit_xor, t2, Nat.testBit_two_pow_self] at t1
          exact absurd t1 (by decide)
        rw [e, hf, hg, ih (by omega) _ hl, h k (by omega)]
  intro a
  exact key 32 (by omega) a a.isLt

theorem bit_pw : ∀ i, i < 32 → 1#32 <<< i = txn (31 - i) one := by decide +kernel
theorem mul_bit : ∀ i, i < 32 → ∀ b, mul (1#32 <<< i) b = txn (31 - i) b := by
  intro i hi
  refine lin_ext (mul_lin_r _) (txn_lin _) ?_
  revert i
  decide +kernel
theorem mul_comm (a b : Wd) : mul a b = mul b a := by
  refine lin_ext (f := fun a => mul a b) (g := mul b) (mul_lin_l b) (mul_lin_r b) ?_ a
  intro i hi
  show mul (1#32 <<< i) b = mul b (1#32 <<< i)
  rw [mul_bit i hi, bit_pw i hi, mul_txn]
  congr 1
  refine lin_ext (f := fun b => b) (g := fun b => mul b one) (fun _ _ => rfl) (mul_lin_l one) ?_ b
  intro j hj
  show 1#32 <<< j = mul (1#32 <<< j) one
  rw [mul_bit j hj, bit_pw j hj]
theorem mul_one (a : Wd) : mul a one = a := by
  rw [mul_comm]
  have := mul_bit 31 (by omega) a
  exact this
theorem one_mul (a : Wd) : mul one a = a := by rw [mul_comm, mul_one]
theorem txn_mul (n : Nat) (a b : Wd) : mul (txn n a) b = txn n (mul a b) := by
  rw [mul_comm, mul_txn, mul_comm]
theorem mul_assoc (a b c : Wd) : mul (mul a b) c = mul a (mul b c) := by
  refine lin_ext (f := fun a => mul (mul a b) c) (g := fun a => mul a (mul b c)) ?_ (mul_lin_l _) ?_ a
  · intro x y
    show mul (mul (x ^^^ y) b) c = mul (mul x b) c ^^^ mul (mul y b) c
    rw [show mul (x ^^^ y) b = mul x b ^^^ mul y b from mul_lin_l b x y]
    exact mul_lin_l c _ _
  · intro i hi
    show mul (mul (1#32 <<< i) b) c = mul (1#32 <<< i) (mul b c)
    rw [mul_bit i hi, mul_bit i hi, txn_mul]

/-- x^n. -/
def pw (n : Nat) : Wd := txn n one
theorem pw_add (m n : Nat) : mul (pw m) (pw n) = pw (m + n) := by
  unfold pw; rw [txn_mul, one_mul, txn_add]
theorem mul_pw (a : Wd) (n : Nat) : mul a (pw n) = txn n a := by
  unfold pw; rw [mul_txn, mul_one]
theorem pw_mul (a : Wd) (n : Nat) : mul (pw n) a = txn n a := by rw [mul_comm, mul_pw]

/-- A word's power. -/
def wpow (w : Wd) : Nat → Wd
  | 0 => one
  | n + 1 => mul w (wpow w n)
theorem wpow_pw (k n : Nat) : wpow (pw k) n = pw (k * n) := by
  induction n with
  | zero => rfl
  | succ n ih => unfold wpow; rw [ih, pw_add, Nat.mul_succ, Nat.add_comm]
theorem wpow_sq (w : Wd) (n : Nat) : wpow (mul w w) n = wpow w (2 * n) := by
  induction n with
  | zero => rfl
  | succ n ih =>
    rw [show 2 * (n + 1) = 2 * n + 1 + 1 from by omega]
    unfold wpow
    rw [ih, mul_assoc]
    rfl
theorem wpow_even (p w : Wd) (n : Nat) (h : n % 2 = 0) : mul p (wpow (mul w w) (n / 2)) = mul p (wpow w n) := by
  rw [wpow_sq, show 2 * (n / 2) = n from by omega]
theorem wpow_odd (p w : Wd) (n : Nat) (h : n % 2 = 1) : mul (mul p w) (wpow (mul w w) (n / 2)) = mul p (wpow w n) := by
  rw [wpow_sq, mul_assoc, show mul w (wpow w (2 * (n / 2))) = wpow w (2 * (n / 2) + 1) from rfl, show 2 * (n / 2) + 1 = n from by omega]

end Go.Proofs.Ytalfoenoekcdaaa
