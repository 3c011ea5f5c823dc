/-
  Plain mathematics for the laws of package crc: no power of x is 1 ahead of the power 2^31 - 1; one to three turned bits, or any within 32, move the register. No condition of its own; it imports nothing of the program.
-/
import Derived.Test.YtlfijnegmnploacDoorReg
namespace Go.Proofs.YtlfijnegmnploacDoor
set_option linter.unusedVariables false

theorem tx_inj (a : Wd) (h : tx a = 0) : a = 0 := by
  unfold tx at h
  have key : ∀ a : Wd, a >>> 1 = 0 → a.getLsbD 0 = false → a = 0 := by
    intro a h1 h2
    apply BitVec.eq_of_toNat_eq
    have e1 := congrArg BitVec.toNat h1
    simp only [BitVec.toNat_ushiftRight, Nat.shiftRight_eq_div_pow] at e1
    have e2 : a.toNat % 2 = 0 := by
      have : a.toNat.testBit 0 = false := h2
      rw [Nat.testBit_zero] at this
      have := of_decide_eq_false this
      omega
    have e3 : (0 : Wd).toNat = 0 := rfl
    rw [e3] at e1 ⊢
    omega
  cases hb : a.getLsbD 0 with
  | false => rw [hb] at h; exact key a h hb
  | true =>
    rw [hb] at h
    simp only [if_true] at h
    have e : a >>> 1 = gen := by
      have := congrArg (· ^^^ gen) h
      simp only [BitVec.xor_assoc, BitVec.xor_self] at this
      have z : ∀ v : Wd, v ^^^ 0#32 = v := fun v => BitVec.xor_zero
      have z2 : ∀ v : Wd, (0 : Wd) ^^^ v = v := fun v => BitVec.zero_xor
      rw [z, z2] at this
      exact this
    have e2 := congrArg BitVec.toNat e
    have e3 : gen.toNat = 2197175160 := by decide
    rw [e3] at e2
    simp only [BitVec.toNat_ushiftRight, Nat.shiftRight_eq_div_pow] at e2
    have := a.isLt
    omega
theorem xor_eq_zero {a b : Wd} (h : a ^^^ b = 0) : a = b := by
  have := congrArg (· ^^^ b) h
  simp only [BitVec.xor_assoc, BitVec.xor_self] at this
  have z : ∀ v : Wd, v ^^^ 0#32 = v := fun v => BitVec.xor_zero
  have z2 : ∀ v : Wd, (0 : Wd) ^^^ v = v := fun v => BitVec.zero_xor
  rw [z, z2] at this
  exact this
theorem txn_inj0 (n : Nat) (a : Wd) (h : txn n a = 0) : a = 0 := by
  induction n with
  | zero => exact h
  | succ n ih => exact ih (tx_inj _ h)
theorem txn_inj (n : Nat) (a b : Wd) (h : txn n a = txn n b) : a = b := by
  apply xor_eq_zero
  apply txn_inj0 n
  rw [txn_lin, h, BitVec.xor_self]; rfl

/-- Parity. -/
def par : Nat → Nat → Bool
  | 0, _ => false
  | k + 1, a => (a % 2 == 1) != par k (a / 2)
theorem par_xor (k : Nat) : ∀ a b : Nat, par k (a ^^^ b) = (par k a != par k b) := by
  induction k with
  | zero => intro a b; rfl
  | succ k ih =>
    intro a b
    unfold par
    rw [Nat.xor_div_two, ih]
    have : ((a ^^^ b) % 2 == 1) = ((a % 2 == 1) != (b % 2 == 1)) := by
      have h := Nat.testBit_xor a b 0
      rw [Nat.testBit_zero, Nat.testBit_zero, Nat.testBit_zero] at h
      rcases Nat.mod_two_eq_zero_or_one a with ha | ha <;> rcases Nat.mod_two_eq_zero_or_one b with hb | hb <;> rcases Nat.mod_two_eq_zero_or_one (a ^^^ b) with hc | hc <;> simp [ha, hb, hc] at h ⊢
    rw [this]
    cases (a % 2 == 1) <;> cases (b % 2 == 1) <;> cases par k (a / 2) <;> cases par k (b / 2) <;> rfl
def parw (a : Wd) : Bool := par 32 a.toNat
theorem parw_xor (a b : Wd) : parw (a ^^^ b) = (parw a != parw b) := by
  unfold parw; rw [BitVec.toNat_xor, par_xor]
theorem par_half (a : Nat) (h : a < 2 ^ 32) : par 32 (a / 2) = par 31 (a / 2) := by
  have : ∀ k a, a < 2 ^ k → par (k + 1) a = par k a := by
    intro k
    induction k with
    | zero => intro a ha; have : a = 0 := by omega
              subst this; rfl
    | succ k ih =>
      intro a ha
      show ((a % 2 == 1) != par (k + 1) (a / 2)) = ((a % 2 == 1) != par k (a / 2))
      rw [ih (a / 2) (by rw [Nat.pow_succ] at ha; omega)]
  exact this 31 (a / 2) (by omega)
theorem parw_tx (a : Wd) : parw (tx a) = parw a := by
  have hs : parw (a >>> 1) = par 31 (a.toNat / 2) := by
    unfold parw
    rw [BitVec.toNat_ushiftRight, Nat.shiftRight_eq_div_pow, Nat.pow_one, par_half _ a.isLt]
  have ha : parw a = ((a.toNat % 2 == 1) != par 31 (a.toNat / 2)) := rfl
  have hb : a.getLsbD 0 = (a.toNat % 2 == 1) := by
    show a.toNat.testBit 0 = _
    rw [Nat.testBit_zero]; rfl
  unfold tx
  rw [hb, ha]
  cases (a.toNat % 2 == 1) with
  | false => simp only [Bool.false_eq_true, if_false]; rw [hs]; simp
  | true => simp only [if_true]; rw [parw_xor, hs, show parw gen = true from by decide +kernel]; cases par 31 (a.toNat / 2) <;> rfl
theorem parw_pw (n : Nat) : parw (pw n) = true := by
  induction n with
  | zero => decide +kernel
  | succ n ih => show parw (tx (pw n)) = true; rw [parw_tx, ih]

/-- The order of x. -/
def ord : Nat := 2147483647
def sqn : Nat → Wd → Wd
  | 0, a => a
  | n + 1, a => sqn n (mul a a)
theorem sqn_pw (n : Nat) : ∀ k, sqn n (pw k) = pw (k * 2 ^ n) := by
  induction n with
  | zero => intro k; simp [sqn]
  | succ n ih => intro k; unfold sqn; rw [pw_add, ih, Nat.pow_succ]; congr 1; rw [← Nat.two_mul, Nat.mul_comm 2 k, Nat.mul_assoc, Nat.mul_comm 2]
theorem sqn_add (m : Nat) : ∀ (n : Nat) (a : Wd), sqn (m + n) a = sqn n (sqn m a) := by
  induction m with
  | zero => intro n a; rw [Nat.zero_add]; rfl
  | succ m ih => intro n a; rw [Nat.succ_add]; exact ih n (mul a a)
theorem sq_0 : sqn 4 0x40000000#32 = 0x00008000#32 := by decide +kernel
theorem sq_1 : sqn 4 0x00008000#32 = 0x510ac59a#32 := by decide +kernel
theorem sq_2 : sqn 4 0x510ac59a#32 = 0x74c360a4#32 := by decide +kernel
theorem sq_3 : sqn 4 0x74c360a4#32 = 0x28461564#32 := by decide +kernel
theorem sq_4 : sqn 4 0x28461564#32 = 0xf946610b#32 := by decide +kernel
theorem sq_5 : sqn 4 0xf946610b#32 = 0x734d5309#32 := by decide +kernel
theorem sq_6 : sqn 4 0x734d5309#32 = 0xe94ca9bc#32 := by decide +kernel
theorem sq_7 : sqn 3 0xe94ca9bc#32 = 0x40000000#32 := by decide +kernel
theorem sq31 : sqn 31 (pw 1) = pw 1 := by
  rw [show pw 1 = 0x40000000#32 from by decide, show (31 : Nat) = 4 + (4 + (4 + (4 + (4 + (4 + (4 + 3)))))) from rfl]
  rw [sqn_add, sq_0, sqn_add, sq_1, sqn_add, sq_2, sqn_add, sq_3, sqn_add, sq_4, sqn_add, sq_5, sqn_add, sq_6, sq_7]
theorem pw_pred (n : Nat) (h : pw (n + 1) = pw 1) : pw n = one := txn_inj 1 _ _ h
theorem pw_ord : pw ord = one := by
  have h := sqn_pw 31 1
  rw [sq31, Nat.one_mul, show 2 ^ 31 = ord + 1 from by decide] at h
  exact pw_pred ord h.symm
theorem pw_mod (a b : Nat) (ha : pw a = one) (hb : pw b = one) : pw (b % a) = one := by
  have e : b = a * (b / a) + b % a := (Nat.div_add_mod b a).symm
  have hk : ∀ k, pw (a * k) = one := by
    intro k
    induction k with
    | zero => rfl
    | succ k ih => rw [Nat.mul_succ, ← pw_add, ih, ha, mul_one]
  rw [e, ← pw_add, hk, one_mul] at hb
  exact hb
theorem pw_gcd (a b : Nat) : pw a = one → pw b = one → pw (Nat.gcd a b) = one := by
  induction a, b using Nat.gcd.induction with
  | H0 n => intro _ h; rw [Nat.gcd_zero_left]; exact h
  | H1 m n hm ih =>
    intro h1 h2
    rw [Nat.gcd_rec]
    exact ih (pw_mod m n h1 h2) h1
/-- No number from lo on, 2^k of them, divides the order. -/
def chk : Nat → Nat → Bool
  | 0, lo => ord % lo != 0
  | k + 1, lo => chk k lo && chk k (lo + 2 ^ k)
theorem chk_is (k : Nat) : ∀ lo, chk k lo = true → ∀ i, lo ≤ i → i < lo + 2 ^ k → ord % i ≠ 0 := by
  induction k with
  | zero =>
    intro lo h i h1 h2
    have : i = lo := by omega
    subst this
    simpa [chk] using h
  | succ k ih =>
    intro lo h i h1 h2
    unfold chk at h
    rw [Bool.and_eq_true] at h
    rw [Nat.pow_succ] at h2
    by_cases hi : i < lo + 2 ^ k
    · exact ih lo h.1 i h1 hi
    · exact ih _ h.2 i (by omega) (by omega)
theorem chk_all : chk 16 2 = true := by decide +kernel
theorem ord_prime (k : Nat) (h : k ∣ ord) (h1 : k ≠ 1) : k = ord := by
  obtain ⟨c, hc⟩ := h
  have hk0 : k ≠ 0 := by intro h0; subst h0; simp [ord] at hc
  have hm1 : ord % k = 0 := by rw [hc]; exact Nat.mul_mod_right k c
  have hm2 : ord % c = 0 := by rw [hc]; exact Nat.mul_mod_left k c
  have A := chk_is 16 2 chk_all
  have big : 65538 ≤ k := by
    apply Nat.le_of_not_lt
    intro hlt
    exact A k (by omega) (by omega) hm1
  have c1 : c = 1 := by
    apply Classical.byContradiction
    intro hne
    have c0 : c ≠ 0 := by intro h0; subst h0; simp [ord] at hc
    by_cases hcb : c < 65538
    · exact A c (by omega) (by omega) hm2
    · have : 65538 * 65538 ≤ k * c := Nat.mul_le_mul big (by omega)
      rw [← hc] at this
      exact absurd this (by decide)
  rw [c1, Nat.mul_one] at hc
  exact hc.symm
theorem pw_ne_one (d : Nat) (h0 : 0 < d) (h1 : d < ord) : pw d ≠ one := by
  intro h
  have hg := pw_gcd d ord h pw_ord
  by_cases e : Nat.gcd d ord = 1
  · rw [e] at hg; exact absurd hg (by decide)
  · have := ord_prime _ (Nat.gcd_dvd_right d ord) e
    have h2 := Nat.le_of_dvd h0 (Nat.gcd_dvd_left d ord)
    omega
/-- One, two or three powers that are not the same, none too far from another, do not cancel one another. -/
theorem pw_one_ne (a : Nat) : pw a ≠ 0 := by
  intro h; have := parw_pw a; rw [h] at this; exact absurd this (by decide)
theorem pw_two_ne (a b : Nat) (h : a ≠ b) (ha : a < ord) (hb : b < ord) : pw a ^^^ pw b ≠ 0 := by
  intro hx
  have e := xor_eq_zero hx
  rcases Nat.lt_or_gt_of_ne h with hl | hl
  · have : pw b = txn a (pw (b - a)) := by unfold pw; rw [← txn_add, show a + (b - a) = b from by omega]
    rw [this] at e
    exact pw_ne_one (b - a) (by omega) (by omega) (txn_inj a _ _ e).symm
  · have : pw a = txn b (pw (a - b)) := by unfold pw; rw [← txn_add, show b + (a - b) = a from by omega]
    rw [this] at e
    exact pw_ne_one (a - b) (by omega) (by omega) (txn_inj b _ _ e)
theorem pw_three_ne (a b c : Nat) : pw a ^^^ pw b ^^^ pw c ≠ 0 := by
  intro h
  have : parw (pw a ^^^ pw b ^^^ pw c) = true := by rw [parw_xor, parw_xor, parw_pw, parw_pw, parw_pw]; rfl
  rw [h] at this
  exact absurd this (by decide)

end Go.Proofs.YtlfijnegmnploacDoor
