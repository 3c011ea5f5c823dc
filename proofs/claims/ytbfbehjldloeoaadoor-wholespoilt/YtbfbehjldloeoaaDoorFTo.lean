/-
  Plain mathematics for the laws of package crc: texts of which bytes and bits are turned, the order of x, and when sealed bytes hold. No condition of its own.
-/
import Derived.Test.YtbfbehjldloeoaaDoorFa
import Derived.Test.YtbfbehjldloeoaaDoorSealC
namespace Go.Proofs.YtbfbehjldloeoaaDoor
open Go.RowKit
set_option linter.unusedVariables false


/-- Bytes exclusive-ored. -/
def bx (a b : Int) : Int := ((a.toNat ^^^ b.toNat : Nat) : Int)
theorem bx_bd (a b : Int) (ha : a < 256) (hb : b < 256) : 0 ≤ bx a b ∧ bx a b < 256 := by
  have : a.toNat ^^^ b.toNat < 2 ^ 8 := Nat.xor_lt_two_pow (by omega) (by omega)
  unfold bx; omega
theorem wb_bx (a b : Int) (ha : 0 ≤ a) (hb : 0 ≤ b) : wb (bx a b) = wb a ^^^ wb b := by
  obtain ⟨m, rfl⟩ := Int.eq_ofNat_of_zero_le ha
  obtain ⟨n, rfl⟩ := Int.eq_ofNat_of_zero_le hb
  unfold bx
  rw [wb_nat, wb_nat, wb_nat, Int.toNat_natCast, Int.toNat_natCast]
  apply BitVec.eq_of_toNat_eq
  rw [BitVec.toNat_xor, BitVec.toNat_ofNat, BitVec.toNat_ofNat, BitVec.toNat_ofNat, Nat.xor_mod_two_pow]
/-- One byte turned: the register is moved by that byte's own way. -/
theorem reg_set (xs : List Int) : ∀ (r : Wd) (i : Nat) (m : Int), i < xs.length → (∀ z ∈ xs, 0 ≤ z) → 0 ≤ m →
    reg r (xs.set i (bx (xs[i]?.getD 0) m)) = reg r xs ^^^ txn (8 * (xs.length - 1 - i)) (txn 8 (wb m)) := by
  induction xs with
  | nil => intro r i m hi; simp at hi
  | cons z l ih =>
    intro r i m hi hz hm
    cases i with
    | zero =>
      rw [List.set_cons_zero, reg_cons, reg_cons]
      have e : stp r (bx (((z :: l)[0]?).getD 0) m) = txn 8 (wb m) ^^^ stp r z := by
        show txn 8 (r ^^^ wb (bx z m)) = _
        rw [wb_bx z m (hz z (by simp)) hm, ← BitVec.xor_assoc, txn_lin, BitVec.xor_comm]
        rfl
      rw [e, reg_lin, BitVec.xor_comm]
      congr 2
    | succ i =>
      rw [List.set_cons_succ, reg_cons, reg_cons]
      have := ih (stp r z) i m (by simpa using hi) (fun y hy => hz y (by simp [hy])) hm
      rw [show ((z :: l)[i + 1]?).getD 0 = (l[i]?).getD 0 from by simp, this, show (z :: l).length - 1 - (i + 1) = l.length - 1 - i from by simp only [List.length_cons]; omega]
theorem reg_len (r s : Wd) (xs : List Int) (h : reg r xs = reg s xs) : txn (8 * xs.length) r = txn (8 * xs.length) s := by
  rw [reg_zero r, reg_zero s] at h
  have := congrArg (· ^^^ reg 0 xs) h
  simpa [BitVec.xor_assoc] using this



theorem tx_inj (a : Wd) (h : tx a = 0) : a = 0 := by
  unfold tx at h
  have key : ∀ a : Wd, a >>> 1 = 0 → a.getLsbD 0 = false → a = 0 := by
    intro a h1 h2
    apply BitVec.eq_of_toNat_eq
    have e1 := congrArg BitVec.toNat h1
    simp only [BitVec.toNat_ushiftRight, Nat.shiftRight_eq_div_pow] at e1
    have e2 : a.toNat % 2 = 0 := by
      have : a.toNat.testBit 0 = false := h2
      rw [Nat.testBit_zero] at this
      have := of_decide_eq_false this
      omega
    have e3 : (0 : Wd).toNat = 0 := rfl
    rw [e3] at e1 ⊢
    omega
  cases hb : a.getLsbD 0 with
  | false => rw [hb] at h; exact key a h hb
  | true =>
    rw [hb] at h
    simp only [if_true] at h
    have e : a >>> 1 = gen := by
      have := congrArg (· ^^^ gen) h
      simp only [BitVec.xor_assoc, BitVec.xor_self] at this
      have z : ∀ v : Wd, v ^^^ 0#32 = v := fun v => BitVec.xor_zero
      have z2 : ∀ v : Wd, (0 : Wd) ^^^ v = v := fun v => BitVec.zero_xor
      rw [z, z2] at this
      exact this
    have e2 := congrArg BitVec.toNat e
    have e3 : gen.toNat = 2197175160 := by decide
    rw [e3] at e2
    simp only [BitVec.toNat_ushiftRight, Nat.shiftRight_eq_div_pow] at e2
    have := a.isLt
    omega
theorem xor_eq_zero {a b : Wd} (h : a ^^^ b = 0) : a = b := by
  have := congrArg (· ^^^ b) h
  simp only [BitVec.xor_assoc, BitVec.xor_self] at this
  have z : ∀ v : Wd, v ^^^ 0#32 = v := fun v => BitVec.xor_zero
  have z2 : ∀ v : Wd, (0 : Wd) ^^^ v = v := fun v => BitVec.zero_xor
  rw [z, z2] at this
  exact this
theorem txn_inj0 (n : Nat) (a : Wd) (h : txn n a = 0) : a = 0 := by
  induction n with
  | zero => exact h
  | succ n ih => exact ih (tx_inj _ h)
theorem txn_inj (n : Nat) (a b : Wd) (h : txn n a = txn n b) : a = b := by
  apply xor_eq_zero
  apply txn_inj0 n
  rw [txn_lin, h, BitVec.xor_self]; rfl

/-- Parity. -/
def par : Nat → Nat → Bool
  | 0, _ => false
  | k + 1, a => (a % 2 == 1) != par k (a / 2)
theorem par_xor (k : Nat) : ∀ a b : Nat, par k (a ^^^ b) = (par k a != par k b) := by
  induction k with
  | zero => intro a b; rfl
  | succ k ih =>
    intro a b
    unfold par
    rw [Nat.xor_div_two, ih]
    have : ((a ^^^ b) % 2 == 1) = ((a % 2 == 1) != (b % 2 == 1)) := by
      have h := Nat.testBit_xor a b 0
      rw [Nat.testBit_zero, Nat.testBit_zero, Nat.testBit_zero] at h
      rcases Nat.mod_two_eq_zero_or_one a with ha | ha <;> rcases Nat.mod_two_eq_zero_or_one b with hb | hb <;> rcases Nat.mod_two_eq_zero_or_one (a ^^^ b) with hc | hc <;> simp [ha, hb, hc] at h ⊢
    rw [this]
    cases (a % 2 == 1) <;> cases (b % 2 == 1) <;> cases par k (a / 2) <;> cases par k (b / 2) <;> rfl
def parw (a : Wd) : Bool := par 32 a.toNat
theorem parw_xor (a b : Wd) : parw (a ^^^ b) = (parw a != parw b) := by
  unfold parw; rw [BitVec.toNat_xor, par_xor]
theorem par_half (a : Nat) (h : a < 2 ^ 32) : par 32 (a / 2) = par 31 (a / 2) := by
  have : ∀ k a, a < 2 ^ k → par (k + 1) a = par k a := by
    intro k
    induction k with
    | zero => intro a ha; have : a = 0 := by omega
              subst this; rfl
    | succ k ih =>
      intro a ha
      show ((a % 2 == 1) != par (k + 1) (a / 2)) = ((a % 2 == 1) != par k (a / 2))
      rw [ih (a / 2) (by rw [Nat.pow_succ] at ha; omega)]
  exact this 31 (a / 2) (by omega)
theorem parw_tx (a : Wd) : parw (tx a) = parw a := by
  have hs : parw (a >>> 1) = par 31 (a.toNat / 2) := by
    unfold parw
    rw [BitVec.toNat_ushiftRight, Nat.shiftRight_eq_div_pow, Nat.pow_one, par_half _ a.isLt]
  have ha : parw a = ((a.toNat % 2 == 1) != par 31 (a.toNat / 2)) := rfl
  have hb : a.getLsbD 0 = (a.toNat % 2 == 1) := by
    show a.toNat.testBit 0 = _
    rw [Nat.testBit_zero]; rfl
  unfold tx
  rw [hb, ha]
  cases (a.toNat % 2 == 1) with
  | false => simp only [Bool.false_eq_true, if_false]; rw [hs]; simp
  | true => simp only [if_true]; rw [parw_xor, hs, show parw gen = true from by decide +kernel]; cases par 31 (a.toNat / 2) <;> rfl
theorem parw_pw (n : Nat) : parw (pw n) = true := by
  induction n with
  | zero => decide +kernel
  | succ n ih => show parw (tx (pw n)) = true; rw [parw_tx, ih]

/-- The order of x. -/
def ord : Nat := 2147483647
def sqn : Nat → Wd → Wd
  | 0, a => a
  | n + 1, a => sqn n (mul a a)
theorem sqn_pw (n : Nat) : ∀ k, sqn n (pw k) = pw (k * 2 ^ n) := by
  induction n with
  | zero => intro k; simp [sqn]
  | succ n ih => intro k; unfold sqn; rw [pw_add, ih, Nat.pow_succ]; congr 1; rw [← Nat.two_mul, Nat.mul_comm 2 k, Nat.mul_assoc, Nat.mul_comm 2]
theorem sqn_add (m : Nat) : ∀ (n : Nat) (a : Wd), sqn (m + n) a = sqn n (sqn m a) := by
  induction m with
  | zero => intro n a; rw [Nat.zero_add]; rfl
  | succ m ih => intro n a; rw [Nat.succ_add]; exact ih n (mul a a)
theorem sq_0 : sqn 4 0x40000000#32 = 0x00008000#32 := by decide +kernel
theorem sq_1 : sqn 4 0x00008000#32 = 0x510ac59a#32 := by decide +kernel
theorem sq_2 : sqn 4 0x510ac59a#32 = 0x74c360a4#32 := by decide +kernel
theorem sq_3 : sqn 4 0x74c360a4#32 = 0x28461564#32 := by decide +kernel
theorem sq_4 : sqn 4 0x28461564#32 = 0xf946610b#32 := by decide +kernel
theorem sq_5 : sqn 4 0xf946610b#32 = 0x734d5309#32 := by decide +kernel
theorem sq_6 : sqn 4 0x734d5309#32 = 0xe94ca9bc#32 := by decide +kernel
theorem sq_7 : sqn 3 0xe94ca9bc#32 = 0x40000000#32 := by decide +kernel
theorem sq31 : sqn 31 (pw 1) = pw 1 := by
  rw [show pw 1 = 0x40000000#32 from by decide, show (31 : Nat) = 4 + (4 + (4 + (4 + (4 + (4 + (4 + 3)))))) from rfl]
  rw [sqn_add, sq_0, sqn_add, sq_1, sqn_add, sq_2, sqn_add, sq_3, sqn_add, sq_4, sqn_add, sq_5, sqn_add, sq_6, sq_7]
theorem pw_pred (n : Nat) (h : pw (n + 1) = pw 1) : pw n = one := txn_inj 1 _ _ h
theorem pw_ord : pw ord = one := by
  have h := sqn_pw 31 1
  rw [sq31, Nat.one_mul, show 2 ^ 31 = ord + 1 from by decide] at h
  exact pw_pred ord h.symm
theorem pw_mod (a b : Nat) (ha : pw a = one) (hb : pw b = one) : pw (b % a) = one := by
  have e : b = a * (b / a) + b % a := (Nat.div_add_mod b a).symm
  have hk : ∀ k, pw (a * k) = one := by
    intro k
    induction k with
    | zero => rfl
    | succ k ih => rw [Nat.mul_succ, ← pw_add, ih, ha, mul_one]
  rw [e, ← pw_add, hk, one_mul] at hb
  exact hb
theorem pw_gcd (a b : Nat) : pw a = one → pw b = one → pw (Nat.gcd a b) = one := by
  induction a, b using Nat.gcd.induction with
  | H0 n => intro _ h; rw [Nat.gcd_zero_left]; exact h
  | H1 m n hm ih =>
    intro h1 h2
    rw [Nat.gcd_rec]
    exact ih (pw_mod m n h1 h2) h1
/-- No number from lo on, 2^k of them, divides the order. -/
def chk : Nat → Nat → Bool
  | 0, lo => ord % lo != 0
  | k + 1, lo => chk k lo && chk k (lo + 2 ^ k)
theorem chk_is (k : Nat) : ∀ lo, chk k lo = true → ∀ i, lo ≤ i → i < lo + 2 ^ k → ord % i ≠ 0 := by
  induction k with
  | zero =>
    intro lo h i h1 h2
    have : i = lo := by omega
    subst this
    simpa [chk] using h
  | succ k ih =>
    intro lo h i h1 h2
    unfold chk at h
    rw [Bool.and_eq_true] at h
    rw [Nat.pow_succ] at h2
    by_cases hi : i < lo + 2 ^ k
    · exact ih lo h.1 i h1 hi
    · exact ih _ h.2 i (by omega) (by omega)
theorem chk_all : chk 16 2 = true := by decide +kernel
theorem ord_prime (k : Nat) (h : k ∣ ord) (h1 : k ≠ 1) : k = ord := by
  obtain ⟨c, hc⟩ := h
  have hk0 : k ≠ 0 := by intro h0; subst h0; simp [ord] at hc
  have hm1 : ord % k = 0 := by rw [hc]; exact Nat.mul_mod_right k c
  have hm2 : ord % c = 0 := by rw [hc]; exact Nat.mul_mod_left k c
  have A := chk_is 16 2 chk_all
  have big : 65538 ≤ k := by
    apply Nat.le_of_not_lt
    intro hlt
    exact A k (by omega) (by omega) hm1
  have c1 : c = 1 := by
    apply Classical.byContradiction
    intro hne
    have c0 : c ≠ 0 := by intro h0; subst h0; simp [ord] at hc
    by_cases hcb : c < 65538
    · exact A c (by omega) (by omega) hm2
    · have : 65538 * 65538 ≤ k * c := Nat.mul_le_mul big (by omega)
      rw [← hc] at this
      exact absurd this (by decide)
  rw [c1, Nat.mul_one] at hc
  exact hc.symm
theorem pw_ne_one (d : Nat) (h0 : 0 < d) (h1 : d < ord) : pw d ≠ one := by
  intro h
  have hg := pw_gcd d ord h pw_ord
  by_cases e : Nat.gcd d ord = 1
  · rw [e] at hg; exact absurd hg (by decide)
  · have := ord_prime _ (Nat.gcd_dvd_right d ord) e
    have h2 := Nat.le_of_dvd h0 (Nat.gcd_dvd_left d ord)
    omega
/-- One, two or three powers that are not the same, none too far from another, do not cancel one another. -/
theorem pw_one_ne (a : Nat) : pw a ≠ 0 := by
  intro h; have := parw_pw a; rw [h] at this; exact absurd this (by decide)
theorem pw_two_ne (a b : Nat) (h : a ≠ b) (ha : a < ord) (hb : b < ord) : pw a ^^^ pw b ≠ 0 := by
  intro hx
  have e := xor_eq_zero hx
  rcases Nat.lt_or_gt_of_ne h with hl | hl
  · have : pw b = txn a (pw (b - a)) := by unfold pw; rw [← txn_add, show a + (b - a) = b from by omega]
    rw [this] at e
    exact pw_ne_one (b - a) (by omega) (by omega) (txn_inj a _ _ e).symm
  · have : pw a = txn b (pw (a - b)) := by unfold pw; rw [← txn_add, show b + (a - b) = a from by omega]
    rw [this] at e
    exact pw_ne_one (a - b) (by omega) (by omega) (txn_inj b _ _ e)
theorem pw_three_ne (a b c : Nat) : pw a ^^^ pw b ^^^ pw c ≠ 0 := by
  intro h
  have : parw (pw a ^^^ pw b ^^^ pw c) = true := by rw [parw_xor, parw_xor, parw_pw, parw_pw, parw_pw]; rfl
  rw [h] at this
  exact absurd this (by decide)



theorem by4_inj {s t : Wd} (h : by4 s = by4 t) : s = t := by
  unfold by4 at h
  simp only [List.cons.injEq, and_true] at h
  obtain ⟨h0, h1, h2, h3⟩ := h
  have hs := s.isLt
  have ht := t.isLt
  apply BitVec.eq_of_toNat_eq
  omega
theorem by4_onto (zs : List Int) (hl : zs.length = 4) (hb : ∀ z ∈ zs, 0 ≤ z ∧ z < 256) : ∃ t, zs = by4 t := by
  match zs, hl with
  | [z0, z1, z2, z3], _ =>
    have h0 := hb z0 (by simp)
    have h1 := hb z1 (by simp)
    have h2 := hb z2 (by simp)
    have h3 := hb z3 (by simp)
    refine ⟨BitVec.ofNat 32 (z0.toNat + 256 * z1.toNat + 65536 * z2.toNat + 16777216 * z3.toNat), ?_⟩
    unfold by4
    rw [BitVec.toNat_ofNat]
    simp only [List.cons.injEq, and_true]
    refine ⟨?_, ?_, ?_, ?_⟩ <;> omega
theorem holds_iff (ys : List Int) (hb : ∀ z ∈ ys, 0 ≤ z ∧ z < 256) (h4 : 4 ≤ ys.length) : holds ys = true ↔ reg ones ys = txn 32 ones := by
  obtain ⟨n, hn⟩ : ∃ n, n = ys.length - 4 := ⟨_, rfl⟩
  have hd : (ys.drop n).length = 4 := by simp; omega
  obtain ⟨t, ht⟩ := by4_onto (ys.drop n) hd (fun z hz => hb z (List.mem_of_mem_drop hz))
  have e : reg ones ys = txn 32 (reg ones (ys.take n) ^^^ t) := by
    conv => lhs; rw [← List.take_append_drop n ys]
    rw [reg_append, ht, reg_by4]
  have k : holds ys = decide (t = sum (ys.take n)) := by
    unfold holds
    rw [← hn, ht]
    apply decide_eq_decide.2
    exact ⟨fun h => by4_inj h.2, fun h => ⟨h4, by rw [h]⟩⟩
  rw [e, k, decide_eq_true_iff]
  unfold sum
  constructor
  · intro h
    rw [h]
    congr 1
    apply BitVec.eq_of_getLsbD_eq
    intro i hi
    rw [BitVec.getLsbD_xor, BitVec.getLsbD_not, show ones.getLsbD i = true from by show (BitVec.allOnes 32).getLsbD i = true; rw [BitVec.getLsbD_allOnes]; simpa using hi]
    simp [hi]
  · intro h
    have := txn_inj 32 _ _ h
    have h2 := congrArg (fun v => reg ones (ys.take n) ^^^ v) this
    rw [← BitVec.xor_assoc, BitVec.xor_self, show (0#32 : Wd) ^^^ t = t from BitVec.zero_xor] at h2
    rw [h2]
    exact BitVec.xor_allOnes
theorem sealed_lengthT (xs : List Int) : (sealed xs).length = xs.length + 4 := by unfold sealed; simp [by4]
theorem sealed_bytesT (xs : List Int) (h : ∀ z ∈ xs, 0 ≤ z ∧ z < 256) : ∀ z ∈ sealed xs, 0 ≤ z ∧ z < 256 := by
  intro z hz
  unfold sealed at hz
  rcases List.mem_append.1 hz with h' | h'
  · exact h z h'
  · exact by4_bytes _ z h'
theorem sealed_holds (xs : List Int) : holds (sealed xs) = true := by
  unfold holds
  rw [sealed_lengthT]
  apply decide_eq_true
  refine ⟨by omega, ?_⟩
  rw [show xs.length + 4 - 4 = xs.length from by omega]
  unfold sealed
  rw [List.drop_left, List.take_left]
/-- What has another register does not hold. -/
theorem spoilt (xs ys : List Int) (hx : ∀ z ∈ xs, 0 ≤ z ∧ z < 256) (hy : ∀ z ∈ ys, 0 ≤ z ∧ z < 256) (h : ∀ r, reg r ys ≠ reg r (sealed xs)) : holds ys = false := by
  by_cases h4 : 4 ≤ ys.length
  · cases hh : holds ys with
    | false => rfl
    | true =>
      have e1 := (holds_iff ys hy h4).1 hh
      have e2 := (holds_iff (sealed xs) (sealed_bytesT xs hx) (by rw [sealed_lengthT]; omega)).1 (sealed_holds xs)
      exact absurd (e1.trans e2.symm) (h ones)
  · unfold holds; exact decide_eq_false (by omega)
theorem sum_ne (xs ys : List Int) (h : ∀ r, reg r ys ≠ reg r xs) : sum ys ≠ sum xs := by
  intro e
  unfold sum at e
  have := congrArg (fun v => ~~~ v) e
  simp only [BitVec.not_not] at this
  exact h ones this

/-- One bit turned. -/
def flip (xs : List Int) (j : Nat) : List Int := xs.set (j / 8) (bx (xs[j / 8]?.getD 0) (2 ^ (j % 8) : Nat))
theorem flip_length (xs : List Int) (j : Nat) : (flip xs j).length = xs.length := by unfold flip; simp
theorem pow8 (t : Nat) (h : t < 8) : 2 ^ t < 256 := by
  have : 2 ^ t < 2 ^ 8 := Nat.pow_lt_pow_right (by omega) h
  simpa using this
theorem flip_bytes (xs : List Int) (j : Nat) (h : ∀ z ∈ xs, 0 ≤ z ∧ z < 256) : ∀ z ∈ flip xs j, 0 ≤ z ∧ z < 256 := by
  intro z hz
  unfold flip at hz
  rcases List.mem_or_eq_of_mem_set hz with h' | h'
  · exact h z h'
  · rw [h']
    apply bx_bd
    · by_cases hj : j / 8 < xs.length
      · have := h _ (List.getElem_mem hj); simp [hj]; exact this.2
      · rw [List.getElem?_eq_none (by omega)]; decide
    · have := pow8 (j % 8) (by omega); omega
theorem wb_pow : ∀ t, t < 8 → wb ((2 ^ t : Nat) : Int) = txn (31 - t) one := by decide +kernel
theorem reg_flip (xs : List Int) (r : Wd) (j : Nat) (hj : j < 8 * xs.length) (hb : ∀ z ∈ xs, 0 ≤ z ∧ z < 256) : reg r (flip xs j) = reg r xs ^^^ pw (8 * xs.length + 31 - j) := by
  unfold flip
  rw [reg_set xs r (j / 8) _ (by omega) (fun z hz => (hb z hz).1) (Int.natCast_nonneg _), wb_pow (j % 8) (by omega)]
  unfold pw
  rw [← txn_add, ← txn_add]
  congr 2
  omega
/-- A word's low bits. -/
def low (v : Wd) : Nat → Wd
  | 0 => 0
  | k + 1 => low v k ^^^ (if v.getLsbD k then 1#32 <<< k else 0)
theorem low_ne (v : Wd) (k : Nat) (hk : k ≤ 32) : low v k ≠ 0 ↔ ∃ i, i < k ∧ v.getLsbD i = true := by
  have bit : ∀ k, k ≤ 32 → ∀ i, (low v k).getLsbD i = (decide (i < k) && v.getLsbD i) := by
    intro k
    induction k with
    | zero => intro _ i; simp [low]
    | succ k ih =>
      intro hk i
      unfold low
      rw [BitVec.getLsbD_xor, ih (by omega)]
      by_cases hv : v.getLsbD k
      · simp only [hv, if_true]
        rw [BitVec.getLsbD_shiftLeft, BitVec.getLsbD_one]
        by_cases h1 : i < k
        · simp [h1, show i < k + 1 from by omega]
        · by_cases h2 : i = k
          · subst h2; simp [hv]; omega
          · simp [show ¬ i < k + 1 from by omega, h1]; intros; omega
      · rw [if_neg hv]
        by_cases h1 : i < k
        · simp [h1, show i < k + 1 from by omega]
        · by_cases h2 : i = k
          · subst h2; simp at hv; simp [hv]
          · simp [show ¬ i < k + 1 from by omega, h1]
  constructor
  · intro h
    apply Classical.byContradiction
    intro hn
    apply h
    apply BitVec.eq_of_getLsbD_eq
    intro i hi
    rw [bit k hk]
    by_cases h1 : i < k
    · have : v.getLsbD i = false := by
        cases hv : v.getLsbD i with
        | false => rfl
        | true => exact absurd ⟨i, h1, hv⟩ hn
      simp [this]
    · simp [h1]
  · rintro ⟨i, h1, h2⟩ h
    have := bit k hk i
    rw [h, h2] at this
    simp [h1] at this



/-- A text's bit. -/
def bt (ys : List Int) (j : Nat) : Bool := (ys[j / 8]?.getD 0).toNat.testBit (j % 8)
theorem bt_flip (ys : List Int) (i j : Nat) (hj : j < 8 * ys.length) : bt (flip ys j) i = (bt ys i != decide (i = j)) := by
  unfold bt flip
  by_cases h : i / 8 = j / 8
  · rw [h, List.getElem?_set_self (by omega)]
    show (bx (ys[j / 8]?.getD 0) ((2 ^ (j % 8) : Nat) : Int)).toNat.testBit (i % 8) = _
    unfold bx
    rw [Int.toNat_natCast, Int.toNat_natCast, Nat.testBit_xor, Nat.testBit_two_pow]
    congr 1
    apply decide_eq_decide.2
    constructor
    · intro h2; omega
    · intro h2; omega
  · rw [List.getElem?_set_ne (fun e => h e.symm)]
    have : decide (i = j) = false := decide_eq_false (fun e => h (by rw [e]))
    rw [this]; simp
/-- The powers of turned bits, together. -/
def xs' (n : Nat) : List Nat → Wd
  | [] => 0
  | j :: l => pw (n - j) ^^^ xs' n l
theorem xs'_ne (n : Nat) (T : List Nat) (h0 : 0 < T.length) (h3 : T.length ≤ 3) (hd : T.Nodup) (hb : ∀ j ∈ T, j < n) (hn : n < ord) : xs' n T ≠ 0 := by
  have z : ∀ v : Wd, v ^^^ 0 = v := fun v => BitVec.xor_zero
  match T, h0, h3, hd, hb with
  | [a], _, _, _, _ => show pw (n - a) ^^^ 0 ≠ 0; rw [z]; exact pw_one_ne _
  | [a, b], _, _, hd, hb =>
    show pw (n - a) ^^^ (pw (n - b) ^^^ 0) ≠ 0
    rw [z]
    have ha := hb a (by simp)
    have hb' := hb b (by simp)
    have hne : a ≠ b := by intro e; subst e; simp at hd
    exact pw_two_ne _ _ (by omega) (by omega) (by omega)
  | [a, b, c], _, _, _, _ =>
    show pw (n - a) ^^^ (pw (n - b) ^^^ (pw (n - c) ^^^ 0)) ≠ 0
    rw [z, ← BitVec.xor_assoc]
    exact pw_three_ne _ _ _
/-- What is known of a text with some bits turned. -/
structure Turnt (xs ys : List Int) (T : List Nat) : Prop where
  len : ys.length = xs.length
  bytes : ∀ z ∈ ys, 0 ≤ z ∧ z < 256
  nodup : T.Nodup
  lt : ∀ j ∈ T, j < 8 * xs.length
  bit : ∀ j, bt ys j = (bt xs j != decide (j ∈ T))
  reg : ∀ r, reg r ys = reg r xs ^^^ xs' (8 * xs.length + 31) T
theorem Turnt.start (xs : List Int) (h : ∀ z ∈ xs, 0 ≤ z ∧ z < 256) : Turnt xs xs [] :=
  ⟨rfl, h, List.nodup_nil, fun j hj => by simp at hj, fun j => by simp, fun r => BitVec.xor_zero.symm⟩
theorem Turnt.step {xs ys : List Int} {T : List Nat} (h : Turnt xs ys T) (j : Nat) (hj : j < 8 * xs.length) (hn : bt ys j = bt xs j) : Turnt xs (flip ys j) (j :: T) := by
  have hT : j ∉ T := by
    intro hm
    have := h.bit j
    rw [hn, decide_eq_true hm] at this
    cases bt xs j <;> simp at this
  refine ⟨by rw [flip_length, h.len], flip_bytes ys j h.bytes, List.nodup_cons.2 ⟨hT, h.nodup⟩, ?_, ?_, ?_⟩
  · intro i hi
    rcases List.mem_cons.1 hi with rfl | h'
    · exact hj
    · exact h.lt i h'
  · intro i
    rw [bt_flip ys i j (by rw [h.len]; exact hj), h.bit i]
    by_cases hij : i = j
    · subst hij; simp [hT]
    · simp [hij]
  · intro r
    rw [reg_flip ys r j (by rw [h.len]; exact hj) h.bytes, h.reg, h.len, BitVec.xor_assoc]
    congr 1
    exact BitVec.xor_comm _ _
theorem Turnt.told {xs ys : List Int} {T : List Nat} (h : Turnt xs ys T) (h0 : 0 < T.length) (h3 : T.length ≤ 3) (hl : xs.length ≤ 134217728) : ∀ r, Go.Proofs.YtbfbehjldloeoaaDoor.reg r ys ≠ Go.Proofs.YtbfbehjldloeoaaDoor.reg r xs := by
  intro r e
  have h1 := h.reg r
  rw [e] at h1
  have h2 := congrArg (fun t => Go.Proofs.YtbfbehjldloeoaaDoor.reg r xs ^^^ t) h1
  simp only [← BitVec.xor_assoc, BitVec.xor_self] at h2
  rw [show ∀ t : Wd, (0#32 : Wd) ^^^ t = t from fun t => BitVec.zero_xor] at h2
  exact xs'_ne _ T h0 h3 h.nodup (fun j hj => by have := h.lt j hj; omega) (by unfold ord; omega) h2.symm
theorem bit_int (z : Int) (h0 : 0 ≤ z) (t : Nat) : z / (2 : Int) ^ t % 2 = (if z.toNat.testBit t then 1 else 0) := by
  obtain ⟨n, rfl⟩ := Int.eq_ofNat_of_zero_le h0
  rw [Int.toNat_natCast, Nat.testBit_eq_decide_div_mod_eq]
  have : ((n : Int) / (2 : Int) ^ t % 2) = ((n / 2 ^ t % 2 : Nat) : Int) := by
    rw [Int.natCast_emod, Int.natCast_ediv, Int.natCast_pow]; rfl
  rw [this]
  rcases Nat.mod_two_eq_zero_or_one (n / 2 ^ t) with h | h <;> simp [h]

end Go.Proofs.YtbfbehjldloeoaaDoor
