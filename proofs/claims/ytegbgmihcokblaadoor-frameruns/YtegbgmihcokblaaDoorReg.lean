/-
  Plain mathematics for the laws of package crc: the register moved over bytes, the document's long division, and that both are one; the way back. No condition of its own; it imports nothing of the program.
-/
import Derived.Test.YtegbgmihcokblaaDoorPoly
namespace Go.Proofs.YtegbgmihcokblaaDoor
set_option linter.unusedVariables false

/-- A byte as a word. -/
def wb (z : Int) : Wd := BitVec.ofInt 32 z
/-- The register moved over one byte. -/
def stp (r : Wd) (z : Int) : Wd := txn 8 (r ^^^ wb z)
/-- The register moved over bytes. -/
def reg (r : Wd) (l : List Int) : Wd := l.foldl stp r

theorem reg_nil (r : Wd) : reg r [] = r := rfl
theorem reg_cons (r : Wd) (z : Int) (l : List Int) : reg r (z :: l) = reg (stp r z) l := rfl
theorem reg_append (r : Wd) (l m : List Int) : reg r (l ++ m) = reg (reg r l) m := by
  unfold reg; rw [List.foldl_append]
theorem reg_snoc (r : Wd) (l : List Int) (z : Int) : reg r (l ++ [z]) = stp (reg r l) z := by
  rw [reg_append]; rfl
theorem reg_lin (l : List Int) : ∀ r s : Wd, reg (r ^^^ s) l = txn (8 * l.length) r ^^^ reg s l := by
  induction l with
  | nil => intro r s; rfl
  | cons z l ih =>
    intro r s
    rw [reg_cons, reg_cons]
    have e : stp (r ^^^ s) z = txn 8 r ^^^ stp s z := by
      unfold stp; rw [BitVec.xor_assoc, txn_lin]
    rw [e, ih, List.length_cons, ← txn_add]
    congr 2
theorem reg_zero (r : Wd) (l : List Int) : reg r l = txn (8 * l.length) r ^^^ reg 0 l := by
  have := reg_lin l r 0
  rw [show r ^^^ (0 : Wd) = r from BitVec.xor_zero] at this
  exact this

/-- What comes in when the low four bits leave. -/
def tabl : List Int := [0x00000000, 0x105ec76f, 0x20bd8ede, 0x30e349b1, 0x417b1dbc, 0x5125dad3, 0x61c69362, 0x7198540d, 0x82f63b78, 0x92a8fc17, 0xa24bb5a6, 0xb21572c9, 0xc38d26c4, 0xd3d3e1ab, 0xe330a81a, 0xf36e6f75]
def tab4 (n : Nat) : Wd := BitVec.ofInt 32 (tabl.getD n 0)
theorem tab4_is : ∀ n, n < 16 → txn 4 (BitVec.ofNat 32 n) = tab4 n := by decide +kernel
theorem tx_low (a : Wd) (h : a.getLsbD 0 = false) : tx a = a >>> 1 := by unfold tx; rw [h]; rfl
theorem txn_low (n : Nat) (a : Wd) (h : ∀ i, i < n → a.getLsbD i = false) : txn n a = a >>> n := by
  induction n with
  | zero => simp [txn]
  | succ n ih =>
    show tx (txn n a) = _
    rw [ih (fun i hi => h i (by omega)), tx_low]
    · rw [BitVec.shiftRight_add]
    · rw [BitVec.getLsbD_ushiftRight]; exact h (n + 0) (by omega)
theorem low_high (n : Nat) (r : Wd) : r = ((r >>> n) <<< n) ^^^ (r % (1#32 <<< n)) ∨ 32 ≤ n := by
  by_cases hn : 32 ≤ n
  · exact .inr hn
  left
  apply BitVec.eq_of_getLsbD_eq
  intro i hi
  have e : (r % (1#32 <<< n)).getLsbD i = (decide (i < n) && r.getLsbD i) := by
    have h1 : (1#32 <<< n).toNat = 2 ^ n := by
      rw [BitVec.toNat_shiftLeft, Nat.shiftLeft_eq, show (1#32).toNat = 1 from rfl, Nat.one_mul]
      exact Nat.mod_eq_of_lt (Nat.pow_lt_pow_right (by omega) (by omega))
    show (r % (1#32 <<< n)).toNat.testBit i = _
    rw [BitVec.toNat_umod, h1, Nat.testBit_mod_two_pow]; rfl
  rw [BitVec.getLsbD_xor, e, BitVec.getLsbD_shiftLeft, BitVec.getLsbD_ushiftRight]
  by_cases h : i < n
  · simp [h, hi]
  · simp [h, hi, show n + (i - n) = i from by omega]
theorem txn4 (r : Wd) : txn 4 r = (r >>> 4) ^^^ tab4 (r.toNat % 16) := by
  rcases low_high 4 r with h | h
  · rw [← tab4_is _ (Nat.mod_lt _ (by omega))]
    have e : r % (1#32 <<< 4) = BitVec.ofNat 32 (r.toNat % 16) := by
      apply BitVec.eq_of_toNat_eq
      rw [BitVec.toNat_umod, BitVec.toNat_ofNat]
      have : (1#32 <<< 4).toNat = 16 := by decide
      rw [this]; omega
    rw [e] at h
    have h2 : txn 4 ((r >>> 4) <<< 4) = r >>> 4 := by
      rw [txn_low 4 _ (by intro i hi; rw [BitVec.getLsbD_shiftLeft]; simp [hi])]
      apply BitVec.eq_of_toNat_eq
      have := r.isLt
      simp only [BitVec.toNat_ushiftRight, BitVec.toNat_shiftLeft, Nat.shiftRight_eq_div_pow, Nat.shiftLeft_eq]
      omega
    calc txn 4 r = txn 4 (((r >>> 4) <<< 4) ^^^ BitVec.ofNat 32 (r.toNat % 16)) := by rw [← h]
      _ = _ := by rw [txn_lin, h2]
  · omega

/-- Some rounds of the long division, over the bits of bytes. -/
def hz (zs : List Int) : Nat → Wd
  | 0 => 0
  | i + 1 => tx (hz zs i) ^^^ (if i < 8 * zs.length ∧ (zs.getD (i / 8) 0) / 2 ^ (i % 8) % 2 = 1 then one else 0)
/-- Some rounds over the bits of one byte. -/
def hy (z : Int) : Nat → Wd
  | 0 => 0
  | i + 1 => tx (hy z i) ^^^ (if z / 2 ^ i % 2 = 1 then one else 0)
theorem hz_succ (zs : List Int) (i : Nat) : hz zs (i + 1) = tx (hz zs i) ^^^ (if i < 8 * zs.length ∧ (zs.getD (i / 8) 0) / 2 ^ (i % 8) % 2 = 1 then one else 0) := rfl
theorem hy_is : ∀ n : Nat, n < 256 → hy n 8 = wb n <<< 24 := by decide +kernel
theorem wb_up : ∀ n : Nat, n < 256 → txn 32 (wb n <<< 24) = txn 8 (wb n) := by decide +kernel
theorem hz_byte (zs : List Int) (k : Nat) (hk : k < zs.length) : ∀ j, j ≤ 8 → hz zs (8 * k + j) = txn j (hz zs (8 * k)) ^^^ hy (zs.getD k 0) j := by
  intro j
  induction j with
  | zero => intro _; show _ = hz zs (8 * k) ^^^ 0; rw [show ∀ a : Wd, a ^^^ 0 = a from fun a => BitVec.xor_zero]; rfl
  | succ j ih =>
    intro hj
    rw [← Nat.add_assoc, hz_succ]
    show _ = tx (txn j (hz zs (8 * k))) ^^^ (tx (hy (zs.getD k 0) j) ^^^ _)
    rw [ih (by omega), tx_lin, BitVec.xor_assoc, show (8 * k + j) / 8 = k from by omega, show (8 * k + j) % 8 = j from by omega]
    have : (8 * k + j < 8 * zs.length) = True := by apply eq_true; omega
    simp only [this, true_and]
theorem hz_reg (zs : List Int) (hb : ∀ z ∈ zs, 0 ≤ z ∧ z < 256) : ∀ k, k ≤ zs.length → txn 32 (hz zs (8 * k)) = reg 0 (zs.take k) := by
  intro k
  induction k with
  | zero => intro _; exact txn_zero 32
  | succ k ih =>
    intro hk
    have hk' : k < zs.length := by omega
    have h1 := hz_byte zs k hk' 8 (by omega)
    rw [Nat.mul_succ, h1]
    have hg : zs.getD k 0 = zs[k] := by simp [List.getD, List.getElem?_eq_getElem hk']
    have hm := hb _ (List.getElem_mem hk')
    obtain ⟨n, hn⟩ := Int.eq_ofNat_of_zero_le hm.1
    have hn' : n < 256 := by omega
    rw [hg, hn, show ((n : Nat) : Int) = (n : Int) from rfl, hy_is n hn', txn_lin, wb_up n hn', ← txn_add, Nat.add_comm, txn_add, ih (by omega), List.take_succ_eq_append_getElem hk', reg_snoc, hn]
    unfold stp
    rw [txn_lin]
theorem hz_tail (zs : List Int) (j : Nat) : hz zs (8 * zs.length + j) = txn j (hz zs (8 * zs.length)) := by
  induction j with
  | zero => rfl
  | succ j ih =>
    rw [← Nat.add_assoc, hz_succ]
    show _ = tx (txn j (hz zs (8 * zs.length)))
    rw [ih, if_neg (by omega)]
    exact BitVec.xor_zero
/-- The long division answers what the register does. -/
theorem hz_end (zs : List Int) (hb : ∀ z ∈ zs, 0 ≤ z ∧ z < 256) : hz zs (8 * zs.length + 32) = reg 0 zs := by
  rw [hz_tail, hz_reg zs hb _ (Nat.le_refl _), List.take_length]

/-- What undoes a word times x. -/
def ux (w : Wd) : Wd := if w.msb then ((w ^^^ gen) <<< 1) ||| 1#32 else w <<< 1
def uxn : Nat → Wd → Wd
  | 0, a => a
  | n + 1, a => ux (uxn n a)
theorem tx_ux (w : Wd) : tx (ux w) = w := by
  unfold tx ux
  cases h : w.msb
  · simp only [Bool.false_eq_true, if_false]
    have : (w <<< 1).getLsbD 0 = false := by simp
    rw [this]
    simp only [Bool.false_eq_true, if_false]
    rw [BitVec.msb_eq_false_iff_two_mul_lt] at h
    apply BitVec.eq_of_toNat_eq
    simp only [BitVec.toNat_ushiftRight, BitVec.toNat_shiftLeft, Nat.shiftRight_eq_div_pow, Nat.shiftLeft_eq]
    omega
  · simp only [if_true]
    have h0 : (((w ^^^ gen) <<< 1) ||| 1#32).getLsbD 0 = true := by simp
    rw [h0]
    simp only [if_true]
    have hm : (w ^^^ gen).msb = false := by rw [BitVec.msb_xor, h]; decide
    have e : (((w ^^^ gen) <<< 1) ||| 1#32) >>> 1 = w ^^^ gen := by
      apply BitVec.eq_of_getLsbD_eq
      intro i hi
      rw [BitVec.getLsbD_ushiftRight, BitVec.getLsbD_or, BitVec.getLsbD_shiftLeft]
      by_cases h31 : i = 31
      · subst h31
        have : (w ^^^ gen).getLsbD 31 = false := by rw [← hm, BitVec.msb_eq_getLsbD_last]
        rw [this]; simp
      · have : (1#32).getLsbD (1 + i) = false := by
          rw [BitVec.getLsbD_one]; simp
        rw [this]
        simp [show 1 + i < 32 from by omega]
    rw [e, BitVec.xor_assoc, BitVec.xor_self]
    exact BitVec.xor_zero
theorem txn_uxn (n : Nat) (w : Wd) : txn n (uxn n w) = w := by
  induction n generalizing w with
  | zero => rfl
  | succ n ih =>
    show tx (txn n (ux (uxn n w))) = w
    rw [← txn_tx, tx_ux, ih]

/-- A word's four bytes, the lowest first. -/
def by4 (t : Wd) : List Int := [(t.toNat % 256 : Nat), (t.toNat / 256 % 256 : Nat), (t.toNat / 65536 % 256 : Nat), (t.toNat / 16777216 % 256 : Nat)]
theorem wb_nat (n : Nat) : wb (n : Int) = BitVec.ofNat 32 n := by unfold wb; rw [BitVec.ofInt_natCast]
theorem txn8_up (r : Wd) (v : Nat) (h : v < 2 ^ 32) : txn 8 (r ^^^ BitVec.ofNat 32 v) = txn 8 (r ^^^ BitVec.ofNat 32 (v % 256)) ^^^ BitVec.ofNat 32 (v / 256) := by
  have e : BitVec.ofNat 32 v = BitVec.ofNat 32 (v % 256) ^^^ (BitVec.ofNat 32 (v / 256) <<< 8) := by
    have := low_high 8 (BitVec.ofNat 32 v)
    rcases this with h1 | h1
    · have a : BitVec.ofNat 32 v >>> 8 = BitVec.ofNat 32 (v / 256) := by
        apply BitVec.eq_of_toNat_eq
        simp only [BitVec.toNat_ushiftRight, BitVec.toNat_ofNat, Nat.shiftRight_eq_div_pow]; omega
      have b : BitVec.ofNat 32 v % (1#32 <<< 8) = BitVec.ofNat 32 (v % 256) := by
        apply BitVec.eq_of_toNat_eq
        rw [BitVec.toNat_umod, BitVec.toNat_ofNat, BitVec.toNat_ofNat]
        have : (1#32 <<< 8).toNat = 256 := by decide
        rw [this]; omega
      rw [a, b, BitVec.xor_comm] at h1
      exact h1
    · omega
  rw [e, ← BitVec.xor_assoc, txn_lin 8 (r ^^^ _)]
  congr 1
  rw [txn_low 8 _ (by intro i hi; rw [BitVec.getLsbD_shiftLeft]; simp [hi])]
  apply BitVec.eq_of_toNat_eq
  simp only [BitVec.toNat_ushiftRight, BitVec.toNat_shiftLeft, BitVec.toNat_ofNat, Nat.shiftRight_eq_div_pow, Nat.shiftLeft_eq]
  omega
theorem reg_by4 (r t : Wd) : reg r (by4 t) = txn 32 (r ^^^ t) := by
  have ht := t.isLt
  have e : t = BitVec.ofNat 32 t.toNat := by simp
  have s1 := txn8_up r t.toNat ht
  have s2 := txn8_up (txn 8 (r ^^^ BitVec.ofNat 32 (t.toNat % 256))) (t.toNat / 256) (by omega)
  have s3 := txn8_up (txn 8 (txn 8 (r ^^^ BitVec.ofNat 32 (t.toNat % 256)) ^^^ BitVec.ofNat 32 (t.toNat / 256 % 256))) (t.toNat / 256 / 256) (by omega)
  have s4 := txn8_up (txn 8 (txn 8 (txn 8 (r ^^^ BitVec.ofNat 32 (t.toNat % 256)) ^^^ BitVec.ofNat 32 (t.toNat / 256 % 256)) ^^^ BitVec.ofNat 32 (t.toNat / 256 / 256 % 256))) (t.toNat / 256 / 256 / 256) (by omega)
  have z : t.toNat / 256 / 256 / 256 / 256 = 0 := by omega
  have lhs : reg r (by4 t) = txn 8 (txn 8 (txn 8 (txn 8 (r ^^^ BitVec.ofNat 32 (t.toNat % 256)) ^^^ BitVec.ofNat 32 (t.toNat / 256 % 256)) ^^^ BitVec.ofNat 32 (t.toNat / 256 / 256 % 256)) ^^^ BitVec.ofNat 32 (t.toNat / 256 / 256 / 256 % 256)) := by
    show stp (stp (stp (stp r _) _) _) _ = _
    unfold stp
    rw [wb_nat, wb_nat, wb_nat, wb_nat]
    rw [show t.toNat / 65536 = t.toNat / 256 / 256 from by omega, show t.toNat / 16777216 = t.toNat / 256 / 256 / 256 from by omega]
  rw [lhs]
  have q : txn 32 (r ^^^ t) = txn 8 (txn 8 (txn 8 (txn 8 (r ^^^ BitVec.ofNat 32 t.toNat)))) := by
    rw [← e, ← txn_add, ← txn_add, ← txn_add]
  rw [q, s1, s2, s3, s4, z]
  exact BitVec.xor_zero.symm

end Go.Proofs.YtegbgmihcokblaaDoor
