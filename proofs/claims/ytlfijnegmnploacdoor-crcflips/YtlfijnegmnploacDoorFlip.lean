/-
  Plain mathematics for the laws of package crc: a text of which one byte is turned, and its sum. No condition of its own; it imports nothing of the program.
-/
import Derived.Test.YtlfijnegmnploacDoorReg
namespace Go.Proofs.YtlfijnegmnploacDoor
set_option linter.unusedVariables false

/-- Bytes exclusive-ored. -/
def bx (a b : Int) : Int := ((a.toNat ^^^ b.toNat : Nat) : Int)
theorem bx_bd (a b : Int) (ha : a < 256) (hb : b < 256) : 0 ≤ bx a b ∧ bx a b < 256 := by
  have : a.toNat ^^^ b.toNat < 2 ^ 8 := Nat.xor_lt_two_pow (by omega) (by omega)
  unfold bx; omega
theorem wb_bx (a b : Int) (ha : 0 ≤ a) (hb : 0 ≤ b) : wb (bx a b) = wb a ^^^ wb b := by
  obtain ⟨m, rfl⟩ := Int.eq_ofNat_of_zero_le ha
  obtain ⟨n, rfl⟩ := Int.eq_ofNat_of_zero_le hb
  unfold bx
  rw [wb_nat, wb_nat, wb_nat, Int.toNat_natCast, Int.toNat_natCast]
  apply BitVec.eq_of_toNat_eq
  rw [BitVec.toNat_xor, BitVec.toNat_ofNat, BitVec.toNat_ofNat, BitVec.toNat_ofNat, Nat.xor_mod_two_pow]
/-- One byte turned: the register is moved by that byte's own way. -/
theorem reg_set (xs : List Int) : ∀ (r : Wd) (i : Nat) (m : Int), i < xs.length → (∀ z ∈ xs, 0 ≤ z) → 0 ≤ m →
    reg r (xs.set i (bx (xs[i]?.getD 0) m)) = reg r xs ^^^ txn (8 * (xs.length - 1 - i)) (txn 8 (wb m)) := by
  induction xs with
  | nil => intro r i m hi; simp at hi
  | cons z l ih =>
    intro r i m hi hz hm
    cases i with
    | zero =>
      rw [List.set_cons_zero, reg_cons, reg_cons]
      have e : stp r (bx (((z :: l)[0]?).getD 0) m) = txn 8 (wb m) ^^^ stp r z := by
        show txn 8 (r ^^^ wb (bx z m)) = _
        rw [wb_bx z m (hz z (by simp)) hm, ← BitVec.xor_assoc, txn_lin, BitVec.xor_comm]
        rfl
      rw [e, reg_lin, BitVec.xor_comm]
      congr 2
    | succ i =>
      rw [List.set_cons_succ, reg_cons, reg_cons]
      have := ih (stp r z) i m (by simpa using hi) (fun y hy => hz y (by simp [hy])) hm
      rw [show ((z :: l)[i + 1]?).getD 0 = (l[i]?).getD 0 from by simp, this, show (z :: l).length - 1 - (i + 1) = l.length - 1 - i from by simp only [List.length_cons]; omega]
theorem reg_len (r s : Wd) (xs : List Int) (h : reg r xs = reg s xs) : txn (8 * xs.length) r = txn (8 * xs.length) s := by
  rw [reg_zero r, reg_zero s] at h
  have := congrArg (· ^^^ reg 0 xs) h
  simpa [BitVec.xor_assoc] using this

end Go.Proofs.YtlfijnegmnploacDoor
