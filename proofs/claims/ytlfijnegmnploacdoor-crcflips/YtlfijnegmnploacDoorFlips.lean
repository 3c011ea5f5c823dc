/-
  Plain mathematics for the laws of package crc: some single bits of a text turned, each once. No condition of its own.
-/
import Derived.Test.YtlfijnegmnploacDoorTold
namespace Go.Proofs.YtlfijnegmnploacDoor
set_option linter.unusedVariables false

/-- A text's bit. -/
def bt (ys : List Int) (j : Nat) : Bool := (ys[j / 8]?.getD 0).toNat.testBit (j % 8)
theorem bt_flip (ys : List Int) (i j : Nat) (hj : j < 8 * ys.length) : bt (flip ys j) i = (bt ys i != decide (i = j)) := by
  unfold bt flip
  by_cases h : i / 8 = j / 8
  · rw [h, List.getElem?_set_self (by omega)]
    show (bx (ys[j / 8]?.getD 0) ((2 ^ (j % 8) : Nat) : Int)).toNat.testBit (i % 8) = _
    unfold bx
    rw [Int.toNat_natCast, Int.toNat_natCast, Nat.testBit_xor, Nat.testBit_two_pow]
    congr 1
    apply decide_eq_decide.2
    constructor
    · intro h2; omega
    · intro h2; omega
  · rw [List.getElem?_set_ne (fun e => h e.symm)]
    have : decide (i = j) = false := decide_eq_false (fun e => h (by rw [e]))
    rw [this]; simp
/-- The powers of turned bits, together. -/
def xs' (n : Nat) : List Nat → Wd
  | [] => 0
  | j :: l => pw (n - j) ^^^ xs' n l
theorem xs'_ne (n : Nat) (T : List Nat) (h0 : 0 < T.length) (h3 : T.length ≤ 3) (hd : T.Nodup) (hb : ∀ j ∈ T, j < n) (hn : n < ord) : xs' n T ≠ 0 := by
  have z : ∀ v : Wd, v ^^^ 0 = v := fun v => BitVec.xor_zero
  match T, h0, h3, hd, hb with
  | [a], _, _, _, _ => show pw (n - a) ^^^ 0 ≠ 0; rw [z]; exact pw_one_ne _
  | [a, b], _, _, hd, hb =>
    show pw (n - a) ^^^ (pw (n - b) ^^^ 0) ≠ 0
    rw [z]
    have ha := hb a (by simp)
    have hb' := hb b (by simp)
    have hne : a ≠ b := by intro e; subst e; simp at hd
    exact pw_two_ne _ _ (by omega) (by omega) (by omega)
  | [a, b, c], _, _, _, _ =>
    show pw (n - a) ^^^ (pw (n - b) ^^^ (pw (n - c) ^^^ 0)) ≠ 0
    rw [z, ← BitVec.xor_assoc]
    exact pw_three_ne _ _ _
/-- What is known of a text with some bits turned. -/
structure Turnt (xs ys : List Int) (T : List Nat) : Prop where
  len : ys.length = xs.length
  bytes : ∀ z ∈ ys, 0 ≤ z ∧ z < 256
  nodup : T.Nodup
  lt : ∀ j ∈ T, j < 8 * xs.length
  bit : ∀ j, bt ys j = (bt xs j != decide (j ∈ T))
  reg : ∀ r, reg r ys = reg r xs ^^^ xs' (8 * xs.length + 31) T
theorem Turnt.start (xs : List Int) (h : ∀ z ∈ xs, 0 ≤ z ∧ z < 256) : Turnt xs xs [] :=
  ⟨rfl, h, List.nodup_nil, fun j hj => by simp at hj, fun j => by simp, fun r => BitVec.xor_zero.symm⟩
theorem Turnt.step {xs ys : List Int} {T : List Nat} (h : Turnt xs ys T) (j : Nat) (hj : j < 8 * xs.length) (hn : bt ys j = bt xs j) : Turnt xs (flip ys j) (j :: T) := by
  have hT : j ∉ T := by
    intro hm
    have := h.bit j
    rw [hn, decide_eq_true hm] at this
    cases bt xs j <;> simp at this
  refine ⟨by rw [flip_length, h.len], flip_bytes ys j h.bytes, List.nodup_cons.2 ⟨hT, h.nodup⟩, ?_, ?_, ?_⟩
  · intro i hi
    rcases List.mem_cons.1 hi with rfl | h'
    · exact hj
    · exact h.lt i h'
  · intro i
    rw [bt_flip ys i j (by rw [h.len]; exact hj), h.bit i]
    by_cases hij : i = j
    · subst hij; simp [hT]
    · simp [hij]
  · intro r
    rw [reg_flip ys r j (by rw [h.len]; exact hj) h.bytes, h.reg, h.len, BitVec.xor_assoc]
    congr 1
    exact BitVec.xor_comm _ _
theorem Turnt.told {xs ys : List Int} {T : List Nat} (h : Turnt xs ys T) (h0 : 0 < T.length) (h3 : T.length ≤ 3) (hl : xs.length ≤ 134217728) : ∀ r, Go.Proofs.YtlfijnegmnploacDoor.reg r ys ≠ Go.Proofs.YtlfijnegmnploacDoor.reg r xs := by
  intro r e
  have h1 := h.reg r
  rw [e] at h1
  have h2 := congrArg (fun t => Go.Proofs.YtlfijnegmnploacDoor.reg r xs ^^^ t) h1
  simp only [← BitVec.xor_assoc, BitVec.xor_self] at h2
  rw [show ∀ t : Wd, (0#32 : Wd) ^^^ t = t from fun t => BitVec.zero_xor] at h2
  exact xs'_ne _ T h0 h3 h.nodup (fun j hj => by have := h.lt j hj; omega) (by unfold ord; omega) h2.symm
theorem bit_int (z : Int) (h0 : 0 ≤ z) (t : Nat) : z / (2 : Int) ^ t % 2 = (if z.toNat.testBit t then 1 else 0) := by
  obtain ⟨n, rfl⟩ := Int.eq_ofNat_of_zero_le h0
  rw [Int.toNat_natCast, Nat.testBit_eq_decide_div_mod_eq]
  have : ((n : Int) / (2 : Int) ^ t % 2) = ((n / 2 ^ t % 2 : Nat) : Int) := by
    rw [Int.natCast_emod, Int.natCast_ediv, Int.natCast_pow]; rfl
  rw [this]
  rcases Nat.mod_two_eq_zero_or_one (n / 2 ^ t) with h | h <;> simp [h]

end Go.Proofs.YtlfijnegmnploacDoor
