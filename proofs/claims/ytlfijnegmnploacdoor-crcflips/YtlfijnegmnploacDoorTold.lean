/-
  Plain mathematics for the laws of package crc: when sealed bytes hold; a text of which single bits are turned, and its register. No condition of its own; it imports nothing of the program but what its own texts name.
-/
import Derived.Test.YtlfijnegmnploacDoorFlip
import Derived.Test.YtlfijnegmnploacDoorOrd
import Derived.Test.YtlfijnegmnploacDoorHoldC
import Derived.Test.YtlfijnegmnploacDoorSealC
namespace Go.Proofs.YtlfijnegmnploacDoor
set_option linter.unusedVariables false

theorem by4_inj {s t : Wd} (h : by4 s = by4 t) : s = t := by
  unfold by4 at h
  simp only [List.cons.injEq, and_true] at h
  obtain ⟨h0, h1, h2, h3⟩ := h
  have hs := s.isLt
  have ht := t.isLt
  apply BitVec.eq_of_toNat_eq
  omega
theorem by4_onto (zs : List Int) (hl : zs.length = 4) (hb : ∀ z ∈ zs, 0 ≤ z ∧ z < 256) : ∃ t, zs = by4 t := by
  match zs, hl with
  | [z0, z1, z2, z3], _ =>
    have h0 := hb z0 (by simp)
    have h1 := hb z1 (by simp)
    have h2 := hb z2 (by simp)
    have h3 := hb z3 (by simp)
    refine ⟨BitVec.ofNat 32 (z0.toNat + 256 * z1.toNat + 65536 * z2.toNat + 16777216 * z3.toNat), ?_⟩
    unfold by4
    rw [BitVec.toNat_ofNat]
    simp only [List.cons.injEq, and_true]
    refine ⟨?_, ?_, ?_, ?_⟩ <;> omega
theorem holds_iff (ys : List Int) (hb : ∀ z ∈ ys, 0 ≤ z ∧ z < 256) (h4 : 4 ≤ ys.length) : holds ys = true ↔ reg ones ys = txn 32 ones := by
  obtain ⟨n, hn⟩ : ∃ n, n = ys.length - 4 := ⟨_, rfl⟩
  have hd : (ys.drop n).length = 4 := by simp; omega
  obtain ⟨t, ht⟩ := by4_onto (ys.drop n) hd (fun z hz => hb z (List.mem_of_mem_drop hz))
  have e : reg ones ys = txn 32 (reg ones (ys.take n) ^^^ t) := by
    conv => lhs; rw [← List.take_append_drop n ys]
    rw [reg_append, ht, reg_by4]
  have k : holds ys = decide (t = sum (ys.take n)) := by
    unfold holds
    rw [← hn, ht]
    apply decide_eq_decide.2
    exact ⟨fun h => by4_inj h.2, fun h => ⟨h4, by rw [h]⟩⟩
  rw [e, k, decide_eq_true_iff]
  unfold sum
  constructor
  · intro h
    rw [h]
    congr 1
    apply BitVec.eq_of_getLsbD_eq
    intro i hi
    rw [BitVec.getLsbD_xor, BitVec.getLsbD_not, show ones.getLsbD i = true from by show (BitVec.allOnes 32).getLsbD i = true; rw [BitVec.getLsbD_allOnes]; simpa using hi]
    simp [hi]
  · intro h
    have := txn_inj 32 _ _ h
    have h2 := congrArg (fun v => reg ones (ys.take n) ^^^ v) this
    rw [← BitVec.xor_assoc, BitVec.xor_self, show (0#32 : Wd) ^^^ t = t from BitVec.zero_xor] at h2
    rw [h2]
    exact BitVec.xor_allOnes
theorem sealed_length (xs : List Int) : (sealed xs).length = xs.length + 4 := by unfold sealed; simp [by4]
theorem sealed_bytes (xs : List Int) (h : ∀ z ∈ xs, 0 ≤ z ∧ z < 256) : ∀ z ∈ sealed xs, 0 ≤ z ∧ z < 256 := by
  intro z hz
  unfold sealed at hz
  rcases List.mem_append.1 hz with h' | h'
  · exact h z h'
  · exact by4_bytes _ z h'
theorem sealed_holds (xs : List Int) : holds (sealed xs) = true := by
  unfold holds
  rw [sealed_length]
  apply decide_eq_true
  refine ⟨by omega, ?_⟩
  rw [show xs.length + 4 - 4 = xs.length from by omega]
  unfold sealed
  rw [List.drop_left, List.take_left]
/-- What has another register does not hold. -/
theorem spoilt (xs ys : List Int) (hx : ∀ z ∈ xs, 0 ≤ z ∧ z < 256) (hy : ∀ z ∈ ys, 0 ≤ z ∧ z < 256) (h : ∀ r, reg r ys ≠ reg r (sealed xs)) : holds ys = false := by
  by_cases h4 : 4 ≤ ys.length
  · cases hh : holds ys with
    | false => rfl
    | true =>
      have e1 := (holds_iff ys hy h4).1 hh
      have e2 := (holds_iff (sealed xs) (sealed_bytes xs hx) (by rw [sealed_length]; omega)).1 (sealed_holds xs)
      exact absurd (e1.trans e2.symm) (h ones)
  · unfold holds; exact decide_eq_false (by omega)
theorem sum_ne (xs ys : List Int) (h : ∀ r, reg r ys ≠ reg r xs) : sum ys ≠ sum xs := by
  intro e
  unfold sum at e
  have := congrArg (fun v => ~~~ v) e
  simp only [BitVec.not_not] at this
  exact h ones this

/-- One bit turned. -/
def flip (xs : List Int) (j : Nat) : List Int := xs.set (j / 8) (bx (xs[j / 8]?.getD 0) (2 ^ (j % 8) : Nat))
theorem flip_length (xs : List Int) (j : Nat) : (flip xs j).length = xs.length := by unfold flip; simp
theorem pow8 (t : Nat) (h : t < 8) : 2 ^ t < 256 := by
  have : 2 ^ t < 2 ^ 8 := Nat.pow_lt_pow_right (by omega) h
  simpa using this
theorem flip_bytes (xs : List Int) (j : Nat) (h : ∀ z ∈ xs, 0 ≤ z ∧ z < 256) : ∀ z ∈ flip xs j, 0 ≤ z ∧ z < 256 := by
  intro z hz
  unfold flip at hz
  rcases List.mem_or_eq_of_mem_set hz with h' | h'
  · exact h z h'
  · rw [h']
    apply bx_bd
    · by_cases hj : j / 8 < xs.length
      · have := h _ (List.getElem_mem hj); simp [hj]; exact this.2
      · rw [List.getElem?_eq_none (by omega)]; decide
    · have := pow8 (j % 8) (by omega); omega
theorem wb_pow : ∀ t, t < 8 → wb ((2 ^ t : Nat) : Int) = txn (31 - t) one := by decide +kernel
theorem reg_flip (xs : List Int) (r : Wd) (j : Nat) (hj : j < 8 * xs.length) (hb : ∀ z ∈ xs, 0 ≤ z ∧ z < 256) : reg r (flip xs j) = reg r xs ^^^ pw (8 * xs.length + 31 - j) := by
  unfold flip
  rw [reg_set xs r (j / 8) _ (by omega) (fun z hz => (hb z hz).1) (Int.natCast_nonneg _), wb_pow (j % 8) (by omega)]
  unfold pw
  rw [← txn_add, ← txn_add]
  congr 2
  omega
/-- A word's low bits. -/
def low (v : Wd) : Nat → Wd
  | 0 => 0
  | k + 1 => low v k ^^^ (if v.getLsbD k then 1#32 <<< k else 0)
theorem low_ne (v : Wd) (k : Nat) (hk : k ≤ 32) : low v k ≠ 0 ↔ ∃ i, i < k ∧ v.getLsbD i = true := by
  have bit : ∀ k, k ≤ 32 → ∀ i, (low v k).getLsbD i = (decide (i < k) && v.getLsbD i) := by
    intro k
    induction k with
    | zero => intro _ i; simp [low]
    | succ k ih =>
      intro hk i
      unfold low
      rw [BitVec.getLsbD_xor, ih (by omega)]
      by_cases hv : v.getLsbD k
      · simp only [hv, if_true]
        rw [BitVec.getLsbD_shiftLeft, BitVec.getLsbD_one]
        by_cases h1 : i < k
        · simp [h1, show i < k + 1 from by omega]
        · by_cases h2 : i = k
          · subst h2; simp [hv]; omega
          · simp [show ¬ i < k + 1 from by omega, h1]; intros; omega
      · rw [if_neg hv]
        by_cases h1 : i < k
        · simp [h1, show i < k + 1 from by omega]
        · by_cases h2 : i = k
          · subst h2; simp at hv; simp [hv]
          · simp [show ¬ i < k + 1 from by omega, h1]
  constructor
  · intro h
    apply Classical.byContradiction
    intro hn
    apply h
    apply BitVec.eq_of_getLsbD_eq
    intro i hi
    rw [bit k hk]
    by_cases h1 : i < k
    · have : v.getLsbD i = false := by
        cases hv : v.getLsbD i with
        | false => rfl
        | true => exact absurd ⟨i, h1, hv⟩ hn
      simp [this]
    · simp [h1]
  · rintro ⟨i, h1, h2⟩ h
    have := bit k hk i
    rw [h, h2] at this
    simp [h1] at this

end Go.Proofs.YtlfijnegmnploacDoor
