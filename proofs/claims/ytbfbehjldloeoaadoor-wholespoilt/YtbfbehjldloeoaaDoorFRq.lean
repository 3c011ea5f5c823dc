/-
  Plain mathematics: a frame of which any bits within 32 that follow one another are turned is none any more. No condition of its own.
-/
import Derived.Test.YtbfbehjldloeoaaDoorFRp
namespace Go.Proofs.YtbfbehjldloeoaaDoor
open Go.RowKit
set_option linter.unusedVariables false

/-- A word's first k bits turned, from a place on, as far as the bytes go. -/
def runOf (F : Nat) (v : Wd) : Nat → List Int → List Int
  | 0, b => b
  | k + 1, b => if v.getLsbD k = true ∧ F + k < 8 * b.length then flip (runOf F v k b) (F + k) else runOf F v k b
theorem runOf_len (F : Nat) (v : Wd) (k : Nat) (b : List Int) : (runOf F v k b).length = b.length := by
  induction k with
  | zero => rfl
  | succ k ih =>
    unfold runOf
    split
    · rw [flip_length, ih]
    · exact ih
theorem runOf_bytes (F : Nat) (v : Wd) (k : Nat) (b : List Int) (hb : ∀ z ∈ b, 0 ≤ z ∧ z < 256) : ∀ z ∈ runOf F v k b, 0 ≤ z ∧ z < 256 := by
  induction k with
  | zero => exact hb
  | succ k ih =>
    unfold runOf
    split
    · exact flip_bytes _ _ ih
    · exact ih
theorem runOf_take (F : Nat) (v : Wd) (k : Nat) (b : List Int) (m : Nat) (hm : m ≤ b.length) : (runOf F v k b).take m = runOf F v k (b.take m) := by
  have hl : (b.take m).length = m := by rw [List.length_take]; omega
  induction k with
  | zero => rfl
  | succ k ih =>
    unfold runOf
    rw [hl]
    by_cases h1 : v.getLsbD k = true
    · by_cases h2 : F + k < 8 * m
      · rw [if_pos ⟨h1, by omega⟩, if_pos ⟨h1, h2⟩, flip_take_lt _ _ _ h2, ih]
      · by_cases h3 : F + k < 8 * b.length
        · rw [if_pos ⟨h1, h3⟩, if_neg (fun z => h2 z.2), flip_take_ge _ _ _ (by omega), ih]
        · rw [if_neg (fun z => h3 z.2), if_neg (fun z => h2 z.2), ih]
    · rw [if_neg (fun z => h1 z.1), if_neg (fun z => h1 z.1), ih]
theorem runOf_reg (F : Nat) (v : Wd) (b : List Int) (hb : ∀ z ∈ b, 0 ≤ z ∧ z < 256) (k : Nat) (hk : k ≤ 32) (r : Wd) : reg r (runOf F v k b) = reg r b ^^^ txn (8 * b.length - F) (low v (min k (8 * b.length - F))) := by
  induction k with
  | zero =>
    rw [Nat.zero_min, show low v 0 = 0 from rfl, txn_zero]
    exact BitVec.xor_zero.symm
  | succ k ih =>
    have ih := ih (by omega)
    by_cases h2 : F + k < 8 * b.length
    · rw [show min k (8 * b.length - F) = k from by omega] at ih
      rw [show min (k + 1) (8 * b.length - F) = k + 1 from by omega]
      unfold runOf
      cases hv : v.getLsbD k with
      | false =>
        rw [if_neg (fun z => by cases z.1), ih]
        have : low v (k + 1) = low v k := by
          show low v k ^^^ _ = _
          rw [hv]; exact BitVec.xor_zero
        rw [this]
      | true =>
        rw [if_pos ⟨rfl, h2⟩, reg_flip _ r (F + k) (by rw [runOf_len]; exact h2) (runOf_bytes F v k b hb), ih]
        have : low v (k + 1) = low v k ^^^ 1#32 <<< k := by
          show low v k ^^^ _ = _
          rw [hv]; rfl
        rw [this, txn_lin, BitVec.xor_assoc]
        congr 2
        rw [bit_pw k (by omega), ← txn_add, runOf_len]
        unfold pw
        congr 1
        omega
    · rw [show min (k + 1) (8 * b.length - F) = min k (8 * b.length - F) from by omega]
      unfold runOf
      rw [if_neg (fun z => h2 z.2), ih]
theorem runOf_none (F : Nat) (v : Wd) (b : List Int) (k : Nat) (h : ∀ i, i < min k (8 * b.length - F) → v.getLsbD i = false) : runOf F v k b = b := by
  induction k with
  | zero => rfl
  | succ k ih =>
    unfold runOf
    rw [if_neg (fun z => ?_), ih (fun i hi => h i (by omega))]
    have := h k (by omega)
    rw [this] at z
    cases z.1
/-- Any bits turned within 32 that follow one another are told. -/
theorem tells_run (b : List Int) (hb : Bytes b) (F : Nat) (v : Wd) (k : Nat) (hk : k ≤ 32) : Tells b (runOf F v k b) := by
  have main : ∀ b : List Int, (∀ z ∈ b, 0 ≤ z ∧ z < 256) → holds b = true → holds (runOf F v k b) = true → runOf F v k b = b := by
    intro b hb h1 h2
    by_cases hz : low v (min k (8 * b.length - F)) = 0
    · refine runOf_none F v b k (fun i hi => ?_)
      cases hv : v.getLsbD i with
      | false => rfl
      | true => exact absurd hz ((low_ne v _ (by omega)).2 ⟨i, hi, hv⟩)
    · exfalso
      obtain ⟨hk4, hse⟩ := holds_is h1
      have hno : ∀ r, reg r (runOf F v k b) ≠ reg r (sealed (b.take (b.length - 4))) := fun r e => by
        rw [← hse] at e
        have h3 := runOf_reg F v b hb k hk r
        rw [e] at h3
        have h4 := congrArg (fun t => reg r b ^^^ t) h3
        simp only [← BitVec.xor_assoc, BitVec.xor_self] at h4
        rw [show ∀ t : Wd, (0#32 : Wd) ^^^ t = t from fun t => BitVec.zero_xor] at h4
        exact hz (txn_inj0 _ _ h4.symm)
      have := spoilt _ _ (fun z hz => hb z (List.mem_of_mem_take hz)) (runOf_bytes F v k b hb) hno
      rw [this] at h2
      cases h2
  refine ⟨runOf_len F v k b, bytes_of_mem (runOf_bytes F v k b hb.mem), fun m h1 h2 => ?_⟩
  by_cases hm : m ≤ b.length
  · rw [runOf_take F v k b m hm] at h2 ⊢
    exact main (b.take m) (fun z hz => hb.mem z (List.mem_of_mem_take hz)) h1 h2
  · rw [List.take_of_length_le (by omega)] at h1
    rw [List.take_of_length_le (by rw [runOf_len]; omega)] at h2 ⊢
    rw [List.take_of_length_le (by omega)]
    exact main b hb.mem h1 h2
end Go.Proofs.YtbfbehjldloeoaaDoor
