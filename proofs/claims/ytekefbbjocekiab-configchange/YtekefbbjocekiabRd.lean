/-
  Plain mathematics for the laws of package leb: what bytes begin with, read as a number in its shortest form. No condition of its own; it imports nothing of the program.
-/
import Derived.Test.YtekefbbjocekiabMath
namespace Go.Proofs.Ytekefbbjocekiab
set_option linter.unusedVariables false

/-- Each number is a byte. -/
def Bytes (xs : List Int) : Prop := ∀ i, i < xs.length → 0 ≤ xs[i]?.getD 0 ∧ xs[i]?.getD 0 < 256
/-- Groups of seven bits, the lowest first, as a number. -/
def val : List Int → Int
  | [] => 0
  | c :: l => c % 128 + 128 * val l
theorem val_nonneg (l : List Int) : 0 ≤ val l := by
  induction l with
  | nil => simp [val]
  | cons c l ih => simp only [val]; omega
theorem val_snoc (l : List Int) (c : Int) : val (l ++ [c]) = val l + 2 ^ (7 * l.length) * (c % 128) := by
  induction l with
  | nil => simp [val]
  | cons x l ih =>
    simp only [List.cons_append, val, ih, List.length_cons]
    rw [show 7 * (l.length + 1) = 7 * l.length + 7 from by omega, Int.pow_add, Int.mul_add]
    rw [show (2 : Int) ^ 7 = 128 from rfl, Int.mul_comm (2 ^ (7 * l.length)) 128, ← Int.mul_assoc, Int.add_assoc]
theorem val_lt (l : List Int) : val l < 2 ^ (7 * l.length) := by
  induction l with
  | nil => simp [val]
  | cons x l ih =>
    simp only [val, List.length_cons]
    rw [show 7 * (l.length + 1) = 7 * l.length + 7 from by omega, Int.pow_add, show (2 : Int) ^ 7 = 128 from rfl]
    omega
theorem pow_pos2 (n : Nat) : (0 : Int) < 2 ^ n := Int.pow_pos (by omega)

theorem take_snoc (l : List Int) (k : Nat) (h : k < l.length) : l.take (k + 1) = l.take k ++ [l[k]?.getD 0] := by
  rw [List.take_succ_eq_append_getElem h]; simp [h]

/-- How many bytes of 128 or above stand at the beginning. -/
def lead : List Int → Nat
  | [] => 0
  | c :: l => if 128 ≤ c then lead l + 1 else 0
theorem lead_eq : ∀ (xs : List Int) (k : Nat), k ≤ xs.length → (∀ j, j < k → 128 ≤ xs[j]?.getD 0) → (k = xs.length ∨ xs[k]?.getD 0 < 128) → lead xs = k
  | [], k, hk, _, _ => by simp at hk; subst hk; rfl
  | c :: l, 0, _, _, h2 => by
    rcases h2 with h2 | h2
    · simp at h2
    · simp at h2; simp [lead]; omega
  | c :: l, k + 1, hk, h1, h2 => by
    have h0 := h1 0 (by omega)
    simp at h0 hk
    have := lead_eq l k hk (fun j hj => by have := h1 (j + 1) (by omega); simpa using this) (by simpa using h2)
    simp [lead, h0, this]
theorem lead_ge : ∀ (xs : List Int) (k : Nat), k ≤ xs.length → (∀ j, j < k → 128 ≤ xs[j]?.getD 0) → k ≤ lead xs
  | xs, 0, _, _ => Nat.zero_le _
  | [], k + 1, hk, _ => by simp at hk
  | c :: l, k + 1, hk, h1 => by
    have h0 := h1 0 (by omega)
    simp at h0 hk
    have := lead_ge l k hk (fun j hj => by have := h1 (j + 1) (by omega); simpa using this)
    simp [lead, h0, this]

/-- What the bytes begin with: the number, how many bytes it has, and the error's number. -/
def rd (xs : List Int) : Int × Int × Int :=
  if lead xs = xs.length ∧ xs.length < 10 then (0, 0, 10)
  else if 10 ≤ lead xs ∨ lead xs = xs.length ∨ (lead xs = 9 ∧ (1 : Int) < xs[9]?.getD 0) then (0, 0, 11)
  else if 0 < lead xs ∧ xs[lead xs]?.getD 0 = 0 then (0, 0, 12)
  else (val (xs.take (lead xs + 1)), (lead xs : Int) + 1, 0)

theorem rd_short (xs : List Int) (h : ∀ j, j < xs.length → 128 ≤ xs[j]?.getD 0) (hl : xs.length < 10) : rd xs = (0, 0, 10) := by
  unfold rd; rw [lead_eq xs xs.length (Nat.le_refl _) h (.inl rfl), if_pos ⟨rfl, hl⟩]
theorem rd_long (xs : List Int) (h : ∀ j, j < 10 → 128 ≤ xs[j]?.getD 0) (hl : 10 ≤ xs.length) : rd xs = (0, 0, 11) := by
  have := lead_ge xs 10 hl h
  unfold rd; rw [if_neg (by omega), if_pos (.inl this)]
theorem rd_nine (xs : List Int) (h : ∀ j, j < 9 → 128 ≤ xs[j]?.getD 0) (hl : 9 < xs.length) (h1 : xs[9]?.getD 0 < 128) (h2 : (1 : Int) < xs[9]?.getD 0) : rd xs = (0, 0, 11) := by
  unfold rd; rw [lead_eq xs 9 (by omega) h (.inr h1), if_neg (by omega), if_pos (.inr (.inr ⟨rfl, h2⟩))]
theorem rd_form (xs : List Int) (k : Nat) (h : ∀ j, j < k → 128 ≤ xs[j]?.getD 0) (hl : k < xs.length) (h10 : k < 10) (h0 : 0 < k) (h2 : xs[k]?.getD 0 = 0) : rd xs = (0, 0, 12) := by
  unfold rd; rw [lead_eq xs k (by omega) h (.inr (by omega)), if_neg (by omega), if_neg, if_pos ⟨h0, h2⟩]
  rintro (h | h | ⟨h, h'⟩)
  · omega
  · omega
  · subst h; omega
theorem rd_ok (xs : List Int) (k : Nat) (h : ∀ j, j < k → 128 ≤ xs[j]?.getD 0) (hl : k < xs.length) (h10 : k < 10) (h1 : xs[k]?.getD 0 < 128) (h9 : k = 9 → xs[k]?.getD 0 ≤ 1) (h2 : 0 < k → xs[k]?.getD 0 ≠ 0) :
    rd xs = (val (xs.take (k + 1)), (k : Int) + 1, 0) := by
  unfold rd; rw [lead_eq xs k (by omega) h (.inr h1), if_neg (by omega), if_neg, if_neg (fun ⟨a, b⟩ => h2 a b)]
  rintro (h | h | ⟨h, h'⟩)
  · omega
  · omega
  · subst h; have := h9 rfl; omega

/-- What is read fits 64 bits. -/
theorem val_fits (xs : List Int) (k : Nat) (hl : k < xs.length) (h10 : k < 10) (h0 : 0 ≤ xs[k]?.getD 0) (h1 : xs[k]?.getD 0 < 128) (h9 : k = 9 → xs[k]?.getD 0 ≤ 1) : val (xs.take (k + 1)) < 18446744073709551616 := by
  have hlen : (xs.take (k + 1)).length = k + 1 := by simp; omega
  by_cases hk : k = 9
  · subst hk
    rw [take_snoc xs 9 hl, val_snoc]
    have hln : (xs.take 9).length = 9 := by simp; omega
    have := val_lt (xs.take 9)
    rw [hln] at this ⊢
    have h9' := h9 rfl
    have e : (2 : Int) ^ (7 * 9) = 9223372036854775808 := by decide
    rw [e] at this ⊢
    rw [Int.emod_eq_of_lt h0 (by omega)]
    omega
  · have := val_lt (xs.take (k + 1))
    rw [hlen] at this
    have hp : (2 : Int) ^ (7 * (k + 1)) ≤ 2 ^ 63 := by
      have : (2 : Nat) ^ (7 * (k + 1)) ≤ 2 ^ 63 := Nat.pow_le_pow_right (by omega) (by omega)
      exact_mod_cast this
    have e : (2 : Int) ^ 63 = 9223372036854775808 := by decide
    omega
theorem val_drop_le (l : List Int) (m : Nat) : val (l.drop m) ≤ val l := by
  induction m generalizing l with
  | zero => simp
  | succ m ih =>
    cases l with
    | nil => simp
    | cons c l =>
      have := ih l
      have h0 := val_nonneg l
      simp only [List.drop_succ_cons, val]
      omega
theorem val_drop (l : List Int) (m : Nat) (h : m < l.length) : val (l.drop m) = l[m]?.getD 0 % 128 + 128 * val (l.drop (m + 1)) := by
  rw [List.drop_eq_getElem_cons h, val]; simp [h]

/-- A group behind the others, as a sum. -/
theorem rd_bd (xs : List Int) (hx : Bytes xs) : (0 ≤ (rd xs).1 ∧ (rd xs).1 < 18446744073709551616) ∧ (0 ≤ (rd xs).2.1 ∧ (rd xs).2.1 ≤ 10 ∧ (rd xs).2.1 ≤ xs.length) ∧ (0 ≤ (rd xs).2.2 ∧ (rd xs).2.2 ≤ 12) := by
  have hle : lead xs ≤ xs.length := by
    clear hx
    induction xs with
    | nil => simp [lead]
    | cons c l ih => simp only [lead, List.length_cons]; split <;> omega
  have hat : lead xs < xs.length → xs[lead xs]?.getD 0 < 128 := by
    clear hx hle
    induction xs with
    | nil => simp
    | cons c l ih =>
      simp only [lead, List.length_cons]
      split
      · intro h; simpa using ih (by omega)
      · intro _; simp; omega
  unfold rd
  split
  · simp
  · split
    · simp
    · split
      · simp
      · rename_i h1 h2 h3
        have hlt : lead xs < xs.length := by omega
        have hb := hx _ hlt
        have := val_nonneg (xs.take (lead xs + 1))
        have hf := val_fits xs (lead xs) hlt (by omega) hb.1 (hat hlt) (fun h => by rw [h] at h2 ⊢; omega)
        simp only
        omega
end Go.Proofs.Ytekefbbjocekiab
