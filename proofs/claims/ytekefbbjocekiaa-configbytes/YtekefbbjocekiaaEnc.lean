/-
  Plain mathematics for the laws of package leb: a number's bytes, how many they are, that reading undoes writing and writing undoes reading. No condition of its own; it imports nothing of the program.
-/
import Derived.Test.YtekefbbjocekiaaRd
namespace Go.Proofs.Ytekefbbjocekiaa
set_option linter.unusedVariables false

/-- A number's bytes. -/
def enc (v : Nat) : List Int := if h : v < 128 then [(v : Int)] else ((v % 128 + 128 : Nat) : Int) :: enc (v / 128)
theorem enc_small {v : Nat} (h : v < 128) : enc v = [(v : Int)] := by rw [enc, dif_pos h]
theorem enc_big {v : Nat} (h : 128 ≤ v) : enc v = ((v % 128 + 128 : Nat) : Int) :: enc (v / 128) := by rw [enc, dif_neg (by omega)]
/-- Several numbers' bytes. -/
def encs : List Int → List Int
  | [] => []
  | v :: l => enc v.toNat ++ encs l
theorem encs_snoc (l : List Int) (v : Int) : encs (l ++ [v]) = encs l ++ enc v.toNat := by
  induction l with
  | nil => simp [encs]
  | cons x l ih => simp [encs, ih]

theorem st_div (c v : Int) : st (128 * c) v = st c (v / 128) := by
  unfold st; split <;> split <;> omega
theorem sz_step (v : Int) (h : 128 ≤ v) (h2 : v < 18446744073709551616) : sz v = 1 + sz (v / 128) := by
  unfold sz
  have a1 := st_div 128 v
  have a2 := st_div 16384 v
  have a3 := st_div 2097152 v
  have a4 := st_div 268435456 v
  have a5 := st_div 34359738368 v
  have a6 := st_div 4398046511104 v
  have a7 := st_div 562949953421312 v
  have a8 := st_div 72057594037927936 v
  have a9 : st 9223372036854775808 (v / 128) = 0 := st_no (by omega)
  have a0 : st 128 v = 1 := st_yes h
  simp only [Int.reduceMul] at a1 a2 a3 a4 a5 a6 a7 a8
  omega
theorem enc_length (v : Nat) (h : v < 18446744073709551616) : (enc v).length = sz v := by
  induction v using Nat.strongRecOn with
  | ind v ih =>
    by_cases h1 : v < 128
    · rw [enc_small h1, sz_1 v (by omega)]; rfl
    · rw [enc_big (by omega), List.length_cons, ih (v / 128) (by omega) (by omega), sz_step v (by omega) (by omega)]
      rw [show ((v : Int) / 128) = ((v / 128 : Nat) : Int) from by omega]; omega
theorem enc_pos (v : Nat) : 1 ≤ (enc v).length := by
  by_cases h : v < 128
  · rw [enc_small h]; simp
  · rw [enc_big (by omega)]; simp
theorem enc_bytes (v : Nat) : ∀ c ∈ enc v, 0 ≤ c ∧ c < 256 := by
  induction v using Nat.strongRecOn with
  | ind v ih =>
    by_cases h1 : v < 128
    · rw [enc_small h1]; simp; omega
    · rw [enc_big (by omega)]
      intro c hc
      rcases List.mem_cons.1 hc with rfl | hc
      · omega
      · exact ih (v / 128) (by omega) c hc
theorem bytes_of_mem {l : List Int} (h : ∀ c ∈ l, 0 ≤ c ∧ c < 256) : Bytes l := fun i hi => by
  have := h l[i] (List.getElem_mem hi)
  simpa [hi] using this
theorem encs_bytes (l : List Int) : ∀ c ∈ encs l, 0 ≤ c ∧ c < 256 := by
  induction l with
  | nil => simp [encs]
  | cons x l ih =>
    intro c hc
    simp only [encs, List.mem_append] at hc
    rcases hc with hc | hc
    · exact enc_bytes _ c hc
    · exact ih c hc
theorem val_enc (v : Nat) : val (enc v) = v := by
  induction v using Nat.strongRecOn with
  | ind v ih =>
    by_cases h1 : v < 128
    · rw [enc_small h1]; simp [val]; omega
    · rw [enc_big (by omega), val, ih (v / 128) (by omega)]; omega
/-- All bytes but the last go on; the last one does not, and is not 0 behind another one. -/
theorem enc_form (v : Nat) (rest : List Int) : (∀ j, j + 1 < (enc v).length → 128 ≤ (enc v ++ rest)[j]?.getD 0) ∧ (0 ≤ (enc v ++ rest)[(enc v).length - 1]?.getD 0 ∧ (enc v ++ rest)[(enc v).length - 1]?.getD 0 < 128) ∧ (1 < (enc v).length → (enc v ++ rest)[(enc v).length - 1]?.getD 0 ≠ 0) := by
  induction v using Nat.strongRecOn with
  | ind v ih =>
    by_cases h1 : v < 128
    · rw [enc_small h1]; simp; omega
    · obtain ⟨a, b, c⟩ := ih (v / 128) (by omega)
      have hp := enc_pos (v / 128)
      rw [enc_big (by omega)]
      have e : ((((v % 128 + 128 : Nat) : Int) :: enc (v / 128)).length - 1) = ((enc (v / 128)).length - 1) + 1 := by simp; omega
      rw [e]
      refine ⟨fun j hj => ?_, ?_, fun _ => ?_⟩
      · cases j with
        | zero => simp; omega
        | succ j => simpa using a j (by simp at hj; omega)
      · simpa using b
      · by_cases h2 : 1 < (enc (v / 128)).length
        · simpa using c h2
        · have hs : v / 128 < 128 := by
            rcases Nat.lt_or_ge (v / 128) 128 with h | h
            · exact h
            · rw [enc_big h] at h2
              have := enc_pos (v / 128 / 128)
              simp at h2; simp [h2] at this
          rw [enc_small hs]
          simp; omega
theorem take_enc (v : Nat) (rest : List Int) : (enc v ++ rest).take ((enc v).length - 1 + 1) = enc v := by
  have := enc_pos v
  rw [show (enc v).length - 1 + 1 = (enc v).length from by omega, List.take_left']
  rfl
/-- What is written is read, whatever stands behind. -/
theorem rd_enc (v : Nat) (h : v < 18446744073709551616) (rest : List Int) : rd (enc v ++ rest) = ((v : Int), ((enc v).length : Int), 0) := by
  obtain ⟨a, b, c⟩ := enc_form v rest
  have hp := enc_pos v
  have hl := enc_length v h
  have hs := sz_bd v
  have ht := take_enc v rest
  have := rd_ok (enc v ++ rest) ((enc v).length - 1) (fun j hj => a j (by omega)) (by simp; omega) (by omega) b.2 (fun h9 => ?_) (fun h0 => c (by omega))
  · rw [this, ht, val_enc]
    rw [show (((enc v).length - 1 : Nat) : Int) + 1 = (enc v).length from by omega]
  · -- the tenth byte
    have e1 : val ((enc v ++ rest).take ((enc v).length - 1 + 1)) = v := by rw [ht]; exact val_enc v
    rw [take_snoc _ _ (by simp; omega), val_snoc] at e1
    have hn := val_nonneg ((enc v ++ rest).take ((enc v).length - 1))
    have hl2 : ((enc v ++ rest).take ((enc v).length - 1)).length = 9 := by simp; omega
    rw [hl2, Int.emod_eq_of_lt b.1 b.2] at e1
    have e2 : (2 : Int) ^ (7 * 9) = 9223372036854775808 := by decide
    rw [e2] at e1
    omega
theorem val_pos (xs : List Int) (k : Nat) (hk : k < xs.length) (h0 : 0 < xs[k]?.getD 0) (h1 : xs[k]?.getD 0 < 128) : 1 ≤ val (xs.take (k + 1)) := by
  rw [take_snoc xs k hk, val_snoc, Int.emod_eq_of_lt (by omega) h1]
  have := val_nonneg (xs.take k)
  have hp := pow_pos2 (7 * (xs.take k).length)
  have : 0 < 2 ^ (7 * (xs.take k).length) * xs[k]?.getD 0 := Int.mul_pos hp h0
  omega
/-- What is read is written. -/
theorem enc_val : ∀ (k : Nat) (xs : List Int), k < xs.length → (∀ j, j < k → 128 ≤ xs[j]?.getD 0 ∧ xs[j]?.getD 0 < 256) → 0 ≤ xs[k]?.getD 0 → xs[k]?.getD 0 < 128 → (0 < k → xs[k]?.getD 0 ≠ 0) →
    enc (val (xs.take (k + 1))).toNat = xs.take (k + 1)
  | 0, c :: l, _, _, h0, h1, _ => by
    simp at h0 h1
    simp [val]
    rw [show (c % 128).toNat = c.toNat from by omega, enc_small (by omega)]
    simp; omega
  | k + 1, c :: l, hk, h, h0, h1, h2 => by
    have hc := h 0 (by omega)
    simp at hc hk h0 h1
    have h2' := h2 (by omega)
    simp at h2'
    have hv := val_pos l k hk (by omega) h1
    have ih := enc_val k l hk (fun j hj => by have := h (j + 1) (by omega); simpa using this) h0 h1 (fun _ => h2')
    rw [List.take_succ_cons, val]
    have e : (c % 128 + 128 * val (l.take (k + 1))).toNat = (c % 128).toNat + 128 * (val (l.take (k + 1))).toNat := by omega
    rw [e, enc_big (by omega)]
    rw [show ((c % 128).toNat + 128 * (val (l.take (k + 1))).toNat) / 128 = (val (l.take (k + 1))).toNat from by omega, ih]
    congr 1
    omega
theorem rd_back (xs : List Int) (hx : Bytes xs) (h : (rd xs).2.2 = 0) : 1 ≤ (rd xs).2.1 ∧ (rd xs).2.1 ≤ xs.length ∧ enc (rd xs).1.toNat = xs.take (rd xs).2.1.toNat := by
  have hle : lead xs ≤ xs.length := by
    clear hx h
    induction xs with
    | nil => simp [lead]
    | cons c l ih => simp only [lead, List.length_cons]; split <;> omega
  have hat : ∀ j, (j < lead xs → 128 ≤ xs[j]?.getD 0) ∧ (j = lead xs → j < xs.length → xs[j]?.getD 0 < 128) := by
    clear hx h hle
    induction xs with
    | nil => intro j; simp [lead]
    | cons c l ih =>
      intro j
      simp only [lead, List.length_cons]
      by_cases hc : 128 ≤ c
      · rw [if_pos hc]
        cases j with
        | zero => exact ⟨fun _ => by simpa using hc, fun h => by omega⟩
        | succ j => have := ih j; exact ⟨fun h => by simpa using this.1 (by omega), fun h h' => by simpa using this.2 (by omega) (by omega)⟩
      · rw [if_neg hc]
        exact ⟨fun h => by omega, fun h _ => by subst h; simp; omega⟩
  unfold rd at h ⊢
  split at h
  · simp at h
  · rename_i n1
    rw [if_neg n1]
    split at h
    · simp at h
    · rename_i n2
      rw [if_neg n2]
      split at h
      · simp at h
      · rename_i n3
        rw [if_neg n3]
        have hlt : lead xs < xs.length := by omega
        have hb := hx _ hlt
        refine ⟨by simp only; omega, by simp only; omega, ?_⟩
        have := enc_val (lead xs) xs hlt (fun j hj => ⟨(hat j).1 hj, (hx j (by omega)).2⟩) hb.1 ((hat _).2 rfl hlt) (fun h0 h1 => n3 ⟨h0, h1⟩)
        simp only
        rw [this]
        congr 1
theorem rd_zero (xs : List Int) (h : (rd xs).2.2 ≠ 0) : (rd xs).1 = 0 ∧ (rd xs).2.1 = 0 := by
  unfold rd at h ⊢
  split
  · simp
  · split
    · simp
    · split
      · simp
      · rename_i n1 n2 n3; rw [if_neg n1, if_neg n2, if_neg n3] at h; simp at h
/-- No number's bytes begin another one's. -/
theorem enc_prefix (v w : Nat) (hv : v < 18446744073709551616) (hw : w < 18446744073709551616) (rest : List Int) (h : enc w = enc v ++ rest) : v = w := by
  have a := rd_enc v hv rest
  have b := rd_enc w hw []
  rw [List.append_nil, h, a] at b
  have := congrArg Prod.fst b
  simp at this
  omega
theorem encs_inj : ∀ (l m : List Int), (∀ v ∈ l, 0 ≤ v ∧ v < 18446744073709551616) → (∀ v ∈ m, 0 ≤ v ∧ v < 18446744073709551616) → encs l = encs m → l = m
  | [], [], _, _, _ => rfl
  | [], w :: m, _, _, h => by
    have := congrArg List.length h
    simp only [encs, List.length_append, List.length_nil] at this
    have hp := enc_pos w.toNat
    omega
  | v :: l, [], _, _, h => by
    have := congrArg List.length h
    simp only [encs, List.length_append, List.length_nil] at this
    have hp := enc_pos v.toNat
    omega
  | v :: l, w :: m, hl, hm, h => by
    simp only [encs] at h
    have hv := hl v (by simp)
    have hw := hm w (by simp)
    have a := rd_enc v.toNat (by omega) (encs l)
    have b := rd_enc w.toNat (by omega) (encs m)
    rw [h, b] at a
    have e := congrArg Prod.fst a
    simp at e
    have e2 : v = w := by omega
    subst e2
    rw [encs_inj l m (fun x hx => hl x (by simp [hx])) (fun x hx => hm x (by simp [hx])) (List.append_cancel_left h)]
end Go.Proofs.Ytekefbbjocekiaa
