/-
  Buckets in a row as ranges: pairs of numbers from .. up to ahead of .., and what the document's Ranges keeps as it goes on. No condition.
-/
import Derived.Test.YtggkkpbgnlmfeabNWh
namespace Go.Proofs.Ytggkkpbgnlmfeab
set_option linter.unusedVariables false

def rgP (D : Nat) (p : Nat × Nat) : Rg := (lst D p.1, lst D p.2)
theorem lst_some (D n : Nat) (h1 : 1 ≤ D) (h3 : D ≤ 3) (hn : nbk D = (n : Int)) (j : Nat) (h0 : 0 < j) (hj : j < n) : lst D j ≠ .empty := fun h => by
  have hb := nbk_bd D h1 h3
  have e := bkt_lst D h1 h3 j ⟨by omega, by omega⟩
  have e0 := bkt_lst D h1 h3 0 ⟨by omega, by omega⟩
  have z : lst D 0 = .empty := by
    rw [← bs_none]
    rcases (show D = 1 ∨ D = 2 ∨ D = 3 by omega) with rfl | rfl | rfl <;> decide +kernel
  rw [h] at e
  rw [z] at e0
  omega
theorem rgP_has (D n : Nat) (h1 : 1 ≤ D) (h3 : D ≤ 3) (hn : nbk D = (n : Int)) (p : Nat × Nat) (hp : p.1 < p.2 ∧ p.2 ≤ n) (t : ByteArray) : rHas (rgP D p) t = decide ((p.1 : Int) ≤ bkt t D ∧ bkt t D < p.2) := by
  have hb := bkt_lt D h1 h3 t
  have e1 : tl t (lst D p.1) = decide (bkt t D < p.1) := tl_lst D h1 h3 t p.1 ⟨by omega, by omega⟩
  unfold rHas rPast rgP
  simp only [e1]
  by_cases h : p.2 = n
  · have e2 : lst D p.2 = .empty := by rw [h, ← hn]; exact lst_last D h1 h3
    have h4 : bkt t D < p.2 := by omega
    simp only [e2, decide_true, Bool.not_true, Bool.false_and, Bool.not_false, Bool.and_true, h4, and_true]
    by_cases h5 : bkt t D < p.1
    · rw [decide_eq_true h5, decide_eq_false (by omega)]; rfl
    · rw [decide_eq_false h5, decide_eq_true (by omega)]; rfl
  · have e2 : lst D p.2 ≠ .empty := lst_some D n h1 h3 hn p.2 (by omega) (by omega)
    have e3 : tl t (lst D p.2) = decide (bkt t D < p.2) := tl_lst D h1 h3 t p.2 ⟨by omega, by omega⟩
    rw [decide_eq_false e2, e3]
    by_cases h5 : bkt t D < p.1
    · rw [decide_eq_true h5, decide_eq_false (p := (p.1 : Int) ≤ bkt t D ∧ bkt t D < p.2) (by omega)]; rfl
    · rw [decide_eq_false h5]
      by_cases h6 : bkt t D < p.2
      · rw [decide_eq_true h6, decide_eq_true (by omega)]; rfl
      · rw [decide_eq_false h6, decide_eq_false (by omega)]; rfl
theorem rgP_full (D n : Nat) (h1 : 1 ≤ D) (h3 : D ≤ 3) (hn : nbk D = (n : Int)) (p : Nat × Nat) (hp : p.1 < p.2 ∧ p.2 ≤ n) : rEmpty (rgP D p) = false := by
  have h := rgP_has D n h1 h3 hn p hp (lst D p.1)
  have e : bkt (lst D p.1) D = p.1 := bkt_lst D h1 h3 p.1 ⟨by omega, by omega⟩
  rw [e, decide_eq_true (by omega)] at h
  unfold rHas at h
  unfold rEmpty
  cases h4 : rPast (rgP D p) (rgP D p).1 with
  | false => rfl
  | true => rw [show rPast (rgP D p) (lst D p.1) = true from h4] at h; simp at h
theorem nrm_pairs (D n : Nat) (h1 : 1 ≤ D) (h3 : D ≤ 3) (hn : nbk D = (n : Int)) : ∀ L : List (Nat × Nat), (∀ p ∈ L, p.1 < p.2 ∧ p.2 ≤ n) → L.Pairwise (fun p q => p.2 < q.1) → Nrm (L.map (rgP D))
  | [], _, _ => trivial
  | p :: L, hb, hp => by
    rw [List.pairwise_cons] at hp
    refine ⟨rgP_full D n h1 h3 hn p (hb p (by simp)), fun s hs => ?_, nrm_pairs D n h1 h3 hn L (fun q hq => hb q (by simp [hq])) hp.2⟩
    obtain ⟨q, hq, rfl⟩ := List.mem_map.1 hs
    have k := hp.1 q hq
    have b1 := hb p (by simp)
    have b2 := hb q (by simp [hq])
    have e : bkt (lst D p.2) D = p.2 := bkt_lst D h1 h3 p.2 ⟨by omega, by omega⟩
    refine ⟨lst_some D n h1 h3 hn p.2 (by omega) (by omega), ?_⟩
    show tl (lst D p.2) (lst D q.1) = true
    rw [tl_lst D h1 h3 _ q.1 ⟨by omega, by omega⟩, e]
    exact decide_eq_true (by omega)
/-- What is so behind the first k buckets: the pairs are those buckets that are named. -/
structure GI (F : Nat → Bool) (k : Nat) (L : List (Nat × Nat)) : Prop where
  bd : ∀ p ∈ L, p.1 < p.2 ∧ p.2 ≤ k
  pw : L.Pairwise (fun p q => p.2 < q.1)
  has : ∀ b, b < k → (F b = true ↔ ∃ p ∈ L, p.1 ≤ b ∧ b < p.2)
  last : 0 < k → F (k - 1) = true → ∃ M i, L = M ++ [(i, k)]
  len : L.length ≤ k
theorem gi_none (F : Nat → Bool) : GI F 0 [] := ⟨by simp, List.Pairwise.nil, by simp, by simp, by simp⟩
theorem gi_skip {F : Nat → Bool} {k : Nat} {L : List (Nat × Nat)} (h : GI F k L) (hF : F k = false) : GI F (k + 1) L := by
  refine ⟨fun p hp => ?_, h.pw, fun b hb => ?_, fun _ hk => ?_, by have := h.len; omega⟩
  · have := h.bd p hp; omega
  · by_cases e : b = k
    · subst e
      rw [hF]
      refine ⟨(fun h => by cases h), ?_⟩
      rintro ⟨p, hp, h1, h2⟩
      have := h.bd p hp; omega
    · exact h.has b (by omega)
  · rw [Nat.add_sub_cancel, hF] at hk; cases hk
theorem gi_new {F : Nat → Bool} {k : Nat} {L : List (Nat × Nat)} (h : GI F k L) (hF : F k = true) (hn : ¬ (0 < k ∧ F (k - 1) = true)) : GI F (k + 1) (L ++ [(k, k + 1)]) := by
  have hlt : ∀ p ∈ L, p.2 < k := fun p hp => by
    have b := h.bd p hp
    by_cases e : p.2 = k
    · exact absurd ⟨by omega, (h.has (k - 1) (by omega)).2 ⟨p, hp, by omega, by omega⟩⟩ hn
    · omega
  refine ⟨fun p hp => ?_, ?_, fun b hb => ?_, fun _ _ => ⟨L, k, rfl⟩, by have := h.len; simp; omega⟩
  · rcases List.mem_append.1 hp with hp | hp
    · have := h.bd p hp; omega
    · simp at hp; subst hp; exact ⟨Nat.lt_succ_self _, Nat.le_refl _⟩
  · rw [List.pairwise_append]
    refine ⟨h.pw, by simp, fun p hp q hq => ?_⟩
    simp at hq; subst hq; exact hlt p hp
  · by_cases e : b = k
    · subst e
      exact ⟨fun _ => ⟨(b, b + 1), by simp, Nat.le_refl _, Nat.lt_succ_self _⟩, fun _ => hF⟩
    · rw [h.has b (by omega)]
      constructor
      · rintro ⟨p, hp, h2⟩; exact ⟨p, by simp [hp], h2⟩
      · rintro ⟨p, hp, h2, h3⟩
        rcases List.mem_append.1 hp with hp | hp
        · exact ⟨p, hp, h2, h3⟩
        · simp at hp; subst hp; simp only at h2; omega
theorem gi_more {F : Nat → Bool} {k i : Nat} {M : List (Nat × Nat)} (h : GI F k (M ++ [(i, k)])) (hF : F k = true) : GI F (k + 1) (M ++ [(i, k + 1)]) := by
  have bi := h.bd (i, k) (by simp)
  simp only at bi
  have pw := h.pw
  rw [List.pairwise_append] at pw
  refine ⟨fun p hp => ?_, ?_, fun b hb => ?_, fun _ _ => ⟨M, i, rfl⟩, by have := h.len; simp at this ⊢; omega⟩
  · rcases List.mem_append.1 hp with hp | hp
    · have := h.bd p (by simp [hp]); omega
    · simp at hp; subst hp; simp only; omega
  · rw [List.pairwise_append]
    refine ⟨pw.1, by simp, fun p hp q hq => ?_⟩
    simp at hq; subst hq; exact pw.2.2 p hp (i, k) (by simp)
  · by_cases e : b = k
    · subst e
      exact ⟨fun _ => ⟨(i, b + 1), by simp, by simp only; omega, Nat.lt_succ_self _⟩, fun _ => hF⟩
    · rw [h.has b (by omega)]
      constructor
      · rintro ⟨p, hp, h2, h3⟩
        rcases List.mem_append.1 hp with hp | hp
        · exact ⟨p, by simp [hp], h2, h3⟩
        · simp at hp; subst hp; exact ⟨(i, k + 1), by simp, h2, by simp only at h3 ⊢; omega⟩
      · rintro ⟨p, hp, h2, h3⟩
        rcases List.mem_append.1 hp with hp | hp
        · exact ⟨p, by simp [hp], h2, h3⟩
        · simp at hp; subst hp; exact ⟨(i, k), by simp, h2, by simp only at h3 ⊢; omega⟩
theorem gi_has (D n : Nat) (h1 : 1 ≤ D) (h3 : D ≤ 3) (hn : nbk D = (n : Int)) {F : Nat → Bool} {L : List (Nat × Nat)} (h : GI F n L) (t : ByteArray) : lHas (L.map (rgP D)) t = F (bkt t D).toNat := by
  have hb := bkt_lt D h1 h3 t
  have k := h.has (bkt t D).toNat (by omega)
  rw [Bool.eq_iff_iff, k]
  unfold lHas
  rw [List.any_eq_true]
  constructor
  · rintro ⟨r, hr, h4⟩
    obtain ⟨p, hp, rfl⟩ := List.mem_map.1 hr
    rw [rgP_has D n h1 h3 hn p (h.bd p hp) t] at h4
    have := of_decide_eq_true h4
    exact ⟨p, hp, by omega, by omega⟩
  · rintro ⟨p, hp, h4, h5⟩
    refine ⟨rgP D p, List.mem_map.2 ⟨p, hp, rfl⟩, ?_⟩
    rw [rgP_has D n h1 h3 hn p (h.bd p hp) t]
    exact decide_eq_true (by omega)
end Go.Proofs.Ytggkkpbgnlmfeab
