/-
  What becomes of the edges of two lists of ranges when they are gone over in the order of their texts: the texts that are wanted, in normal form. No condition but that what neither list has is not wanted.
-/
import Derived.Test.YtdjcokepeifojaaNRi
namespace Go.Proofs.Ytdjcokepeifojaa
set_option linter.unusedVariables false
open Go.RowKit

/-- The ranges so far; how many ranges of each list are open; is the last text wanted; from where on. -/
abbrev LS := List Rg × Int × Int × Bool × ByteArray
def o0' (s : LS) (e : Ed) : Int := if e.2.1 = 0 then s.2.1 + e.2.2 else s.2.1
def o1' (s : LS) (e : Ed) : Int := if e.2.1 = 0 then s.2.2.1 else s.2.2.1 + e.2.2
def lstep (f : Bool → Bool → Bool) (s : LS) (e : Ed) (same : Bool) : LS :=
  if same = true then (s.1, o0' s e, o1' s e, s.2.2.2.1, s.2.2.2.2)
  else if s.2.2.2.1 = true then
    if f (decide (0 < o0' s e)) (decide (0 < o1' s e)) = true then (s.1, o0' s e, o1' s e, true, s.2.2.2.2) else (s.1 ++ [(s.2.2.2.2, e.1)], o0' s e, o1' s e, false, s.2.2.2.2)
  else if f (decide (0 < o0' s e)) (decide (0 < o1' s e)) = true then (s.1, o0' s e, o1' s e, true, e.1) else (s.1, o0' s e, o1' s e, false, s.2.2.2.2)
def ed0 : Ed := (.empty, 0, 0)
def sameN (E : List Ed) (k : Nat) : Bool := decide (k + 1 < E.length) && decide ((E.getD (k + 1) ed0).1 = (E.getD k ed0).1)
def lw (f : Bool → Bool → Bool) (E : List Ed) : Nat → LS
  | 0 => ([], 0, 0, false, .empty)
  | k + 1 => lstep f (lw f E k) (E.getD k ed0) (sameN E k)
def lfin (s : LS) : List Rg := s.1 ++ if s.2.2.2.1 = true then [(s.2.2.2.2, .empty)] else []

/-- The sum of some numbers. -/
def sumI : List Int → Int
  | [] => 0
  | x :: l => x + sumI l
theorem sumI_app (a b : List Int) : sumI (a ++ b) = sumI a + sumI b := by
  induction a with
  | nil => simp [sumI]
  | cons x a ih => simp only [List.cons_append, sumI, ih]; omega
theorem sumI_perm {a b : List Int} (h : a.Perm b) : sumI a = sumI b := by
  induction h with
  | nil => rfl
  | cons x _ ih => simp only [sumI, ih]
  | swap x y l => simp only [sumI]; omega
  | trans _ _ h1 h2 => exact h1.trans h2
/-- What an edge adds at a text. -/
def cE (l : Int) (t : ByteArray) (e : Ed) : Int := if e.2.1 = l ∧ tl t e.1 = false then e.2.2 else 0
def oE (l : Int) (e : Ed) : Int := if e.2.1 = l then e.2.2 else 0
def cS (l : Int) (E : List Ed) (t : ByteArray) : Int := sumI (E.map (cE l t))
def oS (l : Int) (E : List Ed) : Int := sumI (E.map (oE l))
theorem cS_app (l : Int) (A B : List Ed) (t : ByteArray) : cS l (A ++ B) t = cS l A t + cS l B t := by unfold cS; rw [List.map_append, sumI_app]
theorem cS_perm (l : Int) {A B : List Ed} (h : A.Perm B) (t : ByteArray) : cS l A t = cS l B t := sumI_perm (h.map _)
theorem cS_all (l : Int) (E : List Ed) (t : ByteArray) (h : ∀ e ∈ E, tl t e.1 = false) : cS l E t = oS l E := by
  unfold cS oS
  congr 1
  refine List.map_congr_left fun e he => ?_
  unfold cE oE
  rw [h e he]; simp
theorem cS_none (l : Int) (E : List Ed) (t : ByteArray) (h : ∀ e ∈ E, tl t e.1 = true) : cS l E t = 0 := by
  induction E with
  | nil => rfl
  | cons e E ih =>
    have h1 : cE l t e = 0 := by unfold cE; rw [h e (by simp)]; simp
    have h2 := ih (fun x hx => h x (by simp [hx]))
    unfold cS at h2 ⊢
    simp only [List.map_cons, sumI, h1, h2]; rfl
/-- How many ranges of a list have a text. -/
def nHas (A : List Rg) (t : ByteArray) : Int := sumI (A.map fun r => if rHas r t = true then 1 else 0)
theorem nHas_pos (A : List Rg) (t : ByteArray) : 0 ≤ nHas A t ∧ decide (0 < nHas A t) = lHas A t := by
  induction A with
  | nil => exact ⟨Int.le_refl _, rfl⟩
  | cons r A ih =>
    obtain ⟨h1, h2⟩ := ih
    have e : nHas (r :: A) t = (if rHas r t = true then 1 else 0) + nHas A t := rfl
    rw [e, lHas_cons, ← h2]
    cases rHas r t
    · simp; exact h1
    · simp; omega
theorem eds_cS (l k : Int) (r : Rg) (t : ByteArray) : cS l (eds k r) t = if k = l then (if rHas r t = true then 1 else 0) else 0 := by
  obtain ⟨f, u⟩ := r
  by_cases hE : rEmpty (f, u) = true
  · rw [eds_yes hE]
    have : rHas (f, u) t = false := by
      cases h : rHas (f, u) t with
      | false => rfl
      | true =>
        obtain ⟨h1, h2⟩ := rHas_iff.1 h
        have h3 : rEmpty (f, u) = false := rEmpty_iff.2 (by
          rcases h2 with h2 | h2
          · exact .inl h2
          · exact .inr (le_lt h1 h2))
        rw [hE] at h3; cases h3
    rw [this]; simp [cS, sumI]
  · have hE' : rEmpty (f, u) = false := by cases h : rEmpty (f, u) <;> simp_all
    by_cases hu : u.toList = []
    · rw [eds_no1 hE' hu]
      have hu2 := (nil_iff u).1 hu
      simp only [cS, List.map_cons, List.map_nil, sumI, cE]
      unfold rHas rPast
      by_cases hk : k = l <;> cases h1 : tl t f <;> simp [hk, hu2]
    · rw [eds_no2 hE' hu]
      have hu2 : u ≠ .empty := fun e => hu ((nil_iff u).2 e)
      simp only [cS, List.map_cons, List.map_nil, sumI, cE]
      have h3 : tl t f = true → tl t u = true := fun h => by
        rcases rEmpty_iff.1 hE' with h4 | h4
        · exact absurd h4 hu2
        · exact tl_trans h h4
      unfold rHas rPast
      by_cases hk : k = l
      · cases h1 : tl t f
        · cases h2 : tl t u <;> simp [hk, hu2]
        · rw [h3 h1]; simp [hk]
      · cases tl t f <;> cases tl t u <;> simp [hk]
theorem edsL_cS (l k : Int) (A : List Rg) (t : ByteArray) : cS l (edsL k A) t = if k = l then nHas A t else 0 := by
  induction A with
  | nil => by_cases h : k = l <;> simp [edsL, cS, sumI, nHas, h]
  | cons r A ih =>
    rw [show edsL k (r :: A) = eds k r ++ edsL k A from rfl, cS_app, eds_cS, ih]
    by_cases h : k = l
    · simp only [h, if_pos]; rfl
    · simp [h]
theorem both_cS (A B : List Rg) {E : List Ed} (h : (edsL 0 A ++ edsL 1 B).Perm E) (t : ByteArray) : decide (0 < cS 0 E t) = lHas A t ∧ decide (0 < cS 1 E t) = lHas B t := by
  rw [← cS_perm 0 h, ← cS_perm 1 h, cS_app, cS_app, edsL_cS, edsL_cS, edsL_cS, edsL_cS]
  simp only [if_pos, if_neg (show ¬ (0 : Int) = 1 by decide), if_neg (show ¬ (1 : Int) = 0 by decide)]
  rw [Int.add_zero, Int.zero_add]
  exact ⟨(nHas_pos A t).2, (nHas_pos B t).2⟩
theorem oS_snoc (l : Int) (E : List Ed) (k : Nat) (h : k < E.length) : oS l (E.take (k + 1)) = oS l (E.take k) + oE l (E.getD k ed0) := by
  have e : E.getD k ed0 = E[k] := by simp [h]
  rw [List.take_succ_eq_append_getElem h, e]
  unfold oS
  rw [List.map_append, sumI_app]
  simp [sumI]
theorem srt_at {E : List Ed} (h : Srt E) {i j : Nat} (hij : i ≤ j) (hj : j < E.length) : tl (E.getD j ed0).1 (E.getD i ed0).1 = false := by
  by_cases e : i = j
  · subst e; exact tl_irrefl _
  · have := List.pairwise_iff_getElem.1 h i j (by omega) hj (by omega)
    have hi : i < E.length := by omega
    simpa [hj, hi] using this
theorem mem_take_at {E : List Ed} {k : Nat} {e : Ed} (h : e ∈ E.take k) : ∃ i, i < k ∧ i < E.length ∧ e = E.getD i ed0 := by
  obtain ⟨i, hi, rfl⟩ := List.getElem_of_mem h
  rw [List.length_take] at hi
  exact ⟨i, by omega, by omega, by rw [List.getElem_take]; simp [show i < E.length by omega]⟩
/-- How it stands behind some edges: k0 is where the last text's edges begin. -/
def LInv (f : Bool → Bool → Bool) (E : List Ed) (k : Nat) (s : LS) : Prop :=
  s.2.1 = oS 0 (E.take k) ∧ s.2.2.1 = oS 1 (E.take k) ∧ ∃ k0, k0 ≤ k ∧ (k0 = 0 ∨ sameN E (k0 - 1) = false) ∧ (∀ j, k0 ≤ j → j < k → sameN E j = true) ∧
    s.2.2.2.1 = f (decide (0 < oS 0 (E.take k0))) (decide (0 < oS 1 (E.take k0))) ∧ Nrm (lfin s) ∧
    (∀ t, lHas (lfin s) t = f (decide (0 < cS 0 (E.take k0) t)) (decide (0 < cS 1 (E.take k0) t))) ∧
    (∀ r ∈ s.1, r.2 ≠ .empty ∧ ∃ e ∈ E.take k0, r.2 = e.1) ∧ (s.2.2.2.1 = true → ∃ e ∈ E.take k0, s.2.2.2.2 = e.1)
theorem linv_zero (f : Bool → Bool → Bool) (hf : f false false = false) (E : List Ed) : LInv f E 0 (lw f E 0) := by
  refine ⟨rfl, rfl, 0, Nat.le_refl _, .inl rfl, fun j h1 h2 => by omega, ?_, trivial, fun t => ?_, (fun r h => by cases h), (fun h => by cases h)⟩
  · show false = _; simp [oS, sumI, hf]
  · show false = _; simp [cS, sumI, hf]
theorem o0_eq (s : LS) (e : Ed) : o0' s e = s.2.1 + oE 0 e := by unfold o0' oE; split <;> simp
theorem o1_eq (s : LS) (e : Ed) (h : e.2.1 = 0 ∨ e.2.1 = 1) : o1' s e = s.2.2.1 + oE 1 e := by
  unfold o1' oE
  rcases h with h | h <;> simp [h]
theorem linv_step (f : Bool → Bool → Bool) (E : List Ed) (hE : Srt E) (h01 : ∀ e ∈ E, e.2.1 = 0 ∨ e.2.1 = 1) (k : Nat) (hk : k < E.length) (s : LS) (h : LInv f E k s) : LInv f E (k + 1) (lstep f s (E.getD k ed0) (sameN E k)) := by
  obtain ⟨h0, h1, k0, hk0, hb, hs, hin, hn, hh, he, hfr⟩ := h
  have hmem : E.getD k ed0 ∈ E := by
    have : E.getD k ed0 = E[k] := by simp [hk]
    rw [this]; exact List.getElem_mem hk
  have a0 : o0' s (E.getD k ed0) = oS 0 (E.take (k + 1)) := by rw [o0_eq, oS_snoc 0 E k hk, h0]
  have a1 : o1' s (E.getD k ed0) = oS 1 (E.take (k + 1)) := by rw [o1_eq _ _ (h01 _ hmem), oS_snoc 1 E k hk, h1]
  unfold lstep
  cases hsame : sameN E k with
  | true =>
    rw [if_pos rfl]
    refine ⟨a0, a1, k0, by omega, hb, fun j j1 j2 => ?_, hin, hn, hh, he, hfr⟩
    by_cases e : j = k
    · subst e; exact hsame
    · exact hs j j1 (by omega)
  | false =>
    rw [if_neg (by simp)]
    obtain ⟨q, hq⟩ : ∃ q, q = (E.getD k ed0).1 := ⟨_, rfl⟩
    have hgrp : ∀ d, d ≤ k - k0 → (E.getD (k - d) ed0).1 = q := by
      intro d
      induction d with
      | zero => intro _; rw [hq]; rfl
      | succ d ih =>
        intro hd
        have i1 := ih (by omega)
        have i2 := hs (k - (d + 1)) (by omega) (by omega)
        unfold sameN at i2
        rw [Bool.and_eq_true, decide_eq_true_eq, decide_eq_true_eq, show k - (d + 1) + 1 = k - d from by omega] at i2
        rw [← i2.2, i1]
    have hat : ∀ j, k0 ≤ j → j ≤ k → (E.getD j ed0).1 = q := fun j j1 j2 => by
      have := hgrp (k - j) (by omega)
      rwa [show k - (k - j) = j from by omega] at this
    have hold : ∀ e ∈ E.take k0, tl e.1 q = true := by
      intro e hem
      obtain ⟨i, hi1, hi2, rfl⟩ := mem_take_at hem
      rcases hb with hb | hb
      · omega
      · have l1 := srt_at hE (show i ≤ k0 - 1 by omega) (by omega)
        have l2 := srt_at hE (show k0 - 1 ≤ k0 by omega) (by omega)
        rw [hat k0 (Nat.le_refl _) hk0] at l2
        unfold sameN at hb
        rw [show k0 - 1 + 1 = k0 from by omega, hat k0 (Nat.le_refl _) hk0] at hb
        have l3 : ¬ q = (E.getD (k0 - 1) ed0).1 := by
          intro e
          rw [← e] at hb
          simp at hb; omega
        rcases tl_total l3 with l4 | l4
        · rw [l2] at l4; cases l4
        · exact le_lt l1 l4
    have hsplit : E.take (k + 1) = E.take k0 ++ (E.take (k + 1)).drop k0 := by
      have := (List.take_append_drop k0 (E.take (k + 1))).symm
      rwa [List.take_take, show min k0 (k + 1) = k0 from by omega] at this
    have hnew : ∀ e ∈ (E.take (k + 1)).drop k0, e.1 = q := by
      intro e hem
      obtain ⟨i, hi, rfl⟩ := List.getElem_of_mem hem
      rw [List.length_drop, List.length_take] at hi
      rw [List.getElem_drop, List.getElem_take]
      have := hat (k0 + i) (by omega) (by omega)
      simpa [show k0 + i < E.length by omega] using this
    have lo : ∀ (l : Int) t, tl t q = true → cS l (E.take (k + 1)) t = cS l (E.take k0) t := fun l t ht => by
      have z := cS_none l ((E.take (k + 1)).drop k0) t (fun e hem => by rw [hnew e hem]; exact ht)
      rw [hsplit, cS_app, z]; omega
    have hi' : ∀ (l : Int) t, tl t q = false → cS l (E.take (k + 1)) t = oS l (E.take (k + 1)) := fun l t ht => by
      refine cS_all l _ t fun e hem => ?_
      rw [hsplit] at hem
      rcases List.mem_append.1 hem with hem | hem
      · exact le_le (tl_asymm (hold e hem)) ht
      · rw [hnew e hem]; exact ht
    have hi0 : ∀ (l : Int) t, tl t q = false → cS l (E.take k0) t = oS l (E.take k0) := fun l t ht =>
      cS_all l _ t fun e hem => le_le (tl_asymm (hold e hem)) ht
    have hmono : ∀ e, e ∈ E.take k0 → e ∈ E.take (k + 1) := fun e hem => by rw [hsplit]; exact List.mem_append.2 (.inl hem)
    have hqm : E.getD k ed0 ∈ E.take (k + 1) := by
      have : E.getD k ed0 = E[k] := by simp [hk]
      rw [List.take_succ_eq_append_getElem hk, this]
      exact List.mem_append.2 (.inr (List.mem_singleton.2 rfl))
    have hend : k + 1 = 0 ∨ sameN E (k + 1 - 1) = false := .inr (by rw [Nat.add_sub_cancel]; exact hsame)
    have hnone : ∀ j, k + 1 ≤ j → j < k + 1 → sameN E j = true := fun j j1 j2 => by omega
    have houtlt : ∀ r ∈ s.1, r.2 ≠ .empty ∧ tl r.2 q = true := fun r hr => by
      obtain ⟨g1, e, g2, g3⟩ := he r hr
      exact ⟨g1, by rw [g3]; exact hold e g2⟩
    have hout : ∀ t, tl t q = false → lHas s.1 t = false := fun t ht => by
      cases hx : lHas s.1 t with
      | false => rfl
      | true =>
        obtain ⟨r, hr, hrt⟩ := lHas_iff.1 hx
        obtain ⟨g1, g2⟩ := houtlt r hr
        rcases (rHas_iff.1 hrt).2 with g3 | g3
        · exact absurd g3 g1
        · have := tl_trans g3 g2; rw [ht] at this; cases this
    rw [a0, a1, ← hq]
    cases hin0 : s.2.2.2.1 with
    | true =>
      rw [if_pos rfl]
      have hfin : lfin s = s.1 ++ [(s.2.2.2.2, .empty)] := by unfold lfin; rw [hin0, if_pos rfl]
      obtain ⟨ef, hef1, hef2⟩ := hfr hin0
      have hfq : tl s.2.2.2.2 q = true := by rw [hef2]; exact hold ef hef1
      cases hnw : f (decide (0 < oS 0 (E.take (k + 1)))) (decide (0 < oS 1 (E.take (k + 1)))) with
      | true =>
        rw [if_pos rfl]
        have hfin2 : lfin (s.1, oS 0 (E.take (k + 1)), oS 1 (E.take (k + 1)), true, s.2.2.2.2) = lfin s := by rw [hfin]; rfl
        refine ⟨rfl, rfl, k + 1, Nat.le_refl _, hend, hnone, hnw.symm, by rw [hfin2]; exact hn, fun t => ?_, fun r hr => ⟨(he r hr).1, by obtain ⟨_, e, g2, g3⟩ := he r hr; exact ⟨e, hmono e g2, g3⟩⟩, fun _ => ⟨ef, hmono ef hef1, hef2⟩⟩
        rw [hfin2, hh t]
        cases ht : tl t q with
        | true => rw [lo 0 t ht, lo 1 t ht]
        | false => rw [hi' 0 t ht, hi' 1 t ht, hi0 0 t ht, hi0 1 t ht, hnw, ← hin, hin0]
      | false =>
        rw [if_neg (by simp)]
        have hfin2 : lfin (s.1 ++ [(s.2.2.2.2, q)], oS 0 (E.take (k + 1)), oS 1 (E.take (k + 1)), false, s.2.2.2.2) = s.1 ++ [(s.2.2.2.2, q)] := by unfold lfin; simp
        have hqn : q ≠ .empty := fun e => by rw [e, tl_none] at hfq; cases hfq
        rw [hfin] at hn hh
        obtain ⟨n1, n2, n3⟩ := hn.init
        refine ⟨rfl, rfl, k + 1, Nat.le_refl _, hend, hnone, hnw.symm, ?_, fun t => ?_, fun r hr => ?_, fun h => by cases h⟩
        · rw [hfin2]
          exact n1.snoc (rEmpty_iff.2 (.inr hfq)) n3
        · rw [hfin2, lHas_app]
          cases ht : tl t q with
          | true =>
            rw [lo 0 t ht, lo 1 t ht, ← hh t, lHas_app]
            congr 1
            simp only [lHas, List.any_cons, List.any_nil, Bool.or_false]
            unfold rHas rPast
            simp [hqn, ht]
          | false =>
            rw [hi' 0 t ht, hi' 1 t ht, hnw, hout t ht]
            simp only [lHas, List.any_cons, List.any_nil, Bool.or_false, Bool.false_or]
            unfold rHas rPast
            simp [hqn, ht]
        · rcases List.mem_append.1 hr with hr | hr
          · exact ⟨(he r hr).1, by obtain ⟨_, e, g2, g3⟩ := he r hr; exact ⟨e, hmono e g2, g3⟩⟩
          · rw [List.mem_singleton] at hr
            subst hr
            exact ⟨hqn, _, hqm, hq⟩
    | false =>
      rw [if_neg (by simp)]
      have hfin : lfin s = s.1 := by unfold lfin; rw [hin0]; simp
      rw [hfin] at hn hh
      cases hnw : f (decide (0 < oS 0 (E.take (k + 1)))) (decide (0 < oS 1 (E.take (k + 1)))) with
      | true =>
        rw [if_pos rfl]
        have hfin2 : lfin (s.1, oS 0 (E.take (k + 1)), oS 1 (E.take (k + 1)), true, q) = s.1 ++ [(q, .empty)] := rfl
        refine ⟨rfl, rfl, k + 1, Nat.le_refl _, hend, hnone, hnw.symm, ?_, fun t => ?_, fun r hr => ⟨(he r hr).1, by obtain ⟨_, e, g2, g3⟩ := he r hr; exact ⟨e, hmono e g2, g3⟩⟩, fun _ => ⟨_, hqm, hq⟩⟩
        · rw [hfin2]; exact hn.snoc (rEmpty_iff.2 (.inl rfl)) houtlt
        · rw [hfin2, lHas_app]
          cases ht : tl t q with
          | true =>
            rw [lo 0 t ht, lo 1 t ht, ← hh t]
            simp only [lHas, List.any_cons, List.any_nil, Bool.or_false]
            unfold rHas rPast
            simp [ht]
          | false =>
            rw [hi' 0 t ht, hi' 1 t ht, hnw]
            simp only [lHas, List.any_cons, List.any_nil, Bool.or_false]
            unfold rHas rPast
            simp [ht]
      | false =>
        rw [if_neg (by simp)]
        have hfin2 : lfin (s.1, oS 0 (E.take (k + 1)), oS 1 (E.take (k + 1)), false, s.2.2.2.2) = s.1 := by unfold lfin; simp
        refine ⟨rfl, rfl, k + 1, Nat.le_refl _, hend, hnone, hnw.symm, by rw [hfin2]; exact hn, fun t => ?_, fun r hr => ⟨(he r hr).1, by obtain ⟨_, e, g2, g3⟩ := he r hr; exact ⟨e, hmono e g2, g3⟩⟩, fun h => by cases h⟩
        rw [hfin2, hh t]
        cases ht : tl t q with
        | true => rw [lo 0 t ht, lo 1 t ht]
        | false => rw [hi' 0 t ht, hi' 1 t ht, hi0 0 t ht, hi0 1 t ht, hnw, ← hin, hin0]
theorem linv_all (f : Bool → Bool → Bool) (hf : f false false = false) (E : List Ed) (hE : Srt E) (h01 : ∀ e ∈ E, e.2.1 = 0 ∨ e.2.1 = 1) : ∀ k, k ≤ E.length → LInv f E k (lw f E k)
  | 0, _ => linv_zero f hf E
  | k + 1, h => linv_step f E hE h01 k (by omega) _ (linv_all f hf E hE h01 k (by omega))
theorem eds_01 (A B : List Rg) : ∀ e ∈ edsL 0 A ++ edsL 1 B, e.2.1 = 0 ∨ e.2.1 = 1 := by
  have : ∀ (k : Int) (A : List Rg), ∀ e ∈ edsL k A, e.2.1 = k := by
    intro k A e he
    obtain ⟨r, _, hr⟩ := List.mem_flatMap.1 he
    unfold eds at hr
    by_cases h1 : rEmpty r = true
    · rw [if_pos h1] at hr; cases hr
    · rw [if_neg h1] at hr
      by_cases h2 : r.2 = .empty
      · rw [if_pos h2] at hr; simp at hr; rw [hr]
      · rw [if_neg h2] at hr; simp at hr; rcases hr with rfl | rfl <;> rfl
  intro e he
  rcases List.mem_append.1 he with he | he
  · exact .inl (this 0 A e he)
  · exact .inr (this 1 B e he)
/-- What comes of it: the wanted texts, in normal form. -/
theorem lay_pure (f : Bool → Bool → Bool) (hf : f false false = false) (A B : List Rg) (E : List Ed) (hp : (edsL 0 A ++ edsL 1 B).Perm E) (hE : Srt E) :
    Nrm (lfin (lw f E E.length)) ∧ ∀ t, lHas (lfin (lw f E E.length)) t = f (lHas A t) (lHas B t) := by
  obtain ⟨-, -, k0, h1, h2, h3, -, hn, hh, -⟩ := linv_all f hf E hE (fun e he => eds_01 A B e (hp.mem_iff.2 he)) E.length (Nat.le_refl _)
  have hk : k0 = E.length := by
    rcases Nat.lt_or_ge k0 E.length with h | h
    · have := h3 (E.length - 1) (by omega) (by omega)
      unfold sameN at this
      simp at this; omega
    · omega
  subst hk
  refine ⟨hn, fun t => ?_⟩
  rw [hh t, List.take_length, (both_cS A B hp t).1, (both_cS A B hp t).2]
end Go.Proofs.Ytdjcokepeifojaa
