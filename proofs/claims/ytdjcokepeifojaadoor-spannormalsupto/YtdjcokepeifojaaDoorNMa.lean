/-
  The ends of ranges, rising, and what the document lays between them: pure facts on lists of texts. No condition.
-/
import Derived.Test.YtdjcokepeifojaaDoorNTx
namespace Go.Proofs.YtdjcokepeifojaaDoor
set_option linter.unusedVariables false

/-- Texts that rise, each once. -/
def Ris (ms : List ByteArray) : Prop := ms.Pairwise fun x y => tl x y = true
/-- Is a text ahead of the i-th mark? -/
def ahd (ms : List ByteArray) (i : Nat) (t : ByteArray) : Bool := match ms[i]? with | some m => tl t m | none => true
def mk (ms : List ByteArray) (i : Nat) : ByteArray := ms.getD i .empty
/-- All ends of a list are marks. -/
def Ends (ms : List ByteArray) (A : List Rg) : Prop := ∀ r ∈ A, r.1 ∈ ms ∧ r.2 ∈ ms
theorem mk_at {ms : List ByteArray} {i : Nat} (h : i < ms.length) : ms[i]? = some (mk ms i) := by simp [mk, h]
theorem mk_end {ms : List ByteArray} {i : Nat} (h : ms.length ≤ i) : mk ms i = .empty := by simp [mk, h]
theorem ahd_in {ms : List ByteArray} {i : Nat} (h : i < ms.length) (t : ByteArray) : ahd ms i t = tl t (mk ms i) := by unfold ahd; rw [mk_at h]
theorem ahd_end {ms : List ByteArray} {i : Nat} (h : ms.length ≤ i) (t : ByteArray) : ahd ms i t = true := by unfold ahd; rw [List.getElem?_eq_none h]
theorem ris_lt {ms : List ByteArray} (hr : Ris ms) {i j : Nat} (hij : i < j) (hj : j < ms.length) : tl (mk ms i) (mk ms j) = true := by
  have := (List.pairwise_iff_getElem.1 hr) i j (by omega) hj hij
  simpa [mk, hj, show i < ms.length by omega] using this
/-- A mark past the first one is not the empty text. -/
theorem mk_some {ms : List ByteArray} (hr : Ris ms) {i : Nat} (h0 : 0 < i) (h : i < ms.length) : mk ms i ≠ .empty := fun e => by
  have := ris_lt hr h0 h
  rw [e, tl_none] at this; cases this
theorem ahd_succ {ms : List ByteArray} (hr : Ris ms) {i : Nat} (h : i < ms.length) {t : ByteArray} (k : ahd ms i t = true) : ahd ms (i + 1) t = true := by
  rcases Nat.lt_or_ge (i + 1) ms.length with h2 | h2
  · rw [ahd_in h2]; rw [ahd_in h] at k
    exact tl_trans k (ris_lt hr (by omega) h2)
  · exact ahd_end h2 t
/-- Between two neighbouring marks all texts stand alike to each mark. -/
theorem mark_same {ms : List ByteArray} (hr : Ris ms) {i : Nat} (h : i < ms.length) {t p : ByteArray} (h1 : ahd ms i t = false) (h2 : ahd ms (i + 1) t = true) (hp : p ∈ ms) : tl t p = tl (mk ms i) p := by
  obtain ⟨j, hj, rfl⟩ := List.getElem_of_mem hp
  have ej : ms[j] = mk ms j := by simp [mk, hj]
  rw [ej]
  rw [ahd_in h] at h1
  rcases Nat.lt_trichotomy j i with h3 | rfl | h3
  · have h4 := ris_lt hr h3 h
    rw [tl_asymm h4]
    exact tl_asymm (lt_le h4 h1)
  · rw [tl_irrefl]; exact h1
  · have h4 := ris_lt hr h3 hj
    rw [h4]
    rcases Nat.lt_or_ge (i + 1) ms.length with h5 | h5
    · rw [ahd_in h5] at h2
      rcases Nat.lt_or_ge (i + 1) j with h6 | h6
      · exact tl_trans h2 (ris_lt hr h6 hj)
      · obtain rfl : j = i + 1 := by omega
        exact h2
    · omega
theorem has_same {ms : List ByteArray} {A : List Rg} (hr : Ris ms) (hA : Ends ms A) {i : Nat} (h : i < ms.length) {t : ByteArray} (h1 : ahd ms i t = false) (h2 : ahd ms (i + 1) t = true) : lHas A t = lHas A (mk ms i) := by
  have k : ∀ r ∈ A, rHas r t = rHas r (mk ms i) := fun r hm => by
    unfold rHas rPast
    rw [mark_same hr h h1 h2 (hA r hm).1, mark_same hr h h1 h2 (hA r hm).2]
  unfold lHas
  induction A with
  | nil => rfl
  | cons a l ih => rw [List.any_cons, List.any_cons, k a (by simp), ih (fun r hm => hA r (by simp [hm])) (fun r hm => k r (by simp [hm]))]
/-- How far the marks have been gone through: what is laid so far. -/
structure LI (ms : List ByteArray) (W : ByteArray → Bool) (i : Nat) (R : List Rg) : Prop where
  nrm : Nrm R
  has : ∀ t, lHas R t = (ahd ms i t && W t)
  tos : i < ms.length → ∀ s ∈ R, s.2 ≠ .empty ∧ tl (mk ms i) s.2 = false
  len : R.length ≤ i
/-- W tells the same of all texts between two neighbouring marks. -/
def Alk (ms : List ByteArray) (W : ByteArray → Bool) : Prop := ∀ i, i < ms.length → ∀ t, ahd ms i t = false → ahd ms (i + 1) t = true → W t = W (mk ms i)
theorem li_none {ms : List ByteArray} (W : ByteArray → Bool) (h0 : 0 < ms.length) (h : mk ms 0 = .empty) : LI ms W 0 [] :=
  ⟨trivial, fun t => by rw [ahd_in h0, h, tl_none]; rfl, fun _ s hs => (by cases hs), Nat.zero_le _⟩
theorem tos_step {ms : List ByteArray} (hr : Ris ms) {i : Nat} (h : i + 1 < ms.length) {s : ByteArray} (k : tl (mk ms i) s = false) : tl (mk ms (i + 1)) s = false := tl_asymm (le_lt k (ris_lt hr (by omega) h))
theorem li_no {ms : List ByteArray} {W : ByteArray → Bool} (hr : Ris ms) (hW : Alk ms W) {i : Nat} {R : List Rg} (h : LI ms W i R) (hi : i < ms.length) (hw : W (mk ms i) = false) : LI ms W (i + 1) R := by
  refine ⟨h.nrm, fun t => ?_, fun h2 s hs => ⟨(h.tos hi s hs).1, tos_step hr h2 (h.tos hi s hs).2⟩, Nat.le_succ_of_le h.len⟩
  rw [h.has]
  cases e : ahd ms i t with
  | true => rw [ahd_succ hr hi e]
  | false =>
    cases e2 : ahd ms (i + 1) t with
    | false => rfl
    | true => rw [hW i hi t e e2, hw]; rfl
/-- From the i-th mark up to the next one. -/
theorem rHas_mk {ms : List ByteArray} (hr : Ris ms) {i : Nat} (hi : i < ms.length) (t : ByteArray) : rHas (mk ms i, mk ms (i + 1)) t = (!ahd ms i t && ahd ms (i + 1) t) := by
  unfold rHas rPast
  rw [ahd_in hi]
  rcases Nat.lt_or_ge (i + 1) ms.length with h2 | h2
  · rw [ahd_in h2]
    simp [mk_some hr (by omega) h2]
  · rw [ahd_end h2, mk_end h2]; simp
theorem rEmpty_mk {ms : List ByteArray} (hr : Ris ms) {i : Nat} (hi : i < ms.length) {a : ByteArray} (ha : tl (mk ms i) a = false) : rEmpty (a, mk ms (i + 1)) = false := by
  rcases Nat.lt_or_ge (i + 1) ms.length with h2 | h2
  · exact rEmpty_iff.2 (.inr (le_lt ha (ris_lt hr (by omega) h2)))
  · exact rEmpty_iff.2 (.inl (mk_end h2))
theorem tos_new {ms : List ByteArray} (hr : Ris ms) {i : Nat} (h2 : i + 1 < ms.length) : mk ms (i + 1) ≠ .empty ∧ tl (mk ms (i + 1)) (mk ms (i + 1)) = false := ⟨mk_some hr (by omega) h2, tl_irrefl _⟩
theorem li_new {ms : List ByteArray} {W : ByteArray → Bool} (hr : Ris ms) (hW : Alk ms W) {i : Nat} {R : List Rg} (h : LI ms W i R) (hi : i < ms.length) (hw : W (mk ms i) = true) (hl : ∀ T a b, R = T ++ [(a, b)] → b ≠ mk ms i) : LI ms W (i + 1) (R ++ [(mk ms i, mk ms (i + 1))]) := by
  refine ⟨Nrm.snoc h.nrm (rEmpty_mk hr hi (tl_irrefl _)) fun s hs => ?_, fun t => ?_, fun h2 s hs => ?_, by rw [List.length_append]; exact Nat.succ_le_succ h.len⟩
  · have hs2 := h.tos hi s hs
    refine ⟨hs2.1, ?_⟩
    rcases List.eq_nil_or_concat R with rfl | ⟨T, ⟨a, b⟩, rfl⟩
    · cases hs
    · have hb := h.tos hi (a, b) (by simp)
      have hbm : tl b (mk ms i) = true := by
        rcases tl_total (hl T a b (by simp)) with h1 | h1
        · exact h1
        · rw [hb.2] at h1; cases h1
      have hn := Nrm.init (l := T) (r := (a, b)) (by simpa using h.nrm)
      simp only [List.concat_eq_append, List.mem_append, List.mem_singleton] at hs
      rcases hs with hs | rfl
      · rcases rEmpty_iff.1 hn.2.1 with h3 | h3
        · exact absurd h3 hb.1
        · exact tl_trans (tl_trans (hn.2.2 s hs).2 h3) hbm
      · exact hbm
  · rw [lHas_app, h.has, show lHas [(mk ms i, mk ms (i + 1))] t = rHas (mk ms i, mk ms (i + 1)) t from by simp [lHas], rHas_mk hr hi]
    cases e : ahd ms i t with
    | true => rw [ahd_succ hr hi e]; simp
    | false =>
      cases e2 : ahd ms (i + 1) t with
      | false => rfl
      | true => rw [hW i hi t e e2, hw]; rfl
  · rcases List.mem_append.1 hs with hs | hs
    · exact ⟨(h.tos hi s hs).1, tos_step hr h2 (h.tos hi s hs).2⟩
    · simp only [List.mem_singleton] at hs; subst hs; exact tos_new hr h2
theorem li_grow {ms : List ByteArray} {W : ByteArray → Bool} (hr : Ris ms) (hW : Alk ms W) {i : Nat} {T : List Rg} {a b : ByteArray} (h : LI ms W i (T ++ [(a, b)])) (hi : i < ms.length) (hw : W (mk ms i) = true) (hb : b = mk ms i) : LI ms W (i + 1) (T ++ [(a, mk ms (i + 1))]) := by
  subst hb
  have hn := Nrm.init h.nrm
  have hb := h.tos hi (a, mk ms i) (by simp)
  have ham : tl a (mk ms i) = true := by
    rcases rEmpty_iff.1 hn.2.1 with h3 | h3
    · exact absurd h3 hb.1
    · exact h3
  refine ⟨Nrm.snoc hn.1 (rEmpty_mk hr hi (tl_asymm ham)) hn.2.2, fun t => ?_, fun h2 s hs => ?_, by have := h.len; rw [List.length_append] at this ⊢; exact Nat.le_succ_of_le this⟩
  · have k := h.has t
    rw [lHas_app, show lHas [(a, mk ms i)] t = rHas (a, mk ms i) t from by simp [lHas]] at k
    rw [lHas_app, show lHas [(a, mk ms (i + 1))] t = rHas (a, mk ms (i + 1)) t from by simp [lHas]]
    have g : rHas (a, mk ms (i + 1)) t = (rHas (a, mk ms i) t || rHas (mk ms i, mk ms (i + 1)) t) := by
      cases x : rHas (a, mk ms i) t with
      | true =>
        have h1 := rHas_iff.1 x
        have h2 : tl t (mk ms i) = true := by
          rcases h1.2 with h3 | h3
          · exact absurd h3 hb.1
          · exact h3
        refine rHas_iff.2 ⟨h1.1, ?_⟩
        rcases Nat.lt_or_ge (i + 1) ms.length with h5 | h5
        · exact .inr (tl_trans h2 (ris_lt hr (by omega) h5))
        · exact .inl (mk_end h5)
      | false =>
        rw [Bool.false_or]
        cases y : rHas (mk ms i, mk ms (i + 1)) t with
        | true =>
          have h1 := rHas_iff.1 y
          exact rHas_iff.2 ⟨tl_asymm (lt_le ham h1.1), h1.2⟩
        | false =>
          cases z : rHas (a, mk ms (i + 1)) t with
          | false => rfl
          | true =>
            have h1 := rHas_iff.1 z
            cases q : tl t (mk ms i) with
            | true => rw [(rHas_iff (r := (a, mk ms i)) (t := t)).2 ⟨h1.1, .inr q⟩] at x; cases x
            | false => rw [(rHas_iff (r := (mk ms i, mk ms (i + 1))) (t := t)).2 ⟨q, h1.2⟩] at y; cases y
    rw [g, ← Bool.or_assoc, k, rHas_mk hr hi]
    cases e : ahd ms i t with
    | true => rw [ahd_succ hr hi e]; simp
    | false =>
      cases e2 : ahd ms (i + 1) t with
      | false => rfl
      | true => rw [hW i hi t e e2, hw]; rfl
  · rcases List.mem_append.1 hs with hs | hs
    · exact ⟨(h.tos hi s (by simp [hs])).1, tos_step hr h2 (h.tos hi s (by simp [hs])).2⟩
    · simp only [List.mem_singleton] at hs; subst hs; exact tos_new hr h2
theorem li_done {ms : List ByteArray} {W : ByteArray → Bool} {R : List Rg} (h : LI ms W ms.length R) : Nrm R ∧ ∀ t, lHas R t = W t := ⟨h.nrm, fun t => by rw [h.has, ahd_end (Nat.le_refl _)]; rfl⟩

/-- A list of texts without the neighbours that are alike. -/
structure DI (ls : List ByteArray) (k : Nat) (ms : List ByteArray) : Prop where
  ris : Ris ms
  mem : ∀ x, x ∈ ms ↔ x ∈ ls.take k
  le : ∀ x ∈ ms, ∀ j, k ≤ j + 1 → j < ls.length → tl (mk ls j) x = false
  len : ms.length ≤ k
  fst : 0 < k → 0 < ms.length ∧ mk ms 0 = mk ls 0
/-- Texts that rise, some more than once. -/
def Srts (ls : List ByteArray) : Prop := ls.Pairwise fun x y => tl y x = false
theorem srts_le {ls : List ByteArray} (h : Srts ls) {i j : Nat} (hij : i ≤ j) (hj : j < ls.length) : tl (mk ls j) (mk ls i) = false := by
  rcases Nat.lt_or_eq_of_le hij with h1 | rfl
  · have := (List.pairwise_iff_getElem.1 h) i j (by omega) hj h1
    simpa [mk, hj, show i < ls.length by omega] using this
  · exact tl_irrefl _
theorem take_mem {ls : List ByteArray} {k : Nat} (h : k < ls.length) (x : ByteArray) : x ∈ ls.take (k + 1) ↔ x ∈ ls.take k ∨ x = mk ls k := by
  rw [List.take_succ_eq_append_getElem h]
  have : ls[k] = mk ls k := by simp [mk, h]
  simp [this]
theorem di_none (ls : List ByteArray) : DI ls 0 [] := ⟨.nil, fun x => by simp, (fun x h => by cases h), Nat.le_refl _, fun h => absurd h (by omega)⟩
theorem di_skip {ls : List ByteArray} (hs : Srts ls) {k : Nat} {ms : List ByteArray} (h : DI ls k ms) (hk : k < ls.length) (h0 : 0 < k) (e : mk ls k = mk ls (k - 1)) : DI ls (k + 1) ms := by
  refine ⟨h.ris, fun x => ?_, fun x hx j h1 h2 => ?_, Nat.le_succ_of_le h.len, fun _ => h.fst h0⟩
  · rw [h.mem, take_mem hk]
    constructor
    · exact .inl
    · rintro (h1 | rfl)
      · exact h1
      · rw [e, show k = (k - 1) + 1 by omega, take_mem (by omega)]
        exact .inr (by rw [show k - 1 + 1 - 1 = k - 1 by omega])
  · exact h.le x hx j (by omega) h2
theorem di_more {ls : List ByteArray} (hs : Srts ls) {k : Nat} {ms : List ByteArray} (h : DI ls k ms) (hk : k < ls.length) (e : k = 0 ∨ mk ls k ≠ mk ls (k - 1)) : DI ls (k + 1) (ms ++ [mk ls k]) := by
  have hlt : ∀ x ∈ ms, tl x (mk ls k) = true := fun x hx => by
    rcases e with rfl | e
    · have := (h.mem x).1 hx; simp at this
    · have h0 : 0 < k := by
        rcases Nat.eq_zero_or_pos k with rfl | h1
        · have := (h.mem x).1 hx; simp at this
        · exact h1
      have h1 := h.le x hx (k - 1) (by omega) (by omega)
      have h2 := srts_le hs (i := k - 1) (j := k) (by omega) hk
      have h3 : tl (mk ls (k - 1)) (mk ls k) = true := by
        rcases tl_total e with h3 | h3
        · rw [h2] at h3; cases h3
        · exact h3
      exact le_lt h1 h3
  refine ⟨?_, fun x => ?_, fun x hx j h1 h2 => ?_, by rw [List.length_append]; exact Nat.succ_le_succ h.len, fun _ => ?_⟩
  · unfold Ris
    rw [List.pairwise_append]
    exact ⟨h.ris, by simp, fun x hx y hy => by simp only [List.mem_singleton] at hy; subst hy; exact hlt x hx⟩
  · rw [List.mem_append, h.mem, take_mem hk]; simp
  · rcases List.mem_append.1 hx with hx | hx
    · exact h.le x hx j (by omega) h2
    · simp only [List.mem_singleton] at hx; subst hx
      exact srts_le hs (by omega) h2
  · refine ⟨by simp, ?_⟩
    rcases Nat.eq_zero_or_pos k with rfl | h0
    · have : ms = [] := List.eq_nil_of_length_eq_zero (by have := h.len; omega)
      subst this; simp [mk]
    · obtain ⟨h1, h2⟩ := h.fst h0
      rw [← h2]
      obtain ⟨m, l, rfl⟩ : ∃ m l, ms = m :: l := by cases ms with
        | nil => simp at h1
        | cons m l => exact ⟨m, l, rfl⟩
      simp [mk]
theorem di_done {ls ms : List ByteArray} (hs : Srts ls) (h : DI ls ls.length ms) (h0 : .empty ∈ ls) : Ris ms ∧ (∀ x, x ∈ ms ↔ x ∈ ls) ∧ 0 < ms.length ∧ mk ms 0 = .empty := by
  have hl : 0 < ls.length := List.length_pos_of_mem h0
  obtain ⟨h1, h2⟩ := h.fst hl
  refine ⟨h.ris, fun x => by rw [h.mem, List.take_length], h1, ?_⟩
  have hm : ByteArray.empty ∈ ms := (h.mem _).2 (by rw [List.take_length]; exact h0)
  obtain ⟨j, hj, e⟩ := List.getElem_of_mem hm
  have ej : mk ms j = .empty := by rw [← e]; simp [mk, hj]
  rcases Nat.eq_zero_or_pos j with rfl | hj0
  · exact ej
  · exact absurd ej (mk_some h.ris hj0 hj)
end Go.Proofs.YtdjcokepeifojaaDoor
