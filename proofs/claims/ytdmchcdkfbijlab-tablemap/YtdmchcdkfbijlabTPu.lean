/-
  Lists of rows whose keys rise: a row put, a key taken away, a key's row. No condition.
-/
import Derived.Test.YtdmchcdkfbijlabTTr
namespace Go.Proofs.Ytdmchcdkfbijlab
open Go.RowKit
set_option linter.unusedVariables false

/-- The keys rise. -/
def Rises : List Rw → Prop
  | [] => True
  | x :: l => (∀ y ∈ l, tl x.1 y.1 = true) ∧ Rises l
/-- A row put. -/
def putR (x : Rw) : List Rw → List Rw
  | [] => [x]
  | y :: l => if tl x.1 y.1 = true then x :: y :: l else if tl y.1 x.1 = true then y :: putR x l else x :: l
/-- A key taken away. -/
def delR (k : ByteArray) (l : List Rw) : List Rw := l.filter fun y => !decide (y.1 = k)
/-- A key's row. -/
def getR (k : ByteArray) (l : List Rw) : Option Rw := l.find? fun y => decide (y.1 = k)
theorem rises_app {l r : List Rw} : Rises (l ++ r) ↔ Rises l ∧ Rises r ∧ ∀ a ∈ l, ∀ b ∈ r, tl a.1 b.1 = true := by
  induction l with
  | nil => simp [Rises]
  | cons x l ih =>
    simp only [List.cons_append, Rises, ih, List.mem_append, List.mem_cons]
    constructor
    · rintro ⟨h1, h2, h3, h4⟩
      refine ⟨⟨fun y hy => h1 y (.inl hy), h2⟩, h3, ?_⟩
      rintro a (rfl | ha) b hb
      · exact h1 b (.inr hb)
      · exact h4 a ha b hb
    · rintro ⟨⟨h1, h2⟩, h3, h4⟩
      refine ⟨?_, h2, h3, fun a ha b hb => h4 a (.inr ha) b hb⟩
      rintro y (hy | hy)
      · exact h1 y hy
      · exact h4 x (.inl rfl) y hy
theorem rises_mid {l r : List Rw} {y : Rw} (h : Rises (l ++ y :: r)) : Rises l ∧ Rises r ∧ (∀ a ∈ l, tl a.1 y.1 = true) ∧ (∀ b ∈ r, tl y.1 b.1 = true) := by
  obtain ⟨h1, h2, h3⟩ := rises_app.1 h
  exact ⟨h1, h2.2, fun a ha => h3 a ha y (by simp), h2.1⟩
theorem putR_lt {l r : List Rw} {x y : Rw} (hx : tl x.1 y.1 = true) (ha : ∀ a ∈ l, tl a.1 y.1 = true) : putR x (l ++ y :: r) = putR x l ++ y :: r := by
  induction l with
  | nil => simp [putR, hx]
  | cons a l ih =>
    have ih := ih (fun b hb => ha b (by simp [hb]))
    simp only [List.cons_append, putR]
    split
    · simp
    · split
      · rw [ih]; simp
      · simp
theorem putR_gt {l r : List Rw} {x y : Rw} (hx : tl y.1 x.1 = true) (ha : ∀ a ∈ l, tl a.1 y.1 = true) : putR x (l ++ y :: r) = l ++ y :: putR x r := by
  induction l with
  | nil => simp [putR, hx, tl_asymm hx]
  | cons a l ih =>
    have ih := ih (fun b hb => ha b (by simp [hb]))
    have h1 : tl a.1 x.1 = true := tl_trans (ha a (by simp)) hx
    simp only [List.cons_append, putR, h1, tl_asymm h1, ih]
    simp
theorem putR_eq {l r : List Rw} {x y : Rw} (hx : x.1 = y.1) (ha : ∀ a ∈ l, tl a.1 y.1 = true) : putR x (l ++ y :: r) = l ++ x :: r := by
  induction l with
  | nil => simp [putR, hx, tl_irrefl]
  | cons a l ih =>
    have ih := ih (fun b hb => ha b (by simp [hb]))
    have h1 : tl a.1 x.1 = true := by rw [hx]; exact ha a (by simp)
    simp only [List.cons_append, putR, h1, tl_asymm h1, ih]
    simp
theorem mem_putR {x z : Rw} {l : List Rw} (h : z ∈ putR x l) : z = x ∨ z ∈ l := by
  induction l with
  | nil => simp [putR] at h; exact .inl h
  | cons y l ih =>
    simp only [putR] at h
    split at h
    · simpa using h
    · split at h
      · rcases List.mem_cons.1 h with rfl | h
        · simp
        · rcases ih h with h | h
          · exact .inl h
          · simp [h]
      · rcases List.mem_cons.1 h with rfl | h
        · exact .inl rfl
        · simp [h]
theorem rises_put {x : Rw} {l : List Rw} (h : Rises l) : Rises (putR x l) := by
  induction l with
  | nil => simp [putR, Rises]
  | cons y l ih =>
    simp only [putR]
    split
    · rename_i h1
      refine ⟨?_, h⟩
      intro z hz
      rcases List.mem_cons.1 hz with rfl | hz
      · exact h1
      · exact tl_trans h1 (h.1 z hz)
    · split
      · rename_i h1 h2
        refine ⟨fun z hz => ?_, ih h.2⟩
        rcases mem_putR hz with rfl | hz
        · exact h2
        · exact h.1 z hz
      · rename_i h1 h2
        have e : x.1 = y.1 := tl_eq (by simpa using h1) (by simpa using h2)
        exact ⟨fun z hz => by rw [e]; exact h.1 z hz, h.2⟩
theorem rises_del {k : ByteArray} {l : List Rw} (h : Rises l) : Rises (delR k l) := by
  induction l with
  | nil => simp [delR, Rises]
  | cons y l ih =>
    unfold delR
    rw [List.filter_cons]
    split
    · exact ⟨fun z hz => h.1 z (List.mem_filter.1 hz).1, ih h.2⟩
    · exact ih h.2
theorem getR_put {x : Rw} {k : ByteArray} {l : List Rw} (h : Rises l) : getR k (putR x l) = if x.1 = k then some x else getR k l := by
  induction l with
  | nil => simp [putR, getR]
  | cons y l ih =>
    simp only [putR]
    split
    · rename_i h1
      by_cases e : x.1 = k
      · simp [getR, e]
      · simp [getR, e]
    · split
      · rename_i h1 h2
        have ih := ih h.2
        unfold getR at ih ⊢
        rw [List.find?_cons]
        by_cases e : y.1 = k
        · have : ¬ x.1 = k := fun e2 => by rw [e, e2, tl_irrefl] at h2; cases h2
          simp [e, this]
        · simp only [e, decide_false, ih, List.find?_cons]
      · rename_i h1 h2
        have e : x.1 = y.1 := tl_eq (by simpa using h1) (by simpa using h2)
        by_cases e2 : x.1 = k
        · simp [getR, e2]
        · have : ¬ y.1 = k := by rw [← e]; exact e2
          simp [getR, e2, this]
theorem getR_del {k j : ByteArray} {l : List Rw} : getR k (delR j l) = if k = j then none else getR k l := by
  unfold getR delR
  rw [List.find?_filter]
  by_cases e : k = j
  · subst e
    rw [if_pos rfl, List.find?_eq_none]
    intro y _
    by_cases h : y.1 = k <;> simp [h]
  · rw [if_neg e]
    congr 1
    funext y
    by_cases h : y.1 = k
    · simp [h, e]
    · simp [h]
theorem len_put (x : Rw) (l : List Rw) : (putR x l).length ≤ l.length + 1 := by
  induction l with
  | nil => simp [putR]
  | cons y l ih =>
    simp only [putR]
    split
    · simp
    · split
      · simp; omega
      · simp
theorem len_put_has {x : Rw} {l : List Rw} (h : Rises l) (hk : getR x.1 l ≠ none) : (putR x l).length = l.length := by
  induction l with
  | nil => simp [getR] at hk
  | cons y l ih =>
    simp only [putR]
    split
    · rename_i h1
      exfalso
      apply hk
      unfold getR
      rw [List.find?_eq_none]
      intro z hz
      rcases List.mem_cons.1 hz with rfl | hz
      · simpa using (tl_ne h1).symm
      · simpa using (tl_ne (tl_trans h1 (h.1 z hz))).symm
    · split
      · rename_i h1 h2
        have : getR x.1 l ≠ none := by
          unfold getR at hk ⊢
          rw [List.find?_cons] at hk
          simpa [tl_ne h2] using hk
        simp [ih h.2 this]
      · simp
theorem szs_put (x : Rw) (l : List Rw) : szs (putR x l) ≤ szs l + sz x := by
  induction l with
  | nil => simp [putR, szs]
  | cons y l ih =>
    simp only [putR]
    split
    · simp only [szs_cons]; omega
    · split
      · simp only [szs_cons]; omega
      · simp only [szs_cons]; omega
theorem delR_id {k : ByteArray} {l : List Rw} (h : ∀ a ∈ l, a.1 ≠ k) : delR k l = l := by
  unfold delR
  rw [List.filter_eq_self]
  intro a ha
  simp [h a ha]
theorem delR_app (k : ByteArray) (l r : List Rw) : delR k (l ++ r) = delR k l ++ delR k r := by simp [delR]
theorem delR_lt {l r : List Rw} {y : Rw} {k : ByteArray} (hk : tl k y.1 = true) (hr : ∀ b ∈ r, tl y.1 b.1 = true) : delR k (l ++ y :: r) = delR k l ++ y :: r := by
  rw [delR_app, delR_id (l := y :: r)]
  intro a ha
  rcases List.mem_cons.1 ha with rfl | ha
  · exact (tl_ne hk).symm
  · exact (tl_ne (tl_trans hk (hr a ha))).symm
theorem delR_gt {l r : List Rw} {y : Rw} {k : ByteArray} (hk : tl y.1 k = true) (hl : ∀ a ∈ l, tl a.1 y.1 = true) : delR k (l ++ y :: r) = l ++ y :: delR k r := by
  rw [delR_app, delR_id (l := l)]
  · have : ¬ y.1 = k := tl_ne hk
    simp [delR, this]
  · intro a ha
    exact tl_ne (tl_trans (hl a ha) hk)
theorem delR_eq {l r : List Rw} {y : Rw} {k : ByteArray} (hk : k = y.1) (hl : ∀ a ∈ l, tl a.1 y.1 = true) (hr : ∀ b ∈ r, tl y.1 b.1 = true) : delR k (l ++ y :: r) = l ++ r := by
  subst hk
  rw [delR_app, delR_id (l := l) (fun a ha => tl_ne (hl a ha))]
  have : delR y.1 (y :: r) = delR y.1 r := by simp [delR]
  rw [this, delR_id (l := r) (fun a ha => (tl_ne (hr a ha)).symm)]
theorem len_del (k : ByteArray) (l : List Rw) : (delR k l).length ≤ l.length := List.length_filter_le _ _
theorem szs_del (k : ByteArray) (l : List Rw) : szs (delR k l) ≤ szs l := by
  induction l with
  | nil => simp [delR, szs]
  | cons y l ih =>
    unfold delR at ih ⊢
    rw [List.filter_cons]
    split
    · simp only [szs_cons]; omega
    · simp only [szs_cons]; omega
theorem Sm.del {k : ByteArray} {l : List Rw} (h : Sm l) : Sm (delR k l) := ⟨Nat.lt_of_le_of_lt (len_del k l) h.1, Nat.lt_of_le_of_lt (szs_del k l) h.2⟩
theorem getR_app (k : ByteArray) (l r : List Rw) : getR k (l ++ r) = (getR k l).or (getR k r) := by unfold getR; rw [List.find?_append]
theorem getR_none {k : ByteArray} {l : List Rw} (h : ∀ a ∈ l, a.1 ≠ k) : getR k l = none := by
  unfold getR
  rw [List.find?_eq_none]
  intro a ha
  simpa using h a ha
theorem getR_cons_ne {k : ByteArray} {y : Rw} {l : List Rw} (h : y.1 ≠ k) : getR k (y :: l) = getR k l := by simp [getR, h]
theorem getR_mid_lt {l r : List Rw} {y : Rw} {k : ByteArray} (hk : tl k y.1 = true) (hr : ∀ b ∈ r, tl y.1 b.1 = true) : getR k (l ++ y :: r) = getR k l := by
  rw [getR_app, getR_none (l := y :: r), Option.or_none]
  intro a ha
  rcases List.mem_cons.1 ha with rfl | ha
  · exact (tl_ne hk).symm
  · exact (tl_ne (tl_trans hk (hr a ha))).symm
theorem getR_mid_gt {l r : List Rw} {y : Rw} {k : ByteArray} (hk : tl y.1 k = true) (hl : ∀ a ∈ l, tl a.1 y.1 = true) : getR k (l ++ y :: r) = getR k r := by
  rw [getR_app, getR_none (l := l) (fun a ha => tl_ne (tl_trans (hl a ha) hk)), Option.none_or, getR_cons_ne (tl_ne hk)]
theorem getR_mid_eq {l r : List Rw} {y : Rw} {k : ByteArray} (hk : k = y.1) (hl : ∀ a ∈ l, tl a.1 y.1 = true) : getR k (l ++ y :: r) = some y := by
  rw [getR_app, getR_none (l := l) (fun a ha => by rw [hk]; exact tl_ne (hl a ha)), Option.none_or]
  simp [getR, hk]
theorem del_none {k : ByteArray} {l : List Rw} (h : getR k l = none) : delR k l = l := delR_id fun a ha => by
  have := List.find?_eq_none.1 h a ha
  simpa using this
end Go.Proofs.Ytdmchcdkfbijlab
