/-
  Texts in the order of their bytes, ranges of texts, and lists of ranges in normal form: two of them that have the same texts are the same. No condition.
-/
import Derived.Test.YtdjcokepeifojaaRows
import Derived.WalkKit
import Derived.Below
import Derived.Lib.Strings
namespace Go.Proofs.Ytdjcokepeifojaa
set_option linter.unusedVariables false
open Go.RowKit

theorem bl_irrefl : ∀ a : List UInt8, Op.bytesLess a a = false
  | [] => rfl
  | x :: r => by simp [Op.bytesLess, bl_irrefl r]
theorem bl_trans : ∀ a b c : List UInt8, Op.bytesLess a b = true → Op.bytesLess b c = true → Op.bytesLess a c = true
  | _, [], _, h, _ => by simp [Op.bytesLess] at h
  | _, _ :: _, [], _, h => by simp [Op.bytesLess] at h
  | [], _ :: _, _ :: _, _, _ => rfl
  | x :: a, y :: b, z :: c, h1, h2 => by
    simp only [Op.bytesLess, Bool.or_eq_true, Bool.and_eq_true, decide_eq_true_eq, beq_iff_eq] at h1 h2 ⊢
    rcases h1 with h1 | ⟨rfl, h1⟩
    · rcases h2 with h2 | ⟨rfl, h2⟩
      · exact .inl (UInt8.lt_trans h1 h2)
      · exact .inl h1
    · rcases h2 with h2 | ⟨rfl, h2⟩
      · exact .inl h2
      · exact .inr ⟨rfl, bl_trans a b c h1 h2⟩
theorem bl_total : ∀ a b : List UInt8, a ≠ b → Op.bytesLess a b = true ∨ Op.bytesLess b a = true
  | [], [], h => absurd rfl h
  | [], _ :: _, _ => .inl rfl
  | _ :: _, [], _ => .inr rfl
  | x :: a, y :: b, h => by
    simp only [Op.bytesLess, Bool.or_eq_true, Bool.and_eq_true, decide_eq_true_eq, beq_iff_eq]
    by_cases e : x = y
    · subst e
      rcases bl_total a b (fun e => h (by rw [e])) with h1 | h1
      · exact .inl (.inr ⟨rfl, h1⟩)
      · exact .inr (.inr ⟨rfl, h1⟩)
    · rcases UInt8.lt_or_lt_of_ne e with h1 | h1
      · exact .inl (.inl h1)
      · exact .inr (.inl h1)

/-- Is one text ahead of another one? -/
def tl (s t : ByteArray) : Bool := Op.bytesLess s.toList t.toList
theorem toList_inj {s t : ByteArray} (h : s.toList = t.toList) : s = t := by
  rw [ByteArray.toList_eq, ByteArray.toList_eq] at h
  exact Go.WideShapes.bytes_inj h
theorem te_iff (s t : ByteArray) : (s.toList == t.toList) = decide (s = t) := by
  by_cases h : s = t
  · subst h; simp
  · have : s.toList ≠ t.toList := fun e => h (toList_inj e)
    simp [h, this]
theorem tl_irrefl (s : ByteArray) : tl s s = false := bl_irrefl _
theorem tl_trans {a b c : ByteArray} (h : tl a b = true) (k : tl b c = true) : tl a c = true := bl_trans _ _ _ h k
theorem tl_asymm {a b : ByteArray} (h : tl a b = true) : tl b a = false := by
  cases k : tl b a with
  | false => rfl
  | true => have := tl_trans h k; rw [tl_irrefl] at this; cases this
theorem tl_total {a b : ByteArray} (h : a ≠ b) : tl a b = true ∨ tl b a = true := bl_total _ _ (fun e => h (toList_inj e))
theorem tl_eq {a b : ByteArray} (h : tl a b = false) (k : tl b a = false) : a = b := by
  by_cases e : a = b
  · exact e
  · rcases tl_total e with h1 | h1
    · rw [h1] at h; cases h
    · rw [h1] at k; cases k
/-- a ≤ b, b < c. -/
theorem le_lt {a b c : ByteArray} (h : tl b a = false) (k : tl b c = true) : tl a c = true := by
  by_cases e : a = b
  · subst e; exact k
  · rcases tl_total e with h1 | h1
    · exact tl_trans h1 k
    · rw [h1] at h; cases h
theorem lt_le {a b c : ByteArray} (h : tl a b = true) (k : tl c b = false) : tl a c = true := by
  by_cases e : b = c
  · subst e; exact h
  · rcases tl_total e with h1 | h1
    · exact tl_trans h h1
    · rw [h1] at k; cases k
theorem le_le {a b c : ByteArray} (h : tl b a = false) (k : tl c b = false) : tl c a = false := by
  cases e : tl c a with
  | false => rfl
  | true => have := lt_le e h; rw [k] at this; cases this
theorem tl_ne {a b : ByteArray} (h : tl a b = true) : a ≠ b := fun e => by subst e; rw [tl_irrefl] at h; cases h
theorem bl_none (a : List UInt8) : Op.bytesLess a [] = false := by cases a <;> rfl
theorem tl_none (s : ByteArray) : tl s .empty = false := by
  unfold tl; rw [show ByteArray.empty.toList = [] from by rw [ByteArray.toList_eq]; rfl]; exact bl_none _
theorem tl_some {s : ByteArray} (h : s ≠ .empty) : tl .empty s = true := by
  rcases tl_total h with h1 | h1
  · rw [tl_none] at h1; cases h1
  · exact h1

/-- A range: from, to; to "": without an end. -/
abbrev Rg := ByteArray × ByteArray
/-- Has it come to its end at a text? -/
def rPast (r : Rg) (t : ByteArray) : Bool := !decide (r.2 = .empty) && !tl t r.2
def rHas (r : Rg) (t : ByteArray) : Bool := !tl t r.1 && !rPast r t
def rEmpty (r : Rg) : Bool := rPast r r.1
def lHas (l : List Rg) (t : ByteArray) : Bool := l.any fun r => rHas r t
/-- Normal form: no range is empty, and each ends ahead of where the next one begins. -/
def Nrm : List Rg → Prop
  | [] => True
  | r :: l => rEmpty r = false ∧ (∀ s ∈ l, r.2 ≠ .empty ∧ tl r.2 s.1 = true) ∧ Nrm l

theorem rHas_iff {r : Rg} {t : ByteArray} : rHas r t = true ↔ tl t r.1 = false ∧ (r.2 = .empty ∨ tl t r.2 = true) := by
  unfold rHas rPast
  by_cases h : r.2 = .empty <;> cases tl t r.1 <;> cases tl t r.2 <;> simp [h]
theorem rEmpty_iff {r : Rg} : rEmpty r = false ↔ r.2 = .empty ∨ tl r.1 r.2 = true := by
  unfold rEmpty rPast
  by_cases h : r.2 = .empty <;> cases tl r.1 r.2 <;> simp [h]
theorem rHas_from {r : Rg} (h : rEmpty r = false) : rHas r r.1 = true := rHas_iff.2 ⟨tl_irrefl _, rEmpty_iff.1 h⟩
theorem lHas_cons (r : Rg) (l : List Rg) (t : ByteArray) : lHas (r :: l) t = (rHas r t || lHas l t) := rfl
theorem lHas_app (a b : List Rg) (t : ByteArray) : lHas (a ++ b) t = (lHas a t || lHas b t) := by simp [lHas, List.any_append]
theorem lHas_iff {l : List Rg} {t : ByteArray} : lHas l t = true ↔ ∃ r ∈ l, rHas r t = true := by simp [lHas]
/-- Nothing of a normal list lies ahead of its first range. -/
theorem Nrm.low {r : Rg} {l : List Rg} (h : Nrm (r :: l)) {t : ByteArray} (ht : lHas (r :: l) t = true) : tl t r.1 = false := by
  obtain ⟨s, hs, hh⟩ := lHas_iff.1 ht
  rcases List.mem_cons.1 hs with rfl | hs
  · exact (rHas_iff.1 hh).1
  · have h1 := (rHas_iff.1 hh).1
    obtain ⟨h2, h3⟩ := h.2.1 s hs
    rcases rEmpty_iff.1 h.1 with h4 | h4
    · exact absurd h4 h2
    · exact le_le (tl_asymm (tl_trans h4 h3)) h1
theorem Nrm.rest {r : Rg} {l : List Rg} (h : Nrm (r :: l)) {t : ByteArray} (ht : lHas l t = true) : rHas r t = false := by
  obtain ⟨s, hs, hh⟩ := lHas_iff.1 ht
  obtain ⟨h2, h3⟩ := h.2.1 s hs
  cases e : rHas r t with
  | false => rfl
  | true =>
    rcases (rHas_iff.1 e).2 with h4 | h4
    · exact absurd h4 h2
    · have := tl_trans h4 h3; rw [(rHas_iff.1 hh).1] at this; cases this
/-- The end of the first range is not in the list. -/
theorem Nrm.gap {r : Rg} {l : List Rg} (h : Nrm (r :: l)) (hr : r.2 ≠ .empty) : lHas (r :: l) r.2 = false := by
  cases e : lHas (r :: l) r.2 with
  | false => rfl
  | true =>
    obtain ⟨s, hs, hh⟩ := lHas_iff.1 e
    rcases List.mem_cons.1 hs with rfl | hs
    · rcases (rHas_iff.1 hh).2 with h4 | h4
      · exact absurd h4 hr
      · rw [tl_irrefl] at h4; cases h4
    · have := (h.2.1 s hs).2; rw [(rHas_iff.1 hh).1] at this; cases this
/-- Two lists in normal form that have the same texts are the same. -/
theorem Nrm.uniq : ∀ {l m : List Rg}, Nrm l → Nrm m → (∀ t, lHas l t = lHas m t) → l = m
  | [], [], _, _, _ => rfl
  | [], s :: m, _, hm, h => by
    have := h s.1; rw [lHas_cons, rHas_from hm.1] at this; simp [lHas] at this
  | r :: l, [], hl, _, h => by
    have := h r.1; rw [lHas_cons, rHas_from hl.1] at this; simp [lHas] at this
  | r :: l, s :: m, hl, hm, h => by
    have h1 : tl r.1 s.1 = false := hm.low (by rw [← h, lHas_cons, rHas_from hl.1]; rfl)
    have h2 : tl s.1 r.1 = false := hl.low (by rw [h, lHas_cons, rHas_from hm.1]; rfl)
    have e1 : r.1 = s.1 := tl_eq h1 h2
    have side : ∀ {r s : Rg} {l m : List Rg}, Nrm (r :: l) → Nrm (s :: m) → (∀ t, lHas (r :: l) t = lHas (s :: m) t) → r.1 = s.1 → r.2 ≠ .empty → s.2 ≠ .empty ∧ tl r.2 s.2 = false := by
      intro r s l m hl hm h e hr
      have g := hl.gap hr
      rw [h, lHas_cons] at g
      have g' : rHas s r.2 = false := by cases x : rHas s r.2 with
        | false => rfl
        | true => rw [x] at g; cases g
      have lo : tl r.2 s.1 = false := by
        rcases rEmpty_iff.1 hl.1 with h4 | h4
        · exact absurd h4 hr
        · rw [← e]; exact tl_asymm h4
      constructor
      · intro hs
        have := rHas_iff.2 ⟨lo, Or.inl hs⟩; rw [g'] at this; cases this
      · cases x : tl r.2 s.2 with
        | false => rfl
        | true => have := rHas_iff.2 ⟨lo, Or.inr x⟩; rw [g'] at this; cases this
    have e2 : r.2 = s.2 := by
      by_cases hr : r.2 = .empty
      · by_cases hs : s.2 = .empty
        · rw [hr, hs]
        · exact absurd hr (side hm hl (fun t => (h t).symm) e1.symm hs).1
      · obtain ⟨hs, k1⟩ := side hl hm h e1 hr
        have k2 := (side hm hl (fun t => (h t).symm) e1.symm hs).2
        exact tl_eq k1 k2
    have e : r = s := Prod.ext e1 e2
    subst e
    have : l = m := Nrm.uniq hl.2.2 hm.2.2 fun t => by
      have k := h t
      rw [lHas_cons, lHas_cons] at k
      cases x : rHas r t with
      | false => rw [x] at k; simpa using k
      | true =>
        have a : lHas l t = false := by cases y : lHas l t with
          | false => rfl
          | true => rw [hl.rest y] at x; cases x
        have b : lHas m t = false := by cases y : lHas m t with
          | false => rfl
          | true => rw [hm.rest y] at x; cases x
        rw [a, b]
    rw [this]
/-- A range behind a normal list. -/
theorem Nrm.snoc : ∀ {l : List Rg} {r : Rg}, Nrm l → rEmpty r = false → (∀ s ∈ l, s.2 ≠ .empty ∧ tl s.2 r.1 = true) → Nrm (l ++ [r])
  | [], r, _, h, _ => ⟨h, (fun _ h => by cases h), trivial⟩
  | s :: l, r, hl, h, k => ⟨hl.1, fun x hx => by
      rcases List.mem_append.1 hx with h1 | h1
      · exact hl.2.1 x h1
      · simp only [List.mem_singleton] at h1; subst h1; exact k s (by simp),
    Nrm.snoc hl.2.2 h (fun x hx => k x (by simp [hx]))⟩
theorem Nrm.init : ∀ {l : List Rg} {r : Rg}, Nrm (l ++ [r]) → Nrm l ∧ rEmpty r = false ∧ ∀ s ∈ l, s.2 ≠ .empty ∧ tl s.2 r.1 = true
  | [], r, h => ⟨trivial, h.1, fun _ h => by cases h⟩
  | s :: l, r, h => by
    obtain ⟨h1, h2, h3⟩ := Nrm.init h.2.2
    refine ⟨⟨h.1, fun x hx => h.2.1 x (by simp [hx]), h1⟩, h2, fun x hx => ?_⟩
    rcases List.mem_cons.1 hx with rfl | hx
    · exact h.2.1 r (by simp)
    · exact h3 x hx

end Go.Proofs.Ytdjcokepeifojaa
