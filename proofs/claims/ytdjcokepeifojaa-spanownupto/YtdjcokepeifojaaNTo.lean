/-
  Which buckets have a text in common with some ranges: what is asked, and what the going over both lists at once comes to. No condition.
-/
import Derived.Test.YtdjcokepeifojaaNWh
namespace Go.Proofs.Ytdjcokepeifojaa
set_option linter.unusedVariables false

/-- The greater of two beginnings. -/
def mx (r s : Rg) : ByteArray := if tl r.1 s.1 = true then s.1 else r.1
def tm (r s : Rg) : Bool := rHas r (mx r s) && rHas s (mx r s)
theorem mx_ge (r s : Rg) : tl (mx r s) r.1 = false ∧ tl (mx r s) s.1 = false := by
  unfold mx
  cases h : tl r.1 s.1
  · rw [if_neg (by simp)]; exact ⟨tl_irrefl _, h⟩
  · rw [if_pos rfl]; exact ⟨tl_asymm h, tl_irrefl _⟩
theorem mx_le {r s : Rg} {t : ByteArray} (h1 : tl t r.1 = false) (h2 : tl t s.1 = false) : tl t (mx r s) = false := by
  unfold mx
  split
  · exact h2
  · exact h1
theorem tm_iff {r s : Rg} : tm r s = true ↔ ∃ t, rHas r t = true ∧ rHas s t = true := by
  unfold tm
  rw [Bool.and_eq_true]
  constructor
  · intro h; exact ⟨_, h⟩
  · rintro ⟨t, h1, h2⟩
    have k1 := rHas_iff.1 h1
    have k2 := rHas_iff.1 h2
    have hl := mx_le k1.1 k2.1
    refine ⟨rHas_iff.2 ⟨(mx_ge r s).1, k1.2.imp id fun e => ?_⟩, rHas_iff.2 ⟨(mx_ge r s).2, k2.2.imp id fun e => ?_⟩⟩
    · exact le_lt hl e
    · exact le_lt hl e
def tch (r : Rg) (A : List Rg) : Bool := A.any fun s => tm r s
theorem tch_iff {r : Rg} {A : List Rg} : tch r A = true ↔ ∃ t, rHas r t = true ∧ lHas A t = true := by
  unfold tch
  rw [List.any_eq_true]
  constructor
  · rintro ⟨s, hs, h⟩
    obtain ⟨t, h1, h2⟩ := tm_iff.1 h
    exact ⟨t, h1, lHas_iff.2 ⟨s, hs, h2⟩⟩
  · rintro ⟨t, h1, h2⟩
    obtain ⟨s, hs, h3⟩ := lHas_iff.1 h2
    exact ⟨s, hs, tm_iff.2 ⟨t, h1, h3⟩⟩
theorem bool_iff {a b : Bool} (h : a = true ↔ b = true) : a = b := by cases a <;> cases b <;> simp_all
theorem tch_same {A B : List Rg} (h : ∀ t, lHas A t = lHas B t) (r : Rg) : tch r A = tch r B := bool_iff (by rw [tch_iff, tch_iff]; simp only [h])
/-- The buckets that meet some ranges. -/
def mt (D : Nat) (A : List Rg) (k : Nat) : List Int := ((List.range k).filter fun b => tch (ofR D ((b : Nat) : Int)) A).map fun b => ((b : Nat) : Int)
theorem mt_succ (D : Nat) (A : List Rg) (k : Nat) : mt D A (k + 1) = mt D A k ++ (if tch (ofR D (k : Int)) A = true then [(k : Int)] else []) := by
  unfold mt
  rw [List.range_succ, List.filter_append, List.map_append]
  congr 1
  cases h : tch (ofR D (k : Int)) A
  · rw [if_neg (by simp)]; simp [h]
  · rw [if_pos rfl]; simp [h]
theorem mt_len (D : Nat) (A : List Rg) (k : Nat) : (mt D A k).length ≤ k := by
  unfold mt
  rw [List.length_map]
  have := List.length_filter_le (fun b : Nat => tch (ofR D (b : Int)) A) (List.range k)
  simpa using this
theorem mt_same {A B : List Rg} (h : ∀ t, lHas A t = lHas B t) (D k : Nat) : mt D A k = mt D B k := by
  induction k with
  | zero => rfl
  | succ k ih => rw [mt_succ, mt_succ, ih, tch_same h]
def rg0 : Rg := (.empty, .empty)
theorem Nrm.drop : ∀ {R : List Rg} (j : Nat), Nrm R → Nrm (R.drop j)
  | R, 0, h => by simpa using h
  | [], j + 1, _ => by simp [Nrm]
  | r :: R, j + 1, h => by simpa using Nrm.drop j h.2.2
theorem drop_at {R : List Rg} {j : Nat} (h : j < R.length) : R.drop j = R.getD j rg0 :: R.drop (j + 1) := by
  rw [List.drop_eq_getElem_cons h]; simp [h]
theorem take_at {R : List Rg} {j : Nat} (h : j < R.length) : R.take (j + 1) = R.take j ++ [R.getD j rg0] := by
  rw [List.take_succ_eq_append_getElem h]; simp [h]
/-- What has come to its end at a bucket's beginning meets neither this bucket nor a later one. -/
theorem past_out {D n : Nat} (h1 : 1 ≤ D) (h3 : D ≤ 3) (hn : nbk D = (n : Int)) {k : Nat} (hk : k < n) {s : Rg} (hp : rPast s (ofR D (k : Int)).1 = true) (b : Nat) (hb : k ≤ b) (hbn : b < n) : tm (ofR D (b : Int)) s = false := by
  cases e : tm (ofR D (b : Int)) s with
  | false => rfl
  | true =>
    exfalso
    obtain ⟨t, k1, k2⟩ := tm_iff.1 e
    have k3 := (rHas_iff.1 k2).2
    unfold rPast at hp
    simp only [Bool.and_eq_true, Bool.not_eq_true', decide_eq_false_iff_not] at hp
    have k4 : tl t s.2 = true := k3.resolve_left hp.1
    have k5 : tl t (ofR D (k : Int)).1 = true := lt_le k4 hp.2
    have b1 := of_has D h1 h3 t (b : Int) ⟨by omega, by omega⟩
    rw [k1] at b1
    have b2 : bkt t D = (b : Int) := by simpa using b1.symm
    have c1 := of_has D h1 h3 (ofR D (k : Int)).1 (k : Int) ⟨by omega, by omega⟩
    rw [rHas_from (of_some D h1 h3 (k : Int) ⟨by omega, by omega⟩)] at c1
    have c2 : bkt (ofR D (k : Int)).1 D = (k : Int) := by simpa using c1.symm
    have c3 := bkt_mono D h1 h3 t (ofR D (k : Int)).1 (tl_asymm k5)
    obtain rfl : b = k := by omega
    have := (rHas_iff.1 k1).1
    rw [k5] at this; cases this
/-- How far both lists have been gone over. -/
structure BI (D n : Nat) (R : List Rg) (k j : Nat) (ms : List Int) : Prop where
  le : j ≤ R.length
  out : ∀ s ∈ R.take j, ∀ b, k ≤ b → b < n → tm (ofR D ((b : Nat) : Int)) s = false
  is : ms = mt D R k
theorem bi_none (D n : Nat) (R : List Rg) : BI D n R 0 0 [] := ⟨Nat.zero_le _, fun s hs => by simp at hs, rfl⟩
theorem bi_past {D n : Nat} (h1 : 1 ≤ D) (h3 : D ≤ 3) (hn : nbk D = (n : Int)) {R : List Rg} {k j : Nat} {ms : List Int} (h : BI D n R k j ms) (hk : k < n) (hj : j < R.length) (hp : rPast (R.getD j rg0) (ofR D (k : Int)).1 = true) : BI D n R k (j + 1) ms := by
  refine ⟨hj, fun s hs b hb hbn => ?_, h.is⟩
  rw [take_at hj] at hs
  rcases List.mem_append.1 hs with hs | hs
  · exact h.out s hs b hb hbn
  · simp only [List.mem_singleton] at hs; subst hs
    exact past_out h1 h3 hn hk hp b hb hbn
theorem any_false {r : Rg} {A : List Rg} (h : ∀ s ∈ A, tm r s = false) : tch r A = false := by
  unfold tch
  rw [List.any_eq_false]
  intro s hs; rw [h s hs]; simp
theorem bi_done {D n : Nat} {R : List Rg} {k j : Nat} {ms : List Int} (h : BI D n R k j ms) (hk : k ≤ n) (hj : R.length ≤ j) : ms = mt D R n := by
  have hall : ∀ b, k ≤ b → b < n → tch (ofR D ((b : Nat) : Int)) R = false := fun b hb hbn => any_false fun s hs => h.out s (by rw [List.take_of_length_le hj]; exact hs) b hb hbn
  rw [h.is]
  have : ∀ m, k + m ≤ n → mt D R (k + m) = mt D R k := by
    intro m
    induction m with
    | zero => intro _; rfl
    | succ m ih =>
      intro hm
      rw [← Nat.add_assoc, mt_succ, ih (by omega), hall (k + m) (by omega) (by omega)]
      simp
  have := this (n - k) (by omega)
  rw [show k + (n - k) = n by omega] at this
  exact this.symm
theorem split_at {R : List Rg} {j : Nat} (h : j < R.length) : R = R.take j ++ (R.getD j rg0 :: R.drop (j + 1)) := by
  rw [← drop_at h, List.take_append_drop]
theorem at_mem {R : List Rg} {j : Nat} (h : j < R.length) : R.getD j rg0 ∈ R := by
  have e : R.getD j rg0 = R[j] := by simp [h]
  rw [e]; exact List.getElem_mem h
theorem bi_yes {D n : Nat} (h1 : 1 ≤ D) (h3 : D ≤ 3) (hn : nbk D = (n : Int)) {R : List Rg} (hR : Nrm R) {k j : Nat} {ms : List Int} (h : BI D n R k j ms) (hk : k < n) (hj : j < R.length) (hp : rPast (R.getD j rg0) (ofR D (k : Int)).1 = false) (hq : rPast (ofR D (k : Int)) (R.getD j rg0).1 = false) : BI D n R (k + 1) j (ms ++ [(k : Int)]) := by
  refine ⟨h.le, fun s hs b hb hbn => h.out s hs b (by omega) hbn, ?_⟩
  have hd := hR.drop j
  rw [drop_at hj] at hd
  have ht : tm (ofR D (k : Int)) (R.getD j rg0) = true := by
    unfold tm
    have hm := mx_ge (ofR D (k : Int)) (R.getD j rg0)
    have e1 : rEmpty (ofR D (k : Int)) = false := of_some D h1 h3 (k : Int) ⟨by omega, by omega⟩
    have e2 : rEmpty (R.getD j rg0) = false := hd.1
    unfold rHas
    rw [hm.1, hm.2]
    unfold mx
    unfold rEmpty at e1 e2
    cases x : tl (ofR D (k : Int)).1 (R.getD j rg0).1
    · rw [if_neg (by simp), e1, hp]; rfl
    · rw [if_pos rfl, hq, e2]; rfl
  have : tch (ofR D (k : Int)) R = true := List.any_eq_true.2 ⟨R.getD j rg0, at_mem hj, ht⟩
  rw [mt_succ, this, if_pos rfl, h.is]
theorem bi_no {D n : Nat} (h1 : 1 ≤ D) (h3 : D ≤ 3) (hn : nbk D = (n : Int)) {R : List Rg} (hR : Nrm R) {k j : Nat} {ms : List Int} (h : BI D n R k j ms) (hk : k < n) (hj : j < R.length) (hq : rPast (ofR D (k : Int)) (R.getD j rg0).1 = true) : BI D n R (k + 1) j ms := by
  refine ⟨h.le, fun s hs b hb hbn => h.out s hs b (by omega) hbn, ?_⟩
  have hd := hR.drop j
  rw [drop_at hj] at hd
  have : tch (ofR D (k : Int)) R = false := any_false fun s hs => by
    rw [split_at hj] at hs
    rcases List.mem_append.1 hs with hs | hs
    · exact h.out s hs k (Nat.le_refl _) hk
    · cases e : tm (ofR D (k : Int)) s with
      | false => rfl
      | true =>
        exfalso
        obtain ⟨t, k1, k2⟩ := tm_iff.1 e
        have lo := hd.low (lHas_iff.2 ⟨s, hs, k2⟩)
        unfold rPast at hq
        simp only [Bool.and_eq_true, Bool.not_eq_true', decide_eq_false_iff_not] at hq
        have k3 := (rHas_iff.1 k1).2.resolve_left hq.1
        have := lt_le k3 hq.2
        rw [lo] at this; cases this
  rw [mt_succ, this, h.is]; simp
/-- The buckets at a depth that meet some ranges, and the error. -/
def bmt (d : Int) (A : List Rg) : List Int := mt d.toNat A (nbk d).toNat
def dE (d : Int) : Int := if nbk d = 0 then 61 else 0
theorem tch_take {A : List Rg} {k : Nat} (h : k < A.length) (r : Rg) : tch r (A.take (k + 1)) = (tch r (A.take k) || tm r (A.getD k rg0)) := by
  rw [take_at h]; unfold tch; rw [List.any_append]; simp
end Go.Proofs.Ytdjcokepeifojaa
