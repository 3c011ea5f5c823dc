/-
  The image that Encode writes, as plain data: it is read as the same state, and of two states with the same bytes there is one; what its beginning tells. No condition of its own.
-/
import Derived.Test.YtcdgfghcmeadgaaDoorIDc
namespace Go.Proofs.YtcdgfghcmeadgaaDoor
open Go.RowKit
set_option linter.unusedVariables false

theorem mem_bytes {xs : List Int} (h : Bytes xs) : ∀ z ∈ xs, 0 ≤ z ∧ z < 256 := by
  intro z hz
  obtain ⟨i, hi, e⟩ := List.getElem_of_mem hz
  have := h i hi
  rw [List.getElem?_eq_getElem hi, e] at this
  exact this
theorem img_mid (seq : Int) (n : Nat) (X : List Rwi) : mid (img seq n X) = numB [seq, (n : Int)] ++ rowsB X n := by
  have e4 : (Cr.by4 (Cr.sum (bodyTo seq n X n))).length = 4 := rfl
  unfold mid img
  rw [List.length_append, e4, Nat.add_sub_cancel, List.take_left]
  rfl
theorem num2_ge (a b : Int) : 2 ≤ (numB [a, b]).length := by
  rw [num2_eq, List.length_append]
  have := enc_pos a.toNat
  have := enc_pos b.toNat
  omega
theorem img_dok {seq : Int} {n : Nat} {X : List Rwi} (h : sE seq n X = 0) (hn : X.length = n) : DOk (img seq n X) seq X := by
  obtain ⟨h1, h2, h3, h4, h5⟩ := sE_ok h
  have e4 : (Cr.by4 (Cr.sum (bodyTo seq n X n))).length = 4 := rfl
  have hl := img_len seq n X
  have hg := num2_ge seq (n : Int)
  have hm : (img seq n X).take 4 = [104, 119, 105, 49] := by
    unfold img bodyTo mark4
    rfl
  refine ⟨by rw [hl]; exact h5, by rw [hl]; unfold tz; omega, ?_, ?_, ?_⟩
  · unfold mk4
    rw [hm, hl]
    simp only [Bool.and_eq_true, decide_eq_true_eq, and_true]
    unfold tz; omega
  · unfold Cr.holds
    simp only [decide_eq_true_eq]
    refine ⟨by rw [hl]; unfold tz; omega, ?_⟩
    have e : (img seq n X).length - 4 = (bodyTo seq n X n).length := by unfold img; rw [List.length_append, e4, Nat.add_sub_cancel]
    rw [e]
    unfold img
    rw [List.drop_left, List.take_left]
  · rw [img_mid]
    exact ⟨h2, h3, by omega, by rw [hn]; exact h4, by rw [hn]⟩
/-- Bytes are those of one state at most. -/
theorem ts_uniq {ys : List Int} (hx : Bytes ys) {s t : Int} {X Y : List Rwi} (h : TSok ys s X) (k : TSok ys t Y) : s = t ∧ X = Y := by
  obtain ⟨a1, a2⟩ := ts_head h
  obtain ⟨b1, b2⟩ := ts_head k
  have hst : s = t := by rw [a1] at b1; exact congrArg Prod.fst b1
  have hlen : X.length = Y.length := by
    rw [a2] at b2
    have := congrArg Prod.fst b2
    simp only at this
    omega
  subst hst
  refine ⟨rfl, ?_⟩
  have hq1 : (q1 ys).1 = s := by rw [a1]
  have hnl : (numB [s, (X.length : Int)]).length ≤ ys.length := by rw [h.2.2.2.2, List.length_append]; omega
  have hstart : LI ys s X.length [] (numB [s, (X.length : Int)]).length := by
    have z := LI.start (ys := ys) (n := X.length) (p := (numB [s, (X.length : Int)]).length) a2 hnl (by rw [hq1]; conv => lhs; rw [h.2.2.2.2]; rw [List.take_left])
    rw [hq1] at z
    exact z
  have hall : ∀ m, m ≤ X.length → ∃ Z p, LI ys s X.length Z p ∧ Z.length = m := by
    intro m
    induction m with
    | zero => exact fun _ => ⟨[], _, hstart, rfl⟩
    | succ m ih =>
      intro hm
      obtain ⟨Z, p, hL, hZ⟩ := ih (by omega)
      obtain ⟨r, r1, r2, r3⟩ := hL.next (by omega) h
      have e0 : (rr ys p).2.2 = 0 := by rw [r1]
      have hf : fwI ⟨strOfNums (rr ys p).1.1, strOfNums (rr ys p).1.2.1, (rr ys p).1.2.2⟩ (ahd Z Z.length) s = true := by
        rw [r1]
        simp only [strOfNums_sb]
        exact r2
      have hle : (rr ys p).2.1 ≤ ys.length := by
        have ha := (rr_again hx p e0).1
        rcases Nat.le_total (rr ys p).2.1 ys.length with q | q
        · exact q
        · have hl1 := congrArg List.length ha
          rw [List.take_of_length_le q, List.length_append, List.length_take, Nat.min_eq_left hL.le] at hl1
          rw [r1] at hl1 ⊢
          simp only [strOfNums_sb] at hl1
          have : Rwi.bytes r = rowB r.k r.v r.n := rfl
          simp only
          rw [this]
          omega
      exact ⟨_, _, hL.step hx (by omega) e0 hf hle, by rw [List.length_append, hZ]; rfl⟩
  obtain ⟨Z, p, hL, hZ⟩ := hall X.length (Nat.le_refl _)
  have x1 := (hL.only s X h).2.2
  have y1 := (hL.only s Y k).2.2
  rw [hZ, List.take_length] at x1
  rw [hZ, hlen, List.take_length] at y1
  rw [x1, y1]
theorem bytes_mid {xs : List Int} (hx : Bytes xs) : Bytes (mid xs) := by
  unfold mid
  refine bytes_drop ?_ 4
  intro i hi
  rw [List.length_take] at hi
  rw [List.getElem?_take_of_lt (by omega)]
  exact hx i (by omega)
theorem dok_uniq {xs : List Int} (hx : Bytes xs) {s t : Int} {X Y : List Rwi} (h : DOk xs s X) (k : DOk xs t Y) : s = t ∧ X = Y := ts_uniq (bytes_mid hx) h.2.2.2.2 k.2.2.2.2
theorem img_pk {seq : Int} {n : Nat} {X : List Rwi} (h : sE seq n X = 0) (hn : X.length = n) : pk (img seq n X) = (seq, (n : Int), 4 + (numB [seq, (n : Int)]).length, 0) := by
  obtain ⟨g1, g2, g3, g4, g5⟩ := sE_ok h
  have hd : (img seq n X).drop 4 = enc seq.toNat ++ (enc ((n : Int)).toNat ++ (rowsB X n ++ Cr.by4 (Cr.sum (bodyTo seq n X n)))) := by
    unfold img
    generalize Cr.by4 (Cr.sum (bodyTo seq n X n)) = T
    unfold bodyTo
    rw [num2_eq]
    simp only [List.append_assoc]
    rfl
  have e1 : h1 (img seq n X) = (seq, (enc seq.toNat).length, 0) := by
    have := ri_lay ((img seq n X).drop 4) 0 seq 1152921504606846976 g2 g3 (by omega) _ (by rw [List.drop_zero]; exact hd)
    rw [Nat.zero_add] at this
    exact this
  have e2 : h2 (img seq n X) = ((n : Int), (numB [seq, (n : Int)]).length, 0) := by
    unfold h2 pI
    rw [e1, if_neg (by simp)]
    have hd2 : ((img seq n X).drop 4).drop (enc seq.toNat).length = enc ((n : Int)).toNat ++ (rowsB X n ++ Cr.by4 (Cr.sum (bodyTo seq n X n))) := by rw [hd, List.drop_left]
    have := ri_lay ((img seq n X).drop 4) (enc seq.toNat).length (n : Int) 1048576 (by omega) (by omega) (by omega) _ hd2
    rw [num2_eq, List.length_append]
    exact this
  unfold pk
  rw [if_pos ⟨(img_dok h hn).2.2.1, by rw [e2]⟩, e1, e2]
theorem img_rm {seq : Int} {n : Nat} {X : List Rwi} (h : sE seq n X = 0) (hn : X.length = n) : rm (img seq n X) = (n : Int) := by
  have hg := rows_ge X seq n (sE_ok h).2.2.2.1
  unfold rm
  rw [img_pk h hn, if_pos rfl, img_len]
  simp only
  unfold tz
  omega
end Go.Proofs.YtcdgfghcmeadgaaDoor
