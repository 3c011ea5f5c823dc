/-
  How far a document's reader has taken up the rows of a state, as plain data. No condition of its own.
-/
import Derived.Test.YtcdgfghcmeadgaaDoorIBp
namespace Go.Proofs.YtcdgfghcmeadgaaDoor
open Go.RowKit
set_option linter.unusedVariables false

/-- How far the rows have been taken up, whether or not they may stand so. -/
structure LJ (ys : List Int) (seq : Int) (n : Nat) (X : List Rwi) (p : Nat) : Prop where
  le : p ≤ ys.length
  pre : ys.take p = numB [seq, (n : Int)] ++ rowsB X X.length
  only : ∀ s Y, TSok ys s Y → s = seq ∧ Y.length = n ∧ Y.take X.length = X
theorem LJ.next {ys : List Int} {seq : Int} {n : Nat} {X : List Rwi} {p : Nat} (h : LJ ys seq n X p) (hk : X.length < n) {s : Int} {Y : List Rwi} (ht : TSok ys s Y) :
    ∃ r : Rwi, rr ys p = ((sb r.k, sb r.v, r.n), p + r.bytes.length, 0) ∧ Y.take (X.length + 1) = X ++ [r] := by
  obtain ⟨rfl, hn, ht2⟩ := h.only s Y ht
  obtain ⟨t0, t1, t2, t3, t4⟩ := ht
  obtain ⟨e1, e2⟩ := take_rows ht2
  have hfw := okTo_at t3 (show X.length < Y.length by omega)
  refine ⟨rAt Y X.length, ?_, ?_⟩
  · obtain ⟨rest, hs⟩ := rows_split Y Y.length (show X.length < Y.length by omega)
    have hp : p = (numB [s, (n : Int)] ++ rowsB X X.length).length := by
      rw [← h.pre, List.length_take]
      have := h.le
      omega
    have hd : ys.drop p = rowB (rAt Y X.length).k (rAt Y X.length).v (rAt Y X.length).n ++ rest := by
      rw [t4, hs, hn, e1, ← List.append_assoc, hp, List.drop_left]
      rfl
    exact rr_lay ys p _ _ _ (fw_wre hfw) rest hd
  · rw [List.take_add_one, ht2]
    have : Y[X.length]? = some (rAt Y X.length) := by unfold rAt; rw [List.getElem?_eq_getElem (by omega)]; rfl
    rw [this]
    rfl
def rrow (ys : List Int) (p : Nat) : Rwi := ⟨strOfNums (rr ys p).1.1, strOfNums (rr ys p).1.2.1, (rr ys p).1.2.2⟩
theorem LJ.step {ys : List Int} (hx : Bytes ys) {seq : Int} {n : Nat} {X : List Rwi} {p : Nat} (h : LJ ys seq n X p) (hk : X.length < n) (he : (rr ys p).2.2 = 0) (hle : (rr ys p).2.1 ≤ ys.length) :
    LJ ys seq n (X ++ [rrow ys p]) (rr ys p).2.1 := by
  have ha := rr_again hx p he
  refine ⟨hle, ?_, fun s Y ht => ?_⟩
  · rw [ha.1, h.pre, List.length_append, List.length_singleton, rows_snoc, List.append_assoc]
    rfl
  · obtain ⟨r, h1, h3⟩ := h.next hk ht
    obtain ⟨k1, k2, _⟩ := h.only s Y ht
    refine ⟨k1, k2, ?_⟩
    rw [List.length_append, List.length_singleton, h3]
    unfold rrow
    rw [h1]
    simp only [strOfNums_sb]
theorem LJ.none {ys : List Int} {seq : Int} {n : Nat} {X : List Rwi} {p : Nat} (h : LJ ys seq n X p) (hk : X.length < n) (hb : (rr ys p).2.2 ≠ 0) : ∀ s Y, ¬ TSok ys s Y := by
  intro s Y ht
  obtain ⟨r, h1, _⟩ := h.next hk ht
  rw [h1] at hb
  exact hb rfl
theorem LJ.all {ys : List Int} {seq : Int} {n : Nat} {X : List Rwi} {p : Nat} (h : LJ ys seq n X p) (hk : X.length = n) {s : Int} {Y : List Rwi} (ht : TSok ys s Y) : s = seq ∧ Y = X := by
  obtain ⟨h1, h2, h3⟩ := h.only s Y ht
  refine ⟨h1, ?_⟩
  rw [← h3, hk, ← h2, List.take_length]
theorem LJ.end1 {ys : List Int} {seq : Int} {n : Nat} {X : List Rwi} {p : Nat} (h : LJ ys seq n X p) (hk : X.length = n) (hp : p < ys.length) : ∀ s Y, ¬ TSok ys s Y := by
  intro s Y ht
  obtain ⟨rfl, rfl⟩ := h.all hk ht
  have hl := congrArg List.length h.pre
  rw [List.length_take, Nat.min_eq_left h.le] at hl
  have h4 := congrArg List.length ht.2.2.2.2
  rw [hk] at h4 hl
  omega
theorem LJ.end2 {ys : List Int} {seq : Int} {n : Nat} {X : List Rwi} {p : Nat} (h : LJ ys seq n X p) (hk : X.length = n) (hp : ys.length ≤ p) : (sE seq n X = 0 → TSok ys seq X) ∧ (ys.length + 8 ≤ 268435456 → sE seq n X ≠ 0 → ∀ s Y, ¬ TSok ys s Y) := by
  have hys : ys = numB [seq, (n : Int)] ++ rowsB X n := by
    have := h.pre
    rw [List.take_of_length_le hp, hk] at this
    exact this
  constructor
  · intro e
    obtain ⟨h1, h2, h3, h4, h5⟩ := sE_ok e
    exact ⟨h2, h3, by omega, by rw [hk]; exact h4, by rw [hk]; exact hys⟩
  · intro hb hne s Y ht
    obtain ⟨rfl, rfl⟩ := h.all hk ht
    apply hne
    obtain ⟨t0, t1, t2, t3, t4⟩ := ht
    rw [hk] at t2 t3
    have hl := congrArg List.length hys
    rw [List.length_append] at hl
    unfold sE
    rw [if_neg (by omega), if_neg (by omega), if_neg (by rw [t3]; decide), if_neg (by unfold tz; omega)]
/-- What the reader answers of the two numbers. -/
def d1 (ys : List Int) : Int × Nat × Int := ri ys 0 1152921504606846976
def d2 (ys : List Int) : Int × Nat × Int := pI ys (d1 ys).2.1 (d1 ys).2.2 1048576
theorem ts_d {ys : List Int} {seq : Int} {X : List Rwi} (h : TSok ys seq X) : d1 ys = (seq, (enc seq.toNat).length, 0) ∧ d2 ys = ((X.length : Int), (numB [seq, (X.length : Int)]).length, 0) := by
  obtain ⟨h0, h1, h2, h3, h4⟩ := h
  have e0 : ys.drop 0 = enc seq.toNat ++ (enc ((X.length : Int)).toNat ++ rowsB X X.length) := by rw [List.drop_zero, h4, num2_eq, List.append_assoc]
  have r1 : d1 ys = (seq, 0 + (enc seq.toNat).length, 0) := ri_lay ys 0 seq _ h0 h1 (by omega) _ e0
  rw [Nat.zero_add] at r1
  have e1 := drop_len e0
  rw [Nat.zero_add] at e1
  have r2 := ri_lay ys _ (X.length : Int) 1048576 (by omega) (by omega) (by omega) _ e1
  refine ⟨r1, ?_⟩
  unfold d2 pI
  rw [r1, if_neg (by simp)]
  simp only
  rw [r2, num2_eq, List.length_append]
/-- Behind the two numbers. -/
theorem d_start {ys : List Int} (hx : Bytes ys) : ((d2 ys).2.2 ≠ 0 ∧ (d2 ys).1 = 0 ∧ ∀ s Y, ¬ TSok ys s Y) ∨
    ((d2 ys).2.2 = 0 ∧ (d1 ys).2.2 = 0 ∧ ∃ n : Nat, (d2 ys).1 = (n : Int) ∧ n ≤ 1048576 ∧ 0 ≤ (d1 ys).1 ∧ (d1 ys).1 ≤ 1152921504606846976 ∧ LJ ys (d1 ys).1 n [] (d2 ys).2.1) := by
  have hb1 := ri_bd hx 0 (Nat.zero_le _) 1152921504606846976
  have a1 := ri_again hx 0 1152921504606846976
  have hq : ri ys 0 1152921504606846976 = d1 ys := rfl
  rw [hq] at hb1 a1
  by_cases h2 : (d2 ys).2.2 ≠ 0
  · refine .inl ⟨h2, ?_, fun s Y ht => h2 (by rw [(ts_d ht).2])⟩
    unfold d2 pI at h2 ⊢
    split at h2 <;> rename_i hc
    · rw [if_pos hc]
    · rw [if_neg hc]
      exact ((ri_bd hx (d1 ys).2.1 hb1.2.2.2.1 1048576).2.2.2.2 h2).1
  · have h2' : (d2 ys).2.2 = 0 := by simpa using h2
    have h1' : (d1 ys).2.2 = 0 := by
      apply Classical.byContradiction
      intro z
      unfold d2 pI at h2'
      rw [if_pos z] at h2'
      exact z h2'
    have e2 : d2 ys = ri ys (d1 ys).2.1 1048576 := by unfold d2 pI; rw [if_neg (by rw [h1']; simp)]
    have hb2 := ri_bd hx (d1 ys).2.1 hb1.2.2.2.1 1048576
    have a2 := ri_again hx (d1 ys).2.1 1048576
    rw [← e2] at hb2 a2
    have a1 := a1 h1'
    have a2 := a2 h2'
    refine .inr ⟨h2', h1', (d2 ys).1.toNat, (Int.toNat_of_nonneg a2.2.1).symm, by omega, a1.2.1, a1.2.2, hb2.2.2.2.1, ?_, fun s Y ht => ?_⟩
    · rw [Int.toNat_of_nonneg a2.2.1, a2.1, num2_eq, a1.1]
      simp [rowsB]
    · obtain ⟨z1, z2⟩ := ts_d ht
      rw [z1, z2]
      simp
end Go.Proofs.YtcdgfghcmeadgaaDoor
