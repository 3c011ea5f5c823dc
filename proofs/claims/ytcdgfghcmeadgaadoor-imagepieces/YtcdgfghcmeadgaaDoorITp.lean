/-
  A state's numbers and rows as bytes, as plain data: what is taken up of them is told by the bytes alone. No condition of its own.
-/
import Derived.Test.YtcdgfghcmeadgaaDoorFd
import Derived.Test.YtcdgfghcmeadgaaDoorPBk
namespace Go.Proofs.YtcdgfghcmeadgaaDoor
open Go.RowKit
set_option linter.unusedVariables false

/-- The bytes are those of a state's numbers and rows. -/
def TSok (ys : List Int) (seq : Int) (X : List Rwi) : Prop := 0 ≤ seq ∧ seq ≤ 1152921504606846976 ∧ X.length ≤ 1048576 ∧ okTo X seq X.length = true ∧ ys = numB [seq, (X.length : Int)] ++ rowsB X X.length
theorem num2_eq (a b : Int) : numB [a, b] = enc a.toNat ++ enc b.toNat := by simp [numB]
def q1 (ys : List Int) : Int × Nat × Int := ri ys 0 1152921504606846976
def q2 (ys : List Int) : Int × Nat × Int := if (q1 ys).2.2 ≠ 0 then (0, (q1 ys).2.1, (q1 ys).2.2) else rc ys (q1 ys).2.1 1048576 4
theorem row_ge {r : Rwi} {ahead : ByteArray} {seq : Int} (h : fwI r ahead seq = true) : 4 ≤ r.bytes.length := by
  have hb := fw_bd h
  show 4 ≤ (rowB r.k r.v r.n).length
  unfold rowB
  simp only [List.length_append, sb_length]
  have h1 := enc_pos r.k.size
  have h2 := enc_pos r.v.size
  have h3 := enc_pos r.n.toNat
  omega
theorem rows_ge (X : List Rwi) (seq : Int) : ∀ k, okTo X seq k = true → 4 * k ≤ (rowsB X k).length
  | 0, _ => by simp
  | k + 1, h => by
    have h2 : (okTo X seq k && fwI (rAt X k) (ahd X k) seq) = true := h
    simp only [Bool.and_eq_true] at h2
    have h3 := rows_ge X seq k h2.1
    have h4 := row_ge h2.2
    show _ ≤ (rowsB X k ++ (rAt X k).bytes).length
    rw [List.length_append]
    omega
theorem rAt_app {X Y : List Rwi} {i : Nat} (h : i < X.length) : rAt (X ++ Y) i = rAt X i := by
  unfold rAt
  rw [List.getElem?_append_left h]
theorem rAt_last (X : List Rwi) (r : Rwi) : rAt (X ++ [r]) X.length = r := by
  unfold rAt
  simp
theorem rows_app {X Y : List Rwi} : ∀ k, k ≤ X.length → rowsB (X ++ Y) k = rowsB X k
  | 0, _ => rfl
  | k + 1, h => by
    show rowsB (X ++ Y) k ++ (rAt (X ++ Y) k).bytes = rowsB X k ++ (rAt X k).bytes
    rw [rows_app k (by omega), rAt_app (by omega)]
theorem ahd_app {X Y : List Rwi} : ∀ k, k ≤ X.length → ahd (X ++ Y) k = ahd X k
  | 0, _ => rfl
  | k + 1, h => by
    show (rAt (X ++ Y) k).k = (rAt X k).k
    rw [rAt_app (by omega)]
theorem ok_app {X Y : List Rwi} (seq : Int) : ∀ k, k ≤ X.length → okTo (X ++ Y) seq k = okTo X seq k
  | 0, _ => rfl
  | k + 1, h => by
    show (okTo (X ++ Y) seq k && fwI (rAt (X ++ Y) k) (ahd (X ++ Y) k) seq) = (okTo X seq k && fwI (rAt X k) (ahd X k) seq)
    rw [ok_app seq k (by omega), rAt_app (by omega), ahd_app k (by omega)]
theorem rows_snoc (X : List Rwi) (r : Rwi) : rowsB (X ++ [r]) (X.length + 1) = rowsB X X.length ++ r.bytes := by
  show rowsB (X ++ [r]) X.length ++ (rAt (X ++ [r]) X.length).bytes = _
  rw [rows_app _ (Nat.le_refl _), rAt_last]
theorem ok_snoc (X : List Rwi) (r : Rwi) (seq : Int) : okTo (X ++ [r]) seq (X.length + 1) = (okTo X seq X.length && fwI r (ahd X X.length) seq) := by
  show (okTo (X ++ [r]) seq X.length && fwI (rAt (X ++ [r]) X.length) (ahd (X ++ [r]) X.length) seq) = _
  rw [ok_app seq _ (Nat.le_refl _), rAt_last, ahd_app _ (Nat.le_refl _)]
theorem rows_split (X : List Rwi) {k : Nat} : ∀ n, k < n → ∃ rest, rowsB X n = rowsB X k ++ ((rAt X k).bytes ++ rest)
  | 0, h => by omega
  | n + 1, h => by
    rcases Nat.lt_or_ge k n with q | q
    · obtain ⟨rest, e⟩ := rows_split X n q
      exact ⟨rest ++ (rAt X n).bytes, by show rowsB X n ++ _ = _; rw [e]; simp only [List.append_assoc]⟩
    · obtain rfl : k = n := by omega
      exact ⟨[], by show rowsB X k ++ _ = _; rw [List.append_nil]⟩
theorem ts_head {ys : List Int} {seq : Int} {X : List Rwi} (h : TSok ys seq X) : q1 ys = (seq, (enc seq.toNat).length, 0) ∧ q2 ys = ((X.length : Int), (numB [seq, (X.length : Int)]).length, 0) := by
  obtain ⟨h0, h1, h2, h3, h4⟩ := h
  have e0 : ys.drop 0 = enc seq.toNat ++ (enc ((X.length : Int)).toNat ++ rowsB X X.length) := by rw [List.drop_zero, h4, num2_eq, List.append_assoc]
  have r1 : q1 ys = (seq, 0 + (enc seq.toNat).length, 0) := ri_lay ys 0 seq _ h0 h1 (by omega) _ e0
  rw [Nat.zero_add] at r1
  have e1 := drop_len e0
  rw [Nat.zero_add] at e1
  have r2 := ri_lay ys _ (X.length : Int) 1048576 (by omega) (by omega) (by omega) _ e1
  refine ⟨r1, ?_⟩
  have hg := rows_ge X seq _ h3
  have hl : ys.length = (enc seq.toNat).length + (enc ((X.length : Int)).toNat).length + (rowsB X X.length).length := by rw [h4, num2_eq]; simp only [List.length_append]
  unfold q2
  rw [r1, if_neg (by simp)]
  unfold rc
  rw [if_neg (by omega), r2]
  simp only
  rw [if_neg (by simp), if_neg (by rintro ⟨_, z⟩; omega), num2_eq, List.length_append]
theorem q2_ok {ys : List Int} (hx : Bytes ys) : (∃ e p, e ≠ 0 ∧ p ≤ ys.length ∧ q2 ys = (0, p, e)) ∨
    (∃ n p : Nat, q2 ys = ((n : Int), p, 0) ∧ n ≤ 1048576 ∧ p ≤ ys.length ∧ 0 ≤ (q1 ys).1 ∧ (q1 ys).1 ≤ 1152921504606846976 ∧ ys.take p = numB [(q1 ys).1, (n : Int)]) := by
  have hb1 := ri_bd hx 0 (Nat.zero_le _) 1152921504606846976
  have a1 := ri_again hx 0 1152921504606846976
  have hq : ri ys 0 1152921504606846976 = q1 ys := rfl
  rw [hq] at hb1 a1
  unfold q2
  clear hq
  generalize q1 ys = Q at hb1 a1 ⊢
  have hb2 := ri_bd hx Q.2.1 hb1.2.2.2.1 1048576
  have a2 := ri_again hx Q.2.1 1048576
  have hneg : ¬ ((1048576 : Int) < 0 ∨ (4 : Int) < 0) := by rintro (z | z) <;> exact absurd z (by decide)
  by_cases h1 : Q.2.2 ≠ 0
  · exact .inl ⟨_, _, h1, hb1.2.2.2.1, if_pos h1⟩
  have h1' : Q.2.2 = 0 := by simpa using h1
  have a1 := a1 h1'
  by_cases h2 : (ri ys Q.2.1 1048576).2.2 ≠ 0
  · exact .inl ⟨_, _, h2, hb1.2.2.2.1, (if_neg h1).trans ((if_neg hneg).trans (if_pos h2))⟩
  have h2' : (ri ys Q.2.1 1048576).2.2 = 0 := by simpa using h2
  have a2 := a2 h2'
  by_cases h3 : (0 : Int) < 4 ∧ ((ys.length - (ri ys Q.2.1 1048576).2.1 : Nat) : Int) / 4 < (ri ys Q.2.1 1048576).1
  · exact .inl ⟨30, Q.2.1, by decide, hb1.2.2.2.1, (if_neg h1).trans ((if_neg hneg).trans ((if_neg h2).trans (if_pos h3)))⟩
  · refine .inr ⟨(ri ys Q.2.1 1048576).1.toNat, (ri ys Q.2.1 1048576).2.1, ?_, by omega, hb2.2.2.2.1, a1.2.1, a1.2.2, ?_⟩
    · rw [Int.toNat_of_nonneg a2.2.1]
      exact (if_neg h1).trans ((if_neg hneg).trans ((if_neg h2).trans (if_neg h3)))
    · rw [Int.toNat_of_nonneg a2.2.1, a2.1, num2_eq, a1.1]
      simp
/-- How far the rows have been taken up. -/
structure LI (ys : List Int) (seq : Int) (n : Nat) (X : List Rwi) (p : Nat) : Prop where
  le : p ≤ ys.length
  pre : ys.take p = numB [seq, (n : Int)] ++ rowsB X X.length
  ok : okTo X seq X.length = true
  only : ∀ s Y, TSok ys s Y → s = seq ∧ Y.length = n ∧ Y.take X.length = X
theorem take_rows {Y X : List Rwi} (h : Y.take X.length = X) : rowsB Y X.length = rowsB X X.length ∧ ahd Y X.length = ahd X X.length := by
  have e : Y = X ++ Y.drop X.length := by conv => lhs; rw [← List.take_append_drop X.length Y, h]
  rw [e]
  exact ⟨rows_app _ (Nat.le_refl _), ahd_app _ (Nat.le_refl _)⟩
/-- The next row, if there is a state. -/
theorem LI.next {ys : List Int} {seq : Int} {n : Nat} {X : List Rwi} {p : Nat} (h : LI ys seq n X p) (hk : X.length < n) {s : Int} {Y : List Rwi} (ht : TSok ys s Y) :
    ∃ r : Rwi, rr ys p = ((sb r.k, sb r.v, r.n), p + r.bytes.length, 0) ∧ fwI r (ahd X X.length) seq = true ∧ Y.take (X.length + 1) = X ++ [r] := by
  obtain ⟨rfl, hn, ht2⟩ := h.only s Y ht
  obtain ⟨t0, t1, t2, t3, t4⟩ := ht
  obtain ⟨e1, e2⟩ := take_rows ht2
  have hfw := okTo_at t3 (show X.length < Y.length by omega)
  rw [e2] at hfw
  refine ⟨rAt Y X.length, ?_, hfw, ?_⟩
  · obtain ⟨rest, hs⟩ := rows_split Y Y.length (show X.length < Y.length by omega)
    have hp : p = (numB [s, (n : Int)] ++ rowsB X X.length).length := by
      rw [← h.pre, List.length_take]
      have := h.le
      omega
    have hd : ys.drop p = rowB (rAt Y X.length).k (rAt Y X.length).v (rAt Y X.length).n ++ rest := by
      rw [t4, hs, hn, e1, ← List.append_assoc, hp, List.drop_left]
      rfl
    exact rr_lay ys p _ _ _ (fw_wre hfw) rest hd
  · rw [List.take_add_one, ht2]
    have : Y[X.length]? = some (rAt Y X.length) := by unfold rAt; rw [List.getElem?_eq_getElem (by omega)]; rfl
    rw [this]
    rfl
/-- One row further. -/
theorem LI.step {ys : List Int} (hx : Bytes ys) {seq : Int} {n : Nat} {X : List Rwi} {p : Nat} (h : LI ys seq n X p) (hk : X.length < n) (he : (rr ys p).2.2 = 0)
    (hf : fwI ⟨strOfNums (rr ys p).1.1, strOfNums (rr ys p).1.2.1, (rr ys p).1.2.2⟩ (ahd X X.length) seq = true) (hle : (rr ys p).2.1 ≤ ys.length) :
    LI ys seq n (X ++ [⟨strOfNums (rr ys p).1.1, strOfNums (rr ys p).1.2.1, (rr ys p).1.2.2⟩]) (rr ys p).2.1 := by
  have ha := rr_again hx p he
  refine ⟨hle, ?_, ?_, fun s Y ht => ?_⟩
  · rw [ha.1, h.pre, List.length_append, List.length_singleton, rows_snoc, List.append_assoc]
    rfl
  · rw [List.length_append, List.length_singleton, ok_snoc, h.ok, hf]
    rfl
  · obtain ⟨r, h1, h2, h3⟩ := h.next hk ht
    obtain ⟨k1, k2, _⟩ := h.only s Y ht
    refine ⟨k1, k2, ?_⟩
    rw [List.length_append, List.length_singleton, h3, h1]
    simp only [strOfNums_sb]
/-- No state, where the next row is none, or may not stand there. -/
theorem LI.none {ys : List Int} {seq : Int} {n : Nat} {X : List Rwi} {p : Nat} (h : LI ys seq n X p) (hk : X.length < n)
    (hb : (rr ys p).2.2 ≠ 0 ∨ fwI ⟨strOfNums (rr ys p).1.1, strOfNums (rr ys p).1.2.1, (rr ys p).1.2.2⟩ (ahd X X.length) seq = false) : ∀ s Y, ¬ TSok ys s Y := by
  intro s Y ht
  obtain ⟨r, h1, h2, h3⟩ := h.next hk ht
  rw [h1] at hb
  rcases hb with z | z
  · exact z rfl
  · simp only [strOfNums_sb] at z
    rw [show (⟨r.k, r.v, r.n⟩ : Rwi) = r from rfl, h2] at z
    cases z
/-- At the end of the rows. -/
theorem LI.fin {ys : List Int} {seq : Int} {n : Nat} {X : List Rwi} {p : Nat} (h : LI ys seq n X p) (hk : X.length = n) (hs0 : 0 ≤ seq) (hs1 : seq ≤ 1152921504606846976) (hn : n ≤ 1048576) :
    (ys.length ≤ p → TSok ys seq X) ∧ (p < ys.length → ∀ s Y, ¬ TSok ys s Y) := by
  constructor
  · intro hp
    refine ⟨hs0, hs1, by omega, h.ok, ?_⟩
    have := h.pre
    rw [List.take_of_length_le hp, ← hk] at this
    exact this
  · intro hp s Y ht
    obtain ⟨rfl, hn2, ht2⟩ := h.only s Y ht
    have hYX : Y = X := by rw [← ht2, hk, ← hn2, List.take_length]
    subst hYX
    have hl := congrArg List.length h.pre
    rw [List.length_take, ht.2.2.2.2] at hl
    rw [ht.2.2.2.2] at hp
    rw [hk] at hl hp
    omega
end Go.Proofs.YtcdgfghcmeadgaaDoor
