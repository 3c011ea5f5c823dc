/-
  A stream of an image's bytes, part by part, as plain data: what stands there so far, and what it can still become. No condition of its own.
-/
import Derived.Test.YtcdgfghcmeadgaaDoorIWa
namespace Go.Proofs.YtcdgfghcmeadgaaDoor
open Go.RowKit
set_option linter.unusedVariables false

theorem drop_of_take {xs A R : List Int} {p : Nat} (h : xs = A ++ R) (hp : xs.take p = A) (hle : p ≤ xs.length) : xs.drop p = R := by
  have e : p = A.length := by rw [← hp, List.length_take]; omega
  rw [h, e, List.drop_left]
/-- An image's bytes, and what they are of. -/
theorem dok_form {xs : List Int} {s : Int} {Y : List Rwi} (h : DOk xs s Y) : xs = bodyTo s Y.length Y Y.length ++ Cr.by4 (Cr.sum (bodyTo s Y.length Y Y.length)) ∧ 0 ≤ s ∧ s ≤ 1152921504606846976 ∧ Y.length ≤ 1048576 ∧ okTo Y s Y.length = true := by
  obtain ⟨h1, h2, _⟩ := dok_is h
  obtain ⟨_, _, _, _, h5, h6, h7, h8, _⟩ := h
  refine ⟨?_, h5, h6, h7, h8⟩
  unfold iB at h2
  rw [if_pos h1] at h2
  exact h2.symm
/-- A stream's part, its place, and what was told ahead of it. -/
structure Pre (ys : List Int) (part p : Nat) (seq : Int) (n : Nat) (X : List Rwi) : Prop where
  le : p ≤ ys.length
  top : part ≤ 5
  h0 : part = 0 → p = 0
  h1 : part = 1 → ys.take p = mark4
  h2 : part = 2 → ys.take p = mark4 ++ enc seq.toNat
  h3 : 3 ≤ part → part ≤ 4 → ys.take p = bodyTo seq n X X.length
  h5 : part = 5 → ys.take p = bodyTo seq n X X.length ++ Cr.by4 (Cr.sum (bodyTo seq n X X.length))
  sq : 2 ≤ part → 0 ≤ seq ∧ seq ≤ 1152921504606846976
  nn : 3 ≤ part → n ≤ 1048576 ∧ X.length ≤ n ∧ okTo X seq X.length = true
  n4 : 4 ≤ part → X.length = n
  x0 : part < 3 → X = []
  only : ∀ zs s Y, DOk (ys ++ zs) s Y → (2 ≤ part → s = seq) ∧ (3 ≤ part → Y.length = n ∧ Y.take X.length = X)
theorem Pre.start : Pre [] 0 0 0 0 [] :=
  ⟨Nat.le_refl _, by omega, fun _ => rfl, fun h => by omega, fun h => by omega, fun h _ => by omega, fun h => by omega, fun h => by omega, fun h => by omega, fun h => by omega, fun _ => rfl, fun _ _ _ _ => ⟨fun h => by omega, fun h => by omega⟩⟩
theorem Pre.more {ys : List Int} {part p : Nat} {seq : Int} {n : Nat} {X : List Rwi} (h : Pre ys part p seq n X) (zs : List Int) : Pre (ys ++ zs) part p seq n X := by
  have e : (ys ++ zs).take p = ys.take p := List.take_append_of_le_length h.le
  exact ⟨by rw [List.length_append]; have := h.le; omega, h.top, h.h0, fun k => e.trans (h.h1 k), fun k => e.trans (h.h2 k), fun k l => e.trans (h.h3 k l), fun k => e.trans (h.h5 k), h.sq, h.nn, h.n4, h.x0, fun us s Y k => h.only (zs ++ us) s Y (by rw [← List.append_assoc]; exact k)⟩
/-- Numbers that are not stored yet have no part. -/
theorem Pre.any {ys : List Int} {part p : Nat} {seq : Int} {n : Nat} {X : List Rwi} (h : Pre ys part p seq n X) (h2 : part < 2) (s : Int) (m : Nat) : Pre ys part p s m X :=
  ⟨h.le, h.top, h.h0, h.h1, fun k => by omega, fun k _ => by omega, fun k => by omega, fun k => by omega, fun k => by omega, fun k => by omega, h.x0, fun _ _ _ _ => ⟨fun k => by omega, fun k => by omega⟩⟩
theorem Pre.anyN {ys : List Int} {part p : Nat} {seq : Int} {n : Nat} {X : List Rwi} (h : Pre ys part p seq n X) (h2 : part < 3) (m : Nat) : Pre ys part p seq m X :=
  ⟨h.le, h.top, h.h0, h.h1, h.h2, fun k _ => by omega, fun k => by omega, h.sq, fun k => by omega, fun k => by omega, h.x0, fun zs s Y k => ⟨(h.only zs s Y k).1, fun k => by omega⟩⟩
theorem take_app' {ys zs : List Int} {p : Nat} (h : p ≤ ys.length) : (ys ++ zs).take p = ys.take p := List.take_append_of_le_length h
theorem le_app {ys zs : List Int} {p : Nat} (h : p ≤ ys.length) : p ≤ (ys ++ zs).length := by rw [List.length_append]; omega
/-! ### The mark -/
theorem Pre.mark {ys : List Int} {p : Nat} {seq : Int} {n : Nat} {X : List Rwi} (h : Pre ys 0 p seq n X) (hl : 4 ≤ ys.length) (hm : ys.take 4 = mark4) : Pre ys 1 4 seq n X :=
  ⟨hl, by omega, fun k => by omega, fun _ => hm, fun k => by omega, fun k _ => by omega, fun k => by omega, fun k => by omega, fun k => by omega, fun k => by omega, fun _ => h.x0 (by omega), fun _ _ _ _ => ⟨fun k => by omega, fun k => by omega⟩⟩
theorem dok_mark {ys zs : List Int} {s : Int} {Y : List Rwi} (h : DOk (ys ++ zs) s Y) (m : Nat) (hm : m ≤ 4) (hl : m ≤ ys.length) : ys.take m = mark4.take m := by
  obtain ⟨e, _⟩ := dok_form h
  have e2 : (ys ++ zs).take m = mark4.take m := by
    rw [e]
    unfold bodyTo
    rw [List.append_assoc]
    exact List.take_append_of_le_length (by show m ≤ 4; exact hm)
  rw [← e2, take_app' hl]
/-! ### Seq and count -/
theorem Pre.at1 {ys zs : List Int} {p : Nat} {seq : Int} {n : Nat} {X : List Rwi} (h : Pre ys 1 p seq n X) {s : Int} {Y : List Rwi} (k : DOk (ys ++ zs) s Y) : ∃ R, ys.drop p ++ zs = enc s.toNat ++ R ∧ 0 ≤ s ∧ s ≤ 1152921504606846976 := by
  obtain ⟨e, e1, e2, _⟩ := dok_form k
  have e3 : ys ++ zs = mark4 ++ (enc s.toNat ++ (enc ((Y.length : Int)).toNat ++ rowsB Y Y.length ++ Cr.by4 (Cr.sum (bodyTo s Y.length Y Y.length)))) := by
    conv => lhs; rw [e]
    generalize Cr.by4 (Cr.sum (bodyTo s Y.length Y Y.length)) = T
    unfold bodyTo
    rw [num2_eq]
    simp only [List.append_assoc]
  have e4 := drop_of_take e3 ((take_app' h.le).trans (h.h1 rfl)) (le_app h.le)
  rw [List.drop_append_of_le_length h.le] at e4
  exact ⟨_, e4, e1, e2⟩
theorem Pre.at2 {ys zs : List Int} {p : Nat} {seq : Int} {n : Nat} {X : List Rwi} (h : Pre ys 2 p seq n X) {s : Int} {Y : List Rwi} (k : DOk (ys ++ zs) s Y) : ∃ R, ys.drop p ++ zs = enc ((Y.length : Int)).toNat ++ R ∧ Y.length ≤ 1048576 := by
  obtain ⟨e, e1, e2, e0, _⟩ := dok_form k
  obtain rfl := (h.only zs s Y k).1 (Nat.le_refl _)
  have e3 : ys ++ zs = (mark4 ++ enc s.toNat) ++ (enc ((Y.length : Int)).toNat ++ (rowsB Y Y.length ++ Cr.by4 (Cr.sum (bodyTo s Y.length Y Y.length)))) := by
    conv => lhs; rw [e]
    generalize Cr.by4 (Cr.sum (bodyTo s Y.length Y Y.length)) = T
    unfold bodyTo
    rw [num2_eq]
    simp only [List.append_assoc]
  have e4 := drop_of_take e3 ((take_app' h.le).trans (h.h2 rfl)) (le_app h.le)
  rw [List.drop_append_of_le_length h.le] at e4
  exact ⟨_, e4, e0⟩
theorem ri_whole {a zs R : List Int} {v most : Int} (h : a ++ zs = enc v.toNat ++ R) (h0 : 0 ≤ v) (h1 : v ≤ most) (hm : most ≤ 9223372036854775807) (he : (ri a 0 most).2.2 ≠ 30) : (ri a 0 most).2.2 = 0 ∧ (ri a 0 most).1 = v := by
  have e1 := ri_lay (a ++ zs) 0 v most h0 h1 hm R (by rw [List.drop_zero]; exact h)
  rw [ri_app a zs 0 most (Nat.zero_le _) he] at e1
  rw [e1]
  exact ⟨rfl, rfl⟩
theorem ri_took {ys : List Int} (hx : Bytes ys) {p : Nat} {most : Int} (he : (ri (ys.drop p) 0 most).2.2 = 0) : ys.take (p + (ri (ys.drop p) 0 most).2.1) = ys.take p ++ enc (ri (ys.drop p) 0 most).1.toNat ∧ 0 ≤ (ri (ys.drop p) 0 most).1 ∧ (ri (ys.drop p) 0 most).1 ≤ most ∧ (p ≤ ys.length → p + (ri (ys.drop p) 0 most).2.1 ≤ ys.length) := by
  obtain ⟨a1, a2, a3⟩ := ri_again (bytes_drop hx p) 0 most he
  refine ⟨?_, a2, a3, fun hp => ?_⟩
  · rw [take_more, a1]; simp
  · have := (ri_bd (bytes_drop hx p) 0 (Nat.zero_le _) most).2.2.2.1
    rw [List.length_drop] at this
    omega
theorem Pre.seq {ys : List Int} (hx : Bytes ys) {p : Nat} {seq : Int} {n : Nat} {X : List Rwi} (h : Pre ys 1 p seq n X) (he : (ri (ys.drop p) 0 1152921504606846976).2.2 = 0) : Pre ys 2 (p + (ri (ys.drop p) 0 1152921504606846976).2.1) (ri (ys.drop p) 0 1152921504606846976).1 n X := by
  obtain ⟨a1, a2, a3, a4⟩ := ri_took hx he
  refine ⟨a4 h.le, by omega, fun k => by omega, fun k => by omega, fun _ => by rw [a1, h.h1 rfl], fun k _ => by omega, fun k => by omega, fun _ => ⟨a2, a3⟩, fun k => by omega, fun k => by omega, fun _ => h.x0 (by omega), fun zs s Y k => ⟨fun _ => ?_, fun k => by omega⟩⟩
  obtain ⟨R, r1, r2, r3⟩ := h.at1 k
  exact (ri_whole r1 r2 r3 (by omega) (by rw [he]; decide)).2.symm
theorem Pre.count {ys : List Int} (hx : Bytes ys) {p : Nat} {seq : Int} {n : Nat} {X : List Rwi} (h : Pre ys 2 p seq n X) (he : (ri (ys.drop p) 0 1048576).2.2 = 0) : Pre ys 3 (p + (ri (ys.drop p) 0 1048576).2.1) seq (ri (ys.drop p) 0 1048576).1.toNat [] := by
  obtain ⟨a1, a2, a3, a4⟩ := ri_took hx he
  refine ⟨a4 h.le, by omega, fun k => by omega, fun k => by omega, fun k => by omega, fun _ _ => ?_, fun k => by omega, fun _ => h.sq (by omega), fun _ => ⟨by omega, Nat.zero_le _, rfl⟩, fun k => by omega, fun k => by omega, fun zs s Y k => ⟨fun _ => (h.only zs s Y k).1 (Nat.le_refl _), fun _ => ⟨?_, rfl⟩⟩⟩
  · rw [a1, h.h2 rfl]
    unfold bodyTo
    rw [num2_eq, Int.toNat_of_nonneg a2]
    simp [rowsB]
  · obtain ⟨R, r1, r2⟩ := h.at2 k
    have := (ri_whole (most := 1048576) r1 (by omega) (by omega) (by omega) (by rw [he]; decide)).2
    omega
/-! ### The rows -/
theorem Pre.at3 {ys zs : List Int} {p : Nat} {seq : Int} {n : Nat} {X : List Rwi} (h : Pre ys 3 p seq n X) (hn : X.length < n) {s : Int} {Y : List Rwi} (k : DOk (ys ++ zs) s Y) :
    ∃ R, (ys ++ zs).drop p = rowB (rAt Y X.length).k (rAt Y X.length).v (rAt Y X.length).n ++ R ∧ fwI (rAt Y X.length) (ahd X X.length) seq = true ∧ Y.take (X.length + 1) = X ++ [rAt Y X.length] := by
  obtain ⟨e, e1, e2, e0, e9⟩ := dok_form k
  obtain ⟨o1, o2⟩ := h.only zs s Y k
  obtain rfl := o1 (by omega)
  obtain ⟨o3, o4⟩ := o2 (Nat.le_refl _)
  obtain ⟨t1, t2⟩ := take_rows o4
  have hfw := okTo_at e9 (show X.length < Y.length by omega)
  rw [t2] at hfw
  obtain ⟨rest, hs⟩ := rows_split Y Y.length (show X.length < Y.length by omega)
  refine ⟨rest ++ Cr.by4 (Cr.sum (bodyTo s Y.length Y Y.length)), ?_, hfw, ?_⟩
  · refine drop_of_take ?_ ((take_app' h.le).trans (h.h3 (Nat.le_refl _) (by omega))) (le_app h.le)
    conv => lhs; rw [e]
    generalize Cr.by4 (Cr.sum (bodyTo s Y.length Y Y.length)) = T
    unfold bodyTo
    rw [hs, t1, o3]
    simp only [List.append_assoc]
    rfl
  · rw [List.take_add_one, o4]
    have : Y[X.length]? = some (rAt Y X.length) := by unfold rAt; rw [List.getElem?_eq_getElem (by omega)]; rfl
    rw [this]
    rfl
/-- The row that is read. -/
def rowAt (ys : List Int) (p : Nat) : Rwi := ⟨strOfNums (rr ys p).1.1, strOfNums (rr ys p).1.2.1, (rr ys p).1.2.2⟩
theorem Pre.isRow {ys zs : List Int} (hx : Bytes ys) {p : Nat} {seq : Int} {n : Nat} {X : List Rwi} (h : Pre ys 3 p seq n X) (hn : X.length < n) (he : (rr ys p).2.2 ≠ 30) {s : Int} {Y : List Rwi} (k : DOk (ys ++ zs) s Y) :
    (rr ys p).2.2 = 0 ∧ fwI (rowAt ys p) (ahd X X.length) seq = true ∧ Y.take (X.length + 1) = X ++ [rowAt ys p] := by
  obtain ⟨R, r1, r2, r3⟩ := h.at3 hn k
  have e1 := rr_lay (ys ++ zs) p _ _ _ (fw_wre r2) R r1
  rw [rr_app hx zs p h.le he] at e1
  have e2 : rowAt ys p = rAt Y X.length := by
    unfold rowAt
    rw [e1]
    simp only [strOfNums_sb]
  rw [e2, e1]
  exact ⟨rfl, r2, r3⟩
theorem rr_le {ys : List Int} (hx : Bytes ys) {p : Nat} (hp : p ≤ ys.length) (he : (rr ys p).2.2 = 0) : (rr ys p).2.1 ≤ ys.length := by
  have b1 := rt_bd hx p hp 1024
  have b2 := rt_bd hx _ b1.1 65536
  have b3 := ri_bd hx _ b2.1 1152921504606846976
  unfold rr at he ⊢
  split
  · exact hp
  · split
    · exact hp
    · split
      · exact hp
      · split
        · exact hp
        · exact b3.2.2.2.1
theorem Pre.row {ys : List Int} (hx : Bytes ys) {p : Nat} {seq : Int} {n : Nat} {X : List Rwi} (h : Pre ys 3 p seq n X) (hn : X.length < n) (he : (rr ys p).2.2 = 0) (hf : fwI (rowAt ys p) (ahd X X.length) seq = true) : Pre ys 3 (rr ys p).2.1 seq n (X ++ [rowAt ys p]) := by
  have ha := (rr_again hx p he).1
  have hl : (X ++ [rowAt ys p]).length = X.length + 1 := by simp
  refine ⟨rr_le hx h.le he, by omega, fun k => by omega, fun k => by omega, fun k => by omega, fun _ _ => ?_, fun k => by omega, fun _ => h.sq (by omega), fun _ => ⟨(h.nn (Nat.le_refl _)).1, by omega, ?_⟩, fun k => by omega, fun k => by omega, fun zs s Y k => ?_⟩
  · rw [ha, h.h3 (Nat.le_refl _) (by omega), hl]
    unfold bodyTo
    rw [rows_snoc]
    simp only [List.append_assoc]
    rfl
  · rw [hl, ok_snoc, (h.nn (Nat.le_refl _)).2.2, hf]
    rfl
  · obtain ⟨o1, o2⟩ := h.only zs s Y k
    refine ⟨fun _ => o1 (by omega), fun _ => ⟨(o2 (Nat.le_refl _)).1, ?_⟩⟩
    rw [hl]
    exact (h.isRow hx hn (by rw [he]; decide) k).2.2
theorem Pre.rows {ys : List Int} {p : Nat} {seq : Int} {n : Nat} {X : List Rwi} (h : Pre ys 3 p seq n X) (hn : X.length = n) : Pre ys 4 p seq n X :=
  ⟨h.le, by omega, fun k => by omega, fun k => by omega, fun k => by omega, fun _ _ => h.h3 (Nat.le_refl _) (by omega), fun k => by omega, fun _ => h.sq (by omega), fun _ => h.nn (Nat.le_refl _), fun _ => hn, fun k => by omega, fun zs s Y k => ⟨fun _ => (h.only zs s Y k).1 (by omega), fun _ => (h.only zs s Y k).2 (Nat.le_refl _)⟩⟩
/-! ### The sum, and the end -/
theorem Pre.same {ys zs : List Int} {part p : Nat} {seq : Int} {n : Nat} {X : List Rwi} (h : Pre ys part p seq n X) (hp : 4 ≤ part) {s : Int} {Y : List Rwi} (k : DOk (ys ++ zs) s Y) : s = seq ∧ Y = X ∧ ys ++ zs = bodyTo seq n X X.length ++ Cr.by4 (Cr.sum (bodyTo seq n X X.length)) := by
  obtain ⟨e, _⟩ := dok_form k
  obtain ⟨o1, o2⟩ := h.only zs s Y k
  obtain rfl := o1 (by omega)
  obtain ⟨o3, o4⟩ := o2 (by omega)
  have hn := h.n4 hp
  have hY : Y = X := by rw [← o4, hn, ← o3, List.take_length]
  subst hY
  rw [o3] at e
  exact ⟨rfl, rfl, by rw [hn]; exact e⟩
theorem Pre.at4 {ys zs : List Int} {p : Nat} {seq : Int} {n : Nat} {X : List Rwi} (h : Pre ys 4 p seq n X) {s : Int} {Y : List Rwi} (k : DOk (ys ++ zs) s Y) : ys.drop p ++ zs = Cr.by4 (Cr.sum (ys.take p)) := by
  obtain ⟨_, _, e⟩ := h.same (Nat.le_refl _) k
  have q := h.h3 (by omega) (Nat.le_refl _)
  have e4 := drop_of_take e ((take_app' h.le).trans q) (le_app h.le)
  rw [List.drop_append_of_le_length h.le] at e4
  rw [e4, q]
theorem Pre.sum {ys : List Int} {p : Nat} {seq : Int} {n : Nat} {X : List Rwi} (h : Pre ys 4 p seq n X) (hl : p + 4 ≤ ys.length) (he : (ys.drop p).take 4 = Cr.by4 (Cr.sum (ys.take p))) : Pre ys 5 (p + 4) seq n X :=
  ⟨hl, by omega, fun k => by omega, fun k => by omega, fun k => by omega, fun _ k => by omega, fun _ => by rw [take_more, he, h.h3 (by omega) (Nat.le_refl _)], fun _ => h.sq (by omega), fun _ => h.nn (by omega), fun _ => h.n4 (Nat.le_refl _), fun k => by omega, fun zs s Y k => ⟨fun _ => (h.only zs s Y k).1 (by omega), fun _ => (h.only zs s Y k).2 (by omega)⟩⟩
theorem Pre.fin {ys : List Int} {p : Nat} {seq : Int} {n : Nat} {X : List Rwi} (h : Pre ys 5 p seq n X) (hp : ys.length ≤ p) (hm : ys.length ≤ 268435456) : DOk ys seq X := by
  have hn := h.n4 (by omega)
  have q := h.h5 rfl
  rw [List.take_of_length_le hp, hn] at q
  have q' : img seq n X = ys := q.symm
  obtain ⟨s1, s2⟩ := h.sq (by omega)
  obtain ⟨n1, n2, n3⟩ := h.nn (by omega)
  have ht : tz seq n X n = ys.length := by rw [← img_len, q']
  have hs : sE seq n X = 0 := by
    unfold sE
    rw [if_neg (by omega), if_neg (by omega), if_neg (by rw [← hn, n3]; decide), if_neg (by rw [ht]; omega)]
  have := img_dok hs hn
  rw [q'] at this
  exact this
theorem Pre.past {ys zs : List Int} {p : Nat} {seq : Int} {n : Nat} {X : List Rwi} (h : Pre ys 5 p seq n X) (hp : p < ys.length) (s : Int) (Y : List Rwi) : ¬ DOk (ys ++ zs) s Y := fun k => by
  obtain ⟨_, _, e⟩ := h.same (by omega) k
  have q := h.h5 rfl
  have e1 := congrArg List.length e
  have e2 := congrArg List.length q
  rw [List.length_take] at e2
  rw [List.length_append, ← e2] at e1
  omega
/-! ### What may come -/
/-- The part is not whole, and nothing is wrong. -/
def Waits (ys : List Int) (part p : Nat) (n : Nat) (X : List Rwi) : Prop :=
  (part = 0 ∧ ys.length < 4 ∧ ys = mark4.take ys.length) ∨ (part = 1 ∧ (ri (ys.drop p) 0 1152921504606846976).2.2 = 30) ∨ (part = 2 ∧ (ri (ys.drop p) 0 1048576).2.2 = 30) ∨ (part = 3 ∧ X.length < n ∧ (rr ys p).2.2 = 30) ∨ (part = 4 ∧ ys.length < p + 4) ∨ (part = 5 ∧ ys.length ≤ p)
/-- Something is wrong, and the error's number. -/
def Wrong (ys : List Int) (part p : Nat) (seq : Int) (n : Nat) (X : List Rwi) (e : Int) : Prop :=
  (part = 0 ∧ (∃ m, m ≤ 4 ∧ m ≤ ys.length ∧ ys.take m ≠ mark4.take m) ∧ e = 92) ∨ (part = 1 ∧ (ri (ys.drop p) 0 1152921504606846976).2.2 ≠ 30 ∧ (ri (ys.drop p) 0 1152921504606846976).2.2 ≠ 0 ∧ e = 92) ∨ (part = 2 ∧ (ri (ys.drop p) 0 1048576).2.2 ≠ 30 ∧ (ri (ys.drop p) 0 1048576).2.2 ≠ 0 ∧ e = 92) ∨
  (part = 3 ∧ X.length < n ∧ (rr ys p).2.2 ≠ 30 ∧ ((rr ys p).2.2 ≠ 0 ∨ fwI (rowAt ys p) (ahd X X.length) seq = false) ∧ e = 92) ∨ (part = 4 ∧ p + 4 ≤ ys.length ∧ (ys.drop p).take 4 ≠ Cr.by4 (Cr.sum (ys.take p)) ∧ e = 93) ∨ (part = 5 ∧ p < ys.length ∧ e = 92)
theorem Wrong.no {ys : List Int} (hx : Bytes ys) {part p : Nat} {seq : Int} {n : Nat} {X : List Rwi} {e : Int} (w : Wrong ys part p seq n X e) (h : Pre ys part p seq n X) (zs : List Int) (s : Int) (Y : List Rwi) : ¬ DOk (ys ++ zs) s Y := fun k => by
  rcases w with ⟨rfl, ⟨m, m1, m2, m3⟩, _⟩ | ⟨rfl, e1, e2, _⟩ | ⟨rfl, e1, e2, _⟩ | ⟨rfl, hn, e1, e2, _⟩ | ⟨rfl, e1, e2, _⟩ | ⟨rfl, e1, _⟩
  · exact m3 (dok_mark k m m1 m2)
  · obtain ⟨R, r1, r2, r3⟩ := h.at1 k
    exact e2 (ri_whole r1 r2 r3 (by omega) e1).1
  · obtain ⟨R, r1, r2⟩ := h.at2 k
    exact e2 (ri_whole r1 (by omega) (by omega) (by omega) e1).1
  · obtain ⟨q1, q2, _⟩ := h.isRow hx hn e1 k
    rcases e2 with z | z
    · exact z q1
    · rw [q2] at z; cases z
  · have := h.at4 k
    apply e2
    have hl : (ys.drop p).length = ys.length - p := List.length_drop
    have h4 : (Cr.by4 (Cr.sum (ys.take p))).length = 4 := rfl
    have hz := congrArg List.length this
    rw [List.length_append, h4] at hz
    have hn : zs = [] := List.length_eq_zero_iff.1 (by omega)
    rw [hn, List.append_nil] at this
    rw [← this, List.take_of_length_le (by omega)]
  · exact h.past e1 s Y k
theorem Waits.no {ys : List Int} (hx : Bytes ys) {part p : Nat} {seq : Int} {n : Nat} {X : List Rwi} (w : Waits ys part p n X) (h : Pre ys part p seq n X) (hp : part ≠ 5) (s : Int) (Y : List Rwi) : ¬ DOk ys s Y := fun k0 => by
  have k : DOk (ys ++ []) s Y := by rw [List.append_nil]; exact k0
  rcases w with ⟨rfl, e1, _⟩ | ⟨rfl, e1⟩ | ⟨rfl, e1⟩ | ⟨rfl, hn, e1⟩ | ⟨rfl, e1⟩ | ⟨rfl, e1⟩
  · have := k0.2.1; omega
  · obtain ⟨R, r1, r2, r3⟩ := h.at1 k
    rw [List.append_nil] at r1
    have := ri_lay (ys.drop p) 0 s 1152921504606846976 r2 r3 (by omega) R (by rw [List.drop_zero]; exact r1)
    rw [this] at e1
    exact absurd e1 (show ¬ (0 : Int) = 30 by decide)
  · obtain ⟨R, r1, r2⟩ := h.at2 k
    rw [List.append_nil] at r1
    have := ri_lay (ys.drop p) 0 (Y.length : Int) 1048576 (by omega) (by omega) (by omega) R (by rw [List.drop_zero]; exact r1)
    rw [this] at e1
    exact absurd e1 (show ¬ (0 : Int) = 30 by decide)
  · obtain ⟨R, r1, r2, r3⟩ := h.at3 hn k
    rw [List.append_nil] at r1
    have := rr_lay ys p _ _ _ (fw_wre r2) R r1
    rw [this] at e1
    exact absurd e1 (show ¬ (0 : Int) = 30 by decide)
  · have := congrArg List.length (h.at4 k)
    have h4 : (Cr.by4 (Cr.sum (ys.take p))).length = 4 := rfl
    rw [List.append_nil, h4, List.length_drop] at this
    omega
  · exact hp rfl
end Go.Proofs.YtcdgfghcmeadgaaDoor
