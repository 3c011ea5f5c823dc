/-
  Streams of updates, taken apart, as plain data: the updates that stand one behind the other at the front of some bytes, and where they end, are told by these bytes alone. No condition of its own.
-/
import Derived.Test.YtfbbaodhlniiiaaDFa
namespace Go.Proofs.Ytfbbaodhlniiiaa.Dl
open Go.RowKit
set_option linter.unusedVariables false

/-- No update stands at the front. -/
def NoU (R : List Int) : Prop := ∀ u rest, Upd.err u = 0 → R ≠ one u ++ rest
/-- What Split comes to. -/
structure SplitIs (xs : List Int) (L : List Upd) (p : Nat) : Prop where
  le : p ≤ xs.length
  pre : xs.take p = L.flatMap one
  ok : ∀ u ∈ L, Upd.err u = 0
  no : NoU (xs.drop p)
theorem one_pos (u : Upd) : 0 < (one u).length := by
  unfold one
  rw [List.length_append]
  have := enc_pos u.bytes.length
  omega
theorem noU_nil : NoU [] := fun u rest hu h => by
  have := congrArg List.length h
  rw [List.length_append] at this
  have := one_pos u
  simp at *
  omega
theorem stB_take (X : List Upd) : ∀ k, k ≤ X.length → stB X k = (X.take k).flatMap one
  | 0, _ => by simp [stB]
  | k + 1, h => by
    show stB X k ++ one (upAt X k) = _
    rw [stB_take X k (by omega), take_more X k (by omega), List.flatMap_append]
    simp
theorem stB_full (X : List Upd) : stB X X.length = X.flatMap one := by
  rw [stB_take X X.length (Nat.le_refl _), List.take_length]
theorem stE_full (X : List Upd) (h : ∀ u ∈ X, Upd.err u = 0) : ∀ k, k ≤ X.length → stE X k = 0
  | 0, _ => rfl
  | k + 1, hk => by
    show (if stE X k ≠ 0 then stE X k else (upAt X k).err) = 0
    rw [stE_full X h k (by omega), if_neg (by simp)]
    refine h _ ?_
    unfold upAt
    rw [List.getElem?_eq_getElem (by omega)]
    exact List.getElem_mem _
theorem stZ_full (X : List Upd) (h : ∀ u ∈ X, Upd.err u = 0) : stZ X X.length = X.flatMap one := by
  unfold stZ
  rw [if_pos (stE_full X h _ (Nat.le_refl _)), stB_full]
theorem one_inj {u v : Upd} {r s : List Int} (hu : u.err = 0) (hv : v.err = 0) (h : one u ++ r = one v ++ s) : u = v ∧ r = s := by
  have lu : u.bytes.length ≤ 66640 := updB_len hu
  have lv : v.bytes.length ≤ 66640 := updB_len hv
  unfold one at h
  rw [List.append_assoc, List.append_assoc] at h
  have e1 := rd_enc u.bytes.length (by omega) (u.bytes ++ r)
  have e2 := rd_enc v.bytes.length (by omega) (v.bytes ++ s)
  rw [h, e2] at e1
  have hl : u.bytes.length = v.bytes.length := by
    have := congrArg Prod.fst e1
    simp at this
    omega
  rw [hl] at h
  have h2 := List.append_cancel_left h
  obtain ⟨h3, h4⟩ := List.append_inj h2 hl
  have t1 := (there u hu).2
  have t2 := (there v hv).2
  rw [h3, t2] at t1
  exact ⟨t1.symm, h4⟩
theorem parts_uniq : ∀ (L M : List Upd) (R S : List Int), (∀ u ∈ L, Upd.err u = 0) → (∀ u ∈ M, Upd.err u = 0) → NoU R → NoU S → L.flatMap one ++ R = M.flatMap one ++ S → L = M
  | [], [], _, _, _, _, _, _, _ => rfl
  | [], v :: M, R, S, _, hM, hR, _, h => by
    exfalso
    rw [List.flatMap_nil, List.nil_append, List.flatMap_cons, List.append_assoc] at h
    exact hR v _ (hM v (by simp)) h
  | u :: L, [], R, S, hL, _, _, hS, h => by
    exfalso
    rw [List.flatMap_nil, List.nil_append, List.flatMap_cons, List.append_assoc] at h
    exact hS u _ (hL u (by simp)) h.symm
  | u :: L, v :: M, R, S, hL, hM, hR, hS, h => by
    rw [List.flatMap_cons, List.flatMap_cons, List.append_assoc, List.append_assoc] at h
    obtain ⟨rfl, h2⟩ := one_inj (hL u (by simp)) (hM v (by simp)) h
    rw [parts_uniq L M R S (fun x hx => hL x (List.mem_cons_of_mem _ hx)) (fun x hx => hM x (List.mem_cons_of_mem _ hx)) hR hS h2]
theorem SplitIs.whole {xs : List Int} {L : List Upd} {p : Nat} (h : SplitIs xs L p) : xs = L.flatMap one ++ xs.drop p := by
  rw [← h.pre, List.take_append_drop]
theorem SplitIs.len {xs : List Int} {L : List Upd} {p : Nat} (h : SplitIs xs L p) : p = (L.flatMap one).length := by
  rw [← h.pre, List.length_take]
  have := h.le
  omega
theorem SplitIs.uniq {xs : List Int} {L M : List Upd} {p q : Nat} (h : SplitIs xs L p) (k : SplitIs xs M q) : L = M ∧ p = q := by
  have e : L = M := parts_uniq L M _ _ h.ok k.ok h.no k.no (h.whole.symm.trans k.whole)
  exact ⟨e, by rw [h.len, k.len, e]⟩
theorem split_of (X : List Upd) (h : ∀ u ∈ X, Upd.err u = 0) : SplitIs (X.flatMap one) X (X.flatMap one).length :=
  ⟨Nat.le_refl _, List.take_length, h, by rw [List.drop_length]; exact noU_nil⟩
theorem part_pre : ∀ (P S : List Upd) (R T : List Int), (∀ u ∈ P, Upd.err u = 0) → (∀ u ∈ S, Upd.err u = 0) → NoU R → P.flatMap one ++ (R ++ T) = S.flatMap one → P.length ≤ S.length ∧ S.take P.length = P ∧ ∀ u, S[P.length]? = some u → R.length < (one u).length
  | [], S, R, T, _, hS, hR, h => by
    refine ⟨Nat.zero_le _, rfl, fun u hu => ?_⟩
    cases S with
    | nil => cases hu
    | cons v S =>
      simp at hu
      subst hu
      rcases Nat.lt_or_ge R.length (one v).length with q | q
      · exact q
      · exfalso
        rw [List.flatMap_nil, List.nil_append, List.flatMap_cons] at h
        have e := congrArg (List.take (one v).length) h
        rw [List.take_append_of_le_length q, List.take_left] at e
        refine hR v (R.drop (one v).length) (hS v (by simp)) ?_
        conv => lhs; rw [← List.take_append_drop (one v).length R]
        rw [e]
  | u :: P, [], R, T, _, _, _, h => by
    exfalso
    have e := congrArg List.length h
    rw [List.flatMap_cons, List.flatMap_nil, List.append_assoc, List.length_append, List.length_nil] at e
    have := one_pos u
    omega
  | u :: P, v :: S, R, T, hP, hS, hR, h => by
    rw [List.flatMap_cons, List.flatMap_cons, List.append_assoc] at h
    obtain ⟨rfl, h2⟩ := one_inj (hP u (by simp)) (hS v (by simp)) h
    obtain ⟨k1, k2, k3⟩ := part_pre P S R T (fun x hx => hP x (List.mem_cons_of_mem _ hx)) (fun x hx => hS x (List.mem_cons_of_mem _ hx)) hR h2
    exact ⟨by simp; omega, by rw [List.length_cons, List.take_succ_cons, k2], fun x hx => k3 x (by simpa using hx)⟩

/-- The text at a place, and where it ends. -/
theorem dok_nil : dok [] = false := by decide +kernel
theorem bytesU (u : Upd) : Bytes u.bytes := bytesD u
theorem sp_go {xs : List Int} (hx : Bytes xs) {p : Nat} (hp : p ≤ xs.length) {most : Int} (h : dok (rt xs p most).1 = true) :
    (rt xs p most).2.2 = 0 ∧ (rt xs p most).2.1 ≤ xs.length ∧ p < (rt xs p most).2.1 ∧ (dupd (rt xs p most).1).err = 0 ∧ xs.take (rt xs p most).2.1 = xs.take p ++ one (dupd (rt xs p most).1) := by
  obtain ⟨b1, b2, b3, b4, b5⟩ := rt_bd hx p hp most
  have e0 : (rt xs p most).2.2 = 0 := by
    rcases Decidable.em ((rt xs p most).2.2 = 0) with q | q
    · exact q
    · rw [(b4 q).1, dok_nil] at h; cases h
  obtain ⟨a1, a2⟩ := again b5 h
  have a3 := (rt_again hx p most e0).1
  have e1 : one (dupd (rt xs p most).1) = enc (rt xs p most).1.length ++ (rt xs p most).1 := by unfold one; rw [a2]
  refine ⟨e0, b1, ?_, a1, by rw [a3, e1]⟩
  have := congrArg List.length a3
  rw [← e1, List.length_append, List.length_take, List.length_take] at this
  have := one_pos (dupd (rt xs p most).1)
  omega
theorem sp_no {xs : List Int} (hx : Bytes xs) {p : Nat} (hp : p ≤ xs.length) (hl : xs.length ≤ 140737488355328) (h : dok (rt xs p (xs.length : Int)).1 = false) : NoU (xs.drop p) := by
  intro u rest hu e
  have hs : (strOfNums u.bytes).size = u.bytes.length := size_strOfNums _
  have e2 : xs.drop p = (enc (strOfNums u.bytes).size ++ sb (strOfNums u.bytes)) ++ rest := by
    rw [hs, sb_strOfNums _ (bytesU u)]
    exact e
  have hle : (strOfNums u.bytes).size ≤ xs.length := by
    have := congrArg List.length e2
    rw [List.length_drop, List.length_append, List.length_append, sb_length] at this
    omega
  have r := rt_lay xs p (strOfNums u.bytes) xs.length (by omega) (by omega) rest e2
  rw [r] at h
  simp only [sb_strOfNums _ (bytesU u), (there u hu).1] at h
  cases h
end Go.Proofs.Ytfbbaodhlniiiaa.Dl
