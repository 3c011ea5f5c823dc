/-
  What is laid down by calls of a Writer, as plain data, and what a Reader takes up of it by the same calls; and the other way round. No condition of its own.
-/
import Derived.Test.YtcdgfghcmeadgaaDoorPLy
import Derived.Test.YtcdgfghcmeadgaaDoorWSt
import Derived.Test.YtcdgfghcmeadgaaDoorPRow
import Derived.Test.YtcdgfghcmeadgaaDoorFb
namespace Go.Proofs.YtcdgfghcmeadgaaDoor
open Go.RowKit
set_option linter.unusedVariables false

/-- What a call lays down. -/
def lay (o : OpD) : List Int :=
  if o.call = 0 then enc o.v.toNat
  else if o.call = 1 then enc o.n.toNat
  else if o.call = 2 then enc o.s.size ++ sb o.s
  else if o.call = 3 then [fb o.f]
  else if o.call = 4 then o.ds
  else if o.call = 5 then rowB o.key o.val o.ver
  else []
/-- The error that a call makes by itself. -/
def oerr (o : OpD) : Int :=
  if o.call = 1 then wie o.n o.most
  else if o.call = 2 then wte o.s.size o.most
  else if o.call = 5 then wre o.key o.val o.ver
  else 0
def idle (o : OpD) : Bool := decide (o.call = 6) || (decide (o.call = 7) || decide (o.call = 8))
/-- What PackBack's first loop makes of a call. -/
def wbk (o : OpD) (ys : List Int) (e : Int) : List Int × Int := if idle o = true then (ys, e) else wst o ys e
theorem wbk_eq (o : OpD) (ys : List Int) (e : Int) : wbk o ys e = (wadd (ferr e (oerr o)) ys (lay o), ferr e (oerr o)) := by
  have hz : ∀ e : Int, ferr e 0 = e := fun e => by unfold ferr; split <;> simp_all
  have hn : ∀ e : Int, wadd e ys [] = ys := fun e => by unfold wadd; split <;> simp
  unfold wbk idle
  by_cases h6 : o.call = 6
  · simp [h6, oerr, lay, hz, hn]
  by_cases h7 : o.call = 7
  · simp [h7, oerr, lay, hz, hn]
  by_cases h8 : o.call = 8
  · simp [h8, oerr, lay, hz, hn]
  simp only [h6, h7, h8, decide_false, Bool.or_false, Bool.false_eq_true, if_false]
  unfold wst oerr lay
  by_cases h0 : o.call = 0
  · simp [h0, hz]
  by_cases h1 : o.call = 1
  · simp [h1]
  by_cases h2 : o.call = 2
  · simp [h2]
  by_cases h3 : o.call = 3
  · simp [h3, hz]
  by_cases h4 : o.call = 4
  · simp [h4, hz]
  by_cases h5 : o.call = 5
  · simp [h5]
  simp [h0, h1, h2, h3, h4, h5, h6, hz, hn]
/-- The first error, and what was laid down, of some calls. -/
def oerrs : List OpD → Int → Int
  | [], e => e
  | o :: l, e => oerrs l (ferr e (oerr o))
def lays : List OpD → List Int
  | [] => []
  | o :: l => lay o ++ lays l
theorem lays_app (l m : List OpD) : lays (l ++ m) = lays l ++ lays m := by
  induction l with
  | nil => rfl
  | cons o l ih => simp [lays, ih]
theorem oerrs_app (l m : List OpD) (e : Int) : oerrs (l ++ m) e = oerrs m (oerrs l e) := by
  induction l generalizing e with
  | nil => rfl
  | cons o l ih => exact ih _
theorem ferr_ne {e x : Int} (h : e ≠ 0) : ferr e x = e := by unfold ferr; rw [if_neg h]
theorem ferr_start (x : Int) : ferr 0 x = x := by unfold ferr; rw [if_pos rfl]
theorem oerrs_ne (l : List OpD) {e : Int} (h : e ≠ 0) : oerrs l e = e := by
  induction l generalizing e with
  | nil => rfl
  | cons o l ih => show oerrs l (ferr e (oerr o)) = e; rw [ferr_ne h]; exact ih h
theorem oerrs_zero (l : List OpD) (e : Int) (h : oerrs l e = 0) : e = 0 ∧ ∀ o ∈ l, oerr o = 0 := by
  induction l generalizing e with
  | nil => exact ⟨h, by simp⟩
  | cons o l ih =>
    have h1 : oerrs l (ferr e (oerr o)) = 0 := h
    obtain ⟨h2, h3⟩ := ih _ h1
    by_cases he : e = 0
    · subst he
      rw [ferr_start] at h2
      refine ⟨rfl, fun p hp => ?_⟩
      rcases List.mem_cons.1 hp with rfl | hp
      · exact h2
      · exact h3 p hp
    · rw [ferr_ne he] at h2; exact absurd h2 he
theorem rf_lay (xs : List Int) (p : Nat) (f : Bool) (rest : List Int) (h : xs.drop p = [fb f] ++ rest) : rf xs p = (f, p + 1, 0) := by
  have hl := len_of_drop h (by simp)
  have hx : xs[p]?.getD 0 = fb f := by
    have : (xs.drop p)[0]? = some (fb f) := by rw [h]; rfl
    rw [List.getElem?_drop] at this
    rw [show p = p + 0 from rfl, this]; rfl
  unfold rf
  simp only [List.length_singleton] at hl
  rw [if_neg (by omega), hx, if_neg (by unfold fb; split <;> omega)]
  cases f <;> simp [fb]
theorem rg_lay (xs : List Int) (p : Nat) (ds : List Int) (hd : ds.length = 32) (rest : List Int) (h : xs.drop p = ds ++ rest) : rg xs p = (ds, p + 32, 0) := by
  have hl := len_of_drop h (by omega)
  unfold rg
  rw [if_neg (by omega), h, ← hd, List.take_left]
theorem rr_lay (xs : List Int) (p : Nat) (key val : ByteArray) (ver : Int) (hw : wre key val ver = 0) (rest : List Int) (h : xs.drop p = rowB key val ver ++ rest) : rr xs p = ((sb key, sb val, ver), p + (rowB key val ver).length, 0) := by
  have hk : key.size ≠ 0 ∧ 1 ≤ ver ∧ key.size ≤ 1024 ∧ val.size ≤ 65536 ∧ ver ≤ 1152921504606846976 := by
    unfold wre at hw
    split at hw
    · omega
    · split at hw <;> omega
  obtain ⟨k1, k2, k3, k4, k5⟩ := hk
  have h1 : xs.drop p = (enc key.size ++ sb key) ++ ((enc val.size ++ sb val) ++ (enc ver.toNat ++ rest)) := by rw [h]; simp [rowB]
  have t1 := rt_lay xs p key 1024 (by omega) (by omega) _ h1
  have h2 := drop_len h1
  have t2 := rt_lay xs _ val 65536 (by omega) (by omega) _ h2
  have h3 := drop_len h2
  have t3 := ri_lay xs _ ver 1152921504606846976 (by omega) k5 (by omega) _ h3
  unfold rr
  simp only [t1, t2, t3]
  have hkn : sb key ≠ [] := fun e => k1 (by rw [← sb_length key, e]; rfl)
  rw [if_neg (by simp), if_neg (by simp), if_neg (by simp), if_neg (by intro q; rcases q with q | q; exact hkn q; omega)]
  simp [rowB, Nat.add_assoc]

/-! The other way round. -/
theorem rf_again {xs : List Int} (hx : Bytes xs) (p : Nat) (h : (rf xs p).2.2 = 0) : xs.take (rf xs p).2.1 = xs.take p ++ [fb (rf xs p).1] := by
  unfold rf at h ⊢
  by_cases h1 : xs.length ≤ p
  · rw [if_pos h1] at h; simp at h
  rw [if_neg h1] at h ⊢
  by_cases h2 : 1 < xs[p]?.getD 0
  · rw [if_pos h2] at h; simp at h
  rw [if_neg h2]
  have hb := hx p (by omega)
  simp only
  rw [List.take_succ_eq_append_getElem (by omega)]
  have hg : xs[p]?.getD 0 = xs[p] := by simp [List.getElem?_eq_getElem (show p < xs.length by omega)]
  rw [hg] at hb h2 ⊢
  have : xs[p] = 0 ∨ xs[p] = 1 := by omega
  rcases this with e | e <;> rw [e] <;> simp [fb]
theorem rr_again {xs : List Int} (hx : Bytes xs) (p : Nat) (h : (rr xs p).2.2 = 0) : xs.take (rr xs p).2.1 = xs.take p ++ rowB (strOfNums (rr xs p).1.1) (strOfNums (rr xs p).1.2.1) (rr xs p).1.2.2 ∧ wre (strOfNums (rr xs p).1.1) (strOfNums (rr xs p).1.2.1) (rr xs p).1.2.2 = 0 := by
  unfold rr at h ⊢
  by_cases h1 : (rt xs p 1024).2.2 ≠ 0
  · rw [if_pos h1] at h; exact absurd h h1
  rw [if_neg h1] at h ⊢
  by_cases h2 : (rt xs (rt xs p 1024).2.1 65536).2.2 ≠ 0
  · rw [if_pos h2] at h; exact absurd h h2
  rw [if_neg h2] at h ⊢
  by_cases h3 : (ri xs (rt xs (rt xs p 1024).2.1 65536).2.1 1152921504606846976).2.2 ≠ 0
  · rw [if_pos h3] at h; exact absurd h h3
  rw [if_neg h3] at h ⊢
  by_cases h4 : (rt xs p 1024).1 = [] ∨ (ri xs (rt xs (rt xs p 1024).2.1 65536).2.1 1152921504606846976).1 = 0
  · rw [if_pos h4] at h; simp at h
  rw [if_neg h4]
  obtain ⟨a1, a2, _⟩ := rt_again hx p 1024 (by simpa using h1)
  obtain ⟨b1, b2, _⟩ := rt_again hx (rt xs p 1024).2.1 65536 (by simpa using h2)
  obtain ⟨c1, c2, c3⟩ := ri_again hx (rt xs (rt xs p 1024).2.1 65536).2.1 1152921504606846976 (by simpa using h3)
  have B1 : Bytes (rt xs p 1024).1 := by
    unfold rt; split
    · intro i hi; simp at hi
    · split
      · intro i hi; simp at hi
      · exact bytes_take (bytes_drop hx _) _
  have B2 : Bytes (rt xs (rt xs p 1024).2.1 65536).1 := by
    generalize (rt xs p 1024).2.1 = q
    unfold rt; split
    · intro i hi; simp at hi
    · split
      · intro i hi; simp at hi
      · exact bytes_take (bytes_drop hx _) _
  have hne : ¬ (rt xs p 1024).1 = [] := fun e => h4 (.inl e)
  have hn0 : ¬ (ri xs (rt xs (rt xs p 1024).2.1 65536).2.1 1152921504606846976).1 = 0 := fun e => h4 (.inr e)
  simp only
  constructor
  · rw [c1, b1, a1]
    unfold rowB
    rw [size_strOfNums, size_strOfNums, sb_strOfNums _ B1, sb_strOfNums _ B2]
    simp
  · have hl : (rt xs p 1024).1.length ≠ 0 := fun e => hne (List.eq_nil_of_length_eq_zero e)
    unfold wre
    rw [size_strOfNums, size_strOfNums, if_neg (by omega), if_neg (by omega)]
end Go.Proofs.YtcdgfghcmeadgaaDoor
