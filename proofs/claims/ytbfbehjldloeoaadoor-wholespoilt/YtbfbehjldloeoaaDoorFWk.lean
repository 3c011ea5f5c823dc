/-
  Plain mathematics for the laws of package frame: what a splitter comes to of a stream of bytes, and that how it is cut has no part. No condition of its own.
-/
import Derived.Test.YtbfbehjldloeoaaDoorRows
import Derived.Test.YtbfbehjldloeoaaDoorFPu
namespace Go.Proofs.YtbfbehjldloeoaaDoor
set_option linter.unusedVariables false
open Go.RowKit

/-- What a splitter comes to: the frames, the junk, the lost ones, what is left. -/
structure Seen where
  frames : List (Int × List Int)
  junk : Nat
  lost : Nat
  rest : List Int
def Seen.add (f : List (Int × List Int)) (j l : Nat) (s : Seen) : Seen := ⟨f ++ s.frames, j + s.junk, l + s.lost, s.rest⟩
theorem Seen.add_none (s : Seen) : Seen.add [] 0 0 s = s := by unfold Seen.add; simp
theorem Seen.add_add (f g : List (Int × List Int)) (j l j' l' : Nat) (s : Seen) : Seen.add f j l (Seen.add g j' l' s) = Seen.add (f ++ g) (j + j') (l + l') s := by
  unfold Seen.add; simp [List.append_assoc, Nat.add_assoc]

/-- The walk of a splitter, by so many steps at most. -/
def fwalk (most : Nat) (ended : Bool) : Nat → List Int → Seen
  | 0, xs => ⟨[], 0, 0, xs⟩
  | k + 1, xs =>
    if xs = [] then ⟨[], 0, 0, []⟩
    else if fmeet most xs = 0 then Seen.add [(xs[2]?.getD 0, fbody xs)] 0 0 (fwalk most ended k (xs.drop (flen xs + 14)))
    else if fmeet most xs = 40 ∧ ended = false then ⟨[], 0, 0, xs⟩
    else if fmeet most xs = 44 then Seen.add [] 1 1 (fwalk most ended k (xs.drop 1))
    else Seen.add [] 1 0 (fwalk most ended k (xs.drop 1))
theorem fwalk_more (most : Nat) (ended : Bool) : ∀ k xs, xs.length ≤ k → fwalk most ended (k + 1) xs = fwalk most ended k xs := by
  intro k
  induction k with
  | zero =>
    intro xs h
    obtain rfl : xs = [] := List.eq_nil_of_length_eq_zero (by omega)
    rfl
  | succ k ih =>
    intro xs h
    by_cases h0 : xs = []
    · subst h0; rfl
    have hp : 0 < xs.length := List.length_pos_iff.2 h0
    have e1 := ih (xs.drop (flen xs + 14)) (by rw [List.length_drop]; omega)
    have e2 := ih (xs.drop 1) (by rw [List.length_drop]; omega)
    conv => lhs; unfold fwalk
    conv => rhs; unfold fwalk
    rw [e1, e2]
theorem fwalk_fuel (most : Nat) (ended : Bool) (xs : List Int) (k : Nat) (h : xs.length ≤ k) : fwalk most ended k xs = fwalk most ended xs.length xs := by
  obtain ⟨d, rfl⟩ : ∃ d, k = xs.length + d := ⟨k - xs.length, by omega⟩
  clear h
  induction d with
  | zero => rfl
  | succ d ih => rw [← Nat.add_assoc, fwalk_more most ended _ _ (by omega), ih]
/-- What a splitter comes to of a stream. -/
def fseen (most : Nat) (ended : Bool) (xs : List Int) : Seen := fwalk most ended xs.length xs
theorem fseen_nil (most : Nat) (ended : Bool) : fseen most ended [] = ⟨[], 0, 0, []⟩ := rfl
theorem fseen_step (most : Nat) (ended : Bool) (xs : List Int) (h : xs ≠ []) : fseen most ended xs =
    if fmeet most xs = 0 then Seen.add [(xs[2]?.getD 0, fbody xs)] 0 0 (fseen most ended (xs.drop (flen xs + 14)))
    else if fmeet most xs = 40 ∧ ended = false then ⟨[], 0, 0, xs⟩
    else if fmeet most xs = 44 then Seen.add [] 1 1 (fseen most ended (xs.drop 1))
    else Seen.add [] 1 0 (fseen most ended (xs.drop 1)) := by
  have hp : 0 < xs.length := List.length_pos_iff.2 h
  unfold fseen
  obtain ⟨k, hk⟩ : ∃ k, xs.length = k + 1 := ⟨xs.length - 1, by omega⟩
  rw [← fwalk_fuel most ended (xs.drop (flen xs + 14)) k (by rw [List.length_drop]; omega), ← fwalk_fuel most ended (xs.drop 1) k (by rw [List.length_drop]; omega), hk]
  conv => lhs; unfold fwalk
  rw [if_neg h]

/-- What is met does not change by what comes behind, where nothing is waited for. -/
theorem fbeg_app {most : Nat} {xs ys : List Int} (h0 : xs ≠ []) (h : fbeg most xs ≠ 40) : fbeg most (xs ++ ys) = fbeg most xs ∧ (fbeg most xs = 0 → flen (xs ++ ys) = flen xs) := by
  have hp : 0 < xs.length := List.length_pos_iff.2 h0
  have hg : ∀ i, i < xs.length → (xs ++ ys)[i]?.getD 0 = xs[i]?.getD (0 : Int) := fun i hi => by rw [List.getElem?_append_left hi]
  have hL : (xs ++ ys).length = xs.length + ys.length := List.length_append
  have g0 := hg 0 hp
  have hne : ¬ xs.length < 1 := by omega
  have hne' : ¬ (xs ++ ys).length < 1 := by omega
  by_cases q0 : xs[0]?.getD (0 : Int) = 72
  · by_cases q1 : xs.length < 2
    · exfalso
      apply h
      have m : fmagic xs = true := by unfold fmagic; simp [q0, q1]
      unfold fbeg
      rw [m, if_neg (by decide), if_pos (by omega)]
    · have g1 := hg 1 (by omega)
      have q1' : ¬ (xs ++ ys).length < 2 := by omega
      by_cases q2 : xs[1]?.getD (0 : Int) = 87
      · have m : fmagic xs = true := by unfold fmagic; simp [q0, q2]
        have m' : fmagic (xs ++ ys) = true := by unfold fmagic; rw [g0, g1]; simp [q0, q2]
        by_cases q3 : xs.length < 10
        · exfalso
          apply h
          unfold fbeg
          rw [m, if_neg (by decide), if_pos q3]
        · have hd : fhead (xs ++ ys) = fhead xs := by
            unfold fhead
            rw [hg 2 (by omega), List.take_append_of_le_length (by omega)]
          have hf : flen (xs ++ ys) = flen xs := by unfold flen; rw [hg 3 (by omega), hg 4 (by omega), hg 5 (by omega)]
          refine ⟨?_, fun _ => hf⟩
          have a1 : fbeg most xs = if fhead xs = false then 42 else if most < flen xs then 43 else if xs.length < flen xs + 14 then 40 else 0 := by
            unfold fbeg; rw [m, if_neg (by decide), if_neg q3]
          have a2 : fbeg most (xs ++ ys) = if fhead xs = false then 42 else if most < flen xs then 43 else if xs.length + ys.length < flen xs + 14 then 40 else 0 := by
            unfold fbeg; rw [m', hd, hf, hL, if_neg (by decide), if_neg (by omega)]
          rw [a1] at h
          rw [a1, a2]
          by_cases r1 : fhead xs = false
          · rw [if_pos r1, if_pos r1]
          · rw [if_neg r1] at h
            rw [if_neg r1, if_neg r1]
            by_cases r2 : most < flen xs
            · rw [if_pos r2, if_pos r2]
            · rw [if_neg r2] at h
              rw [if_neg r2, if_neg r2]
              have r3 : ¬ xs.length < flen xs + 14 := fun q => h (if_pos q)
              rw [if_neg r3, if_neg (by omega)]
      · have m : fmagic xs = false := by unfold fmagic; simp [q0, q2]; omega
        have m' : fmagic (xs ++ ys) = false := by
          unfold fmagic
          rw [g0, g1, decide_eq_false hne', decide_eq_false q1', decide_eq_false q2]
          simp
        unfold fbeg
        rw [m, m', if_pos rfl, if_pos rfl]
        exact ⟨rfl, fun q => by cases q⟩
  · have m : fmagic xs = false := by unfold fmagic; rw [decide_eq_false hne, decide_eq_false q0]; rfl
    have m' : fmagic (xs ++ ys) = false := by unfold fmagic; rw [g0, decide_eq_false hne', decide_eq_false q0]; rfl
    unfold fbeg
    rw [m, m', if_pos rfl, if_pos rfl]
    exact ⟨rfl, fun q => by cases q⟩
theorem fmeet_app {most : Nat} {xs ys : List Int} (h0 : xs ≠ []) (h : fmeet most xs ≠ 40) : fmeet most (xs ++ ys) = fmeet most xs ∧ (fmeet most xs = 0 → flen (xs ++ ys) = flen xs ∧ flen xs + 14 ≤ xs.length) := by
  have hb : fbeg most xs ≠ 40 := fun q => h (by unfold fmeet; rw [q]; rfl)
  obtain ⟨e1, e2⟩ := fbeg_app (ys := ys) h0 hb
  by_cases q : fbeg most xs = 0
  · have hl := (fbeg_ok q).2.2.2.2
    have hf := e2 q
    refine ⟨?_, fun _ => ⟨hf, hl⟩⟩
    unfold fmeet
    rw [e1, q, if_pos rfl, if_pos rfl, hf, List.take_append_of_le_length hl]
  · refine ⟨?_, fun r => absurd (fmeet_ok r).1 q⟩
    unfold fmeet
    rw [e1, if_neg q, if_neg q]
/-- Pieces have no part: what is seen of bytes, and then of more. -/
theorem fseen_app (most : Nat) : ∀ n (xs : List Int), xs.length ≤ n → ∀ ys, fseen most false (xs ++ ys) = Seen.add (fseen most false xs).frames (fseen most false xs).junk (fseen most false xs).lost (fseen most false ((fseen most false xs).rest ++ ys)) := by
  intro n
  induction n with
  | zero =>
    intro xs h ys
    obtain rfl : xs = [] := List.eq_nil_of_length_eq_zero (by omega)
    rw [fseen_nil]
    exact (Seen.add_none _).symm
  | succ n ih =>
    intro xs h ys
    by_cases h0 : xs = []
    · subst h0
      rw [fseen_nil]
      exact (Seen.add_none _).symm
    have hp : 0 < xs.length := List.length_pos_iff.2 h0
    have h0' : xs ++ ys ≠ [] := fun q => h0 (List.append_eq_nil_iff.1 q).1
    by_cases hw : fmeet most xs = 40
    · have e : fseen most false xs = ⟨[], 0, 0, xs⟩ := by
        rw [fseen_step most false xs h0, if_neg (by rw [hw]; decide), if_pos ⟨hw, rfl⟩]
      rw [e]
      exact (Seen.add_none _).symm
    · obtain ⟨e1, e2⟩ := fmeet_app (ys := ys) h0 hw
      rw [fseen_step most false (xs ++ ys) h0', fseen_step most false xs h0, e1]
      have hd1 : (xs ++ ys).drop 1 = xs.drop 1 ++ ys := List.drop_append_of_le_length hp
      by_cases q0 : fmeet most xs = 0
      · obtain ⟨hf, hl⟩ := e2 q0
        rw [if_pos q0, if_pos q0, hf, List.drop_append_of_le_length hl, ih (xs.drop (flen xs + 14)) (by rw [List.length_drop]; omega) ys, Seen.add_add]
        have b1 : (xs ++ ys)[2]?.getD 0 = xs[2]?.getD (0 : Int) := by rw [List.getElem?_append_left (by omega)]
        have b2 : fbody (xs ++ ys) = fbody xs := by
          unfold fbody
          rw [hf, List.drop_append_of_le_length (by omega), List.take_append_of_le_length (by rw [List.length_drop]; omega)]
        rw [b1, b2]
        rfl
      · have q40 : ¬ (fmeet most xs = 40 ∧ false = false) := fun q => hw q.1
        rw [if_neg q0, if_neg q0, if_neg q40, if_neg q40, hd1, ih (xs.drop 1) (by rw [List.length_drop]; omega) ys]
        split
        · rw [Seen.add_add]; rfl
        · rw [Seen.add_add]; rfl
/-- All bytes are accounted for. -/
theorem fseen_all (most : Nat) (ended : Bool) : ∀ n (xs : List Int), xs.length ≤ n → (((fseen most ended xs).frames.map (fun f => f.2.length + 14)).sum + (fseen most ended xs).junk + (fseen most ended xs).rest.length = xs.length) := by
  intro n
  induction n with
  | zero =>
    intro xs h
    obtain rfl : xs = [] := List.eq_nil_of_length_eq_zero (by omega)
    rfl
  | succ n ih =>
    intro xs h
    by_cases h0 : xs = []
    · subst h0; rfl
    have hp : 0 < xs.length := List.length_pos_iff.2 h0
    have i1 := ih (xs.drop 1) (by rw [List.length_drop]; omega)
    rw [List.length_drop] at i1
    rw [fseen_step most ended xs h0]
    by_cases q0 : fmeet most xs = 0
    · have hl := (fbeg_ok (fmeet_ok q0).1).2.2.2.2
      have i2 := ih (xs.drop (flen xs + 14)) (by rw [List.length_drop]; omega)
      have hbl : (fbody xs).length = flen xs := by unfold fbody; rw [List.length_take, List.length_drop]; omega
      rw [List.length_drop] at i2
      rw [if_pos q0]
      simp only [Seen.add, List.map_append, List.map_cons, List.map_nil, List.sum_append, List.sum_cons, List.sum_nil, hbl]
      omega
    · rw [if_neg q0]
      split
      · simp
      · split
        · simp only [Seen.add, List.nil_append]; omega
        · simp only [Seen.add, List.nil_append]; omega
/-- What waits is shorter than the longest frame. -/
theorem fseen_waits (most : Nat) : ∀ n (xs : List Int), xs.length ≤ n → (fseen most false xs).rest.length < most + 14 := by
  intro n
  induction n with
  | zero =>
    intro xs h
    obtain rfl : xs = [] := List.eq_nil_of_length_eq_zero (by omega)
    rw [fseen_nil]; simp
  | succ n ih =>
    intro xs h
    by_cases h0 : xs = []
    · subst h0; rw [fseen_nil]; simp
    have hp : 0 < xs.length := List.length_pos_iff.2 h0
    rw [fseen_step most false xs h0]
    by_cases q0 : fmeet most xs = 0
    · rw [if_pos q0]; exact ih _ (by rw [List.length_drop]; omega)
    · rw [if_neg q0]
      by_cases q1 : fmeet most xs = 40 ∧ false = false
      · rw [if_pos q1]
        show xs.length < most + 14
        have q2 := q1.1
        unfold fmeet at q2
        split at q2
        · split at q2 <;> cases q2
        · unfold fbeg at q2
          split at q2
          · cases q2
          split at q2
          · omega
          split at q2
          · cases q2
          split at q2
          · cases q2
          split at q2
          · omega
          · cases q2
      · rw [if_neg q1]
        split
        · exact ih _ (by rw [List.length_drop]; omega)
        · exact ih _ (by rw [List.length_drop]; omega)
/-- Frames that stand in front are found. -/
theorem fseen_found (most : Nat) (ended : Bool) (t : Int) (body ys : List Int) (ht : 1 ≤ t) (ht' : t ≤ 255) (hl : body.length ≤ 1048576) (hm : body.length ≤ most) : fseen most ended (fenc t body ++ ys) = Seen.add [(t, body)] 0 0 (fseen most ended ys) := by
  obtain ⟨q1, q2, q3, q4⟩ := fdec_fenc t body ys ht ht' hl
  have hlen := fenc_length t body
  have h0 : fenc t body ++ ys ≠ [] := fun q => by
    have := (List.append_eq_nil_iff.1 q).1
    rw [this] at hlen
    simp at hlen
  rw [fseen_step most ended _ h0, if_pos (q4 most hm), q1, q2, q3, ← hlen, List.drop_left]
/-- Bytes that are no magic's first are junk. -/
theorem fseen_junk (most : Nat) (ended : Bool) (js ys : List Int) (h : ∀ z ∈ js, z ≠ 72) : fseen most ended (js ++ ys) = Seen.add [] js.length 0 (fseen most ended ys) := by
  induction js with
  | nil => exact (Seen.add_none _).symm
  | cons z js ih =>
    have hz := h z (by simp)
    have m : fmagic (z :: js ++ ys) = false := by unfold fmagic; simp [hz]
    have e : fmeet most (z :: js ++ ys) = 41 := by unfold fmeet fbeg; rw [m]; rfl
    rw [fseen_step most ended _ (by simp), e, if_neg (by decide), if_neg (fun q => absurd q.1 (by decide)), if_neg (by decide)]
    show Seen.add [] 1 0 (fseen most ended (js ++ ys)) = _
    rw [ih (fun x hx => h x (by simp [hx])), Seen.add_add, List.length_cons]
    rw [Nat.add_comm 1]
    rfl

end Go.Proofs.YtbfbehjldloeoaaDoor
