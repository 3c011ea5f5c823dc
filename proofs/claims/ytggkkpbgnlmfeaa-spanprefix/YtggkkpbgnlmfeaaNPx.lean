/-
  A text is in the range of a prefix just if it begins with it; what strings.HasPrefix answers. No condition.
-/
import Derived.Test.YtggkkpbgnlmfeaaNPr
namespace Go.Proofs.Ytggkkpbgnlmfeaa
set_option linter.unusedVariables false
open Go.RowKit

/-- The order of lists of numbers. -/
def ltI : List Int → List Int → Bool
  | _, [] => false
  | [], _ :: _ => true
  | a :: x, b :: y => decide (a < b) || (decide (a = b) && ltI x y)
theorem ltI_bl : ∀ a b : List UInt8, ltI (a.map fun c => (c.toNat : Int)) (b.map fun c => (c.toNat : Int)) = Op.bytesLess a b
  | _, [] => by rename_i a; cases a <;> rfl
  | [], _ :: _ => rfl
  | x :: a, y :: b => by
    simp only [List.map_cons, ltI, Op.bytesLess, ltI_bl a b]
    have h1 : decide ((x.toNat : Int) < (y.toNat : Int)) = decide (x < y) := by
      rw [decide_eq_decide, UInt8.lt_iff_toNat_lt]; omega
    have h2 : decide ((x.toNat : Int) = (y.toNat : Int)) = (x == y) := by
      by_cases e : x = y
      · subst e; simp
      · have : ¬ (x.toNat : Int) = y.toNat := fun h => e (UInt8.toNat_inj.1 (by omega))
        simp [e, this]
    rw [h1, h2]
theorem tl_int (s t : ByteArray) : tl s t = ltI (bs s) (bs t) := by rw [tl_bs]; exact (ltI_bl _ _).symm
def pfx : List Int → List Int → Bool
  | [], _ => true
  | _ :: _, [] => false
  | x :: xs, y :: ys => decide (x = y) && pfx xs ys
def up : List Int → List Int
  | [] => []
  | x :: xs => if up xs = [] then (if x = 255 then [] else [x + 1]) else x :: up xs
theorem pfx_up : ∀ xs ys : List Int, (∀ z ∈ xs, z ≤ 255) → (∀ z ∈ ys, z ≤ 255) → pfx xs ys = (!ltI ys xs && (decide (up xs = []) || ltI ys (up xs)))
  | [], ys, _, _ => by cases ys <;> simp [pfx, ltI, up]
  | x :: xs, [], _, _ => by simp [pfx, ltI]
  | x :: xs, y :: ys, hx, hy => by
    have ih := pfx_up xs ys (fun z hz => hx z (by simp [hz])) (fun z hz => hy z (by simp [hz]))
    have hx1 := hx x (by simp)
    have hy1 := hy y (by simp)
    simp only [pfx, ltI, ih]
    by_cases hu : up xs = []
    · have e : up (x :: xs) = if x = 255 then [] else [x + 1] := by simp only [up, hu, if_true]
      rw [e]
      by_cases h255 : x = 255
      · simp only [h255, if_true, hu]
        by_cases h1 : y = 255
        · simp [h1]
        · have : y < 255 := by omega
          have h2 : ¬ (255 : Int) = y := fun e => h1 e.symm
          simp [this, h2]
      · simp only [h255, if_false, hu]
        rcases Int.lt_trichotomy y x with h | h | h
        · have h2 : ¬ x = y := by omega
          simp [h, h2]
        · subst h
          have h6 : y < y + 1 := by omega
          simp [ltI, h6]
        · have h2 : ¬ x = y := by omega
          have h3 : ¬ y < x := by omega
          have h4 : ¬ y = x := by omega
          have h5 : ¬ y < x + 1 := by omega
          cases ys <;> simp [h2, h3, h4, h5, ltI]
    · have e : up (x :: xs) = x :: up xs := by simp only [up, hu, if_false]
      rw [e]
      rcases Int.lt_trichotomy y x with h | h | h
      · have h2 : ¬ x = y := by omega
        simp [h, h2]
      · subst h
        simp [ltI, hu]
      · have h2 : ¬ x = y := by omega
        have h3 : ¬ y < x := by omega
        have h4 : ¬ y = x := by omega
        simp [h2, h3, h4, ltI]
theorem up_snoc : ∀ (xs : List Int) (x : Int), up (xs ++ [x]) = if x = 255 then up xs else xs ++ [x + 1]
  | [], x => by simp [up]
  | y :: xs, x => by
    have ih := up_snoc xs x
    rw [List.cons_append]
    by_cases h : x = 255
    · rw [if_pos h] at ih ⊢
      simp only [up, ih]
    · rw [if_neg h] at ih ⊢
      simp only [up, ih]
      simp
theorem up_trim (xs : List Int) (hb : ∀ z ∈ xs, 0 ≤ z ∧ z ≤ 255) : ∀ k, k ≤ xs.length → up (xs.take k) = if trimN xs 255 k = 0 then [] else bump (xs.take (trimN xs 255 k))
  | 0, _ => by simp [up, trimN]
  | k + 1, hk => by
    have ih := up_trim xs hb k (by omega)
    have hk' : k < xs.length := by omega
    have e : xs.getD k 0 = xs[k] := by simp [hk']
    have h1 := hb _ (List.getElem_mem hk')
    rw [List.take_succ_eq_append_getElem hk', up_snoc, trimN, e]
    by_cases h : xs[k] = 255
    · rw [if_pos h, if_pos h, ih]
    · rw [if_neg h, if_neg h, if_neg (by omega)]
      unfold bump
      have hl : (xs.take (k + 1)).length = k + 1 := by rw [List.length_take]; omega
      rw [hl, Nat.add_sub_cancel]
      have e2 : (xs.take (k + 1)).getD k 0 = xs[k] := by rw [List.getD_eq_getElem?_getD, List.getElem?_take_of_lt (Nat.lt_succ_self k)]; simp [hk']
      rw [e2, List.take_succ_eq_append_getElem hk', List.set_append_right _ _ (by rw [List.length_take]; omega)]
      have e3 : k - (xs.take k).length = 0 := by rw [List.length_take]; omega
      rw [e3]
      have e4 : (xs[k] + 1) % 256 = xs[k] + 1 := by omega
      simp [e4]
theorem bump_bytes (xs : List Int) (h : Bytes xs) : Bytes (bump xs) := bytes_of_mem fun z hz => by
  unfold bump at hz
  rcases List.mem_or_eq_of_mem_set hz with hz | rfl
  · exact h.mem z hz
  · omega
theorem bs_pto (p : ByteArray) : bs (pto p) = up (bs p) := by
  have h := up_trim (bs p) (fun z hz => by have := (bs_bytes p).mem z hz; omega) (bs p).length (Nat.le_refl _)
  rw [List.take_length] at h
  rw [h]
  unfold pto
  have hs := trim_size p 255
  by_cases he : trimS p 255 = .empty
  · rw [if_pos he]
    rw [he] at hs
    rw [if_pos (by rw [bs_len, ← hs]; rfl)]
    rfl
  · rw [if_neg he]
    have : ¬ trimN (bs p) 255 (bs p).length = 0 := fun e => he ((size_none _).1 (by rw [hs, ← bs_len p]; exact e))
    rw [if_neg this, bs_str _ (bump_bytes _ (bs_bytes _)), bs_trim]
theorem pto_none (p : ByteArray) : decide (pto p = .empty) = decide (up (bs p) = []) := by
  rw [decide_eq_decide, ← bs_none, bs_pto]
/-- A text is in the range of a prefix just if it begins with it. -/
theorem prefix_has (p t : ByteArray) : lHas [(p, pto p)] t = pfx (bs p) (bs t) := by
  rw [pfx_up _ _ (fun z hz => by have := (bs_bytes p).mem z hz; omega) (fun z hz => by have := (bs_bytes t).mem z hz; omega), ← bs_pto, ← tl_int, ← tl_int]
  simp only [lHas, List.any_cons, List.any_nil, Bool.or_false]
  unfold rHas rPast
  have h := pto_none p
  rw [← bs_pto] at h
  rw [← h]
  cases tl t p <;> cases decide (pto p = .empty) <;> cases tl t (pto p) <;> rfl
theorem pfx_app : ∀ xs ys : List Int, pfx xs (xs ++ ys) = true
  | [], _ => rfl
  | x :: xs, ys => by simp [pfx, pfx_app xs ys]
theorem bs_app (s t : ByteArray) : bs (s ++ t) = bs s ++ bs t := by
  unfold bs
  rw [← List.map_append]
  congr 1
theorem pfx_take : ∀ xs ys : List Int, pfx xs ys = (decide (xs.length ≤ ys.length) && decide (ys.take xs.length = xs))
  | [], ys => by simp [pfx]
  | x :: xs, [] => by simp [pfx]
  | x :: xs, y :: ys => by
    simp only [pfx, pfx_take xs ys, List.length_cons, List.take_succ_cons]
    by_cases h1 : x = y
    · subst h1; simp
    · have : ¬ y = x := fun e => h1 e.symm
      simp [h1, this]
theorem sliP_c (s p : ByteArray) (w : World) (hs : s.size ≤ maxLen) (hp : p.size ≤ maxLen) : Calls Try.prog 38 #[.string s, .string p] w fun e w' => e = .returned (.bool (pfx (bs p) (bs s))) ∧ w' = w := by
  unfold maxLen at hs hp
  by_cases h : p.size ≤ s.size
  · have e : pfx (bs p) (bs s) = ((s.extract 0 p.size).toList == p.toList) := by
      rw [pfx_take, te_iff, bs_len, bs_len, decide_eq_true h, Bool.true_and, decide_eq_decide, ← bs_take]
      constructor
      · exact fun e => bs_inj e
      · exact fun e => by rw [e]
    rw [e]
    go_enter Try.func38, Try.ntmps38
    go_wp2
    go_ret
    exact ⟨rfl, rfl⟩
  · have e : pfx (bs p) (bs s) = false := by rw [pfx_take, bs_len, bs_len, decide_eq_false h, Bool.false_and]
    rw [e]
    go_enter Try.func38, Try.ntmps38
    go_wp2
    go_ret
    exact ⟨rfl, rfl⟩
theorem hasPrefix_c (s p : ByteArray) (w : World) (hs : s.size ≤ maxLen) (hp : p.size ≤ maxLen) : Calls Try.prog 24 #[.string s, .string p] w fun e w' => e = .returned (.bool (pfx (bs p) (bs s))) ∧ w' = w := by
  have HS : Hid _ := sliP_c s p w hs hp
  generalize pfx (bs p) (bs s) = b at *
  clear hs hp
  go_enter Try.func24, Try.ntmps24
  go_wp2_with (go_at_call 38; go_must (refine (Calls.mono HS.out ?_)); rintro e w1 ⟨rfl, rfl⟩)
  go_ret
  exact ⟨rfl, rfl⟩
end Go.Proofs.Ytggkkpbgnlmfeaa
