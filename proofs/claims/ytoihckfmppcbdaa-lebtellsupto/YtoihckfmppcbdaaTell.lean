/-
  Plain mathematics for the laws of package leb: the numbers of some bytes one behind the other, and the place behind so many of them. No condition of its own; it imports nothing of the program.
-/
import Derived.Test.YtoihckfmppcbdaaEnc
namespace Go.Proofs.Ytoihckfmppcbdaa
set_option linter.unusedVariables false

/-- So many of the places and numbers from a place on, at most. -/
def tkF (xs : List Int) : Nat → Nat → List (Int × Int)
  | 0, _ => []
  | f + 1, at' => if at' < xs.length ∧ (rd (xs.drop at')).2.2 = 0 then ((at' : Int), (rd (xs.drop at')).1) :: tkF xs f (at' + max 1 (rd (xs.drop at')).2.1.toNat) else []
/-- The places and numbers from a place on, up to the end or to what is no number. -/
def tk (xs : List Int) (at' : Nat) : List (Int × Int) := tkF xs (xs.length - at') at'
theorem tkF_more (xs : List Int) : ∀ (f g at' : Nat), xs.length - at' ≤ f → xs.length - at' ≤ g → tkF xs f at' = tkF xs g at'
  | 0, 0, _, _, _ => rfl
  | 0, g + 1, at', h, _ => by
    rw [tkF, tkF, if_neg (by omega)]
  | f + 1, 0, at', _, h => by
    rw [tkF, tkF, if_neg (by omega)]
  | f + 1, g + 1, at', h1, h2 => by
    rw [tkF, tkF]
    split
    · rw [tkF_more xs f g _ (by omega) (by omega)]
    · rfl
theorem tk_eq (xs : List Int) (at' : Nat) : tk xs at' = if at' < xs.length ∧ (rd (xs.drop at')).2.2 = 0 then ((at' : Int), (rd (xs.drop at')).1) :: tk xs (at' + max 1 (rd (xs.drop at')).2.1.toNat) else [] := by
  unfold tk
  cases hf : xs.length - at' with
  | zero => rw [tkF, if_neg (by omega)]
  | succ f =>
    rw [tkF]
    split
    · rw [tkF_more xs f (xs.length - (at' + max 1 (rd (xs.drop at')).2.1.toNat)) _ (by omega) (by omega)]
    · rfl
/-- The place behind so many numbers from a place on, and the error's number. -/
def skp (xs : List Int) : Nat → Nat → Int × Int
  | 0, at' => ((at' : Int), 0)
  | k + 1, at' => if (rd (xs.drop at')).2.2 = 0 then skp xs k (at' + (rd (xs.drop at')).2.1.toNat) else (0, (rd (xs.drop at')).2.2)
theorem bytes_drop {xs : List Int} (h : Bytes xs) (k : Nat) : Bytes (xs.drop k) := fun i hi => by
  have := h (k + i) (by simp at hi; omega)
  rw [List.getElem?_drop]; exact this
/-- A number that is read: how many bytes it has. -/
theorem rd_size {xs : List Int} (h : Bytes xs) (he : (rd xs).2.2 = 0) : (rd xs).2.1 = (sz (rd xs).1 : Int) ∧ 1 ≤ (rd xs).2.1 ∧ (rd xs).2.1 ≤ xs.length := by
  obtain ⟨h1, h2, h3⟩ := rd_back xs h he
  have hb := rd_bd xs h
  have hl := congrArg List.length h3
  rw [enc_length _ (by omega), Int.toNat_of_nonneg hb.1.1, List.length_take] at hl
  omega
theorem rd_nil : rd [] = (0, 0, 10) := by decide
theorem tk_cons {xs : List Int} (hx : Bytes xs) {at' : Nat} (h : at' < xs.length) (he : (rd (xs.drop at')).2.2 = 0) :
    tk xs at' = ((at' : Int), (rd (xs.drop at')).1) :: tk xs (at' + (rd (xs.drop at')).2.1.toNat) := by
  have := rd_size (bytes_drop hx at') he
  rw [tk_eq, if_pos ⟨h, he⟩]
  rw [show max 1 (rd (xs.drop at')).2.1.toNat = (rd (xs.drop at')).2.1.toNat from by omega]
theorem tk_nil {xs : List Int} {at' : Nat} (h : ¬ (at' < xs.length ∧ (rd (xs.drop at')).2.2 = 0)) : tk xs at' = [] := by rw [tk_eq, if_neg h]
/-- The place behind the last of some. -/
def endOf : List (Int × Int) → Int
  | [] => 0
  | [p] => p.1 + sz p.2
  | _ :: l => endOf l
theorem endOf_snoc (l : List (Int × Int)) (p : Int × Int) : endOf (l ++ [p]) = p.1 + sz p.2 := by
  induction l with
  | nil => rfl
  | cons a l ih =>
    cases l with
    | nil => rfl
    | cons b l => exact ih
theorem endOf_nonneg (l : List (Int × Int)) (h : ∀ p ∈ l, 0 ≤ p.1) : 0 ≤ endOf l := by
  rcases List.eq_nil_or_concat l with rfl | ⟨l', p, rfl⟩
  · simp [endOf]
  · rw [List.concat_eq_append, endOf_snoc]; have := h p (by simp); omega
/-- What stands behind a beginning of the numbers told. -/
theorem tk_split {xs : List Int} (hx : Bytes xs) : ∀ (pre rest : List (Int × Int)), tk xs 0 = pre ++ rest →
    ∃ at' : Nat, at' ≤ xs.length ∧ endOf pre = at' ∧ rest = tk xs at' ∧ (∀ k, skp xs (pre.length + k) 0 = skp xs k at') := by
  intro pre
  obtain ⟨n, hn⟩ : ∃ n, n = pre.length := ⟨_, rfl⟩
  induction n generalizing pre with
  | zero =>
    obtain rfl : pre = [] := List.eq_nil_of_length_eq_zero hn.symm
    intro rest h; exact ⟨0, Nat.zero_le _, rfl, by simpa using h.symm, fun k => by simp⟩
  | succ n ih =>
    rcases List.eq_nil_or_concat pre with rfl | ⟨pre', p, rfl⟩
    · simp at hn
    intro rest h
    rw [List.concat_eq_append] at h hn ⊢
    obtain ⟨at', hle, he, hr, hs⟩ := ih pre' (by simp at hn; omega) (p :: rest) (by simpa using h)
    by_cases hc : at' < xs.length ∧ (rd (xs.drop at')).2.2 = 0
    · rw [tk_cons hx hc.1 hc.2] at hr
      obtain ⟨rfl, hr2⟩ := List.cons.inj hr
      have hz := rd_size (bytes_drop hx at') hc.2
      rw [List.length_drop] at hz
      refine ⟨at' + (rd (xs.drop at')).2.1.toNat, by omega, ?_, hr2, fun k => ?_⟩
      · rw [endOf_snoc]; simp only; omega
      · have := hs (k + 1)
        simp only [skp, if_pos hc.2] at this
        rw [List.length_append, List.length_singleton, show pre'.length + 1 + k = pre'.length + (k + 1) from by omega]
        exact this
    · rw [tk_nil hc] at hr; cases hr
theorem skp_all {xs : List Int} (hx : Bytes xs) (pre : List (Int × Int)) (h : tk xs 0 = pre) (k : Nat) :
    ∃ at' : Nat, at' ≤ xs.length ∧ endOf pre = at' ∧ skp xs pre.length 0 = ((at' : Int), 0) ∧ (rd (xs.drop at')).2.2 ≠ 0 ∧ (∀ k, skp xs (pre.length + (k + 1)) 0 = (0, (rd (xs.drop at')).2.2)) := by
  obtain ⟨at', hle, he, hr, hs⟩ := tk_split hx pre [] (by simpa using h)
  have hne : (rd (xs.drop at')).2.2 ≠ 0 := by
    intro h0
    by_cases hlt : at' < xs.length
    · rw [tk_cons hx hlt h0] at hr; cases hr
    · rw [List.drop_of_length_le (by omega), rd_nil] at h0; cases h0
  exact ⟨at', hle, he, by have := hs 0; simpa [skp] using this, hne, fun k => by rw [hs (k + 1)]; simp only [skp, if_neg hne]⟩
theorem skp_part {xs : List Int} (hx : Bytes xs) (pre rest : List (Int × Int)) (h : tk xs 0 = pre ++ rest) : skp xs pre.length 0 = (endOf pre, 0) := by
  obtain ⟨at', hle, he, hr, hs⟩ := tk_split hx pre rest h
  have := hs 0
  rw [he]; simpa [skp] using this
/-- What is told fits. -/
theorem tk_ok {xs : List Int} (hx : Bytes xs) {at' : Nat} (h : at' < xs.length) (he : (rd (xs.drop at')).2.2 = 0) : (0 ≤ (rd (xs.drop at')).1 ∧ (rd (xs.drop at')).1 < 18446744073709551616) := (rd_bd _ (bytes_drop hx at')).1
end Go.Proofs.Ytoihckfmppcbdaa
