/-
  A text is ahead of the least text of a bucket just if its own bucket is; a bucket's range has just its texts; buckets rise with texts. No condition.
-/
import Derived.Test.YtdjcokepeifojaaNOp
import Derived.Test.YtdjcokepeifojaaNLt
namespace Go.Proofs.Ytdjcokepeifojaa
set_option linter.unusedVariables false
open Go.RowKit

theorem bkt_1 (t : ByteArray) : bkt t 1 = (bs t).getD 0 0 / 16 := by simp only [bkt, dg]; simp
theorem bkt_2 (t : ByteArray) : bkt t 2 = (bs t).getD 0 0 := by simp only [bkt, dg]; simp; omega
theorem bkt_3 (t : ByteArray) : bkt t 3 = (bs t).getD 0 0 * 16 + (bs t).getD 1 0 / 16 := by simp only [bkt, dg]; simp; omega
theorem lst_bs (D : Nat) (b : Int) : bs (lst D b) = (lraw D b).take (trimN (lraw D b) 0 (lraw D b).length) := by
  have hb : Bytes (lraw D b) := bytes_of_mem fun z hz => by
    unfold lraw at hz
    by_cases h3 : D = 3
    · rw [if_pos h3] at hz; simp at hz; omega
    · rw [if_neg h3] at hz
      by_cases h2 : D = 2
      · rw [if_pos h2] at hz; simp at hz; omega
      · rw [if_neg h2] at hz; simp at hz; omega
  unfold lst
  rw [bs_trim, bs_str _ hb]
theorem one_bs (v : Int) : ([v].take (trimN [v] 0 1)) = if v = 0 then [] else [v] := by
  by_cases h : v = 0 <;> simp [trimN, h]
theorem two_bs (u v : Int) : ([u, v].take (trimN [u, v] 0 2)) = if v = 0 then (if u = 0 then [] else [u]) else [u, v] := by
  by_cases h : v = 0
  · by_cases h2 : u = 0 <;> simp [trimN, h, h2]
  · simp [trimN, h]
theorem ltI_one (ys : List Int) (v : Int) (hv : 0 < v) : ltI ys [v] = decide (ys.getD 0 0 < v) := by
  cases ys with
  | nil => simp [ltI, hv]
  | cons y ys => cases ys <;> simp [ltI]
theorem ltI_two (ys : List Int) (u v : Int) (hv : 0 < v) (hu : 0 ≤ u) (hy : ∀ z ∈ ys, 0 ≤ z) : ltI ys [u, v] = decide (ys.getD 0 0 < u ∨ (ys.getD 0 0 = u ∧ ys.getD 1 0 < v)) := by
  match ys, hy with
  | [], _ => simp [ltI]; omega
  | [y], _ => simp [ltI, hv]
  | y :: z :: r, _ => cases r <;> simp [ltI]
theorem tl_lst (D : Nat) (h1 : 1 ≤ D) (h3 : D ≤ 3) (t : ByteArray) (x : Int) (hx : 0 ≤ x ∧ x < nbk D) : tl t (lst D x) = decide (bkt t D < x) := by
  have c0 := bs_bd t 0
  have c1 := bs_bd t 1
  have hy : ∀ z ∈ bs t, 0 ≤ z := fun z hz => ((bs_bytes t).mem z hz).1
  rw [tl_int, lst_bs]
  rcases (show D = 1 ∨ D = 2 ∨ D = 3 by omega) with rfl | rfl | rfl
  · have hx2 : x < 16 := hx.2
    show ltI (bs t) ([x * 16 % 256].take (trimN [x * 16 % 256] 0 1)) = _
    rw [one_bs, bkt_1, show x * 16 % 256 = x * 16 from by omega]
    by_cases h : x = 0
    · subst h; rw [if_pos (by omega)]
      rw [decide_eq_false (by omega)]
      cases bs t <;> rfl
    · rw [if_neg (by omega), ltI_one _ _ (by omega), decide_eq_decide]; omega
  · have hx2 : x < 256 := hx.2
    show ltI (bs t) ([x % 256].take (trimN [x % 256] 0 1)) = _
    rw [one_bs, bkt_2, show x % 256 = x from by omega]
    by_cases h : x = 0
    · subst h; rw [if_pos rfl]
      rw [decide_eq_false (by omega)]
      cases bs t <;> rfl
    · rw [if_neg h, ltI_one _ _ (by omega)]
  · have hx2 : x < 4096 := hx.2
    show ltI (bs t) ([x / 16 % 256, x * 16 % 256].take (trimN [x / 16 % 256, x * 16 % 256] 0 2)) = _
    rw [two_bs, bkt_3, show x / 16 % 256 = x / 16 from by omega, show x * 16 % 256 = x % 16 * 16 from by omega]
    by_cases hl : x % 16 = 0
    · rw [if_pos (by omega)]
      by_cases hh : x / 16 = 0
      · rw [if_pos hh, decide_eq_false (by omega)]
        cases bs t <;> rfl
      · rw [if_neg hh, ltI_one _ _ (by omega), decide_eq_decide]; omega
    · rw [if_neg (by omega), ltI_two _ _ _ (by omega) (by omega) hy, decide_eq_decide]; omega
theorem bkt_lt (D : Nat) (h1 : 1 ≤ D) (h3 : D ≤ 3) (t : ByteArray) : 0 ≤ bkt t D ∧ bkt t D < nbk D := by
  have := bkt_bd t D
  rw [nbk_pow D h1 h3]; exact this
/-- A bucket's range has just its texts. -/
theorem of_has (D : Nat) (h1 : 1 ≤ D) (h3 : D ≤ 3) (t : ByteArray) (x : Int) (hx : 0 ≤ x ∧ x < nbk D) : rHas (ofR D x) t = decide (bkt t D = x) := by
  rw [(ofE_yes h1 h3 hx).2]
  have ht := bkt_lt D h1 h3 t
  unfold rHas rPast
  rw [tl_lst D h1 h3 t x hx]
  by_cases hl : x + 1 < nbk D
  · have e := tl_lst D h1 h3 t (x + 1) ⟨by omega, hl⟩
    have hne : lst D (x + 1) ≠ .empty := fun he => by
      have e2 := tl_lst D h1 h3 .empty (x + 1) ⟨by omega, hl⟩
      have hz : bkt .empty D = 0 := by
        rcases (show D = 1 ∨ D = 2 ∨ D = 3 by omega) with rfl | rfl | rfl <;> decide
      rw [he, hz, tl_none, decide_eq_true (by omega)] at e2; cases e2
    simp only [hne, e]
    by_cases h : bkt t D = x
    · simp [h]; omega
    · by_cases h2 : bkt t D < x
      · simp [h, h2]
      · have h4 : ¬ bkt t D < x + 1 := by omega
        simp [h, h4]
  · have he : lst D (x + 1) = .empty := by rw [show x + 1 = nbk D from by omega]; exact lst_last D h1 h3
    simp only [he]
    by_cases h : bkt t D = x
    · simp [h]
    · have h2 : bkt t D < x := by omega
      simp [h, h2]
theorem bkt_mono (D : Nat) (h1 : 1 ≤ D) (h3 : D ≤ 3) (a b : ByteArray) (h : tl b a = false) : bkt a D ≤ bkt b D := by
  rcases Int.lt_or_le (bkt b D) (bkt a D) with hlt | hle
  · have ha := bkt_lt D h1 h3 a
    have e1 := tl_lst D h1 h3 b (bkt a D) ha
    have e2 := tl_lst D h1 h3 a (bkt a D) ha
    rw [decide_eq_true hlt] at e1
    rw [decide_eq_false (by omega)] at e2
    have := lt_le e1 e2
    rw [h] at this; cases this
  · exact hle
theorem bkt_up (t : ByteArray) (k : Nat) : bkt t (k + 1) / 16 = bkt t k := by have := dg_bd t k; simp only [bkt]; omega
end Go.Proofs.Ytdjcokepeifojaa
