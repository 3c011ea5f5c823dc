/-
  What span's Ranges answers of all buckets (all texts) and of a bucket's sixteen, a depth further (its own range). No condition.
-/
import Derived.Test.YtdjcokepeifojaaNRg
import Derived.OwnWalk
namespace Go.Proofs.Ytdjcokepeifojaa
set_option linter.unusedVariables false
open Go.RowKit

/-- The numbers from 0 on. -/
def upt (n : Nat) : List Int := (List.range n).map fun i => ((i : Nat) : Int)
theorem upt_len (n : Nat) : (upt n).length = n := by simp [upt]
theorem upt_snoc (n : Nat) : upt (n + 1) = upt n ++ [((n : Nat) : Int)] := by simp [upt, List.range_succ]
theorem upt_mem (n : Nat) (x : Int) : x ∈ upt n ↔ 0 ≤ x ∧ x < n := by
  simp only [upt, List.mem_map, List.mem_range]
  constructor
  · rintro ⟨i, hi, rfl⟩; omega
  · rintro ⟨h1, h2⟩; exact ⟨x.toNat, by omega, by omega⟩
/-- A bucket's sixteen, a depth further, from the last on. -/
def kds (b : Int) (k : Nat) : List Int := (List.range k).map fun i => 16 * b + 15 - ((i : Nat) : Int)
theorem kds_len (b : Int) (n : Nat) : (kds b n).length = n := by simp [kds]
theorem kds_snoc (b : Int) (n : Nat) : kds b (n + 1) = kds b n ++ [16 * b + 15 - ((n : Nat) : Int)] := by simp [kds, List.range_succ]
theorem kds_mem (b x : Int) : x ∈ kds b 16 ↔ x / 16 = b := by
  simp only [kds, List.mem_map, List.mem_range]
  constructor
  · rintro ⟨i, hi, rfl⟩; omega
  · intro h; exact ⟨(16 * b + 15 - x).toNat, by omega, by omega⟩
theorem bkt_lst (D : Nat) (h1 : 1 ≤ D) (h3 : D ≤ 3) (x : Int) (hx : 0 ≤ x ∧ x < nbk D) : bkt (lst D x) D = x := by
  rcases (show D = 1 ∨ D = 2 ∨ D = 3 by omega) with rfl | rfl | rfl
  · have hx2 : x < 16 := hx.2
    rw [bkt_1, lst_bs]
    show ([x * 16 % 256].take (trimN [x * 16 % 256] 0 1)).getD 0 0 / 16 = x
    rw [one_bs]
    by_cases h : x * 16 % 256 = 0
    · rw [if_pos h]; simp; omega
    · rw [if_neg h]; simp; omega
  · have hx2 : x < 256 := hx.2
    rw [bkt_2, lst_bs]
    show ([x % 256].take (trimN [x % 256] 0 1)).getD 0 0 = x
    rw [one_bs]
    by_cases h : x % 256 = 0
    · rw [if_pos h]; simp; omega
    · rw [if_neg h]; simp; omega
  · have hx2 : x < 4096 := hx.2
    rw [bkt_3, lst_bs]
    show ([x / 16 % 256, x * 16 % 256].take (trimN [x / 16 % 256, x * 16 % 256] 0 2)).getD 0 0 * 16 + ([x / 16 % 256, x * 16 % 256].take (trimN [x / 16 % 256, x * 16 % 256] 0 2)).getD 1 0 / 16 = x
    rw [two_bs]
    by_cases h : x * 16 % 256 = 0
    · rw [if_pos h]
      by_cases h2 : x / 16 % 256 = 0
      · rw [if_pos h2]; simp; omega
      · rw [if_neg h2]; simp; omega
    · rw [if_neg h]; simp; omega
theorem of_some (D : Nat) (h1 : 1 ≤ D) (h3 : D ≤ 3) (x : Int) (hx : 0 ≤ x ∧ x < nbk D) : rEmpty (ofR D x) = false := by
  have h := of_has D h1 h3 (lst D x) x hx
  rw [bkt_lst D h1 h3 x hx, decide_eq_true rfl] at h
  have e : (ofR D x).1 = lst D x := by rw [(ofE_yes h1 h3 hx).2]
  unfold rEmpty
  rw [e]
  unfold rHas at h
  cases h4 : rPast (ofR D x) (lst D x) with
  | false => rfl
  | true => rw [h4] at h; simp at h
theorem rng_bad {D : Nat} {X : List Int} (h1 : 1 ≤ D) (h3 : D ≤ 3) (h : ∀ x ∈ X, 0 ≤ x ∧ x < nbk D) (R : List Rg) (h5 : Nrm R) (h6 : rgE D X = 0 → ∀ t, lHas R t = decide (bkt t D ∈ X)) (S : List Rg) (hS : Nrm S) (hH : ∀ t, lHas S t = decide (bkt t D ∈ X)) : R = S :=
  Nrm.uniq h5 hS fun t => by rw [h6 (rgE_yes h1 h3 h), hH]
theorem whole_c (D n : Nat) (h1 : 1 ≤ D) (h3 : D ≤ 3) (hn : nbk D = (n : Int)) (a : Option Addr) (ca : Nat) (w : World) (hX : Cells w a (i64s (upt n))) :
    Calls Try.prog 6 #[.int .i64 D, .slice a n ca] w fun e w' => ∃ v, e = .returned (.tuple #[v, .int .i64 0]) ∧ w'.ownsRow w.heap.size 39 2 v 1 (flR [(.empty, .empty)]) ∧ w.grownBy w' none := by
  have hb := nbk_bd D h1 h3
  have hm : ∀ x ∈ upt n, 0 ≤ x ∧ x < nbk D := fun x hx => by rw [upt_mem] at hx; rw [hn]; exact hx
  have k := ranges_c D (upt n) a ca w hX (by rw [upt_len]; omega)
  rw [upt_len] at k
  refine k.mono ?_
  rintro e w' ⟨v, R, rfl, ho, hr, hh, -, -, hg⟩
  rw [Int.toNat_natCast] at hh
  have hR : R = [(.empty, .empty)] := rng_bad h1 h3 hm R hr hh _ (by refine ⟨by simp [rEmpty, rPast], by simp, trivial⟩) fun t => by
    have hb := bkt_lt D h1 h3 t
    rw [decide_eq_true (by rw [upt_mem, ← hn]; exact hb)]
    have : tl t .empty = false := by rw [tl_int, (bs_none _).2 rfl]; cases bs t <;> rfl
    simp [lHas, rHas, rPast, this]
  subst hR
  exact ⟨v, by rw [rgE_yes h1 h3 hm], ho, hg⟩
theorem kids_c (D : Nat) (h1 : 1 ≤ D) (h2 : D ≤ 2) (b : Int) (hb : 0 ≤ b ∧ b < nbk D) (a : Option Addr) (ca : Nat) (w : World) (hX : Cells w a (i64s (kds b 16))) :
    Calls Try.prog 6 #[.int .i64 ((D : Int) + 1), .slice a 16 ca] w fun e w' => ∃ v, e = .returned (.tuple #[v, .int .i64 0]) ∧ w'.ownsRow w.heap.size 39 2 v 1 (flR [ofR D b]) ∧ w.grownBy w' none := by
  have hn : nbk ((D + 1 : Nat) : Int) = nbk D * 16 := by rcases (show D = 1 ∨ D = 2 by omega) with rfl | rfl <;> rfl
  have hm : ∀ x ∈ kds b 16, 0 ≤ x ∧ x < nbk ((D + 1 : Nat) : Int) := fun x hx => by rw [kds_mem] at hx; rw [hn]; omega
  have k := ranges_c ((D + 1 : Nat) : Int) (kds b 16) a ca w hX (by rw [kds_len]; omega)
  rw [kds_len] at k
  rw [show ((D : Int) + 1) = ((D + 1 : Nat) : Int) by omega]
  refine k.mono ?_
  rintro e w' ⟨v, R, rfl, ho, hr, hh, -, -, hg⟩
  rw [Int.toNat_natCast] at hh
  have hR : R = [ofR D b] := rng_bad (by omega) (by omega) hm R hr hh _ (by refine ⟨of_some D h1 (by omega) b hb, by simp, trivial⟩) fun t => by
    have := of_has D h1 (by omega) t b hb
    simp only [lHas, List.any_cons, List.any_nil, Bool.or_false]
    rw [this, decide_eq_decide, kds_mem, bkt_up]
  subst hR
  exact ⟨v, by rw [rgE_yes (by omega) (by omega) hm], ho, hg⟩
end Go.Proofs.Ytdjcokepeifojaa
