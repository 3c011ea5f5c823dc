/-
  What span's Ranges answers of whatever numbers: the texts of these buckets, in normal form. Condition: there are at most 2^62 numbers.
-/
import Derived.Test.YtdjcokepeifojaaDoorNAw
import Derived.Test.YtdjcokepeifojaaDoorNHo
import Derived.OwnWalk
namespace Go.Proofs.YtdjcokepeifojaaDoor
set_option linter.unusedVariables false
open Go.RowKit

def rgE (d : Int) (X : List Int) : Int := if nbk d = 0 then 61 else if (∃ x ∈ X, x < 0 ∨ nbk d ≤ x) then 62 else 0
/-- A row of truths. -/
def bl (n : Nat) (F : Nat → Bool) : List Value := (List.range n).map fun i => Value.bool (F i)
theorem bl_len (n : Nat) (F : Nat → Bool) : (bl n F).length = n := by simp [bl]
theorem bl_set (n : Nat) (F : Nat → Bool) (i : Nat) (hi : i < n) : (bl n F).set i (.bool true) = bl n (fun j => decide (j = i) || F j) := by
  apply List.ext_getElem
  · simp [bl]
  · intro j h1 h2
    have hj : j < n := by simpa [bl] using h2
    rw [List.getElem_set]
    by_cases e : i = j
    · subst e; simp [bl]
    · have e2 : ¬ j = i := fun h => e h.symm
      simp [bl, e, e2]
theorem own_set1 {w : World} {B : Nat} {g n cap : Nat} {xs : List Value} {e : TypeId} (h : w.ownsRow B e 1 (.slice (some ⟨g, 0, none⟩) n cap) n xs) (i : Nat) (v : Value) :
    (w.setCell ⟨g, i, none⟩ v).ownsRow B e 1 (.slice (some ⟨g, 0, none⟩) n cap) n (xs.set i v) := by
  refine ⟨by have := h.1; simpa using this, .inr ?_⟩
  rcases h.2 with ⟨h', _⟩ | ⟨g', cap', cur, h', hB, hg, hn, hm, hsz, htake⟩
  · simp at h'
  · simp only [Value.slice.injEq, Option.some.injEq, Addr.mk.injEq, and_true, true_and] at h'
    obtain ⟨rfl, rfl⟩ := h'
    refine ⟨g, cap, cur.setIfInBounds i v, rfl, hB, ?_, hn, hm, by simpa using hsz, ?_⟩
    · rw [heap_setCell_same w g _ _ e _ hg]
    · rw [Array.toList_setIfInBounds, List.take_set, htake]
theorem own_cell1 {w : World} {B : Nat} {g n cap : Nat} {xs : List Value} {e : TypeId} (h : w.ownsRow B e 1 (.slice (some ⟨g, 0, none⟩) n cap) n xs) (i : Nat) (hi : i < n) : w.cell? ⟨g, i, none⟩ = xs[i]? ∧ w.frozen? ⟨g, i, none⟩ = false := by
  rcases h.2 with ⟨h', _⟩ | ⟨g', cap', cur, h', hB, hg, hn, hm, hsz, htake⟩
  · simp at h'
  · simp only [Value.slice.injEq, Option.some.injEq, Addr.mk.injEq, and_true, true_and] at h'
    obtain ⟨rfl, rfl⟩ := h'
    refine ⟨?_, frozen_of_row _ _ i _ _ hg⟩
    rw [cell_of_row w g _ _ _ _ hg, ← htake, List.getElem?_take_of_lt (by omega)]; simp
theorem infoBool : (Tryd.prog.info? 4).map (fun i => (i.zero, i.size, i.bytes)) = some (some (.bool false), 1, 1) := by kernel_rfl
/-- The ranges of the first buckets that are named. -/
def nRg (D : Nat) (F : Nat → Bool) : Nat → List Rg
  | 0 => []
  | k + 1 => if F k = true then nRg D F k ++ [ofR D k] else nRg D F k
theorem nRg_len (D : Nat) (F : Nat → Bool) (k : Nat) : (nRg D F k).length ≤ k := by
  induction k with
  | zero => simp [nRg]
  | succ k ih =>
    simp only [nRg]
    by_cases h : F k = true
    · rw [if_pos h, List.length_append]; simp; omega
    · rw [if_neg h]; omega
theorem nRg_has (D : Nat) (h1 : 1 ≤ D) (h3 : D ≤ 3) (F : Nat → Bool) (t : ByteArray) (k : Nat) (hk : (k : Int) ≤ nbk D) : lHas (nRg D F k) t = (decide (bkt t D < k) && F (bkt t D).toNat) := by
  have hb := bkt_lt D h1 h3 t
  induction k with
  | zero => simp [nRg, lHas]; omega
  | succ k ih =>
    have ih := ih (by omega)
    have hh := of_has D h1 h3 t k ⟨by omega, by omega⟩
    have e : lHas (nRg D F k ++ [ofR D k]) t = (lHas (nRg D F k) t || decide (bkt t D = k)) := by rw [lHas_app]; simp [lHas, hh]
    simp only [nRg]
    by_cases hF : F k = true
    · rw [if_pos hF, e, ih]
      by_cases he : bkt t D = k
      · rw [he]; simp [hF]; omega
      · by_cases hl : bkt t D < k
        · have : bkt t D < (k : Int) + 1 := by omega
          simp [hl, he, this]
        · have : ¬ bkt t D < (k : Int) + 1 := by omega
          simp [hl, he, this]
    · rw [if_neg hF, ih]
      by_cases he : bkt t D = k
      · have h5 : F (bkt t D).toNat = false := by rw [he]; simpa using hF
        rw [h5]; simp
      · by_cases hl : bkt t D < k
        · have : bkt t D < (k : Int) + 1 := by omega
          simp [hl, this]
        · have : ¬ bkt t D < (k : Int) + 1 := by omega
          simp [hl, this]
/-- Which buckets the first numbers name. -/
def nm (X : List Int) (k : Nat) (j : Nat) : Bool := decide ((j : Int) ∈ X.take k)
theorem nm_zero (X : List Int) (n : Nat) : bl n (nm X 0) = List.replicate n (.bool false) := by
  apply List.ext_getElem
  · simp [bl]
  · intro i h1 h2; simp [bl, nm]
theorem nm_step (X : List Int) (k n : Nat) (hk : k < X.length) (h0 : 0 ≤ X.getD k 0) (hn : X.getD k 0 < (n : Int)) : (bl n (nm X k)).set (X.getD k 0).toNat (.bool true) = bl n (nm X (k + 1)) := by
  rw [bl_set n _ _ (by omega)]
  unfold bl
  refine List.map_congr_left fun j _ => ?_
  congr 1
  have e : X.getD k 0 = X[k] := by simp [hk]
  unfold nm
  rw [List.take_succ_eq_append_getElem hk, ← e]
  generalize X.getD k 0 = x at *
  simp only [List.mem_append, List.mem_singleton]
  by_cases h : (j : Int) = x
  · have h2 : j = x.toNat := by omega
    rw [decide_eq_true h2, decide_eq_true (Or.inr h)]; rfl
  · have h2 : ¬ j = x.toNat := by omega
    rw [decide_eq_false h2, Bool.false_or, decide_eq_decide]
    exact ⟨fun a => .inl a, fun a => a.elim id (fun b => absurd b h)⟩
theorem rgE_yes {D : Nat} {X : List Int} (h1 : 1 ≤ D) (h3 : D ≤ 3) (h : ∀ x ∈ X, 0 ≤ x ∧ x < nbk D) : rgE D X = 0 := by
  have hn := nbk_bd D h1 h3
  unfold rgE
  rw [if_neg (by omega), if_neg]
  rintro ⟨x, hx, h4⟩
  have := h x hx
  omega
theorem rgE_no {D : Nat} {X : List Int} (h1 : 1 ≤ D) (h3 : D ≤ 3) {x : Int} (hx : x ∈ X) (h : x < 0 ∨ nbk D ≤ x) : rgE D X = 62 := by
  have hn := nbk_bd D h1 h3
  unfold rgE
  rw [if_neg (by omega), if_pos ⟨x, hx, h⟩]
theorem made_bl (n : Nat) : (madeCells (Value.bool false).cells (n * 1)).toList = List.replicate n (.bool false) := by
  rw [Nat.mul_one]
  apply List.ext_getElem
  · simp [madeCells]
  · intro i h1 h2
    simp [madeCells, Value.cells, Nat.mod_one]
theorem cells_bl {w : World} {g n : Nat} {F : Nat → Bool} (h : Cells w (some ⟨g, 0, none⟩) (bl n F)) (i : Nat) (hi : i < n) : w.cell? ⟨g, i, none⟩ = some (.bool (F i)) := by
  rcases h with h | ⟨b, off, ha, _, hc⟩
  · have e : (bl n F).length = 0 := by rw [h]; rfl
    rw [bl_len] at e; omega
  · cases ha
    have := hc i (.bool (F i)) (by simp [bl, hi])
    rwa [Nat.zero_add] at this
theorem cells_int {w : World} {a : Option Addr} {X : List Int} (h : Cells w a (i64s X)) (i : Nat) (hi : i < X.length) : ∃ b off, a = some ⟨b, off, none⟩ ∧ b < w.heap.size ∧ w.cell? ⟨b, off + i, none⟩ = some (.int .i64 (X.getD i 0)) := by
  rcases h with h | ⟨b, off, ha, hb, hc⟩
  · have e : (i64s X).length = 0 := by rw [h]; rfl
    rw [i64s, List.length_map] at e; omega
  · exact ⟨b, off, ha, hb, hc i _ (by simp [i64s, hi])⟩
end Go.Proofs.YtdjcokepeifojaaDoor
