/-
  A law for a region that draws the order of its operations: a condition on which operations are done, on the slots and on the world that each operation keeps. It speaks of every program. No condition of its own.
-/
import Derived.Test.YtadnececnaciiaaRows
import Derived.WalkKit
import Derived.RegionTactic
namespace Go.Proofs.Ytadnececnaciiaa
open Go.RowKit
set_option linter.unusedVariables false

def allB : Nat → List (List Bool)
  | 0 => [[]]
  | n + 1 => (allB n).map (true :: ·) ++ (allB n).map (false :: ·)
theorem mem_allB : ∀ (n : Nat) (p : List Bool), p.length = n → p ∈ allB n
  | 0, p, h => by rw [List.eq_nil_of_length_eq_zero h]; simp [allB]
  | n + 1, [], h => by simp at h
  | n + 1, b :: p, h => by
    have := mem_allB n p (by simpa using h)
    cases b <;> simp [allB, this]
/-- What must be done ahead of each operation: told for every set of operations that may be done. -/
def rcheck (ops : Array Oper) (cond : Nat → List Bool → Bool) : Bool :=
  (allB ops.size).all fun p => (Region.ready .any ops p.toArray).all (fun i => decide (i < ops.size) && !(p.getD i true) && cond i p) && (!(Region.ready .any ops p.toArray).isEmpty || p.all id)
theorem count_set (p : List Bool) (i : Nat) (h : p.getD i true = false) : (p.set i true).count false < p.count false := by
  induction p generalizing i with
  | nil => simp at h
  | cons b p ih =>
    cases i with
    | zero => have hb : b = false := by simpa using h
              subst hb; simp
    | succ i =>
      have := ih i (by simpa using h)
      rw [List.set_cons_succ, List.count_cons, List.count_cons]; omega
theorem wp_region_inv {P : Program} {ops : Array Oper} {Q : Exit → Act → World → Prop} {id : Nat} {a : Act} {w : World} (hm : P.follows .mixedOrders = true) (cond : Nat → List Bool → Bool) (hc : rcheck ops cond = true) (Inv : List Bool → Act → World → Prop)
    (h0 : Inv (List.replicate ops.size false) a w.drew)
    (step : ∀ p a w i o, p.length = ops.size → Inv p a w → ops[i]? = some o → p.getD i true = false → cond i p = true → ∀ K' : Act → World → Prop, (∀ a w, Inv (p.set i true) a w → K' a w) → if Region.wanted o (yielded ops a.tmps) = true then Oper.wp P o a w K' Q else K' (a.put o.dst undef) w)
    (fin : ∀ a w, Inv (List.replicate ops.size true) a w → Q .normal a w) : (Code.region id ops true).wp P Q a w := by
  have hall : ∀ p : List Bool, p.length = ops.size → (∀ i ∈ Region.ready .any ops p.toArray, i < ops.size ∧ p.getD i true = false ∧ cond i p = true) ∧ (Region.ready .any ops p.toArray = [] → p = List.replicate ops.size true) := by
    intro p hp
    have h1 := List.all_eq_true.1 hc p (mem_allB _ p hp)
    rw [Bool.and_eq_true] at h1
    refine ⟨fun i hi => ?_, fun he => ?_⟩
    · have h2 := List.all_eq_true.1 h1.1 i hi
      simp only [Bool.and_eq_true, decide_eq_true_eq, Bool.not_eq_true'] at h2
      exact ⟨h2.1.1, h2.1.2, h2.2⟩
    · have h2 := h1.2
      rw [he] at h2
      simp only [List.isEmpty_nil, Bool.not_true, Bool.false_or] at h2
      refine List.eq_replicate_iff.2 ⟨hp, fun b hb => ?_⟩
      have := List.all_eq_true.1 h2 b hb
      simpa using this
  have main : ∀ (fuel : Nat) (p : List Bool) (a : Act) (w : World), p.length = ops.size → p.count false ≤ fuel → Inv p a w → wpAny P .any ops Q fuel p.toArray a w := by
    intro fuel
    induction fuel with
    | zero =>
      intro p a w hp hf hI
      have hr : Region.ready .any ops p.toArray = [] := by
        rcases hq : Region.ready .any ops p.toArray with _ | ⟨i, r⟩
        · rfl
        · have := (hall p hp).1 i (by rw [hq]; simp)
          have := count_set p i this.2.1
          omega
      have hp2 := (hall p hp).2 hr
      rw [hp2] at hI
      exact ⟨hr, fin a w hI⟩
    | succ fuel ih =>
      intro p a w hp hf hI
      refine ⟨fun hr => ?_, fun i hi => ?_⟩
      · have hp2 := (hall p hp).2 hr
        rw [hp2] at hI
        exact fin a w hI
      · have h1 := (hall p hp).1 i hi
        obtain ⟨o, ho⟩ : ∃ o, ops[i]? = some o := ⟨ops[i], by simp [h1.1]⟩
        refine wpOp_step ho fun K' hK => ?_
        refine step p a w i o hp hI ho h1.2.1 h1.2.2 K' fun a' w' hI' => hK a' w' ?_
        rw [List.setIfInBounds_toArray]
        exact ih (p.set i true) a' w' (by simpa using hp) (by have := count_set p i h1.2.1; omega) hI'
  refine wp_region_any hm ?_
  have := main ops.size (List.replicate ops.size false) a w.drew (by simp) (by simp) h0
  rw [List.toArray_replicate] at this
  exact this
end Go.Proofs.Ytadnececnaciiaa
