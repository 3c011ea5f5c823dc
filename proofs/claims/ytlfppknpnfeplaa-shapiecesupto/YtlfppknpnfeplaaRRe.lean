/-
  A law for a region that draws the order of its operations, as RInv's, over the sets of operations that can come up alone: for regions of many operations. It speaks of every program. No condition of its own.
-/
import Derived.Test.YtlfppknpnfeplaaRInv
namespace Go.Proofs.Ytlfppknpnfeplaa
open Go.RowKit
set_option linter.unusedVariables false

/-- Sets of operations that can be done, from some on. -/
def reach (ops : Array Oper) : Nat → List (List Bool) → List (List Bool) → List (List Bool)
  | 0, seen, new => seen ++ new
  | k + 1, seen, new => reach ops k (seen ++ new) ((new.flatMap fun p => (Region.ready .any ops p.toArray).map fun i => p.set i true).eraseDups)
def reaches (ops : Array Oper) : List (List Bool) := reach ops ops.size [] [List.replicate ops.size false]
def rcheckR (ops : Array Oper) (R : List (List Bool)) (cond : Nat → List Bool → Bool) : Bool :=
  R.elem (List.replicate ops.size false) && R.all fun p => decide (p.length = ops.size) && (Region.ready .any ops p.toArray).all (fun i => decide (i < ops.size) && !(p.getD i true) && cond i p && R.elem (p.set i true)) && (!(Region.ready .any ops p.toArray).isEmpty || p.all id)
theorem wp_region_reach {P : Program} {ops : Array Oper} {Q : Exit → Act → World → Prop} {id : Nat} {a : Act} {w : World} (hm : P.follows .mixedOrders = true) (cond : Nat → List Bool → Bool) (hc : rcheckR ops (reaches ops) cond = true) (Inv : List Bool → Act → World → Prop)
    (h0 : Inv (List.replicate ops.size false) a w.drew)
    (step : ∀ p a w i o, p.length = ops.size → Inv p a w → ops[i]? = some o → p.getD i true = false → cond i p = true → ∀ K' : Act → World → Prop, (∀ a w, Inv (p.set i true) a w → K' a w) → if Region.wanted o (yielded ops a.tmps) = true then Oper.wp P o a w K' Q else K' (a.put o.dst undef) w)
    (fin : ∀ a w, Inv (List.replicate ops.size true) a w → Q .normal a w) : (Code.region id ops true).wp P Q a w := by
  unfold rcheckR at hc
  rw [Bool.and_eq_true] at hc
  generalize reaches ops = R at hc
  have hstart : List.replicate ops.size false ∈ R := List.elem_iff.1 hc.1
  have hall : ∀ p ∈ R, p.length = ops.size ∧ (∀ i ∈ Region.ready .any ops p.toArray, i < ops.size ∧ p.getD i true = false ∧ cond i p = true ∧ p.set i true ∈ R) ∧ (Region.ready .any ops p.toArray = [] → p = List.replicate ops.size true) := by
    intro p hp
    have h1 := List.all_eq_true.1 hc.2 p hp
    rw [Bool.and_eq_true, Bool.and_eq_true] at h1
    have hl : p.length = ops.size := of_decide_eq_true h1.1.1
    refine ⟨hl, fun i hi => ?_, fun he => ?_⟩
    · have h2 := List.all_eq_true.1 h1.1.2 i hi
      simp only [Bool.and_eq_true, decide_eq_true_eq, Bool.not_eq_true'] at h2
      exact ⟨h2.1.1.1, h2.1.1.2, h2.1.2, List.elem_iff.1 h2.2⟩
    · have h2 := h1.2
      rw [he] at h2
      simp only [List.isEmpty_nil, Bool.not_true, Bool.false_or] at h2
      refine List.eq_replicate_iff.2 ⟨hl, fun b hb => ?_⟩
      have := List.all_eq_true.1 h2 b hb
      simpa using this
  have main : ∀ (fuel : Nat) (p : List Bool) (a : Act) (w : World), p ∈ R → p.count false ≤ fuel → Inv p a w → wpAny P .any ops Q fuel p.toArray a w := by
    intro fuel
    induction fuel with
    | zero =>
      intro p a w hp hf hI
      obtain ⟨_, hrd, hemp⟩ := hall p hp
      have hr : Region.ready .any ops p.toArray = [] := by
        rcases hq : Region.ready .any ops p.toArray with _ | ⟨i, r⟩
        · rfl
        · have := hrd i (by rw [hq]; simp)
          have := count_set p i this.2.1
          omega
      have hp2 := hemp hr
      rw [hp2] at hI
      exact ⟨hr, fin a w hI⟩
    | succ fuel ih =>
      intro p a w hp hf hI
      obtain ⟨hl, hrd, hemp⟩ := hall p hp
      refine ⟨fun hr => ?_, fun i hi => ?_⟩
      · have hp2 := hemp hr
        rw [hp2] at hI
        exact fin a w hI
      · have h1 := hrd i hi
        obtain ⟨o, ho⟩ : ∃ o, ops[i]? = some o := ⟨ops[i], by simp [h1.1]⟩
        refine wpOp_step ho fun K' hK => ?_
        refine step p a w i o hl hI ho h1.2.1 h1.2.2.1 K' fun a' w' hI' => hK a' w' ?_
        rw [List.setIfInBounds_toArray]
        exact ih (p.set i true) a' w' h1.2.2.2 (by have := count_set p i h1.2.1; omega) hI'
  refine wp_region_any hm ?_
  have := main ops.size (List.replicate ops.size false) a w.drew hstart (by simp) h0
  rw [List.toArray_replicate] at this
  exact this
/-- The check of take's region that goes on with a whole block: what must be done ahead of each of its operations. -/
def tkCond (i : Nat) (p : List Bool) : Bool := match i with
  | 2 => p.getD 1 false
  | 3 => p.getD 2 false
  | 4 => p.getD 3 false
  | 6 => p.getD 5 false
  | 7 => p.getD 6 false
  | 8 => p.getD 7 false
  | 9 => p.getD 4 false && p.getD 8 false
  | 10 => p.getD 0 false
  | 11 => p.getD 10 false
  | 12 => p.getD 11 false && p.getD 9 false
  | _ => true
end Go.Proofs.Ytlfppknpnfeplaa
