/-
  A law for a region that draws the order of its operations, over any condition of which operations are done, what they yielded and the world: each operation is shown once, from what it waits for. It speaks of every program. No condition of its own.
-/
import Derived.Test.YtekefbbjocekiaaRPk
namespace Go.Proofs.Ytekefbbjocekiaa
open Go.RowKit
set_option linter.unusedVariables false

theorem set_getD (p : List Bool) (i : Nat) (hi : i < p.length) : (fun j => (p.set i true).getD j false) = fun j => if j = i then true else p.getD j false := by
  funext j
  rw [List.getD_eq_getElem?_getD, List.getElem?_set]
  by_cases h : j = i
  · subst h; simp [hi]
  · rw [if_neg (fun e => h e.symm), if_neg h, List.getD_eq_getElem?_getD]
theorem wp_region_free {P : Program} {ops : Array Oper} {Q : Exit → Act → World → Prop} {id : Nat} {a : Act} {w : World} (hsz : decide (a.tmps.size ≤ 100000) = true) (hm : P.follows .mixedOrders = true) (D : List Nat) (use : List (List Nat)) (hc : phiB ops D use = true) (Inv : (Nat → Bool) → (Nat → Value) → World → Prop)
    (h0 : ∀ f, Inv (fun _ => false) f w.drew)
    (step : ∀ q f W A, A = putAll a D f → Inv q f W → ∀ i o, ops[i]? = some o → q i = false → (∀ j ∈ use.getD i [], q j = true) →
      ∀ K : Act → World → Prop, (∀ v W', Inv (fun j => if j = i then true else q j) (fun j => if j = i then v else f j) W' → K (A.put o.dst v) W') → if Region.wanted o (yielded ops A.tmps) = true then Oper.wp P o A W K Q else K (A.put o.dst undef) W)
    (fin : ∀ q f W A, A = putAll a D f → Inv q f W → (∀ j, j < ops.size → q j = true) → Q .normal A W) : (Code.region id ops true).wp P Q a w := by
  obtain ⟨hl, hnd, hsp⟩ := phi_spec hc
  have main : ∀ (fuel : Nat) (p : List Bool) (A : Act) (W : World) (f : Nat → Value), p.length = ops.size → p.count false ≤ fuel → A = putAll a D f → Inv (fun j => p.getD j false) f W → wpAny P .any ops Q fuel p.toArray A W := by
    have hdone : ∀ p : List Bool, p.length = ops.size → Region.ready .any ops p.toArray = [] → ∀ j, j < ops.size → p.getD j false = true := by
      intro p hp hr j
      induction j using Nat.strongRecOn with
      | ind j ih =>
        intro hj
        cases hq : p.getD j false with
        | true => rfl
        | false =>
          exfalso
          obtain ⟨o, ho⟩ : ∃ o, ops[j]? = some o := ⟨ops[j], by simp [hj]⟩
          have : j ∈ Region.ready .any ops p.toArray := by
            refine mem_ready.2 ⟨?_, o, ho, fun e he hb => ?_⟩
            · have hj' : j < p.length := by omega
              simpa [List.getD_eq_getElem?_getD, hj'] using hq
            · have h1 := ih e.on ((hsp j o ho).2.1 e he hb) (by have := (hsp j o ho).2.1 e he hb; omega)
              have he' : e.on < p.length := by have := (hsp j o ho).2.1 e he hb; omega
              simpa [List.getD_eq_getElem?_getD, he'] using h1
          rw [hr] at this
          cases this
    intro fuel
    induction fuel with
    | zero =>
      intro p A W f hp hf hA hI
      have hr : Region.ready .any ops p.toArray = [] := by
        rcases hq : Region.ready .any ops p.toArray with _ | ⟨i, r⟩
        · rfl
        · have := (mem_ready.1 (show i ∈ Region.ready .any ops p.toArray by rw [hq]; simp)).1
          have := cnt_set p i (by simpa [List.getD_eq_getElem?_getD] using this)
          omega
      exact ⟨hr, fin _ f W A hA hI (hdone p hp hr)⟩
    | succ fuel ih =>
      intro p A W f hp hf hA hI
      refine ⟨fun hr => fin _ f W A hA hI (hdone p hp hr), fun i hi => ?_⟩
      obtain ⟨hun, o, ho, hall⟩ := mem_ready.1 hi
      have hil : i < ops.size := (Array.getElem?_eq_some_iff.1 ho).1
      have hun' : p.getD i true = false := by simpa [List.getD_eq_getElem?_getD] using hun
      have hun2 : p.getD i false = false := by
        have hj' : i < p.length := by omega
        rw [List.getD_eq_getElem?_getD, List.getElem?_eq_getElem hj', Option.getD_some] at hun' ⊢
        exact hun'
      refine wpOp_step ho fun K' hK => ?_
      refine step _ f W A hA hI i o ho hun2 (fun j hj => ?_) K' fun v W' hv => hK _ _ ?_
      · obtain ⟨e, he, hb, rfl⟩ := (hsp i o ho).2.2 j hj
        have h1 := hall e he hb
        simpa [List.getD_eq_getElem?_getD] using h1
      · rw [List.setIfInBounds_toArray]
        refine ih (p.set i true) _ W' (fun j => if j = i then v else f j) (by simpa using hp) (by have := cnt_set p i hun'; omega) ?_ ?_
        · rcases (hsp i o ho).1 with hd | ⟨hd, hd2⟩
          · rw [hA, hd]; exact put_putAll hnd (by omega) v
          · rw [hA, hd]
            exact put_none hnd (by omega) (Nat.le_trans (of_decide_eq_true hsz) hd2) v
        · rw [set_getD p i (by omega)]
          exact hv
  refine wp_region_any hm ?_
  obtain ⟨f, hf⟩ := putAll_self a D
  have e : (fun j => (List.replicate ops.size false).getD j false) = fun _ => false := by
    funext j
    rw [List.getD_eq_getElem?_getD, List.getElem?_replicate]
    split <;> rfl
  have := main ops.size (List.replicate ops.size false) a w.drew f (by simp) (by simp) hf.symm (by rw [e]; exact h0 f)
  rw [List.toArray_replicate] at this
  exact this
end Go.Proofs.Ytekefbbjocekiaa
