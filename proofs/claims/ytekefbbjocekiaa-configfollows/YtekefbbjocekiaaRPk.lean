/-
  A law for a region that draws the order of its operations, where memory only grows: what each operation yields is said by a condition that lasts, and each operation is shown once, from what those say that it waits for. It speaks of every program. No condition of its own.
-/
import Derived.Test.YtekefbbjocekiaaBk
import Derived.RegionTactic
namespace Go.Proofs.Ytekefbbjocekiaa
open Go.RowKit
set_option linter.unusedVariables false

def putL (D : List Nat) (f : Nat → Value) : Nat → List Value → List Value
  | _, [] => []
  | s, x :: r => (if s ∈ D then f (D.idxOf s) else x) :: putL D f (s + 1) r
theorem putL_get (D : List Nat) (f : Nat → Value) : ∀ (l : List Value) (s k : Nat), (putL D f s l)[k]? = l[k]?.map fun x => if s + k ∈ D then f (D.idxOf (s + k)) else x
  | [], s, k => by simp [putL]
  | x :: r, s, 0 => by simp [putL]
  | x :: r, s, k + 1 => by
    rw [putL, List.getElem?_cons_succ, List.getElem?_cons_succ, putL_get D f r (s + 1) k, show s + 1 + k = s + (k + 1) from by omega]
theorem putL_len (D : List Nat) (f : Nat → Value) : ∀ (l : List Value) (s : Nat), (putL D f s l).length = l.length
  | [], s => rfl
  | x :: r, s => by simp [putL, putL_len D f r (s + 1)]
/-- The frame, with the operations' own slots laid anew. -/
def putAll (a : Act) (D : List Nat) (f : Nat → Value) : Act := { a with tmps := (putL D f 0 a.tmps.toList).toArray }
theorem idxOf_nodup {D : List Nat} (hn : D.Nodup) {i : Nat} (hi : i < D.length) : D.idxOf (D.getD i 0) = i := by
  rw [List.getD_eq_getElem?_getD, List.getElem?_eq_getElem hi, Option.getD_some]
  exact List.Nodup.idxOf_getElem hn i hi
theorem put_putAll {a : Act} {D : List Nat} {f : Nat → Value} (hn : D.Nodup) {i : Nat} (hi : i < D.length) (v : Value) : (putAll a D f).put (some (D.getD i 0)) v = putAll a D (fun j => if j = i then v else f j) := by
  have hmem : D.getD i 0 ∈ D := by rw [List.getD_eq_getElem?_getD, List.getElem?_eq_getElem hi]; exact List.getElem_mem hi
  have hidx := idxOf_nodup hn hi
  unfold putAll Act.put
  simp only [List.setIfInBounds_toArray]
  refine congrArg (fun l : List Value => ({ tmps := l.toArray, defers := a.defers } : Act)) ?_
  apply List.ext_getElem?
  intro k
  rw [List.getElem?_set, putL_get, putL_get, putL_len]
  simp only [Nat.zero_add]
  by_cases hk : D.getD i 0 = k
  · subst hk
    rw [if_pos rfl]
    by_cases hl : D.getD i 0 < a.tmps.toList.length
    · rw [if_pos hl, List.getElem?_eq_getElem hl, Option.map_some, if_pos hmem, if_pos hidx]
    · rw [if_neg hl, List.getElem?_eq_none (by omega)]; rfl
  · rw [if_neg hk]
    congr 1
    funext x
    by_cases hm : k ∈ D
    · rw [if_pos hm, if_pos hm, if_neg]
      intro e
      apply hk
      have := List.getElem_idxOf (List.idxOf_lt_length_of_mem hm)
      rw [List.getD_eq_getElem?_getD, ← e, List.getElem?_eq_getElem (List.idxOf_lt_length_of_mem hm), Option.getD_some, this]
    · rw [if_neg hm, if_neg hm]
theorem put_none {a : Act} {D : List Nat} {f : Nat → Value} (hn : D.Nodup) {i : Nat} (hi : i < D.length) (hb : a.tmps.size ≤ D.getD i 0) (v : Value) : putAll a D f = putAll a D (fun j => if j = i then v else f j) := by
  have e : putL D f 0 a.tmps.toList = putL D (fun j => if j = i then v else f j) 0 a.tmps.toList := by
    apply List.ext_getElem?
    intro k
    rw [putL_get, putL_get]
    simp only [Nat.zero_add]
    rcases Nat.lt_or_ge k a.tmps.toList.length with h | h
    · rw [List.getElem?_eq_getElem h, Option.map_some, Option.map_some]
      by_cases hm : k ∈ D
      · rw [if_pos hm, if_pos hm, if_neg]
        intro e
        have h1 := List.getElem_idxOf (List.idxOf_lt_length_of_mem hm)
        have h2 : D.getD i 0 = k := by
          rw [List.getD_eq_getElem?_getD, ← e, List.getElem?_eq_getElem (List.idxOf_lt_length_of_mem hm), Option.getD_some, h1]
        rw [Array.length_toList] at h
        omega
      · rw [if_neg hm, if_neg hm]
    · rw [List.getElem?_eq_none h]; rfl
  unfold putAll
  rw [e]
theorem putAll_self (a : Act) (D : List Nat) : ∃ f, putAll a D f = a := by
  refine ⟨fun j => (a.tmps.toList[D.getD j 0]?).getD undef, ?_⟩
  unfold putAll
  have : putL D (fun j => (a.tmps.toList[D.getD j 0]?).getD undef) 0 a.tmps.toList = a.tmps.toList := by
    apply List.ext_getElem?
    intro k
    rw [putL_get, Nat.zero_add]
    rcases Nat.lt_or_ge k a.tmps.toList.length with h | h
    · rw [List.getElem?_eq_getElem h, Option.map_some]
      by_cases hm : k ∈ D
      · rw [if_pos hm]
        have h1 := List.getElem_idxOf (List.idxOf_lt_length_of_mem hm)
        rw [List.getD_eq_getElem?_getD, List.getElem?_eq_getElem (List.idxOf_lt_length_of_mem hm), Option.getD_some, h1, List.getElem?_eq_getElem h, Option.getD_some]
      · rw [if_neg hm]
    · rw [List.getElem?_eq_none h]; rfl
  rw [this]
/-- Which slots the operations lay, which others each waits for: told off the text. -/
def phiB (ops : Array Oper) (D : List Nat) (use : List (List Nat)) : Bool :=
  decide (D.length = ops.size) && decide D.Nodup && (List.range ops.size).all fun i =>
    match ops[i]? with
    | none => false
    | some o => (o.dst == some (D.getD i 0) || (o.dst == none && decide (100000 ≤ D.getD i 0))) && o.after.toList.all (fun e => !(Region.binds .any e) || decide (e.on < i)) && (use.getD i []).all (fun j => o.after.toList.any fun e => Region.binds .any e && (e.on == j))
theorem phi_spec {ops : Array Oper} {D : List Nat} {use : List (List Nat)} (h : phiB ops D use = true) : D.length = ops.size ∧ D.Nodup ∧ ∀ i o, ops[i]? = some o → (o.dst = some (D.getD i 0) ∨ (o.dst = none ∧ 100000 ≤ D.getD i 0)) ∧ (∀ e ∈ o.after, Region.binds .any e = true → e.on < i) ∧ ∀ j ∈ use.getD i [], ∃ e ∈ o.after, Region.binds .any e = true ∧ e.on = j := by
  unfold phiB at h
  rw [Bool.and_eq_true, Bool.and_eq_true] at h
  refine ⟨of_decide_eq_true h.1.1, of_decide_eq_true h.1.2, fun i o ho => ?_⟩
  have hi : i < ops.size := (Array.getElem?_eq_some_iff.1 ho).1
  have h2 := List.all_eq_true.1 h.2 i (List.mem_range.2 hi)
  rw [ho] at h2
  simp only [Bool.and_eq_true, Bool.or_eq_true, beq_iff_eq, decide_eq_true_eq, List.all_eq_true, List.any_eq_true, Array.mem_toList_iff] at h2
  exact ⟨h2.1.1, (fun e he hb => by rcases h2.1.2 e he with h3 | h3; (rw [hb] at h3; simp at h3); exact h3), fun j hj => by
    obtain ⟨e, he, h3, h4⟩ := h2.2 j hj
    exact ⟨e, he, h3, h4⟩⟩
theorem cnt_set (p : List Bool) (i : Nat) (h : p.getD i true = false) : (p.set i true).count false < p.count false := by
  induction p generalizing i with
  | nil => simp at h
  | cons b p ih =>
    cases i with
    | zero => have hb : b = false := by simpa using h
              subst hb; simp
    | succ i =>
      have := ih i (by simpa using h)
      rw [List.set_cons_succ, List.count_cons, List.count_cons]; omega
theorem wp_region_rel {P : Program} {ops : Array Oper} {Q : Exit → Act → World → Prop} {id : Nat} {a : Act} {w : World} (rel : World → World → Prop) (rrefl : ∀ W, rel W W) (rtrans : ∀ a b c, rel a b → rel b c → rel a c) (rdrew : rel w w.drew) (hsz : decide (a.tmps.size ≤ 100000) = true) (hm : P.follows .mixedOrders = true) (D : List Nat) (use : List (List Nat)) (hc : phiB ops D use = true) (Φ : List (Value → World → Prop))
    (stable : ∀ i v W W', (Φ.getD i (fun _ _ => True)) v W → rel W W' → (Φ.getD i (fun _ _ => True)) v W')
    (step : ∀ f W A, A = putAll a D f → rel w W → ∀ i o, ops[i]? = some o → (∀ j ∈ use.getD i [], (Φ.getD j (fun _ _ => True)) (f j) W) →
      ∀ K : Act → World → Prop, (∀ v W', rel W W' → (Φ.getD i (fun _ _ => True)) v W' → K (A.put o.dst v) W') → if Region.wanted o (yielded ops A.tmps) = true then Oper.wp P o A W K Q else K (A.put o.dst undef) W)
    (fin : ∀ f W A, A = putAll a D f → rel w W → (∀ j, j < ops.size → (Φ.getD j (fun _ _ => True)) (f j) W) → Q .normal A W) : (Code.region id ops true).wp P Q a w := by
  obtain ⟨hl, hnd, hsp⟩ := phi_spec hc
  have main : ∀ (fuel : Nat) (p : List Bool) (A : Act) (W : World) (f : Nat → Value), p.length = ops.size → p.count false ≤ fuel → A = putAll a D f → rel w W → (∀ j, j < ops.size → p.getD j false = true → (Φ.getD j (fun _ _ => True)) (f j) W) → wpAny P .any ops Q fuel p.toArray A W := by
    have hdone : ∀ p : List Bool, p.length = ops.size → Region.ready .any ops p.toArray = [] → ∀ j, j < ops.size → p.getD j false = true := by
      intro p hp hr j
      induction j using Nat.strongRecOn with
      | ind j ih =>
        intro hj
        cases hq : p.getD j false with
        | true => rfl
        | false =>
          exfalso
          obtain ⟨o, ho⟩ : ∃ o, ops[j]? = some o := ⟨ops[j], by simp [hj]⟩
          have : j ∈ Region.ready .any ops p.toArray := by
            refine mem_ready.2 ⟨?_, o, ho, fun e he hb => ?_⟩
            · have hj' : j < p.length := by omega
              simpa [List.getD_eq_getElem?_getD, hj'] using hq
            · have h1 := ih e.on ((hsp j o ho).2.1 e he hb) (by have := (hsp j o ho).2.1 e he hb; omega)
              have he' : e.on < p.length := by have := (hsp j o ho).2.1 e he hb; omega
              simpa [List.getD_eq_getElem?_getD, he'] using h1
          rw [hr] at this
          cases this
    intro fuel
    induction fuel with
    | zero =>
      intro p A W f hp hf hA hg hI
      have hr : Region.ready .any ops p.toArray = [] := by
        rcases hq : Region.ready .any ops p.toArray with _ | ⟨i, r⟩
        · rfl
        · have := (mem_ready.1 (show i ∈ Region.ready .any ops p.toArray by rw [hq]; simp)).1
          have := cnt_set p i (by simpa [List.getD_eq_getElem?_getD] using this)
          omega
      exact ⟨hr, fin f W A hA hg fun j hj => hI j hj (hdone p hp hr j hj)⟩
    | succ fuel ih =>
      intro p A W f hp hf hA hg hI
      refine ⟨fun hr => fin f W A hA hg fun j hj => hI j hj (hdone p hp hr j hj), fun i hi => ?_⟩
      obtain ⟨hun, o, ho, hall⟩ := mem_ready.1 hi
      have hil : i < ops.size := (Array.getElem?_eq_some_iff.1 ho).1
      have hun' : p.getD i true = false := by simpa [List.getD_eq_getElem?_getD] using hun
      refine wpOp_step ho fun K' hK => ?_
      refine step f W A hA hg i o ho (fun j hj => ?_) K' fun v W' hg' hv => hK _ _ ?_
      · obtain ⟨e, he, hb, rfl⟩ := (hsp i o ho).2.2 j hj
        have h1 := hall e he hb
        have h2 := (hsp i o ho).2.1 e he hb
        refine hI _ (by omega) ?_
        simpa [List.getD_eq_getElem?_getD] using h1
      · rw [List.setIfInBounds_toArray]
        refine ih (p.set i true) _ W' (fun j => if j = i then v else f j) (by simpa using hp) (by have := cnt_set p i hun'; omega) ?_ (rtrans _ _ _ hg hg') ?_
        · rcases (hsp i o ho).1 with hd | ⟨hd, hd2⟩
          · rw [hA, hd]; exact put_putAll hnd (by omega) v
          · rw [hA, hd]
            exact put_none hnd (by omega) (Nat.le_trans (of_decide_eq_true hsz) hd2) v
        · intro j hj hpj
          by_cases hji : j = i
          · subst hji; simp only [if_true]; exact hv
          · simp only [hji, if_false]
            refine stable _ _ _ _ (hI j hj ?_) hg'
            rw [List.getD_eq_getElem?_getD, List.getElem?_set] at hpj
            rw [if_neg (fun e => hji e.symm)] at hpj
            rw [List.getD_eq_getElem?_getD]; exact hpj
  refine wp_region_any hm ?_
  obtain ⟨f, hf⟩ := putAll_self a D
  have := main ops.size (List.replicate ops.size false) a w.drew f (by simp) (by simp) hf.symm rdrew (by
    intro j hj h
    simp [List.getD_eq_getElem?_getD, hj] at h)
  rw [List.toArray_replicate] at this
  exact this
theorem wp_region_phi {P : Program} {ops : Array Oper} {Q : Exit → Act → World → Prop} {id : Nat} {a : Act} {w : World} (row : Option Nat) (hsz : decide (a.tmps.size ≤ 100000) = true) (hm : P.follows .mixedOrders = true) (D : List Nat) (use : List (List Nat)) (hc : phiB ops D use = true) (Φ : List (Value → World → Prop))
    (stable : ∀ i v W W', (Φ.getD i (fun _ _ => True)) v W → W.grownBy W' row → (Φ.getD i (fun _ _ => True)) v W')
    (step : ∀ f W A, A = putAll a D f → w.grownBy W row → ∀ i o, ops[i]? = some o → (∀ j ∈ use.getD i [], (Φ.getD j (fun _ _ => True)) (f j) W) →
      ∀ K : Act → World → Prop, (∀ v W', W.grownBy W' row → (Φ.getD i (fun _ _ => True)) v W' → K (A.put o.dst v) W') → if Region.wanted o (yielded ops A.tmps) = true then Oper.wp P o A W K Q else K (A.put o.dst undef) W)
    (fin : ∀ f W A, A = putAll a D f → w.grownBy W row → (∀ j, j < ops.size → (Φ.getD j (fun _ _ => True)) (f j) W) → Q .normal A W) : (Code.region id ops true).wp P Q a w :=
  wp_region_rel (fun W W' => W.grownBy W' row) (fun W => ⟨rfl, rfl, rfl, Nat.le_refl _, fun _ _ _ => rfl⟩) (fun _ _ _ h k => gb_trans h k) ⟨rfl, rfl, rfl, Nat.le_refl _, fun _ _ _ => rfl⟩ hsz hm D use hc Φ stable step fin
end Go.Proofs.Ytekefbbjocekiaa
