/-
  The law of RLk for a region one of whose operations may write what the others do not read behind it, and whose last operation waits for all. It speaks of every program. No condition of its own.
-/
import Derived.Test.YteoohgjoffpmkaaRLf
namespace Go.Proofs.Yteoohgjoffpmkaa
open Go.RowKit
set_option linter.unusedVariables false

/-- Each of these is done ahead of operation m. -/
def aheadB (ops : Array Oper) (m : Nat) (R : List Nat) : Bool := R.all fun i => (m :: R).any fun j => decide (i < j) && decide (j ≤ m) && match ops[j]? with
  | none => false
  | some o => o.after.toList.any fun e => Region.binds .any e && (e.on == i)
theorem ahead_spec {ops : Array Oper} {m : Nat} {R : List Nat} (h : aheadB ops m R = true) : ∀ i ∈ R, ∃ j o, (j = m ∨ j ∈ R) ∧ i < j ∧ j ≤ m ∧ ops[j]? = some o ∧ ∃ e ∈ o.after, Region.binds .any e = true ∧ e.on = i := by
  intro i hi
  have h1 := List.all_eq_true.1 h i hi
  obtain ⟨j, hj, h2⟩ := List.any_eq_true.1 h1
  rw [Bool.and_eq_true, Bool.and_eq_true] at h2
  obtain ⟨⟨h3, h4⟩, h5⟩ := h2
  cases ho : ops[j]? with
  | none => rw [ho] at h5; cases h5
  | some o =>
    rw [ho] at h5
    obtain ⟨e, he, h6⟩ := List.any_eq_true.1 h5
    rw [Bool.and_eq_true] at h6
    exact ⟨j, o, by simpa using hj, of_decide_eq_true h3, of_decide_eq_true h4, ho, e, by simpa using he, h6.1, by simpa using h6.2⟩
theorem wp_region_lastB {P : Program} {ops : Array Oper} {Q : Exit → Act → World → Prop} {id : Nat} {a : Act} {w : World} (rel rel0 relA : World → World → Prop) (rtrans : ∀ a b c, rel a b → rel b c → rel a c) (r0 : ∀ a b, rel0 a b → rel a b) (rA : ∀ a b, relA a b → rel a b) (rdrew : rel w w.drew) (r0trans : ∀ a b c, rel0 a b → rel0 b c → rel0 a c) (r0drew : rel0 w w.drew) (n m : Nat) (hsz : decide (a.tmps.size ≤ 100000) = true) (hm : P.follows .mixedOrders = true) (D : List Nat) (use : List (List Nat)) (hc : phiB ops D use = true) (hl1 : lastB ops n = true) (R : List Nat) (hR : aheadB ops m R = true) (Φ : List (Value → World → Prop))
    (stable : ∀ i v W W', (Φ.getD i (fun _ _ => True)) v W → rel0 W W' → (Φ.getD i (fun _ _ => True)) v W')
    (stableA : ∀ i v W W', i ≠ m → m ∉ use.getD i [] → (Φ.getD i (fun _ _ => True)) v W → relA W W' → (Φ.getD i (fun _ _ => True)) v W')
    (step : ∀ f W A, A = putAll a D f → rel w W → ∀ i o, (i < n ∧ ((i = m ∨ i ∈ R) → rel0 w W)) → ops[i]? = some o → (∀ j ∈ use.getD i [], (Φ.getD j (fun _ _ => True)) (f j) W) →
      ∀ K : Act → World → Prop, (∀ v W', (if i = m then relA W W' else rel0 W W') → (Φ.getD i (fun _ _ => True)) v W' → K (A.put o.dst v) W') → if Region.wanted o (yielded ops A.tmps) = true then Oper.wp P o A W K Q else K (A.put o.dst undef) W)
    (last : ∀ f W A, A = putAll a D f → rel w W → (∀ j, j < n → (Φ.getD j (fun _ _ => True)) (f j) W) → ∀ o, ops[n]? = some o →
      ∀ K : Act → World → Prop, (∀ A' W', Q .normal A' W' → K A' W') → if Region.wanted o (yielded ops A.tmps) = true then Oper.wp P o A W K Q else K (A.put o.dst undef) W) : (Code.region id ops true).wp P Q a w := by
  obtain ⟨hl, hnd, hsp⟩ := phi_spec hc
  obtain ⟨hs1, hwait⟩ := last_spec hl1
  have main : ∀ (fuel : Nat) (p : List Bool) (A : Act) (W : World) (f : Nat → Value), p.length = ops.size → p.count false ≤ fuel → A = putAll a D f → rel w W → (p.getD m false = false → rel0 w W) → p.getD n false = false →
      (∀ j o, ops[j]? = some o → p.getD j false = true → ∀ e ∈ o.after, Region.binds .any e = true → p.getD e.on false = true) → (∀ j, j < ops.size → p.getD j false = true → (Φ.getD j (fun _ _ => True)) (f j) W) → wpAny P .any ops Q fuel p.toArray A W := by
    have hcl : ∀ p : List Bool, p.length = ops.size → (∀ j o, ops[j]? = some o → p.getD j false = true → ∀ e ∈ o.after, Region.binds .any e = true → p.getD e.on false = true) → n ∈ Region.ready .any ops p.toArray → ∀ k i, n - i ≤ k → i < n → p.getD i false = true := by
      intro p hp hcl hr k
      obtain ⟨_, on, hon, hall⟩ := mem_ready.1 hr
      induction k with
      | zero => intro i h1 h2; omega
      | succ k ih =>
        intro i h1 h2
        obtain ⟨j, o, hij, hjn, ho, e, he, hb, hei⟩ := hwait i h2
        rcases Nat.lt_or_ge j n with hj | hj
        · have := hcl j o ho (ih j (by omega) hj) e he hb
          rwa [hei] at this
        · obtain rfl : j = n := by omega
          have e1 : on = o := Option.some.inj (hon.symm.trans ho)
          subst e1
          have := hall e he hb
          rw [hei] at this
          simpa [List.getD_eq_getElem?_getD] using this
    have hsome : ∀ p : List Bool, p.length = ops.size → p.getD n false = false → Region.ready .any ops p.toArray ≠ [] := by
      intro p hp hn hr
      have hdone : ∀ j, j < ops.size → p.getD j false = true := by
        intro j
        induction j using Nat.strongRecOn with
        | ind j ih =>
          intro hj
          cases hq : p.getD j false with
          | true => rfl
          | false =>
            exfalso
            obtain ⟨o, ho⟩ : ∃ o, ops[j]? = some o := ⟨ops[j], by simp [hj]⟩
            have : j ∈ Region.ready .any ops p.toArray := by
              refine mem_ready.2 ⟨?_, o, ho, fun e he hb => ?_⟩
              · have hj' : j < p.length := by omega
                simpa [List.getD_eq_getElem?_getD, hj'] using hq
              · have h1 := ih e.on ((hsp j o ho).2.1 e he hb) (by have := (hsp j o ho).2.1 e he hb; omega)
                have he' : e.on < p.length := by have := (hsp j o ho).2.1 e he hb; omega
                simpa [List.getD_eq_getElem?_getD, he'] using h1
            rw [hr] at this
            cases this
      rw [hdone n (by omega)] at hn
      cases hn
    intro fuel
    induction fuel with
    | zero =>
      intro p A W f hp hf hA hg hz hn hC hI
      exfalso
      have : p.count false ≠ 0 := by
        intro h0
        have := List.count_eq_zero.1 h0
        apply this
        have hnl : n < p.length := by omega
        rw [List.getD_eq_getElem?_getD, List.getElem?_eq_getElem hnl, Option.getD_some] at hn
        rw [← hn]; exact List.getElem_mem hnl
      omega
    | succ fuel ih =>
      intro p A W f hp hf hA hg hz hn hC hI
      refine ⟨fun hr => absurd hr (hsome p hp hn), fun i hi => ?_⟩
      obtain ⟨hun, o, ho, hall⟩ := mem_ready.1 hi
      have hil : i < ops.size := (Array.getElem?_eq_some_iff.1 ho).1
      have hun' : p.getD i true = false := by simpa [List.getD_eq_getElem?_getD] using hun
      by_cases hin : i = n
      · subst hin
        have hall' := hcl p hp hC hi (i + 1)
        refine wpOp_step ho fun K' hK => ?_
        refine last f W A hA hg (fun j hj => hI j (by omega) (hall' j (by omega) hj)) o ho K' fun A' W' hq => hK _ _ ?_
        rw [List.setIfInBounds_toArray]
        have hdn : Region.ready .any ops (p.set i true).toArray = [] := by
          rw [List.eq_nil_iff_forall_not_mem]
          intro j hj
          have h1 := (mem_ready.1 hj).1
          obtain ⟨_, oj, hoj, _⟩ := mem_ready.1 hj
          have hjl : j < ops.size := (Array.getElem?_eq_some_iff.1 hoj).1
          have h2 : (p.set i true).getD j true = false := by simpa [List.getD_eq_getElem?_getD] using h1
          rw [List.getD_eq_getElem?_getD, List.getElem?_set] at h2
          by_cases hji : i = j
          · subst hji
            rw [if_pos rfl, if_pos (by omega)] at h2
            cases h2
          · rw [if_neg hji] at h2
            have h3 := hall' j (by omega) (by omega)
            have hjp : j < p.length := by omega
            rw [List.getD_eq_getElem?_getD, List.getElem?_eq_getElem hjp, Option.getD_some] at h3
            rw [List.getElem?_eq_getElem hjp, Option.getD_some, h3] at h2
            cases h2
        cases fuel with
        | zero => exact ⟨hdn, hq⟩
        | succ fuel => exact ⟨fun _ => hq, fun j hj => by rw [hdn] at hj; cases hj⟩
      · have hzm : (i = m ∨ i ∈ R) → rel0 w W := fun e => hz (by
          have hip : i < p.length := by omega
          have hnd' : p.getD i false = false := by
            rw [List.getD_eq_getElem?_getD, List.getElem?_eq_getElem hip] at hun' ⊢
            exact hun'
          cases hmz : p.getD m false with
          | false => rfl
          | true =>
            exfalso
            have hdn : ∀ k i, m - i ≤ k → (i = m ∨ i ∈ R) → p.getD i false = true := by
              intro k
              induction k with
              | zero =>
                intro i h1 h2
                rcases h2 with rfl | h2
                · exact hmz
                · obtain ⟨j, o, h3, h4, h5, _⟩ := ahead_spec hR i h2
                  omega
              | succ k ih =>
                intro i h1 h2
                rcases h2 with rfl | h2
                · exact hmz
                · obtain ⟨j, o, h3, h4, h5, h6, e, h7, h8, h9⟩ := ahead_spec hR i h2
                  have := hC j o h6 (ih j (by omega) h3) e h7 h8
                  rwa [h9] at this
            have := hdn (m - i) i (Nat.le_refl _) e
            rw [this] at hnd'
            cases hnd')
        refine wpOp_step ho fun K' hK => ?_
        refine step f W A hA hg i o ⟨by omega, hzm⟩ ho (fun j hj => ?_) K' fun v W' hg' hv => hK _ _ ?_
        · obtain ⟨e, he, hb, rfl⟩ := (hsp i o ho).2.2 j hj
          have h1 := hall e he hb
          have h2 := (hsp i o ho).2.1 e he hb
          refine hI _ (by omega) ?_
          simpa [List.getD_eq_getElem?_getD] using h1
        · have hgt : rel W W' := by
            by_cases him : i = m
            · rw [if_pos him] at hg'; exact rA _ _ hg'
            · rw [if_neg him] at hg'; exact r0 _ _ hg'
          rw [List.setIfInBounds_toArray]
          have hset : ∀ j, (p.set i true).getD j false = true → j = i ∨ p.getD j false = true := by
            intro j hj
            by_cases hji : j = i
            · exact .inl hji
            · right
              rw [List.getD_eq_getElem?_getD, List.getElem?_set, if_neg (fun e => hji e.symm)] at hj
              rw [List.getD_eq_getElem?_getD]; exact hj
          have hset2 : ∀ j, p.getD j false = true → (p.set i true).getD j false = true := by
            intro j hj
            rw [List.getD_eq_getElem?_getD, List.getElem?_set]
            by_cases hji : i = j
            · rw [if_pos hji, if_pos (by omega)]; rfl
            · rw [if_neg hji]; rw [List.getD_eq_getElem?_getD] at hj; exact hj
          refine ih (p.set i true) _ W' (fun j => if j = i then v else f j) (by simpa using hp) (by have := cnt_set p i hun'; omega) ?_ (rtrans _ _ _ hg hgt) (fun hmz => ?_) ?_ ?_ ?_
          · rcases (hsp i o ho).1 with hd | ⟨hd, hd2⟩
            · rw [hA, hd]; exact put_putAll hnd (by omega) v
            · rw [hA, hd]
              exact put_none hnd (by omega) (Nat.le_trans (of_decide_eq_true hsz) hd2) v
          · have him : i ≠ m := fun e => by
              subst e
              rw [List.getD_eq_getElem?_getD, List.getElem?_set, if_pos rfl, if_pos (by omega)] at hmz
              cases hmz
            have h1 : p.getD m false = false := by
              rw [List.getD_eq_getElem?_getD, List.getElem?_set, if_neg him] at hmz
              rw [List.getD_eq_getElem?_getD]; exact hmz
            rw [if_neg him] at hg'
            exact r0trans _ _ _ (hz h1) hg'
          · rw [List.getD_eq_getElem?_getD, List.getElem?_set, if_neg hin]
            rw [List.getD_eq_getElem?_getD] at hn; exact hn
          · intro j oj hoj hpj e he hb
            rcases hset j hpj with rfl | hpj
            · have e1 : o = oj := Option.some.inj (ho.symm.trans hoj)
              subst e1
              have h1 := hall e he hb
              exact hset2 _ (by simpa [List.getD_eq_getElem?_getD] using h1)
            · exact hset2 _ (hC j oj hoj hpj e he hb)
          · intro j hj hpj
            by_cases hji : j = i
            · subst hji; simp only [if_true]; exact hv
            · simp only [hji, if_false]
              rcases hset j hpj with h1 | h1
              · exact absurd h1 hji
              · by_cases him : i = m
                · rw [if_pos him] at hg'; refine stableA _ _ _ _ (fun e => hji (e.trans him.symm)) (fun hmem => ?_) (hI j hj h1) hg'
                  obtain ⟨oj, hoj⟩ : ∃ oj, ops[j]? = some oj := ⟨ops[j], by simp [hj]⟩
                  obtain ⟨e, he, hb, hem⟩ := (hsp j oj hoj).2.2 m hmem
                  have h5 := hC j oj hoj h1 e he hb
                  rw [hem, ← him] at h5
                  have hip : i < p.length := by omega
                  rw [List.getD_eq_getElem?_getD, List.getElem?_eq_getElem hip, Option.getD_some] at h5
                  rw [List.getD_eq_getElem?_getD, List.getElem?_eq_getElem hip, Option.getD_some, h5] at hun'
                  cases hun'
                · rw [if_neg him] at hg'; exact stable _ _ _ _ (hI j hj h1) hg'
  refine wp_region_any hm ?_
  obtain ⟨f, hf⟩ := putAll_self a D
  have hrep : ∀ j, (List.replicate ops.size false).getD j false = false := fun j => by
    simp only [List.getD_eq_getElem?_getD, List.getElem?_replicate]; split <;> rfl
  have := main ops.size (List.replicate ops.size false) a w.drew f (by simp) (by simp) hf.symm rdrew (fun _ => r0drew) (hrep n) (fun j o _ h => by rw [hrep] at h; cases h) (fun j _ h => by rw [hrep] at h; cases h)
  rw [List.toArray_replicate] at this
  exact this
end Go.Proofs.Yteoohgjoffpmkaa
