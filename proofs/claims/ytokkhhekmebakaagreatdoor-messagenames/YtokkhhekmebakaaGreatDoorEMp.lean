/-
  Maps keyed by integers, as functions from integers to values: look-up and store. No condition of its own.
-/
import Derived.Test.YtokkhhekmebakaaGreatDoorRows
import Derived.Test.YtokkhhekmebakaaGreatDoorEFe
import Derived.MapKept
namespace Go.Proofs.YtokkhhekmebakaaGreatDoor
open Go.RowKit
set_option linter.unusedVariables false

/-- A map in a block, as a function. -/
def MpI (w : World) (b : Nat) (V : Int → Option Value) : Prop :=
  ∃ es c, w.heap[b]? = some (.map es c) ∧ MapKept.Stamped es c ∧ (∀ x ∈ es.toList, MapKept.IsKey (.int .i64) x.key) ∧ ∀ s v, V s = some v ↔ ∃ x ∈ es.toList, x.key = .int .i64 s ∧ x.val = v
def fset {α : Type} (V : Int → Option α) (s : Int) (v : Option α) : Int → Option α := fun t => if t = s then v else V t
theorem fset_same {α : Type} (V : Int → Option α) (s : Int) (v : Option α) : fset V s v s = v := by simp [fset]
theorem fset_other {α : Type} (V : Int → Option α) (s t : Int) (v : Option α) (h : t ≠ s) : fset V s v t = V t := by simp [fset, h]
theorem nodup_get {α : Type} {l : List α} (h : l.Nodup) {i j : Nat} {a : α} (hi : l[i]? = some a) (hj : l[j]? = some a) : i = j := by
  obtain ⟨h1, h2⟩ := List.getElem?_eq_some_iff.1 hi
  obtain ⟨h3, h4⟩ := List.getElem?_eq_some_iff.1 hj
  rcases Nat.lt_trichotomy i j with hlt | heq | hgt
  · exact absurd (h2.trans h4.symm) (List.pairwise_iff_getElem.1 h i j h1 h3 hlt)
  · exact heq
  · exact absurd (h4.trans h2.symm) (List.pairwise_iff_getElem.1 h j i h3 h1 hgt)
theorem isKey_int (s : Int) : MapKept.IsKey (.int .i64) (.int .i64 s) := rfl
theorem MpI.lt {w b V} (h : MpI w b V) : b < w.heap.size := by
  obtain ⟨es, c, hb, _⟩ := h
  exact lt_of_block hb
theorem MpI.gr {G : Nat → Prop} {w w' : World} {b V} (h : MpI w b V) (hg : Gr G w w') (hn : ¬ G b) : MpI w' b V := by
  obtain ⟨es, c, hb, r⟩ := h
  exact ⟨es, c, (hg.block b (lt_of_block hb) hn).trans hb, r⟩
theorem mpi_new (w : World) : MpI (w.alloc (.map #[] 0)) w.heap.size (fun _ => none) :=
  ⟨#[], 0, heap_new w _, MapKept.stamped_empty 0, by simp, by simp⟩
/-- Which entry a text has. -/
theorem mpi_find {es : Array MapEntry} {V : Int → Option Value} (hk : ∀ x ∈ es.toList, MapKept.IsKey (.int .i64) x.key) (hV : ∀ s v, V s = some v ↔ ∃ x ∈ es.toList, x.key = .int .i64 s ∧ x.val = v) (s : Int) :
    (Instr.findNow (.int .i64) (.int .i64 s) es.toList 0 = some none ∧ (∀ x ∈ es.toList, x.key ≠ .int .i64 s) ∧ V s = none) ∨ ∃ j e, Instr.findNow (.int .i64) (.int .i64 s) es.toList 0 = some (some (j, e.val)) ∧ es.toList[j]? = some e ∧ e.key = .int .i64 s ∧ V s = some e.val := by
  rcases MapKept.findNow_spec (isKey_int s) es.toList 0 hk with ⟨h1, h2⟩ | ⟨j, e, h1, h2, h3⟩
  · refine .inl ⟨h1, h2, ?_⟩
    cases hv : V s with
    | none => rfl
    | some v => obtain ⟨x, hx, hx2, _⟩ := (hV s v).1 hv; exact absurd hx2 (h2 x hx)
  · exact .inr ⟨j, e, by simpa using h1, h2, h3, (hV s e.val).2 ⟨e, List.mem_of_getElem? h2, h3, rfl⟩⟩
section
variable {P : Program} {T K E : TypeId}
theorem mpi_look (hT : P.underlying T = some (.map K E)) (hK : P.underlying K = some (.int .i64)) {w : World} {b : Nat} {V} (h : MpI w b V) (z : Value) (hz : (zeroValue E).run P w = .ok z w) (s : Int) (ok : Bool) :
    (Instr.lookup T (.map (some b)) (.int .i64 s) ok).run P w = .ok (if ok then .tuple #[(V s).getD z, .bool (V s).isSome] else (V s).getD z) w := by
  obtain ⟨es, c, hb, _, hk, hV⟩ := h
  rcases mpi_find hk hV s with ⟨h1, _, h2⟩ | ⟨j, e, h1, _, _, h2⟩
  · simp [Instr.lookup, run_underlying hT, MapKept.run_getObj_map hb, MapKept.run_checkKey hK (isKey_int s), MapKept.run_findKey hK h1, hz, h2]
  · simp [Instr.lookup, run_underlying hT, MapKept.run_getObj_map hb, MapKept.run_checkKey hK (isKey_int s), MapKept.run_findKey hK h1, h2]
theorem mpi_upd (hT : P.underlying T = some (.map K E)) (hK : P.underlying K = some (.int .i64)) {w : World} {b : Nat} {V} (h : MpI w b V) (s : Int) (v : Value) :
    ∃ w', (Instr.mapUpdate T (.map (some b)) (.int .i64 s) v).run P w = .ok () w' ∧ MpI w' b (fset V s (some v)) ∧ Gr (fun k => k = b) w w' ∧ w'.heap.size = w.heap.size := by
  obtain ⟨es, c, hb, hs, hk, hV⟩ := h
  have hgr : ∀ o, Gr (fun k => k = b) w { w with heap := w.heap.setIfInBounds b o } := fun o => ⟨rfl, rfl, rfl, by simp, fun i hi hn => by
    have hne : b ≠ i := fun e => hn e.symm
    simp [hne]⟩
  rcases mpi_find hk hV s with ⟨h1, h2, h3⟩ | ⟨j, e, h1, h2, h3, h4⟩
  · refine ⟨{ w with heap := w.heap.setIfInBounds b (.map (es.push { key := .int .i64 s, val := v, born := c }) (c + 1)) }, ?_, ?_, hgr _, by simp⟩
    · simp [Instr.mapUpdate, run_underlying hT, MapKept.run_getObj_map hb, MapKept.run_checkKey hK (isKey_int s), MapKept.run_findKey hK h1, MapKept.run_setObj_map _ hb]
    · refine ⟨_, _, (MapKept.heap_set hb).1, MapKept.stamped_push hs h2, ?_, ?_⟩
      · intro x hx
        simp only [Array.toList_push, List.mem_append, List.mem_singleton] at hx
        rcases hx with hx | rfl
        · exact hk x hx
        · exact isKey_int s
      · intro t u
        simp only [Array.toList_push, List.mem_append, List.mem_singleton]
        by_cases ht : t = s
        · subst ht
          rw [fset_same]
          constructor
          · intro q; cases q; exact ⟨_, .inr rfl, rfl, rfl⟩
          · rintro ⟨x, hx | rfl, q1, q2⟩
            · exact absurd q1 (h2 x hx)
            · exact congrArg some q2
        · rw [fset_other _ _ _ _ ht, hV t u]
          constructor
          · rintro ⟨x, hx, q⟩; exact ⟨x, .inl hx, q⟩
          · rintro ⟨x, hx | rfl, q1, q2⟩
            · exact ⟨x, hx, q1, q2⟩
            · simp at q1; exact absurd q1.symm ht
  · have hj : es[j]? = some e := by simpa using h2
    have hkey : ∀ e', es[j]? = some e' → ({ e' with key := .int .i64 s, val := v } : MapEntry).key = e'.key := fun e' he' => by rw [hj] at he'; cases he'; exact h3.symm
    refine ⟨{ w with heap := w.heap.setIfInBounds b (.map (es.modify j fun e => { e with key := .int .i64 s, val := v }) c) }, ?_, ?_, hgr _, by simp⟩
    · simp [Instr.mapUpdate, run_underlying hT, MapKept.run_getObj_map hb, MapKept.run_checkKey hK (isKey_int s), MapKept.run_findKey hK h1, hj, h3, MapKept.run_keyThatStays (isKey_int s), MapKept.run_setObj_map _ hb]
    · refine ⟨_, _, (MapKept.heap_set hb).1, MapKept.stamped_modify hs _ _ (fun _ _ => rfl) (fun e' _ he' => hkey e' he'), MapKept.isKey_modify hk _ _ hkey, ?_⟩
      have hmem : ∀ x, x ∈ (es.modify j fun e => ({ e with key := .int .i64 s, val := v } : MapEntry)).toList ↔ (x = { e with key := .int .i64 s, val := v } ∨ ∃ i, i ≠ j ∧ es[i]? = some x) := by
        intro x
        rw [List.mem_iff_getElem?]
        constructor
        · rintro ⟨i, hi⟩
          rw [Array.getElem?_toList, Array.getElem?_modify] at hi
          by_cases hij : j = i
          · subst hij
            rw [if_pos rfl, hj] at hi
            simp at hi
            exact .inl hi.symm
          · rw [if_neg hij] at hi
            exact .inr ⟨i, fun q => hij q.symm, hi⟩
        · rintro (rfl | ⟨i, hi, hx⟩)
          · exact ⟨j, by rw [Array.getElem?_toList, Array.getElem?_modify, if_pos rfl, hj]; rfl⟩
          · exact ⟨i, by rw [Array.getElem?_toList, Array.getElem?_modify, if_neg (fun q => hi q.symm)]; exact hx⟩
      have huniq : ∀ i x, es[i]? = some x → x.key = .int .i64 s → i = j := by
        intro i x hx hxk
        refine nodup_get (a := .int .i64 s) hs.2.2 ?_ ?_
        · rw [List.getElem?_map, Array.getElem?_toList, hx]; exact congrArg some hxk
        · rw [List.getElem?_map, Array.getElem?_toList, hj]; exact congrArg some h3
      intro t u
      by_cases ht : t = s
      · subst ht
        rw [fset_same]
        constructor
        · intro q; cases q; exact ⟨_, (hmem _).2 (.inl rfl), rfl, rfl⟩
        · rintro ⟨x, hx, q1, q2⟩
          rcases (hmem x).1 hx with rfl | ⟨i, hi, hx⟩
          · exact congrArg some q2
          · exact absurd (huniq i x hx q1) hi
      · rw [fset_other _ _ _ _ ht, hV t u]
        constructor
        · rintro ⟨x, hx, q1, q2⟩
          obtain ⟨i, hi⟩ := List.mem_iff_getElem?.1 hx
          rw [Array.getElem?_toList] at hi
          have hij : i ≠ j := by
            rintro rfl
            rw [hj] at hi; cases hi
            rw [h3] at q1
            exact ht (Value.int.inj q1).2.symm
          exact ⟨x, (hmem x).2 (.inr ⟨i, hij, hi⟩), q1, q2⟩
        · rintro ⟨x, hx, q1, q2⟩
          rcases (hmem x).1 hx with rfl | ⟨i, hi, hx⟩
          · exact absurd (Value.int.inj q1).2.symm ht
          · exact ⟨x, List.mem_iff_getElem?.2 ⟨i, by rw [Array.getElem?_toList]; exact hx⟩, q1, q2⟩
end
end Go.Proofs.YtokkhhekmebakaaGreatDoor
