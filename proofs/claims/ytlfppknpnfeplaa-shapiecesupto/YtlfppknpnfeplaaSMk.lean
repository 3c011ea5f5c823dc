/-
  What a constant's []byte does: its block bears a mark, its cells stay. A relation of worlds that lets blocks made here bear marks. No condition.
-/
import Derived.Test.YtlfppknpnfeplaaSCt
namespace Go.Proofs.Ytlfppknpnfeplaa
set_option linter.unusedVariables false
open Go.RowKit

/-- What grew, and marks on blocks from B on. -/
def RC (B : Nat) (W W' : World) : Prop := W'.os = W.os ∧ W'.tape = W.tape ∧ W'.output = W.output ∧ W.heap.size ≤ W'.heap.size ∧ ∀ b, b < W.heap.size → W'.heap[b]? = W.heap[b]? ∨ (B ≤ b ∧ ∃ cs T f f', W.heap[b]? = some (.cells cs T f) ∧ W'.heap[b]? = some (.cells cs T f'))
theorem rc_gb {B : Nat} {W W' : World} (h : W.grownBy W' none) : RC B W W' := ⟨h.os, h.tape, h.output, h.size, fun b hb => .inl (h.block b hb (by simp))⟩
theorem rc_rr (B : Nat) (W : World) : RC B W W := ⟨rfl, rfl, rfl, Nat.le_refl _, fun _ _ => .inl rfl⟩
theorem rc_drew (B : Nat) (W : World) : RC B W W.drew := ⟨rfl, rfl, rfl, Nat.le_refl _, fun _ _ => .inl rfl⟩
theorem rc_trans {B : Nat} (a b c : World) (h : RC B a b) (k : RC B b c) : RC B a c := by
  obtain ⟨h1, h2, h3, h4, h5⟩ := h
  obtain ⟨k1, k2, k3, k4, k5⟩ := k
  refine ⟨k1.trans h1, k2.trans h2, k3.trans h3, Nat.le_trans h4 k4, fun i hi => ?_⟩
  rcases h5 i hi with e | ⟨hB, cs, T, f, f', e, e'⟩
  · rcases k5 i (by omega) with q | ⟨hB, cs, T, f, f', q, q'⟩
    · exact .inl (q.trans e)
    · exact .inr ⟨hB, cs, T, f, f', e ▸ q, q'⟩
  · rcases k5 i (by omega) with q | ⟨_, cs2, T2, f2, f2', q, q'⟩
    · exact .inr ⟨hB, cs, T, f, f', e, q.trans e'⟩
    · rw [e'] at q
      injection q with q
      injection q with q1 q2 q3
      subst q1 q2 q3
      exact .inr ⟨hB, _, _, f, f2', e, q'⟩
theorem rc_old {W W' : World} (h : RC W.heap.size W W') : W.grownBy W' none := ⟨h.1, h.2.1, h.2.2.1, h.2.2.2.1, fun i hi _ => (h.2.2.2.2 i hi).resolve_right (fun q => by have := q.1; omega)⟩
theorem rc_cells {B : Nat} {W W' : World} (h : RC B W W') {g : Nat} {C : Array Value} {T : TypeId} {f : Nat × Nat} (hb : W.heap[g]? = some (.cells C T f)) : ∃ f', W'.heap[g]? = some (.cells C T f') := by
  rcases h.2.2.2.2 g (lt_of_block hb) with e | ⟨_, cs, T2, f2, f', e, e'⟩
  · exact ⟨f, e.trans hb⟩
  · rw [hb] at e
    injection e with e
    injection e with e1 e2 e3
    subst e1 e2
    exact ⟨f', e'⟩
theorem rc_cell {B : Nat} {W W' : World} (h : RC B W W') {g : Nat} (i : Nat) (hg : g < W.heap.size) : W'.cell? ⟨g, i, none⟩ = W.cell? ⟨g, i, none⟩ := by
  rcases h.2.2.2.2 g hg with e | ⟨_, cs, T, f, f', e, e'⟩
  · exact World.cell?_of_block (w := W) (w' := W') (a := ⟨g, i, none⟩) e
  · rw [cell_of_row W g i cs T f e, cell_of_row W' g i cs T f' e']
theorem convert_mk {B g n c : Nat} {W : World} {C : Array Value} {f : Nat × Nat} (hb : W.heap[g]? = some (.cells C 5 f)) (hB : B ≤ g) : ∃ W', (convert 29 29 (.slice (some ⟨g, 0, none⟩) n c)).run Try.prog W = .ok (.slice (some ⟨g, 0, none⟩) n c) W' ∧ RC B W W' := by
  have hsh : W.shape? g = some (5, C.size) := by unfold World.shape?; rw [hb]
  refine ⟨W.freeze ⟨g, C.size, none⟩ 1, ?_, ?_⟩
  · simp [convert, run_underlying Try.underlying29, run_underlying Try.underlying5, markStringish, hsh]
  · unfold World.freeze
    rw [if_neg (by decide)]
    refine ⟨rfl, rfl, rfl, by simp, fun b hb2 => ?_⟩
    simp only [Array.getElem?_modify]
    by_cases h : g = b
    · subst h
      rw [if_pos rfl, hb]
      obtain ⟨lo, hi⟩ := f
      exact .inr ⟨hB, C, _, _, _, rfl, rfl⟩
    · rw [if_neg h]
      exact .inl rfl
end Go.Proofs.Ytlfppknpnfeplaa
