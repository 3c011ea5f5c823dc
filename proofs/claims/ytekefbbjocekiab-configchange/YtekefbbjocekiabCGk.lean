/-
  What the law's own kept answers of a twin that is as it was: yes. Conditions: the lists can be read, and have at most 2^43 numbers.
-/
import Derived.Test.YtekefbbjocekiabCGu
namespace Go.Proofs.Ytekefbbjocekiab
open Go.RowKit
set_option linter.unusedVariables false

theorem sam_refl (e : Int) (xs : List Int) : sam e e xs xs = true := sam_yes.2 ⟨rfl, rfl⟩
/-- A list of one's own, three marks behind it. -/
theorem OwI.marks {B : Nat} {w : World} {g n cap : Nat} {xs : List Int} (h : OwI B w (.slice (some ⟨g, 0, none⟩) (n + 3) cap) (n + 3) (xs ++ [-71, -72, -73])) (hl : xs.length = n) :
    Seg .i64 w (some ⟨g, 0, none⟩) n xs ∧ w.cell? ⟨g, n, none⟩ = some (.int .i64 (-71)) ∧ w.cell? ⟨g, n + 1, none⟩ = some (.int .i64 (-72)) ∧ w.cell? ⟨g, n + 2, none⟩ = some (.int .i64 (-73)) := by
  have c0 := (h.cell n (by omega)).1
  have c1 := (h.cell (n + 1) (by omega)).1
  have c2 := (h.cell (n + 2) (by omega)).1
  obtain ⟨a', c', e1, hs, _⟩ := h.seg
  simp only [Value.slice.injEq] at e1
  obtain ⟨rfl, _, rfl⟩ := e1
  have ht := seg_take hs n (by omega)
  rw [← hl, List.take_left] at ht
  rw [hl] at ht
  refine ⟨ht, ?_, ?_, ?_⟩
  · rw [c0, ← hl, List.getElem?_append_right (Nat.le_refl _)]; simp
  · rw [c1, ← hl, List.getElem?_append_right (by omega)]; simp
  · rw [c2, ← hl, List.getElem?_append_right (by omega)]; simp
end Go.Proofs.Ytekefbbjocekiab
