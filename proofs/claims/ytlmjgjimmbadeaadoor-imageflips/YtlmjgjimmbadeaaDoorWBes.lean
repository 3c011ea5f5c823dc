/-
  One step of a Writer beside a row that came in as an argument (for Row's contract). No condition of its own.
-/
import Derived.Test.YtlmjgjimmbadeaaDoorFb
import Derived.Test.YtlmjgjimmbadeaaDoorXWx
import Derived.BigQuiet
import Derived.Deep.RegionHeld3
import Derived.Deep.QuietTactic
namespace Go.Proofs.YtlmjgjimmbadeaaDoor
open Go.RowKit
set_option linter.unusedVariables false

/-- One step of a Writer beside a row that came in. -/
def WBeside (w : World) (g : Nat) (fs : List Nat) (N : Nat) (cs : Array Value) (w' : World) (ys' : List Int) (e' : Int) : Prop :=
  ∃ fs', WS w' g ys' e' fs' ∧ Gr (fun k => k = g) w w' ∧ (∀ k ∈ fs', k ∈ fs ∨ w.heap.size ≤ k) ∧ Bk 48 w' N cs ∧ N ≠ g
theorem WBeside.next {w g fs N cs w1 ys1 e1} (h : WBeside w g fs N cs w1 ys1 e1) : ∃ f1, WS w1 g ys1 e1 f1 ∧ ∀ w2 ys2 e2, WGoes w1 g f1 w2 ys2 e2 → WBeside w g fs N cs w2 ys2 e2 := by
  obtain ⟨f1, h1, g1, l1, b1, n1⟩ := h
  refine ⟨f1, h1, fun w2 ys2 e2 k => ?_⟩
  obtain ⟨f2, h2, g2, l2⟩ := k
  refine ⟨f2, h2, g1.trans g2, fun j hj => ?_, b1.gr g2 n1, n1⟩
  rcases l2 j hj with h | h
  · exact l1 j h
  · exact .inr (Nat.le_trans g1.size h)
theorem WBeside.cells {w g fs N w1 ys1 e1} {a b c : Value} {cs : Array Value} (h : WBeside w g fs N cs w1 ys1 e1) (hc : cs = #[a, b, c]) : w1.cell? ⟨N, 0, none⟩ = some a ∧ w1.cell? ⟨N, 1, none⟩ = some b ∧ w1.cell? ⟨N, 2, none⟩ = some c ∧ w1.cell? ⟨g, 0, none⟩ = some (.int .i64 e1) := by
  subst hc
  obtain ⟨f1, h1, _, _, b1, _⟩ := h
  exact ⟨by rw [b1.cell 0]; rfl, by rw [b1.cell 1]; rfl, by rw [b1.cell 2]; rfl, h1.c0⟩
theorem WBeside.goes {w g fs N cs w1 ys1 e1} (h : WBeside w g fs N cs w1 ys1 e1) : WGoes w g fs w1 ys1 e1 := by
  obtain ⟨f1, h1, g1, l1, _⟩ := h
  exact ⟨f1, h1, g1, l1⟩
theorem WBeside.drew {w g fs N cs w1 ys1 e1} (h : WBeside w g fs N cs w1 ys1 e1) : WBeside w g fs N cs w1.drew ys1 e1 := by
  obtain ⟨f1, h1, nx⟩ := h.next
  exact nx _ _ _ (h1.stay.then (fun f h => (h.new (gb_drewN (World.grownBy.refl _ _) 1)).stay.pre (gb_drewN (World.grownBy.refl _ _) 1)))
theorem WBeside.start {w g fs ys e} (h : WS w g ys e fs) (cs : Array Value) : WBeside w g fs w.heap.size cs (w.alloc (.cells cs 48)) ys e :=
  ⟨fs, h.new (World.grownBy_alloc _ _ _), Gr.of (World.grownBy_alloc _ _ none) (by simp), fun k hk => .inl hk, heap_new w _, by have := h.lt; omega⟩

end Go.Proofs.YtlmjgjimmbadeaaDoor
