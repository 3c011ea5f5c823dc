/-
  A law for a region that draws the order of its operations, whose operations only read and whose callees lay blocks of their own alone: gone through once, in the order of the text. It speaks of every program. No condition of its own.
-/
import Derived.Test.YtdjcokepeifojaaNBa
import Derived.BigQuiet
import Derived.Deep.QuietTactic
namespace Go.Proofs.Ytdjcokepeifojaa
set_option linter.unusedVariables false
open Go.RowKit

/-- The world w, with the blocks of p behind its own, and so many draws as p. -/
def gw (w p : World) : World := { heap := w.heap ++ p.heap, tape := w.tape, drawn := p.drawn, os := w.os, output := w.output }
theorem gw_gb (w p : World) : w.grownBy (gw w p) none := ⟨rfl, rfl, rfl, by simp [gw], fun k hk _ => by
  show (w.heap ++ p.heap)[k]? = _
  rw [Array.getElem?_append_left hk]⟩
theorem gb_gw {w w' : World} (h : w.grownBy w' none) : ∃ p, w' = gw w p := by
  refine ⟨{ w' with heap := w'.heap.extract w.heap.size w'.heap.size }, ?_⟩
  have hh : w'.heap = w.heap ++ w'.heap.extract w.heap.size w'.heap.size := by
    apply Array.ext_getElem?
    intro k
    by_cases hk : k < w.heap.size
    · rw [Array.getElem?_append_left hk]; exact h.block k hk (fun e => by cases e)
    · rw [Array.getElem?_append_right (by omega), Array.getElem?_extract]
      have hs := h.size
      by_cases h2 : k < w'.heap.size
      · rw [if_pos (by omega)]; congr 1; omega
      · rw [if_neg (by omega), Array.getElem?_eq_none (by omega)]
  have e1 := h.os
  have e2 := h.tape
  have e3 := h.output
  cases w'
  simp only [gw]
  simp only at e1 e2 e3 hh
  rw [e1, e2, e3, ← hh]
theorem wp_region_gb {P : Program} {id : Nat} {Q : Exit → Act → World → Prop} {a : Act} {w : World} {l : List Oper} (hm : P.follows .mixedOrders = true) (hB : Region.lexB .any l.toArray = true)
    (h : wpQuiet P l.toArray (fun w' => ∃ p : World, w' = gw w p) (fun a' => ∀ w', (∃ p : World, w' = gw w p) → Q .normal a' w') l a) : (Code.region id l.toArray true).wp P Q a w :=
  wp_region_quiet (C := fun w' => ∃ p : World, w' = gw w p) hm hB (gb_gw ⟨rfl, rfl, rfl, Nat.le_refl _, fun _ _ _ => rfl⟩) (by simpa using h)
theorem calls_gb {P : Program} {f : FuncId} {args : Array Value} {w p : World} {v : Value} (h : Calls P f args (gw w p) fun e w' => e = .returned v ∧ (gw w p).grownBy w' none) :
    Calls P f args (gw w p) fun e w'' => e = .returned v ∧ ∃ p : World, w'' = gw w p :=
  h.mono fun _ _ ⟨he, hg⟩ => ⟨he, gb_gw (gb_trans (gw_gb w p) hg)⟩
theorem calls_gw {P : Program} {f : FuncId} {args : Array Value} {w p : World} {v : Value} (h : Calls P f args (gw w p) fun e w' => e = .returned v ∧ w' = gw w p) :
    Calls P f args (gw w p) fun e w'' => e = .returned v ∧ ∃ p : World, w'' = gw w p :=
  h.mono fun _ _ ⟨he, hg⟩ => ⟨he, p, hg⟩
theorem cell_gw {w : World} {a : Addr} {v : Value} (h : w.cell? a = some v) (p : World) : (gw w p).cell? a = some v := by
  have hb : a.block < w.heap.size := by
    rcases Nat.lt_or_ge a.block w.heap.size with h1 | h1
    · exact h1
    · simp [World.cell?, h1] at h
  exact ((gb_below (gw_gb w p)).cell (p := a) hb).trans h
theorem bk_gw {T : TypeId} {w : World} {b : Nat} {cs : Array Value} (h : Bk T w b cs) (p : World) : Bk T (gw w p) b cs := h.grew (gw_gb w p) (by simp)
end Go.Proofs.Ytdjcokepeifojaa
