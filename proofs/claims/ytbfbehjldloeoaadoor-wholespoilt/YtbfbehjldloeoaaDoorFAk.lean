/-
  What the law's alike answers of two lists of the same frames: yes. No condition.
-/
import Derived.Test.YtbfbehjldloeoaaDoorFAl
namespace Go.Proofs.YtbfbehjldloeoaaDoor
set_option linter.unusedVariables false
open Go.RowKit

theorem flF_get (L : List FrM) (i : Nat) (f : FrM) (h : L[i]? = some f) : (flF L)[i * 2]? = some (.int .i64 f.t) ∧ (flF L)[i * 2 + 1]? = some f.u := by
  induction L generalizing i with
  | nil => simp at h
  | cons g L ih =>
    have e : flF (g :: L) = .int .i64 g.t :: g.u :: flF L := rfl
    rw [e]
    cases i with
    | zero =>
      have : g = f := by simpa using h
      subst this
      exact ⟨rfl, rfl⟩
    | succ i =>
      have := ih i (by simpa using h)
      rw [show (i + 1) * 2 = i * 2 + 1 + 1 from by omega]
      simpa using this
/-- Frames in a row of one's own, whose bodies can be read, wherever they lie. -/
structure RdL (w : World) (v : Value) (L : List FrM) : Prop where
  own : w.ownsRow 0 29 2 v L.length (flF L)
  body : ∀ f ∈ L, ∃ ua uc, f.u = .slice ua f.ys.length uc ∧ Seg .u8 w ua f.ys.length f.ys
theorem FrL.rd {F : Nat → Prop} {w : World} {v : Value} {L : List FrM} (h : FrL F w v L) : RdL w v L := ⟨h.own, fun f hf => by
  obtain ⟨ua, uc, hu, hs, _⟩ := (h.body f hf).1.seg
  exact ⟨ua, uc, hu, hs⟩⟩
/-- The k-th frame in memory. -/
theorem RdL.at {w : World} {v : Value} {L : List FrM} (h : RdL w v L) (k : Nat) (f : FrM) (hf : L[k]? = some f) : ∃ g c ua uc, v = .slice (some ⟨g, 0, none⟩) L.length c ∧ f.u = .slice ua f.ys.length uc ∧ Seg .u8 w ua f.ys.length f.ys ∧ w.rangeAt g (k * 2) [.int .i64 f.t, .slice ua f.ys.length uc] ∧ g < w.heap.size := by
  have hk : k < L.length := by
    rcases Nat.lt_or_ge k L.length with z | z
    · exact z
    · rw [List.getElem?_eq_none z] at hf; cases hf
  obtain ⟨g, c, rfl⟩ := (own_shape h.own).2 (by omega)
  have hm : f ∈ L := List.mem_of_getElem? hf
  obtain ⟨ua, uc, hu, hs⟩ := h.body f hm
  have hg := flF_get L k f hf
  have hlen : (flF L).length = L.length * 2 := h.own.1
  refine ⟨g, c, ua, uc, rfl, hu, hs, fun j x hx => ?_, (own_lt h.own g rfl).2⟩
  match j, hx with
  | 0, hx =>
    cases hx
    rw [Nat.add_zero, h.own.cellAt (k * 2) (by omega)]
    exact hg.1
  | 1, hx =>
    cases hx
    rw [h.own.cellAt (k * 2 + 1) (by omega), ← hu]
    exact hg.2
theorem FrL.at {F : Nat → Prop} {w : World} {v : Value} {L : List FrM} (h : FrL F w v L) (k : Nat) (f : FrM) (hf : L[k]? = some f) : ∃ g c ua uc, v = .slice (some ⟨g, 0, none⟩) L.length c ∧ f.u = .slice ua f.ys.length uc ∧ Seg .u8 w ua f.ys.length f.ys ∧ w.rangeAt g (k * 2) [.int .i64 f.t, .slice ua f.ys.length uc] ∧ g < w.heap.size := h.rd.at k f hf
theorem range_gbO {w w' : World} {M o : Nat} {vs : List Value} (h : w.rangeAt M o vs) (hg : w.grownBy w' none) (hl : M < w.heap.size) : w'.rangeAt M o vs := fun i v hv => by
  have e := hg.block M hl (by simp)
  have := h i v hv
  simp only [World.cell?, e] at this ⊢
  exact this
end Go.Proofs.YtbfbehjldloeoaaDoor
