/-
  Texts that can be read. No condition of its own.
-/
import Derived.Test.YtfnfkcafjfhnlaaWOwn
namespace Go.Proofs.Ytfnfkcafjfhnlaa
open Go.RowKit
set_option linter.unusedVariables false

/-- Texts that can be read. -/
def StrS (w : World) (a : Option Addr) (n : Nat) (X : List ByteArray) : Prop :=
  X.length = n ∧ (n = 0 ∨ ∃ b off, a = some ⟨b, off, none⟩ ∧ b < w.heap.size ∧ ∀ i, i < n → w.cell? ⟨b, off + i, none⟩ = some (.string (X[i]?.getD ByteArray.empty)))
theorem StrS.below {w w' : World} {a : Option Addr} {n : Nat} {X : List ByteArray} (h : StrS w a n X) (hb : Below w.heap.size w w') : StrS w' a n X := by
  refine ⟨h.1, ?_⟩
  rcases h.2 with h0 | ⟨b, off, ha, hlt, hc⟩
  · exact .inl h0
  · have := hb.size
    exact .inr ⟨b, off, ha, by omega, fun i hi => (hb.cell (p := ⟨b, off + i, none⟩) hlt).trans (hc i hi)⟩
end Go.Proofs.Ytfnfkcafjfhnlaa
