/-
  What the document's Reader's Digest answers: what the plain function rg gives. Condition: its bytes can be read, and their length is one that a machine has.
-/
import Derived.Test.YtcdgfghcmeadgaaDoorFb
import Derived.Test.YtcdgfghcmeadgaaDoorPDig
namespace Go.Proofs.YtcdgfghcmeadgaaDoor
open Go.RowKit
set_option linter.unusedVariables false

theorem XS.keep {w w2 w4 g a len cap xs e0 p0 e p} (h0 : XS w g a len cap xs e0 p0) (h : XS w2 g a len cap xs e p) (hb : ∀ k, k < w.heap.size → w4.heap[k]? = w2.heap[k]?) (hs : w.heap.size ≤ w4.heap.size) : XS w4 g a len cap xs e p := by
  refine ⟨(hb g (lt_of_block h0.rdr)).trans h.rdr, ⟨h.seg.1, ?_⟩, h.bytes, h.off, h.le, h.lc, h.lm, h.cm⟩
  rcases h0.seg.2 with h1 | ⟨b, off, ha, hw, _⟩
  · exact .inl h1
  · rcases h.seg.2 with h1 | ⟨b', off', ha', _, hc⟩
    · exact .inl h1
    · rw [ha] at ha'; cases ha'
      exact .inr ⟨b, off, ha, Nat.lt_of_lt_of_le hw hs, fun i hi => (World.cell?_of_block (w := w2) (w' := w4) (a := ⟨b, off + i, none⟩) (hb b hw)).trans (hc i hi)⟩

theorem cell_two {w : World} {ad : Addr} {v : Value} (h : w.cell? ad = some v) (hl : ad.block < w.heap.size) (T : TypeId) (C1 C2 : Array Value) : ((w.alloc (.cells C1 T)).alloc (.cells C2 T)).cell? ad = some v :=
  ((gb_trans (World.grownBy_alloc w (.cells C1 T) none) (World.grownBy_alloc _ (.cells C2 T) none)).cell h (by simp))
end Go.Proofs.YtcdgfghcmeadgaaDoor
