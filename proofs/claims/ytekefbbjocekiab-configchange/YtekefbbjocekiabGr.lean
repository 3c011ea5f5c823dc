/-
  Which blocks may have changed from one world to another. No condition of its own.
-/
import Derived.Test.YtekefbbjocekiabPRs
namespace Go.Proofs.Ytekefbbjocekiab
open Go.RowKit
set_option linter.unusedVariables false

/-- Which blocks may have changed. -/
structure Gr (G : Nat → Prop) (w w' : World) : Prop where
  os : w'.os = w.os
  tape : w'.tape = w.tape
  output : w'.output = w.output
  size : w.heap.size ≤ w'.heap.size
  block : ∀ k, k < w.heap.size → ¬ G k → w'.heap[k]? = w.heap[k]?
theorem Gr.refl (G : Nat → Prop) (w : World) : Gr G w w := ⟨rfl, rfl, rfl, Nat.le_refl _, fun _ _ _ => rfl⟩
theorem Gr.trans {G a b c} (h : Gr G a b) (k : Gr G b c) : Gr G a c :=
  ⟨k.os.trans h.os, k.tape.trans h.tape, k.output.trans h.output, Nat.le_trans h.size k.size, fun i hi hn => (k.block i (Nat.lt_of_lt_of_le hi h.size) hn).trans (h.block i hi hn)⟩
theorem Gr.of {G : Nat → Prop} {a b : World} {row : Option Nat} (h : a.grownBy b row) (hr : ∀ k, row = some k → G k ∨ a.heap.size ≤ k) : Gr G a b :=
  ⟨h.os, h.tape, h.output, h.size, fun i hi hn => h.block i hi (fun e => by rcases hr i e.symm with h | h; exact hn h; omega)⟩
theorem Gr.wide {G G' : Nat → Prop} {a b : World} (h : Gr G a b) (hw : ∀ k, k < a.heap.size → G k → G' k) : Gr G' a b :=
  ⟨h.os, h.tape, h.output, h.size, fun i hi hn => h.block i hi (fun e => hn (hw i hi e))⟩
theorem Gr.drewN {G : Nat → Prop} {a b : World} (h : Gr G a b) (n : Nat) : Gr G a (b.drewN n) := h.trans (Gr.of (gb_drewN (World.grownBy.refl b none) n) (by simp))
theorem Gr.alloc {G : Nat → Prop} {a b : World} (h : Gr G a b) (o : Obj) : Gr G a (b.alloc o) := h.trans (Gr.of (World.grownBy_alloc b o none) (by simp))
theorem Gr.below {G : Nat → Prop} {B : Nat} {w0 a b : World} (h0 : Below B w0 a) (h : Gr G a b) (hG : ∀ k, G k → B ≤ k) (hB : B ≤ a.heap.size) : Below B w0 b :=
  h0.trans ⟨h.os, h.tape, h.output, h.size, fun k hk => h.block k (by omega) (fun g => by have := hG k g; omega)⟩
theorem Seg.gr {k : IntKind} {G : Nat → Prop} {w w' : World} {a : Option Addr} {len : Nat} {xs : List Int} (h : Seg k w a len xs) (hg : Gr G w w') (ho : ∀ k, G k → Off a k) : Seg k w' a len xs := by
  refine ⟨h.1, ?_⟩
  rcases h.2 with h0 | ⟨b, off, ha, hw, hc⟩
  · exact .inl h0
  · exact .inr ⟨b, off, ha, Nat.lt_of_lt_of_le hw hg.size, fun i hi => (World.cell?_of_block (w := w) (w' := w') (a := ⟨b, off + i, none⟩) (hg.block b hw (fun e => ho b e _ _ _ ha rfl))).trans (hc i hi)⟩
end Go.Proofs.Ytekefbbjocekiab
