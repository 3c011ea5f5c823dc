/-
  Which blocks may have changed from one world to another. No condition of its own.
-/
import Derived.Test.YteoohgjoffpmkaaRows
import Derived.Test.YteoohgjoffpmkaaFa
namespace Go.Proofs.Yteoohgjoffpmkaa
open Go.RowKit
set_option linter.unusedVariables false

theorem grown_setG (w : World) (g i : Nat) (v : Value) : w.grownBy (w.setCell ⟨g, i, none⟩ v) (some g) :=
  ⟨rfl, rfl, rfl, by simp [World.setCell], fun k _ hk => Below.heap_setCell _ _ _ _ (fun e => hk (by rw [e]))⟩
theorem gb_trans {a b c : World} {row : Option Nat} (h : a.grownBy b row) (k : b.grownBy c row) : a.grownBy c row :=
  ⟨k.os.trans h.os, k.tape.trans h.tape, k.output.trans h.output, Nat.le_trans h.size k.size, fun i hi hn => (k.block i (Nat.lt_of_lt_of_le hi h.size) hn).trans (h.block i hi hn)⟩
theorem gb_below {a b : World} (h : a.grownBy b none) : Below a.heap.size a b := ⟨h.os, h.tape, h.output, h.size, fun i hi => h.block i hi (fun e => by cases e)⟩
theorem gb_wide {a b : World} (h : a.grownBy b none) (row : Option Nat) : a.grownBy b row := ⟨h.os, h.tape, h.output, h.size, fun i hi _ => h.block i hi (fun e => by cases e)⟩
theorem gb_drewN {a b : World} {row : Option Nat} (h : a.grownBy b row) (n : Nat) : a.grownBy (b.drewN n) row := gb_trans h ⟨rfl, rfl, rfl, Nat.le_refl _, fun _ _ _ => rfl⟩
theorem gb_of {a b : World} (h : Below a.heap.size a b) : a.grownBy b none := ⟨h.os, h.tape, h.output, h.size, fun i hi _ => h.block i hi⟩
/-- Which blocks may have changed. -/
structure Gr (G : Nat → Prop) (w w' : World) : Prop where
  os : w'.os = w.os
  tape : w'.tape = w.tape
  output : w'.output = w.output
  size : w.heap.size ≤ w'.heap.size
  block : ∀ k, k < w.heap.size → ¬ G k → w'.heap[k]? = w.heap[k]?
theorem Gr.refl (G : Nat → Prop) (w : World) : Gr G w w := ⟨rfl, rfl, rfl, Nat.le_refl _, fun _ _ _ => rfl⟩
theorem Gr.trans {G a b c} (h : Gr G a b) (k : Gr G b c) : Gr G a c :=
  ⟨k.os.trans h.os, k.tape.trans h.tape, k.output.trans h.output, Nat.le_trans h.size k.size, fun i hi hn => (k.block i (Nat.lt_of_lt_of_le hi h.size) hn).trans (h.block i hi hn)⟩
theorem Gr.of {G : Nat → Prop} {a b : World} {row : Option Nat} (h : a.grownBy b row) (hr : ∀ k, row = some k → G k ∨ a.heap.size ≤ k) : Gr G a b :=
  ⟨h.os, h.tape, h.output, h.size, fun i hi hn => h.block i hi (fun e => by rcases hr i e.symm with h | h; exact hn h; omega)⟩
theorem Gr.ofB {G : Nat → Prop} {a b : World} (h : Below a.heap.size a b) : Gr G a b := ⟨h.os, h.tape, h.output, h.size, fun i hi _ => h.block i hi⟩
theorem Gr.wide {G G' : Nat → Prop} {a b : World} (h : Gr G a b) (hw : ∀ k, k < a.heap.size → G k → G' k) : Gr G' a b :=
  ⟨h.os, h.tape, h.output, h.size, fun i hi hn => h.block i hi (fun e => hn (hw i hi e))⟩
theorem Gr.drewN {G : Nat → Prop} {a b : World} (h : Gr G a b) (n : Nat) : Gr G a (b.drewN n) := ⟨h.os, h.tape, h.output, h.size, h.block⟩
theorem Gr.alloc {G : Nat → Prop} {a b : World} (h : Gr G a b) (o : Obj) : Gr G a (b.alloc o) := h.trans (Gr.of (World.grownBy_alloc b o none) (by simp))
theorem Gr.set {G : Nat → Prop} {a b : World} (h : Gr G a b) (g i : Nat) (hg : G g) (v : Value) : Gr G a (b.setCell ⟨g, i, none⟩ v) := h.trans (Gr.of (grown_setG b g i v) (fun k hk => by cases hk; exact .inl hg))
theorem Gr.below {G : Nat → Prop} {B : Nat} {w0 a b : World} (h0 : Below B w0 a) (h : Gr G a b) (hG : ∀ k, G k → B ≤ k) (hB : B ≤ a.heap.size) : Below B w0 b :=
  h0.trans ⟨h.os, h.tape, h.output, h.size, fun k hk => h.block k (by omega) (fun g => by have := hG k g; omega)⟩
/-- First some blocks, then others and new ones. -/
theorem Gr.then {G G' : Nat → Prop} {a b c : World} (h : Gr G a b) (k : Gr G' b c) (hw : ∀ i, i < a.heap.size → G' i → G i) : Gr G a c :=
  ⟨k.os.trans h.os, k.tape.trans h.tape, k.output.trans h.output, Nat.le_trans h.size k.size, fun i hi hn => (k.block i (Nat.lt_of_lt_of_le hi h.size) (fun e => hn (hw i hi e))).trans (h.block i hi hn)⟩
theorem Seg.gr {k : IntKind} {G : Nat → Prop} {w w' : World} {a : Option Addr} {len : Nat} {xs : List Int} (h : Seg k w a len xs) (hg : Gr G w w') (ho : ∀ b o s, a = some ⟨b, o, s⟩ → ¬ G b) : Seg k w' a len xs := by
  refine ⟨h.1, ?_⟩
  rcases h.2 with h0 | ⟨b, off, ha, hw, hc⟩
  · exact .inl h0
  · exact .inr ⟨b, off, ha, Nat.lt_of_lt_of_le hw hg.size, fun i hi => (World.cell?_of_block (w := w) (w' := w') (a := ⟨b, off + i, none⟩) (hg.block b hw (ho b _ _ ha))).trans (hc i hi)⟩
theorem Bk.gr {T : TypeId} {G : Nat → Prop} {w w' : World} {b : Nat} {cs : Array Value} (h : Bk T w b cs) (hg : Gr G w w') (hn : ¬ G b) : Bk T w' b cs := (hg.block b (lt_of_block h) hn).trans h
theorem own_gr {G : Nat → Prop} {w w' : World} {B : Nat} {T : TypeId} {sz : Nat} {v : Value} {n : Nat} {xs : List Value} (h : w.ownsRow B T sz v n xs) (hg : Gr G w w') (hne : ∀ b, v.ownBlock = some b → ¬ G b) : w'.ownsRow B T sz v n xs := by
  refine ⟨h.1, ?_⟩
  rcases h.2 with h0 | ⟨g, cap, cur, rfl, hB, hgb, r⟩
  · exact .inl h0
  · exact .inr ⟨g, cap, cur, rfl, hB, (hg.block g (lt_of_block hgb) (hne g rfl)).trans hgb, r⟩
theorem own_lt {w : World} {B : Nat} {T : TypeId} {sz : Nat} {v : Value} {n : Nat} {xs : List Value} (h : w.ownsRow B T sz v n xs) : ∀ b, v.ownBlock = some b → B ≤ b ∧ b < w.heap.size := by
  intro b hb
  rcases h.2 with ⟨h1, _⟩ | ⟨g, cap, cur, e, hB, hg, _⟩
  · rw [h1] at hb; cases hb
  · rw [e] at hb; cases hb; exact ⟨hB, lt_of_block hg⟩
theorem own_base0 {w : World} {B : Nat} {T : TypeId} {sz : Nat} {v : Value} {n : Nat} {xs : List Value} (h : w.ownsRow B T sz v n xs) : w.ownsRow 0 T sz v n xs := by
  refine ⟨h.1, ?_⟩
  rcases h.2 with h0 | ⟨g, cap, cur, rfl, hB, r⟩
  · exact .inl h0
  · exact .inr ⟨g, cap, cur, rfl, Nat.zero_le _, r⟩

end Go.Proofs.Yteoohgjoffpmkaa
