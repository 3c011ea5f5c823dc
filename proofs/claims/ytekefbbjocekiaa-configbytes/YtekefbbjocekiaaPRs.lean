/-
  A pack Reader in memory, as plain data: its bytes, its first error, its place. What Err, ready, over, Clone, NewReader and named answer. Condition: the slice can be read, and its length is one that a machine has.
-/
import Derived.Test.YtekefbbjocekiaaPTr
import Derived.OwnWalk
import Derived.Laws.AppendOwnNone
import Derived.BigQuiet
import Derived.Deep.QuietTactic
namespace Go.Proofs.Ytekefbbjocekiaa
open Go.RowKit
set_option linter.unusedVariables false

theorem bytes_drop {xs : List Int} (h : Bytes xs) (k : Nat) : Bytes (xs.drop k) := fun i hi => by
  have := h (k + i) (by simp at hi; omega)
  rw [List.getElem?_drop]; exact this
theorem bytes_take {xs : List Int} (h : Bytes xs) (k : Nat) : Bytes (xs.take k) := fun i hi => by
  simp only [List.length_take] at hi
  rw [List.getElem?_take_of_lt (by omega)]
  exact h i (by omega)

theorem grownBy_cell (w : World) (g i : Nat) (v : Value) : w.grownBy (w.setCell ⟨g, i, none⟩ v) (some g) :=
  ⟨rfl, rfl, rfl, by simp [World.setCell], fun k _ hk => Below.heap_setCell _ _ _ _ (fun e => hk (by rw [e]))⟩
theorem gb_trans {a b c : World} {row : Option Nat} (h : a.grownBy b row) (k : b.grownBy c row) : a.grownBy c row :=
  ⟨k.os.trans h.os, k.tape.trans h.tape, k.output.trans h.output, Nat.le_trans h.size k.size, fun i hi hn => (k.block i (Nat.lt_of_lt_of_le hi h.size) hn).trans (h.block i hi hn)⟩
theorem gb_wide {a b : World} (h : a.grownBy b none) (row : Option Nat) : a.grownBy b row :=
  ⟨h.os, h.tape, h.output, h.size, fun i hi _ => h.block i hi (by simp)⟩
theorem grownBy_below {a b : World} (h : Below a.heap.size a b) (row : Option Nat) : a.grownBy b row :=
  ⟨h.os, h.tape, h.output, h.size, fun i hi _ => h.block i hi⟩
theorem gb_drewN {a b : World} {row : Option Nat} (h : a.grownBy b row) (n : Nat) : a.grownBy (b.drewN n) row :=
  gb_trans h (grownBy_below (below_drewN (Below.refl _ _) n) row)

theorem heap_new (w : World) (o : Obj) : (w.alloc o).heap[w.heap.size]? = some o := by
  show (w.heap.push o)[w.heap.size]? = _
  simp

theorem seg_from {w : World} {a : Option Addr} {len : Nat} {xs : List Int} (h : Seg .u8 w a len xs) (k : Nat) : Seg .u8 w (Option.map (fun x => x.add k) a) (len - k) (xs.drop k) := by
  refine ⟨by simp [h.1], ?_⟩
  rcases h.2 with h0 | ⟨b, off, rfl, hb, hc⟩
  · exact .inl (by omega)
  · rcases Nat.lt_or_ge k len with hk | hk
    · refine .inr ⟨b, off + k, ?_, hb, fun i hi => by rw [Nat.add_assoc, hc (k + i) (by omega), List.getElem?_drop]⟩
      rw [← Go.WideShapes.add_plain]; rfl
    · exact .inl (by omega)

/-- The bytes do not lie in block g. -/
def Off (a : Option Addr) (g : Nat) : Prop := ∀ b o s, a = some ⟨b, o, s⟩ → b ≠ g
theorem Seg.grew {k : IntKind} {w w' : World} {a : Option Addr} {len : Nat} {xs : List Int} {row : Option Nat} (h : Seg k w a len xs) (hg : w.grownBy w' row) (hne : ∀ g, row = some g → Off a g) : Seg k w' a len xs := by
  refine ⟨h.1, ?_⟩
  rcases h.2 with h0 | ⟨b, off, ha, hw, hc⟩
  · exact .inl h0
  · exact .inr ⟨b, off, ha, Nat.lt_of_lt_of_le hw hg.size, fun i hi => (World.cell?_of_block (w := w) (w' := w') (a := ⟨b, off + i, none⟩) (hg.block b hw (fun e => hne b e.symm _ _ _ ha rfl))).trans (hc i hi)⟩

/-- An error of leb as pack names it. -/
def nm (e : Int) : Int := if e = 10 then 30 else if e = 11 then 31 else if e = 12 then 32 else e
end Go.Proofs.Ytekefbbjocekiaa
