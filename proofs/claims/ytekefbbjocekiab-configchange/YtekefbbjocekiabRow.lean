/-
  Rows of integers in memory that a call made itself: what is read there, what a store leaves. No condition of its own.
-/
import Derived.Test.YtekefbbjocekiabNum
import Derived.Deep.Light
import Derived.Laws.CopyOwn
namespace Go.Proofs.Ytekefbbjocekiab
open Go.RowKit
set_option linter.unusedVariables false

/-- Block g holds these integers, and nothing else. -/
def Row (k : IntKind) (T : TypeId) (w : World) (g : Nat) (xs : List Int) : Prop := w.heap[g]? = some (.cells (xs.map (Value.int k)).toArray T (0, 0))
theorem Row.lt {k T w g xs} (h : Row k T w g xs) : g < w.heap.size := lt_of_block h
theorem Row.cell {k T w g xs} (h : Row k T w g xs) (i : Nat) (hi : i < xs.length) : w.cell? ⟨g, i, none⟩ = some (.int k (xs[i]?.getD 0)) := by
  rw [cell_of_row w g i _ T (0, 0) h]; simp [hi]
theorem Row.free {k T w g xs} (h : Row k T w g xs) (i : Nat) : w.frozen? ⟨g, i, none⟩ = false := frozen_of_row w g i _ T h
theorem Row.set {k T w g xs} (h : Row k T w g xs) (i : Nat) (v : Int) : Row k T (w.setCell ⟨g, i, none⟩ (.int k v)) g (xs.set i v) := by
  unfold Row
  rw [heap_setCell_same w g i _ T _ h]; simp [List.map_set]
theorem Row.below {k T w w' g xs B} (h : Row k T w g xs) (hb : Below B w w') (hg : g < B) : Row k T w' g xs := (hb.block g hg).trans h
theorem Row.seg {k T w g xs} (h : Row k T w g xs) (len : Nat) (hl : len ≤ xs.length) : Seg k w (some ⟨g, 0, none⟩) len (xs.take len) := by
  refine ⟨by simp; omega, .inr ⟨g, 0, rfl, h.lt, fun i hi => ?_⟩⟩
  rw [Nat.zero_add, h.cell i (by omega), List.getElem?_take_of_lt hi]
theorem Row.segAll {k T w g xs} (h : Row k T w g xs) (len : Nat) (hl : len = xs.length) : Seg k w (some ⟨g, 0, none⟩) len xs := by
  have := h.seg len (by omega)
  rw [hl, List.take_length] at this
  rw [hl]; exact this
theorem Row.drewN {k T w g xs} (h : Row k T w g xs) (n : Nat) : Row k T (w.drewN n) g xs := by
  unfold Row
  rw [show (w.drewN n).heap = w.heap from by simp]
  exact h
/-- A row that 'make' has made. -/
theorem row_of_own {k T w base g n} {L : List Value} (xs : List Int) (h : w.ownsRow base T 1 (.slice (some ⟨g, 0, none⟩) n n) n L) (hL : L = xs.map (Value.int k)) : Row k T w g xs := by
  rcases h.2 with ⟨h', _⟩ | ⟨g', cap', cur, h', _, hg, _, _, hs, htake⟩
  · simp at h'
  · simp only [Value.slice.injEq, Option.some.injEq, Addr.mk.injEq, and_true, true_and] at h'
    obtain ⟨rfl, rfl⟩ := h'
    unfold Row
    rw [List.take_of_length_le (by rw [Array.length_toList, hs]; exact Nat.le_refl _)] at htake
    rw [hg, ← hL, ← htake]

theorem Try.infoU8 : (Try.prog.info? 5).map (fun i => (i.zero, i.size, i.bytes)) = some (some (.int .u8 0), 1, 1) := by kernel_rfl

/-- The elements of a slice, as cells. -/
theorem seg_news' {k : IntKind} {w : World} {a : Option Addr} {m : Nat} {ys : List Int} (h : Seg k w a m ys) (ad : Addr) (ha : a = some ad) : ∀ j u, (ys.map (Value.int k))[j]? = some u → w.cell? (ad.add j) = some u := by
  intro j u hj
  have hjl : j < ys.length := by
    rcases Nat.lt_or_ge j ys.length with h' | h'
    · exact h'
    · rw [List.getElem?_eq_none (by simpa using h')] at hj; cases hj
  rcases h.2 with h0 | ⟨b, off, hb, _, hc⟩
  · rw [h.1] at hjl; omega
  · rw [hb] at ha; cases ha
    rw [Go.WideShapes.add_plain, hc j (by rw [← h.1]; exact hjl), ← hj]
    simp [hjl]
end Go.Proofs.Ytekefbbjocekiab
