/-
  Slices of integers that can be read, and lists of bytes. No condition of its own.
-/
import Derived.Test.YtalfoenoekcdaaaWord
import Derived.Below
namespace Go.Proofs.Ytalfoenoekcdaaa
set_option linter.unusedVariables false
open Go.RowKit

def Bytes (xs : List Int) : Prop := ∀ i, i < xs.length → 0 ≤ xs[i]?.getD 0 ∧ xs[i]?.getD 0 < 256
theorem take_snoc (l : List Int) (k : Nat) (h : k < l.length) : l.take (k + 1) = l.take k ++ [l[k]?.getD 0] := by
  rw [List.take_succ_eq_append_getElem h]; simp [h]
theorem Bytes.mem {xs : List Int} (h : Bytes xs) : ∀ z ∈ xs, 0 ≤ z ∧ z < 256 := by
  intro z hz
  obtain ⟨i, hi, rfl⟩ := List.getElem_of_mem hz
  have := h i hi
  simpa [hi] using this
theorem bytes_of_mem {xs : List Int} (h : ∀ z ∈ xs, 0 ≤ z ∧ z < 256) : Bytes xs := by
  intro i hi
  have := h _ (List.getElem_mem hi)
  simpa [hi] using this
/-- A slice of integers of a kind that can be read: these are its elements. -/
def Seg (k : IntKind) (w : World) (a : Option Addr) (len : Nat) (xs : List Int) : Prop :=
  xs.length = len ∧ (len = 0 ∨ ∃ b off, a = some ⟨b, off, none⟩ ∧ b < w.heap.size ∧ ∀ i, i < len → w.cell? ⟨b, off + i, none⟩ = some (.int k (xs[i]?.getD 0)))
theorem Seg.below {k : IntKind} {w w' : World} {a : Option Addr} {len : Nat} {xs : List Int} (h : Seg k w a len xs) (hb : Below w.heap.size w w') : Seg k w' a len xs := by
  refine ⟨h.1, ?_⟩
  rcases h.2 with h0 | ⟨b, off, ha, hlt, hc⟩
  · exact .inl h0
  · have := hb.size
    exact .inr ⟨b, off, ha, by omega, fun i hi => (hb.cell (p := ⟨b, off + i, none⟩) hlt).trans (hc i hi)⟩

theorem Seg.keep {k : IntKind} {w w' : World} {B b : Nat} {len : Nat} {xs : List Int} (h : Seg k w (some ⟨b, 0, none⟩) len xs) (hb : Below B w w') (hlt : b < B) : Seg k w' (some ⟨b, 0, none⟩) len xs := by
  refine ⟨h.1, ?_⟩
  rcases h.2 with h0 | ⟨b', off, ha, hw, hc⟩
  · exact .inl h0
  · cases ha
    have := hb.size
    exact .inr ⟨b, 0, rfl, by omega, fun i hi => (hb.cell (p := ⟨b, 0 + i, none⟩) hlt).trans (hc i hi)⟩

theorem wf_u64 {n : Int} (h : (Lit.int .u64 n).wf = true) : 0 ≤ n ∧ n < 18446744073709551616 := by
  simp [Lit.wf, IntKind.min, IntKind.max, IntKind.signed, IntKind.bits] at h; omega
theorem wf_u8 {n : Int} (h : (Lit.int .u8 n).wf = true) : 0 ≤ n ∧ n < 256 := by
  simp [Lit.wf, IntKind.min, IntKind.max, IntKind.signed, IntKind.bits] at h; omega
/-- A slice that came in. -/
theorem seg_of_row {k : IntKind} {R : Nat} {w : World} {a : Option Addr} {len cap : Nat} {zs : List Int}
    (h : (a = none ∧ len = 0 ∧ cap = 0 ∧ zs = []) ∨
      ∃ x, a = some x ∧ len ≤ cap ∧ cap ≤ R ∧ zs.length = cap ∧ (∀ i, i < zs.length → w.cell? (x.add i) = some (.int k (zs.getD i 0))) ∧ ∀ n ∈ zs, (Lit.int k n).wf = true) :
    Seg k w a len (zs.take len) ∧ len ≤ cap ∧ cap ≤ R ∧ ∀ i, i < (zs.take len).length → (Lit.int k ((zs.take len)[i]?.getD 0)).wf = true := by
  rcases h with ⟨rfl, rfl, rfl, rfl⟩ | ⟨x, rfl, hl, hm, hz, hc, hw⟩
  · exact ⟨⟨rfl, .inl rfl⟩, Nat.le_refl _, Nat.zero_le _, fun i hi => by simp at hi⟩
  · refine ⟨⟨by simp; omega, ?_⟩, hl, hm, fun i hi => ?_⟩
    · by_cases h0 : len = 0
      · exact .inl h0
      · right
        obtain ⟨b, off, spot⟩ := x
        have hspot : spot = none := by simpa [Addr.add] using World.cell?_spot (hc 0 (by omega))
        subst hspot
        have hc0 : ∀ i, i < len → w.cell? ⟨b, off + i, none⟩ = some (.int k ((zs.take len)[i]?.getD 0)) := fun i hi => by
          have := hc i (by omega)
          rw [Go.WideShapes.add_plain] at this
          rw [this, List.getElem?_take_of_lt hi]; simp
        refine ⟨b, off, rfl, ?_, hc0⟩
        have := hc0 0 (by omega)
        rcases Nat.lt_or_ge b w.heap.size with h | h
        · exact h
        · simp [World.cell?, h] at this
    · have hi' : i < zs.length := by simp at hi; omega
      have hi2 : i < len := by simp at hi; omega
      rw [List.getElem?_take_of_lt hi2]
      exact hw _ (by simp [hi'])

/-- A slice that a literal makes. -/
theorem seg_new (w : World) (k : IntKind) (C : Array Value) (T : TypeId) (n : Nat) (xs : List Int) (hC : C = (xs.map (Value.int k)).toArray) (hn : n = xs.length) :
    Seg k (w.alloc (.cells C T)) (some ⟨w.heap.size, 0, none⟩) n xs := by
  subst hC hn
  refine ⟨rfl, .inr ⟨_, _, rfl, by simp, fun i hi => ?_⟩⟩
  rw [Nat.zero_add, World.cell?_alloc_new]
  simp [hi]

theorem seg_at (n0 : Nat) (w : World) (k : IntKind) (C : Array Value) (T : TypeId) (n : Nat) (xs : List Int) (h0 : n0 = w.heap.size) (hC : C = (xs.map (Value.int k)).toArray) (hn : n = xs.length) :
    Seg k (w.alloc (.cells C T)) (some ⟨n0, 0, none⟩) n xs := by
  subst h0; exact seg_new w k C T n xs hC hn

/-- The same, where the run-time has laid its mark behind (a constant string's bytes). -/
theorem seg_mark (n0 : Nat) (w : World) (k : IntKind) (C : Array Value) (T : TypeId) (fr : Nat × Nat) (n : Nat) (xs : List Int) (h0 : n0 = w.heap.size) (hC : C = (xs.map (Value.int k)).toArray) (hn : n = xs.length) :
    Seg k (w.alloc (.cells C T fr)) (some ⟨n0, 0, none⟩) n xs := by
  subst h0 hC hn
  refine ⟨rfl, .inr ⟨_, _, rfl, by simp, fun i hi => ?_⟩⟩
  rw [Nat.zero_add, World.cell?_alloc_mark]
  simp [hi]

end Go.Proofs.Ytalfoenoekcdaaa
