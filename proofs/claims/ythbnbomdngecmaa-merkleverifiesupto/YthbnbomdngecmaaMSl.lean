/-
  Lists of digests that are cut: where the rest lies, and what it holds. No condition of its own.
-/
import Derived.Test.YthbnbomdngecmaaMCp
namespace Go.Proofs.Ythbnbomdngecmaa
set_option linter.unusedVariables false
open Go.RowKit

/-- Where a list of digests that is cut begins. -/
def cutD (a : Option Addr) (cap p : Nat) : Option Addr := if cap = p then a else a.map (·.add (p * 32))
theorem size_dg (W : World) : (sizeOf 25).run Try.prog W = .ok 32 W := by kernel_rfl
theorem slice_dl (a : Option Addr) (len cap p : Nat) (hp : p ≤ len) (W : World) : (Instr.slice 37 (.slice a len cap) (some (.int .i64 (p : Int))) none none).run Try.prog W = .ok (.slice (cutD a cap p) (len - p) (cap - p)) W := by
  have hel : Try.prog.elem 37 = 25 := by simp [Program.elem]
  rw [run_slice_l W 37 a len cap (by rw [hel]; exact Try.underlying37) .i64 p (by omega) (by omega)]
  rw [hel, size_dg]
  simp [sliced, cutD]
theorem slice_dh (a : Option Addr) (len cap p : Nat) (hp : p ≤ cap) (W : World) : (Instr.slice 37 (.slice a len cap) none (some (.int .i64 (p : Int))) none).run Try.prog W = .ok (.slice a p cap) W := by
  have hel : Try.prog.elem 37 = 25 := by simp [Program.elem]
  rw [run_slice_h W 37 a len cap (by rw [hel]; exact Try.underlying37) .i64 p (by omega) (by omega)]
  rw [hel, size_dg]
  simp [sliced]
  intro _
  cases a with
  | none => rfl
  | some x => simp [Addr.add]
theorem seg_cutD {w : World} {a : Option Addr} {len cap : Nat} {xs : List Int} (h : Seg .u8 w a (32 * len) xs) (p : Nat) (hlc : len ≤ cap) : Seg .u8 w (cutD a cap p) (32 * (len - p)) (xs.drop (32 * p)) := by
  have h1 := h.1
  refine ⟨by simp; omega, ?_⟩
  by_cases hz : 32 * (len - p) = 0
  · exact .inl hz
  · right
    obtain ⟨b, off, rfl, hb, hc⟩ := h.2.resolve_left (by omega)
    have hn : ¬ cap = p := by omega
    refine ⟨b, off + p * 32, by simp [cutD, hn, Addr.add], hb, fun i hi => ?_⟩
    rw [Nat.add_assoc, hc (p * 32 + i) (by omega), List.getElem?_drop, Nat.mul_comm p 32]
theorem seg_head {w : World} {a : Option Addr} {n m : Nat} {xs : List Int} (h : Seg .u8 w a n xs) (hm : m ≤ n) : Seg .u8 w a m (xs.take m) := by
  have h1 := h.1
  refine ⟨by simp; omega, ?_⟩
  by_cases hz : m = 0
  · exact .inl hz
  · right
    obtain ⟨b, off, rfl, hb, hc⟩ := h.2.resolve_left (by omega)
    refine ⟨b, off, rfl, hb, fun i hi => ?_⟩
    rw [hc i (by omega), List.getElem?_take_of_lt hi]
theorem slA_to (g u : Nat) (hu : u ≤ 16) (W : World) : (Instr.sliceAt 34 (.pointer (some ⟨g, 0, none⟩)) none (some (.int .i64 (u : Int))) none).run Try.prog W = .ok (.slice (some ⟨g, 0, none⟩) u 16) W := by
  have hel : Try.prog.elem 34 = 25 := by kernel_rfl
  have hal : Try.prog.arrayLen 34 = 16 := by kernel_rfl
  rw [run_sliceAt_array_h W 34 ⟨g, 0, none⟩ (by rw [hal, hel]; exact Try.underlying34) .i64 u (by omega) (by rw [hal]; omega)]
  rw [hal, hel, size_dg]
  simp [slicedAt, Addr.add]
def cutN (g u : Nat) : Option Addr := if 16 = u then some ⟨g, 0, none⟩ else some ⟨g, 32 * u, none⟩
theorem slA_from (g u : Nat) (hu : u ≤ 16) (z : Int) (hz : z = u) (W : World) : (Instr.sliceAt 34 (.pointer (some ⟨g, 0, none⟩)) (some (.int .i64 z)) none none).run Try.prog W = .ok (.slice (cutN g u) (16 - u) (16 - u)) W := by
  have hel : Try.prog.elem 34 = 25 := by kernel_rfl
  have hal : Try.prog.arrayLen 34 = 16 := by kernel_rfl
  rw [hz]
  rw [run_sliceAt_array_l W 34 ⟨g, 0, none⟩ (by rw [hal, hel]; exact Try.underlying34) .i64 u (by omega) (by rw [hal]; omega)]
  rw [hal, hel, size_dg]
  by_cases h : u = 16
  · subst h; simp [slicedAt, cutN]
  · have h' : ¬ 16 = u := fun e => h e.symm
    simp [slicedAt, cutN, h', Go.WideShapes.add_plain, Nat.mul_comm]
end Go.Proofs.Ythbnbomdngecmaa
