/-
  Bytes that are cut: where the rest lies, and what it holds. No condition of its own.
-/
import Derived.Test.YteoohgjoffpmkaaGrA
namespace Go.Proofs.Yteoohgjoffpmkaa
set_option linter.unusedVariables false
open Go.RowKit

/-- Where bytes that are cut begin. -/
def cutB (a : Option Addr) (cap p : Nat) : Option Addr := if cap = p then a else a.map (·.add p)
theorem size_u8 (W : World) : (sizeOf 5).run Try.prog W = .ok 1 W := by kernel_rfl
theorem slice_bl (a : Option Addr) (len cap p : Nat) (hp : p ≤ len) (W : World) : (Instr.slice 57 (.slice a len cap) (some (.int .i64 (p : Int))) none none).run Try.prog W = .ok (.slice (cutB a cap p) (len - p) (cap - p)) W := by
  have hel : Try.prog.elem 57 = 5 := by simp [Program.elem]
  rw [run_slice_l W 57 a len cap (by rw [hel]; exact Try.underlying57) .i64 p (by omega) (by omega)]
  rw [hel, size_u8]
  simp [sliced, cutB]
theorem slice_bh (a : Option Addr) (len cap p : Nat) (hp : p ≤ cap) (W : World) : (Instr.slice 57 (.slice a len cap) none (some (.int .i64 (p : Int))) none).run Try.prog W = .ok (.slice a p cap) W := by
  have hel : Try.prog.elem 57 = 5 := by simp [Program.elem]
  rw [run_slice_h W 57 a len cap (by rw [hel]; exact Try.underlying57) .i64 p (by omega) (by omega)]
  rw [hel, size_u8]
  simp [sliced]
  intro _
  cases a with
  | none => rfl
  | some x => simp [Addr.add]
theorem slice_blh (a : Option Addr) (len cap p q : Nat) (hp : p ≤ q) (hq : q ≤ cap) (W : World) : (Instr.slice 57 (.slice a len cap) (some (.int .i64 (p : Int))) (some (.int .i64 (q : Int))) none).run Try.prog W = .ok (.slice (cutB a cap p) (q - p) (cap - p)) W := by
  have hel : Try.prog.elem 57 = 5 := by simp [Program.elem]
  rw [run_slice_lh W 57 a len cap (by rw [hel]; exact Try.underlying57) .i64 .i64 p q (by omega) (by omega) (by omega)]
  rw [hel, size_u8]
  simp [sliced, cutB]
theorem seg_cutB {w : World} {a : Option Addr} {len cap : Nat} {xs : List Int} (h : Seg .u8 w a len xs) (p q : Nat) (hpq : p ≤ q) (hq : q ≤ len) (hlc : len ≤ cap) : Seg .u8 w (cutB a cap p) (q - p) ((xs.take q).drop p) := by
  have h1 := h.1
  refine ⟨by simp; omega, ?_⟩
  by_cases hz : q - p = 0
  · exact .inl hz
  · right
    obtain ⟨b, off, rfl, hb, hc⟩ := h.2.resolve_left (by omega)
    have hn : ¬ cap = p := by omega
    refine ⟨b, off + p, by simp [cutB, hn, Addr.add], hb, fun i hi => ?_⟩
    rw [Nat.add_assoc, hc (p + i) (by omega), List.getElem?_drop, List.getElem?_take_of_lt (by omega)]
theorem seg_headB {w : World} {a : Option Addr} {n m : Nat} {xs : List Int} (h : Seg .u8 w a n xs) (hm : m ≤ n) : Seg .u8 w a m (xs.take m) := by
  have h1 := h.1
  refine ⟨by simp; omega, ?_⟩
  by_cases hz : m = 0
  · exact .inl hz
  · right
    obtain ⟨b, off, rfl, hb, hc⟩ := h.2.resolve_left (by omega)
    refine ⟨b, off, rfl, hb, fun i hi => ?_⟩
    rw [hc i (by omega), List.getElem?_take_of_lt hi]
theorem bytes_sub {xs ys : List Int} (h : Bytes xs) (hs : ∀ z ∈ ys, z ∈ xs) : Bytes ys := bytes_of_mem fun z hz => h.mem z (hs z hz)
end Go.Proofs.Yteoohgjoffpmkaa
