/-
  What sha's laid answers: words as bytes, the highest first, in memory of their own. Condition: at most eight words, that can be read.
-/
import Derived.Test.YtlfppknpnfeplaaSBl
import Derived.Test.YtlfppknpnfeplaaGrow
import Derived.Laws.MakeOwn
namespace Go.Proofs.Ytlfppknpnfeplaa
set_option linter.unusedVariables false
open Go.RowKit

theorem b4_of (x : Wd) : b4 x = [W x / 16777216 % 256, W x / 65536 % 256, W x / 256 % 256, W x % 256] := by
  unfold b4 W
  simp only [BitVec.toNat_ushiftRight, Nat.shiftRight_eq_div_pow]
  simp only [List.cons.injEq, and_true]
  refine ⟨?_, ?_, ?_, ?_⟩ <;> omega
theorem seg_new4 (w : World) (a b c d : Int) : Seg .u8 (w.alloc (.cells #[.int .u8 a, .int .u8 b, .int .u8 c, .int .u8 d] 5)) (some ⟨w.heap.size, 0, none⟩) 4 [a, b, c, d] := by
  refine ⟨rfl, .inr ⟨w.heap.size, 0, rfl, by simp, fun i hi => ?_⟩⟩
  rw [Nat.zero_add, World.cell?_alloc_new]
  rcases i with _ | _ | _ | _ | i
  · rfl
  · rfl
  · rfl
  · rfl
  · omega
theorem Seg.any {k : IntKind} {w w' : World} {a : Option Addr} {len : Nat} {xs : List Int} (h : Seg k w a len xs) (hb : Below w.heap.size w w') : Seg k w' a len xs := h.below hb

set_option maxRecDepth 20000 in
set_option maxHeartbeats 1000000 in
theorem laid_c (a : Option Addr) (l : List Wd) (n cap : Nat) (w : World) (hn : l.length = n) (hs : Seg .u32 w a n (l.map W)) (h8 : n ≤ 8) :
    Calls Try.prog 50 #[.slice a n cap] w fun r w' => ∃ v, r = .returned v ∧ Own w.heap.size w' v (4 * n) (l.flatMap b4) ∧ Below w.heap.size w w' := by
  obtain ⟨i0, hi, hz0, hz1, hz2⟩ := info_parts Try.infoU8
  have HS : Hid (Seg .u32 w a n (l.map W)) := hs
  have HN : Hid (l.length = n) := hn
  clear hs hn
  go_enter Try.func50, Try.ntmps50
  go_wp2_with (at_make; go_must (refine wpList_make_own _ rfl _ _ 29 rfl w.heap.size 5 i0 (.int .u8 0) 1 Try.underlying29 hi hz0 hz1 _ _ _ (4 * n) rfl rfl (by omega) (by rw [hz2]; omega) (by unfold maxLen; omega) (Nat.le_refl _) ?_); intro w1 hown hgrow)
  have H0 : Hid (Own w.heap.size w1 (.slice (some ⟨w.heap.size, 0, none⟩) 0 (4 * n)) (4 * 0) ((l.take 0).flatMap b4) ∧ Below w.heap.size w w1) := ⟨hown, gb_below hgrow⟩
  clear hown hgrow hi hz0 hz1 hz2 i0
  go_loopw [3, 12] (fun v i wr => ∃ k : Nat, k ≤ n ∧ i = .int .i64 k ∧ Hid (Own w.heap.size wr v (4 * k) ((l.take k).flatMap b4) ∧ Below w.heap.size w wr)) (fun _ i _ => n - (intOf i).toNat)
  case atStart => exact ⟨0, Nat.zero_le _, rfl, H0⟩
  case round =>
    obtain ⟨k, hk, rfl, hr⟩ := hrel
    clear H0
    by_cases hlt : k < n
    · obtain ⟨b, off, rfl, hbw, hc⟩ := HS.out.2.resolve_left (by omega)
      obtain ⟨x, hx⟩ : ∃ x, x = l.getD k 0 := ⟨_, rfl⟩
      have kc : wr.cell? ⟨b, off + k, none⟩ = some (.int .u32 (W x)) := by
        rw [hr.out.2.cell (p := ⟨b, off + k, none⟩) hbw, hc k hlt, hx]
        simp [show k < l.length from by rw [HN.out]; exact hlt]
      have HT : Hid ((l.take (k + 1)).flatMap b4 = (l.take k).flatMap b4 ++ b4 x) := by
        show _ = _
        rw [List.take_succ_eq_append_getElem (show k < l.length from by rw [HN.out]; exact hlt), List.flatMap_append, hx]
        simp [show k < l.length from by rw [HN.out]; exact hlt]
      rw [b4_of] at HT
      have hki : (k : Int) < (n : Int) := by omega
      obtain ⟨B0, hB0⟩ : ∃ B, B = W x / 16777216 % 256 := ⟨_, rfl⟩
      obtain ⟨B1, hB1⟩ : ∃ B, B = W x / 65536 % 256 := ⟨_, rfl⟩
      obtain ⟨B2, hB2⟩ : ∃ B, B = W x / 256 % 256 := ⟨_, rfl⟩
      obtain ⟨B3, hB3⟩ : ∃ B, B = W x % 256 := ⟨_, rfl⟩
      rw [← hB0, ← hB1, ← hB2, ← hB3] at HT
      have r0 : W x / (16777216 : Int) % (256 : Int) = B0 := hB0.symm
      have r1 : W x / (65536 : Int) % (256 : Int) = B1 := hB1.symm
      have r2 : W x / (256 : Int) % (256 : Int) = B2 := hB2.symm
      have r3 : W x % (256 : Int) = B3 := hB3.symm
      clear hB0 hB1 hB2 hB3 hx hc
      have HO : Hid (Own w.heap.size (wr.alloc (.cells #[.int .u8 B0, .int .u8 B1, .int .u8 B2, .int .u8 B3] 5)) u3 (4 * k) ((l.take k).flatMap b4)) := hr.out.1.below ((Below.refl _ _).alloc (Nat.le_refl _) _)
      have HBA : Hid (Below w.heap.size w (wr.alloc (.cells #[.int .u8 B0, .int .u8 B1, .int .u8 B2, .int .u8 B3] 5))) := hr.out.2.alloc hr.out.2.size _
      go_wp2_with (at_builtin; go_must (refine wpList_append_grow _ rfl _ _ rfl w.heap.size (4 * k) _ ((l.take k).flatMap b4) rfl HO.out (some ⟨wr.heap.size, 0, none⟩) 4 4 [B0, B1, B2, B3] rfl (fun h => by cases h) (seg_new4 wr B0 B1 B2 B3) (by omega) (by have := HBA.out.size; omega) ?_); intro v4 w4 ho4 hb4; have H4 : Hid (Own w.heap.size w4 v4 (4 * (k + 1)) ((l.take (k + 1)).flatMap b4) ∧ Below w.heap.size w w4) := ⟨by rw [HT.out, show 4 * (k + 1) = 4 * k + 4 from by omega]; exact ho4, HBA.out.trans hb4⟩; clear ho4 hb4)
      go_roundw
      case rel => exact ⟨k + 1, by omega, by go_num, H4⟩
      case measure => simp [intOf]; omega
    · obtain rfl : k = n := by omega
      have HE : Hid (l.take k = l) := List.take_of_length_le (by rw [HN.out]; exact Nat.le_refl _)
      rw [HE.out] at hr
      go_wp2
      go_ret
      exact ⟨_, rfl, hr.out.1, hr.out.2⟩
end Go.Proofs.Ytlfppknpnfeplaa
