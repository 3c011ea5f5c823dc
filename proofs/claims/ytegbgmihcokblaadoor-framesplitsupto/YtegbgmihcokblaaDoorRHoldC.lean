/-
  What the document's Holds answers, called with whatever bytes. Condition: they can be read, and are at most 2^47.
-/
import Derived.Test.YtegbgmihcokblaaDoorRows
import Derived.Test.YtegbgmihcokblaaDoorFa
import Derived.Test.YtegbgmihcokblaaDoorRSumC
import Derived.Test.YtegbgmihcokblaaDoorLowC
import Derived.BigQuiet
namespace Go.Proofs.YtegbgmihcokblaaDoor
set_option linter.unusedVariables false
open Go.RowKit

theorem below_drewN {B : Nat} {a w : World} (h : Below B a w) (n : Nat) : Below B a (w.drewN n) :=
  ⟨h.os, h.tape, h.output, h.size, h.block⟩

set_option maxHeartbeats 1000000 in
theorem rholds_c (a : Option Addr) (len cap : Nat) (xs : List Int) (w : World) (hlc : len ≤ cap) (hs : Seg .u8 w a len xs) (hx : Bytes xs) (hl : len ≤ 140737488355328) :
    Calls Tryd.prog 40 #[.slice a len cap] w fun e w' => e = .returned (.bool (holds xs)) ∧ Below w.heap.size w w' := by
  have HLN : Hid (xs.length = len) := hs.1
  by_cases h4 : len < 4
  · have HF : Hid (holds xs = false) := by
      show holds xs = false
      unfold holds
      rw [HLN.out]
      exact decide_eq_false (by omega)
    clear hs
    go_enter Tryd.func40, Tryd.ntmps40
    go_wp2
    go_ret
    rw [HF.out]
    exact ⟨rfl, Below.refl _ _⟩
  · obtain ⟨b, off, rfl, hbw, hc⟩ := hs.2.resolve_left (by omega)
    obtain ⟨n, hn⟩ : ∃ n, len = n + 4 := ⟨len - 4, by omega⟩
    have HF : Hid (holds xs = decide (xs.drop n = by4 (sum (xs.take n)))) := by
      show _ = _
      unfold holds
      rw [HLN.out, hn]
      simp
    have HS1 : Hid (Seg .u8 w (some ⟨b, off, none⟩) n (xs.take n)) := hs.take n (by omega)
    have HX1 : Hid (Bytes (xs.take n)) := hx.take n
    have HC : Hid (∀ i, i < 4 → w.cell? ⟨b, off + (n + i), none⟩ = some (.int .u8 ((xs.drop n)[i]?.getD 0))) := fun i hi => by
      rw [hc (n + i) (by omega), List.getElem?_drop]
    have HBW : Hid (b < w.heap.size) := hbw
    obtain ⟨ys, hys⟩ : ∃ ys, ys = xs.take n := ⟨_, rfl⟩
    obtain ⟨zs, hzs⟩ : ∃ zs, zs = xs.drop n := ⟨_, rfl⟩
    have HZL : Hid (zs.length = 4) := by show _ = _; rw [hzs]; simp [HLN.out]; omega
    rw [← hys] at HF HS1 HX1
    rw [← hzs] at HF HC
    obtain ⟨b0, b1, b2, b3, hA, hB⟩ := arr4_ex (sum ys)
    rw [hB] at HF
    replace hA : Hid _ := hA
    subst hn
    clear hs hx hys hB h4 HLN hc hzs hbw
    go_enter Tryd.func40, Tryd.ntmps40
    go_wp2_with (first
      | (go_at_call 55; go_must (refine (rsum_c _ _ _ ys _ HS1.out HX1.out (by omega)).mono ?_); rintro e w1 ⟨rfl, rfl⟩)
      | (go_at_call 54; go_must (refine (low_c _ _).mono ?_); rintro e w2 ⟨rfl, hb2⟩; rw [hA.out]; replace hb2 : Hid _ := hb2))
    have HW : Hid (Below w1.heap.size w1 (w2.alloc (Obj.cells #[.int .u8 b0, .int .u8 b1, .int .u8 b2, .int .u8 b3] 94))) := hb2.out.alloc hb2.out.size _
    have HG : Hid (Seg .u8 (w2.alloc (Obj.cells #[.int .u8 b0, .int .u8 b1, .int .u8 b2, .int .u8 b3] 94)) (some ⟨w2.heap.size, 0, none⟩) 4 [b0, b1, b2, b3]) := seg_new w2 .u8 _ 94 4 [b0, b1, b2, b3] rfl rfl
    clear hb2
    generalize (w2.alloc (Obj.cells #[.int .u8 b0, .int .u8 b1, .int .u8 b2, .int .u8 b3] 94)) = w3 at HW HG ⊢
    generalize w2.heap.size = g at HG ⊢
    go_loopw [4] (fun i wr => ∃ k m : Nat, k ≤ 4 ∧ i = .int .i64 k ∧ wr = w3.drewN m ∧ Hid (zs.take k = [b0, b1, b2, b3].take k)) (fun i _ => 4 - (intOf i).toNat)
    case atStart => exact ⟨0, 0, Nat.zero_le _, rfl, rfl, rfl⟩
    case round =>
      obtain ⟨k, m, hk, rfl, rfl, htk⟩ := hrel
      by_cases hlt : k < 4
      · have hcell : w3.cell? ⟨b, off + (n + k), none⟩ = some (.int .u8 (zs[k]?.getD 0)) := (HW.out.cell (p := ⟨b, off + (n + k), none⟩) HBW.out).trans (HC.out k hlt)
        have hcell' : w3.cell? ⟨g, k, none⟩ = some (.int .u8 ([b0, b1, b2, b3][k]?.getD 0)) := by
          rcases HG.out.2 with h0 | ⟨b', off', hb3, hbw', hc'⟩
          · omega
          · cases hb3; have := hc' k hlt; rw [Nat.zero_add] at this; exact this
        obtain ⟨B, hB⟩ : ∃ B, B = [b0, b1, b2, b3] := ⟨_, rfl⟩
        have HBL : Hid (B.length = 4) := by rw [hB]; exact rfl
        rw [← hB] at hcell' htk HF
        by_cases hq : zs[k]?.getD 0 = B[k]?.getD 0
        · have HT2 : Hid (zs.take (k + 1) = [b0, b1, b2, b3].take (k + 1)) := by
            show _ = _
            rw [← hB, take_snoc zs k (by rw [HZL.out]; exact hlt), take_snoc B k (by rw [HBL.out]; exact hlt), htk.out, hq]
          have hqb : (zs[k]?.getD 0 != B[k]?.getD 0) = false := by simp [hq]
          clear hq hB
          go_wp2
          go_quiet (fail)
          go_wp2
          go_roundw
          case rel => exact ⟨k + 1, _, by omega, by go_num, rfl, HT2⟩
          case measure => simp [intOf]; omega
        · have HNE : Hid (holds xs = false) := by
            show _ = _
            rw [HF.out]
            exact decide_eq_false (fun h => hq (by rw [h]))
          have hqb : (zs[k]?.getD 0 != B[k]?.getD 0) = true := by simpa using hq
          clear hq hB
          go_wp2
          go_quiet (fail)
          go_wp2
          go_ret
          rw [HNE.out]
          exact ⟨rfl, below_drewN (below_drewN HW.out _) _⟩
      · have HEQ : Hid (holds xs = true) := by
          show _ = _
          have h := htk.out
          rw [List.take_of_length_le (by rw [HZL.out]; omega), List.take_of_length_le (by simp; omega)] at h
          rw [HF.out, h]; exact decide_eq_true rfl
        go_wp2
        go_ret
        rw [HEQ.out]
        exact ⟨rfl, below_drewN HW.out _⟩

end Go.Proofs.YtegbgmihcokblaaDoor
