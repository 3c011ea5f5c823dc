/-
  What the document's Node answers: the digest of a byte 1 and the sixteen digests. No condition.
-/
import Derived.Test.YthbnbomdngecmaaMGz
import Derived.Test.YthbnbomdngecmaaSOw
import Derived.Test.YthbnbomdngecmaaMNd
namespace Go.Proofs.Ythbnbomdngecmaa
set_option linter.unusedVariables false
open Go.RowKit

theorem infoU8 : (Try.prog.info? 5).map (fun i => (i.zero, i.size, i.bytes)) = some (some (.int .u8 0), 1, 1) := by kernel_rfl
theorem own_one (w : World) (T : TypeId) (x : Int) (B : Nat) (hB : B ≤ w.heap.size) : Own B (w.alloc (.cells #[.int .u8 x] 5)) (.slice (some ⟨w.heap.size, 0, none⟩) 1 1) 1 [x] :=
  ⟨rfl, .inr ⟨w.heap.size, 1, _, rfl, hB, heap_new w _, Nat.le_refl _, by decide, rfl, rfl⟩⟩
theorem own_seg {B : Nat} {w : World} {g n cap : Nat} {xs : List Int} (h : Own B w (.slice (some ⟨g, 0, none⟩) n cap) n xs) : Seg .u8 w (some ⟨g, 0, none⟩) n xs := by
  obtain ⟨h1, h2⟩ := h
  rw [List.length_map, Nat.mul_one] at h1
  refine ⟨h1, ?_⟩
  rcases h2 with ⟨h, _⟩ | ⟨g', cap', cur, hv, _, hb, _, _, _, ht⟩
  · cases h
  · cases hv
    refine .inr ⟨g, 0, rfl, lt_of_block hb, fun i hi => ?_⟩
    rw [Nat.zero_add, cell_of_row w g i _ _ _ hb]
    have e : (xs.map (Value.int .u8))[i]? = some (.int .u8 (xs[i]?.getD 0)) := by
      have : i < xs.length := by omega
      simp [this]
    rw [← ht, List.getElem?_take, if_pos (by omega)] at e
    simpa using e
set_option maxRecDepth 20000 in
set_option maxHeartbeats 1000000 in
theorem gnode_c (zs : List Int) (hz : Bytes zs) (hl : zs.length = 512) (w : World) :
    Calls Try.prog 12 #[.agg (u8s zs)] w fun r w' => r = .returned (.agg (u8s (sha (1 :: zs)))) ∧ w.grownBy w' none := by
  have hzd := zD
  have HZ : Hid (Bytes zs) := hz
  have HL : Hid (zs.length = 512) := hl
  have HSL : Hid ((sha (1 :: zs)).length = 32) := sha_len _
  obtain ⟨E, hE⟩ : ∃ E, E = sha (1 :: zs) := ⟨_, rfl⟩
  have HE : Hid (sha (1 :: zs) = E) := hE.symm
  rw [← hE] at HSL ⊢
  have HB : Hid (Bk 34 (w.alloc (.cells (u8s zs) 34)) w.heap.size (u8s zs) ∧ w.grownBy (w.alloc (.cells (u8s zs) 34)) none) := blk_new w _ _
  have HD : Hid (Bk 25 ((w.alloc (.cells (u8s zs) 34)).alloc (.cells (u8s dz32) 25)) (w.alloc (.cells (u8s zs) 34)).heap.size (u8s dz32) ∧ (w.alloc (.cells (u8s zs) 34)).grownBy ((w.alloc (.cells (u8s zs) 34)).alloc (.cells (u8s dz32) 25)) none) := blk_new _ _ _
  have HS0 : Hid ((w.alloc (.cells (u8s zs) 34)).heap.size = w.heap.size + 1 ∧ ((w.alloc (.cells (u8s zs) 34)).alloc (.cells (u8s dz32) 25)).heap.size = w.heap.size + 2) := ⟨by simp, by simp⟩
  clear hz hl hE
  go_enter Try.func12, Try.ntmps12
  go_wp2
  obtain ⟨w1, hw1⟩ : ∃ w1, w1 = (w.alloc (.cells (u8s zs) 34)).alloc (.cells (u8s dz32) 25) := ⟨_, rfl⟩
  have H1 : Hid (Bk 34 w1 w.heap.size (u8s zs) ∧ Bk 25 w1 (w.heap.size + 1) (u8s dz32) ∧ w.grownBy w1 none ∧ w1.heap.size = w.heap.size + 2) := by
    rw [hw1]
    exact ⟨HB.out.1.gb HD.out.2, HS0.out.1 ▸ HD.out.1, gb_trans HB.out.2 HD.out.2, HS0.out.2⟩
  rw [← hw1]
  clear HB HD HS0 hw1
  have H2 : Hid (Own w1.heap.size (w1.alloc (.cells #[.int .u8 1] 5)) (.slice (some ⟨w1.heap.size, 0, none⟩) 1 1) (1 + 32 * 0) (1 :: zs.take (32 * 0)) ∧ w1.grownBy (w1.alloc (.cells #[.int .u8 1] 5)) none) := ⟨own_one w1 0 1 _ (Nat.le_refl _), gb_alloc _ _⟩
  rw [H1.out.2.2.2] at H2
  go_loopw [3, 4] (fun v i wr => ∃ k : Nat, k ≤ 16 ∧ i = .int .i64 k ∧ Hid (Own (w.heap.size + 2) wr v (1 + 32 * k) (1 :: zs.take (32 * k)) ∧ w1.grownBy wr none)) (fun _ i _ => 16 - (intOf i).toNat)
  case atStart => exact ⟨0, Nat.zero_le _, rfl, H2⟩
  case round =>
    obtain ⟨k, hk, rfl, hr⟩ := hrel
    clear H2
    by_cases hlt : k < 16
    · have hi1 : (k : Int) < 16 := by omega
      go_wp2
      go_loopw [3, 5] (fun v j wr => ∃ l : Nat, l ≤ 32 ∧ j = .int .i64 l ∧ Hid (Own (w.heap.size + 2) wr v (1 + 32 * k + l) (1 :: zs.take (32 * k + l)) ∧ w1.grownBy wr none)) (fun _ j _ => 32 - (intOf j).toNat)
      case atStart => exact ⟨0, Nat.zero_le _, rfl, hr⟩
      case round =>
        obtain ⟨l, hl, rfl, hs⟩ := hrel
        clear hr
        by_cases hlt2 : l < 32
        · have hi2 : (l : Int) < 32 := by omega
          have hk0 : (0 : Int) ≤ k := by omega
          have hl0 : (0 : Int) ≤ l := by omega
          have hc : wr.cell? ⟨w.heap.size, k * 32 + l, none⟩ = some (.int .u8 (zs[32 * k + l]?.getD 0)) := by
            rw [(H1.out.1.gb hs.out.2).cell]
            have : 32 * k + l < zs.length := by rw [HL.out]; omega
            simp [u8s, this, Nat.mul_comm k 32]
          have HTS : Hid (zs.take (32 * k + l) ++ [zs[32 * k + l]?.getD 0] = zs.take (32 * k + (l + 1)) ∧ w.heap.size + 2 ≤ wr.heap.size) := ⟨(take_snoc zs (32 * k + l) (by rw [HL.out]; omega)).symm, H1.out.2.2.2 ▸ hs.out.2.size⟩
          obtain ⟨x, hx⟩ : ∃ x, x = zs[32 * k + l]?.getD 0 := ⟨_, rfl⟩
          rw [← hx] at hc HTS
          clear hx
          have hb1 : 1 + 32 * k + l + 1 ≤ 513 := by omega
          obtain ⟨B, hB⟩ : ∃ B, B = w.heap.size + 2 := ⟨_, rfl⟩
          rw [← hB] at hs HTS
          go_wp2_with (first
            | (at_builtin; go_must (refine wpList_lit rfl _ _ 48 rfl B 5 (.int .u8 0) 1 1 Try.underlying48 infoU8 rfl (by decide) wr #[.int .u8 x] rfl u3 (1 + 32 * k + l) _ rfl hs.out.1 rfl rfl (by simp [Value.oneCell']) (by unfold maxLen; omega) (by omega) HTS.out.2 ?_); intro g1 c1 w2 o1 b1 gr1 at1 lt1; have H2 : Hid (Own B w2 (.slice (some ⟨g1, 0, none⟩) (1 + 32 * k + l + 1) c1) (1 + 32 * k + (l + 1)) (1 :: zs.take (32 * k + (l + 1))) ∧ w1.grownBy w2 none) := ⟨by rw [← HTS.out.1]; simpa [Own, Nat.add_assoc] using o1, gb_behind hs.out.2 b1 (by rw [H1.out.2.2.2, hB]; exact Nat.le_refl _)⟩; clear o1 b1 gr1 at1 lt1))
          rw [hB] at H2
          clear hB hs HTS hc
          go_roundw
          case rel => exact ⟨l + 1, by omega, by go_num, H2.out⟩
          case measure => simp [intOf]; omega
        · obtain rfl : l = 32 := by omega
          go_wp2
          go_roundw
          case rel => exact ⟨k + 1, by omega, by go_num, hs.out⟩
          case measure => simp [intOf]; omega
    · obtain rfl : k = 16 := by omega
      have HTK : Hid (zs.take (32 * 16) = zs) := List.take_of_length_le (by rw [HL.out]; decide)
      rw [HTK.out] at hr
      obtain ⟨g, cp, rfl, hg1, hg2⟩ := World.ownsRow.form hr.out.1 (by omega)
      have HSU : Hid (Calls Try.prog 19 #[.slice (some ⟨wr.heap.size, 0, none⟩) 1 1] (wr.alloc (.cells #[.slice (some ⟨g, 0, none⟩) 513 cp] 48)) fun r w' => r = .returned (.agg (u8s E)) ∧ wr.grownBy w' none) := by
        have h1 := gsum1_c (some ⟨g, 0, none⟩) 513 cp (1 :: zs) wr (own_seg hr.out.1) (bytes_cat bytes_1 HZ.out) (by decide) (fun h => by cases h) 48
        rw [HE.out] at h1
        exact h1
      have H3 : Hid (w1.grownBy wr none) := hr.out.2
      clear hr hg1 hg2
      go_wp2_with (first
        | (go_at_call 19; go_must (refine (Calls.mono HSU.out ?_)); rintro r w6 ⟨rfl, h6⟩; have H6 : Hid (Bk 25 w6 (w.heap.size + 1) (u8s dz32) ∧ w.grownBy w6 none) := ⟨(H1.out.2.1.gb H3.out).gb h6, gb_trans H1.out.2.2.1 (gb_trans H3.out h6)⟩; clear h6)
        | (refine wpList_store_bk 25 rfl (.tmp 2) (.tmp 25) rfl infoD (w.heap.size + 1) (u8s dz32) (u8s E) rfl rfl H6.out.1 rfl (by rw [u8s_size]; exact HSL.out) (u8s_one _) ?_; intro w7 h1 h2; have H7 : Hid (Bk 25 w7 (w.heap.size + 1) (u8s E) ∧ w.grownBy w7 none) := ⟨h1, gb_newer H6.out.2 h2 (by omega)⟩; clear h1 h2))
      refine bodyPost_ret (results_cell1 Try.results12 _ _ _ ⟨w.heap.size + 1, 0, none⟩ (.agg (u8s E)) rfl (bk_load (T := 25) Try.underlying25 rfl infoD H7.out.1 (by rw [u8s_size]; exact HSL.out))) rfl ?_
      exact ⟨rfl, H7.out.2⟩
end Go.Proofs.Ythbnbomdngecmaa
