/-
  What the document's Check answers of a state. Condition: none but that its rows can be read.
-/
import Derived.Test.YtcdgfghcmeadgaaDoorIGd
import Derived.Test.YtcdgfghcmeadgaaDoorIGe
namespace Go.Proofs.YtcdgfghcmeadgaaDoor
open Go.RowKit
set_option linter.unusedVariables false

set_option maxRecDepth 20000 in
set_option maxHeartbeats 4000000 in
theorem jcheck_c (seq : Int) (a : Option Addr) (n cap : Nat) (X : List Rwi) (w : World) (h : Rws w a n X) (hnm : n ≤ 9223372036854775807) :
    Calls Tryd.prog 29 #[.agg #[.int .i64 seq, .slice a n cap]] w fun r w' => r = .returned (.int .i64 (sE seq n X)) ∧ w.grownBy w' none := by
  have H0 : Hid (w.grownBy (w.alloc (.cells #[.int .i64 seq, .slice a n cap] 24)) none) := gal _ _
  by_cases hn : 1048576 < n
  · have he : sE seq n X = 90 := by unfold sE; rw [if_pos hn]
    rw [he]
    have hd : (1048576 : Int) < (n : Int) := by omega
    clear h he hn
    go_enter Tryd.func29, Tryd.ntmps29
    go_wp2
    go_ret
    exact ⟨rfl, H0.out⟩
  have hd : ¬ (1048576 : Int) < (n : Int) := by omega
  by_cases hs : seq < 0 ∨ 1152921504606846976 < seq
  · have he : sE seq n X = 91 := by unfold sE; rw [if_neg hn, if_pos hs]
    rw [he]
    clear h he hn
    rcases hs with hs | hs
    · go_enter Tryd.func29, Tryd.ntmps29
      go_wp2
      go_ret
      exact ⟨rfl, H0.out⟩
    · have hs0 : ¬ seq < 0 := by omega
      go_enter Tryd.func29, Tryd.ntmps29
      go_wp2
      go_ret
      exact ⟨rfl, H0.out⟩
  have hs0 : ¬ seq < 0 := by omega
  have hs1 : ¬ (1152921504606846976 : Int) < seq := by omega
  obtain ⟨W0, hW0⟩ : ∃ W0, W0 = w.alloc (.cells #[.int .i64 seq, .slice a n cap] 24) := ⟨_, rfl⟩
  obtain ⟨B, hB⟩ : ∃ B, B = w.heap.size := ⟨_, rfl⟩
  have HB : Hid (Bk 24 W0 B #[.int .i64 seq, .slice a n cap] ∧ w.grownBy W0 none ∧ Rws W0 a n X) := by
    have hb := (blk_new w 24 #[.int .i64 seq, .slice a n cap])
    rw [← hW0, ← hB] at hb
    exact ⟨hb.1, hb.2, h.below (gbb hb.2)⟩
  have HC0 : Hid (∀ W, W0.grownBy W none → W.cell? ⟨B, 0, none⟩ = some (.int .i64 seq)) := fun W hg => (HB.out.1.grew hg (by simp)).cell 0
  have HC1 : Hid (∀ W, W0.grownBy W none → W.cell? ⟨B, 1, none⟩ = some (.slice a n cap)) := fun W hg => (HB.out.1.grew hg (by simp)).cell 1
  obtain ⟨N2, hN2⟩ : ∃ N, N = (numB [seq, (n : Int)]).length := ⟨_, rfl⟩
  have hN2b : N2 ≤ 20 := by rw [hN2]; exact num2_le _ _ (by omega) (by omega)
  have HHD : Hid (∀ W, Calls Tryd.prog 34 #[.agg #[.int .i64 seq, .slice a n cap]] W fun r w' => ∃ va vc, r = .returned (.slice va (4 + N2) vc) ∧ W.grownBy w' none) := fun W => by
    refine (jhead_c seq a n cap W (by omega) (by omega) (by omega)).mono ?_
    rintro r w' ⟨v, rfl, q1, q2⟩
    obtain ⟨va, vc, rfl, _⟩ := q1.seg
    exact ⟨va, vc, by rw [hN2], bgb q2⟩
  have HNE : Hid (sE seq n X = (if okTo X seq n = false then 91 else if 268435456 < tz seq n X n then 90 else 0) ∧ N2 = (numB [seq, (n : Int)]).length) := ⟨by unfold sE; rw [if_neg hn, if_neg hs], hN2⟩
  have d0 := HC0.out W0 (grf _)
  have d1 := HC1.out W0 (grf _)
  clear h hn hs hN2 H0
  go_enter Tryd.func29, Tryd.ntmps29
  go_wp2_with fail
  rw [← hW0, ← hB]
  clear hW0 hB
  go_loopw [3, 24] (fun s i wr => ∃ (k : Nat) (S : ByteArray), k ≤ n ∧ s = .string S ∧ i = .int .i64 (k : Int) ∧ Hid (S = ahd X k ∧ okTo X seq k = true ∧ W0.grownBy wr none)) (fun _ i _ => n - (intOf i).toNat)
  case atStart => exact ⟨0, _, Nat.zero_le _, rfl, rfl, rfl, rfl, grf _⟩
  case round =>
    obtain ⟨k, S, hk, rfl, rfl, hr⟩ := hrel
    clear d0 d1
    by_cases hlt : k < n
    · have hi1 : (k : Int) < n := by omega
      rcases HB.out.2.2.2 with z | ⟨b, off, rfl, hbl, hcl⟩
      · omega
      obtain ⟨u, hu⟩ : ∃ u, u = rAt X k := ⟨_, rfl⟩
      have HRG : Hid (wr.rangeAt b (off + k * 3) u.cells) := by
        rw [hu]
        intro j v hv
        exact ((gbb hr.out.2.2).cell (p := ⟨b, off + k * 3 + j, none⟩) hbl).trans (hcl k hlt j v hv)
      have HNX : Hid (okTo X seq (k + 1) = fwI u S seq ∧ ahd X (k + 1) = u.k) := by
        refine ⟨?_, by rw [hu]; rfl⟩
        show (okTo X seq k && fwI (rAt X k) (ahd X k) seq) = _
        rw [hr.out.2.1, Bool.true_and, hu, hr.out.1]
      have hfst : ((k : Int) == 0) = true → S = .empty := fun e => by
        have : k = 0 := by simp at e; omega
        rw [hr.out.1, this]
        rfl
      clear hu hcl hbl
      obtain ⟨kk, vv, nn⟩ := u
      have hgA : W0.grownBy (wr.alloc (.cells #[.string kk, .string vv, .int .i64 nn] 48)) none := gb_trans hr.out.2.2 (gal _ _)
      have d0 := HC0.out _ hgA
      have HA : Hid (W0.grownBy (wr.alloc (.cells #[.string kk, .string vv, .int .i64 nn] 48)) none ∧ Bk 48 (wr.alloc (.cells #[.string kk, .string vv, .int .i64 nn] 48)) wr.heap.size #[.string kk, .string vv, .int .i64 nn]) := ⟨hgA, (blk_new wr _ _).1⟩
      obtain ⟨G, hG⟩ : ∃ G, G = fwI ⟨kk, vv, nn⟩ S seq := ⟨_, rfl⟩
      obtain ⟨F, hF⟩ : ∃ F, ((k : Int) == 0) = F := ⟨_, rfl⟩
      rw [hF] at hfst
      have HF : Hid (∀ W, Calls Tryd.prog 61 #[.agg #[.string kk, .string vv, .int .i64 nn], .bool F, .string S, .int .i64 seq] W fun r w' => r = .returned (.bool G) ∧ W.grownBy w' none) := fun W => by rw [hG]; exact jfollows_c kk vv nn F S seq W hfst
      clear hgA hfst
      cases G with
      | false =>
        have HE : Hid (sE seq n X = 91) := by
          show _ = _
          rw [HNE.out.1, if_pos (okTo_stay X seq (k + 1) n (by omega) (by rw [HNX.out.1, ← hG]))]
        clear hG
        go_wp2_with (first
          | (refine wpList_load_mid rfl 48 (.tmp 27) rfl b (off + k * 3) (by first | rfl | simp) [.string kk, .string vv, .int .i64 nn] _ HRG.out Tryd.underlying48 rfl (by kernel_rfl) ?_)
          | (refine wpList_load_bk 48 rfl (.tmp 5) rfl Tryd.underlying48 rfl infoRwI wr.heap.size _ rfl HA.out.2 rfl ?_)
          | (go_at_call 61; go_must (refine (Calls.mono (HF.out _) ?_)); rintro r x2 ⟨rfl, h2⟩; have A2 : Hid (w.grownBy x2 none) := gb_trans HB.out.2.1 (gb_trans HA.out.1 h2); clear h2))
        go_ret
        rw [HE.out]
        exact ⟨rfl, A2.out⟩
      | true =>
        have HOK : Hid (okTo X seq (k + 1) = true) := by show _ = _; rw [HNX.out.1, ← hG]
        clear hG
        go_wp2_with (first
          | (refine wpList_load_mid rfl 48 (.tmp 27) rfl b (off + k * 3) (by first | rfl | simp) [.string kk, .string vv, .int .i64 nn] _ HRG.out Tryd.underlying48 rfl (by kernel_rfl) ?_)
          | ((fail_if_success (have z := A2)); refine wpList_load_bk 48 rfl (.tmp 5) rfl Tryd.underlying48 rfl infoRwI wr.heap.size _ rfl HA.out.2 rfl ?_)
          | (go_at_call 61; go_must (refine (Calls.mono (HF.out _) ?_)); rintro r x2 ⟨rfl, h2⟩; have A2 : Hid (W0.grownBy x2 none) := gb_trans HA.out.1 h2; have e0 : x2.cell? ⟨wr.heap.size, 0, none⟩ = some (.string kk) := (HA.out.2.grew h2 (by simp)).cell 0; clear h2))
        go_roundw
        case rel => exact ⟨k + 1, kk, by omega, rfl, by go_num, HNX.out.2.symm, HOK.out, A2.out⟩
        case measure => simp [intOf]; omega
    · obtain rfl : k = n := by omega
      have hge : ¬ (k : Int) < k := by omega
      have HNF : Hid (sE seq k X = (if 268435456 < tz seq k X k then 90 else 0)) := by
        show _ = _
        rw [HNE.out.1, if_neg (by rw [hr.out.2.1]; decide)]
      have HBR : Hid (Bk 24 wr B #[.int .i64 seq, .slice a k cap] ∧ W0.grownBy wr none ∧ okTo X seq k = true) := ⟨HB.out.1.grew hr.out.2.2 (by simp), hr.out.2.2, hr.out.2.1⟩
      clear hr
      go_wp2_with (first
        | (refine wpList_load_bk 24 rfl (.tmp 1) rfl Tryd.underlying24 rfl infoState B _ rfl HBR.out.1 rfl ?_)
        | (go_at_call 34; go_must (refine (Calls.mono (HHD.out _) ?_)); rintro r x2 ⟨va, vc, rfl, h2⟩; have A2 : Hid (W0.grownBy x2 none) := gb_trans HBR.out.2.1 h2; have d1 := HC1.out _ A2.out; clear h2))
      go_loopw [6, 47] (fun t i wr => ∃ (j : Nat) (T : Nat), j ≤ k ∧ t = .int .i64 (T : Int) ∧ i = .int .i64 (j : Int) ∧ Hid (T = tz seq k X j ∧ W0.grownBy wr none ∧ T ≤ 66700 * (j + 1))) (fun _ i _ => k - (intOf i).toNat)
      case atStart =>
        refine ⟨0, 4 + N2 + 4, Nat.zero_le _, by go_num, rfl, ?_, A2.out, by omega⟩
        unfold tz
        rw [← HNE.out.2]
        simp [rowsB]
        omega
      case round =>
        obtain ⟨j, T, hj, rfl, rfl, hr⟩ := hrel
        clear A2 d1
        have hTb : T ≤ 69942116000 := by have := hr.out.2.2; omega
        by_cases hlt : j < k
        · have hi1 : (j : Int) < k := by omega
          rcases HB.out.2.2.2 with z | ⟨b, off, rfl, hbl, hcl⟩
          · omega
          obtain ⟨u, hu⟩ : ∃ u, u = rAt X j := ⟨_, rfl⟩
          have HRG : Hid (wr.rangeAt b (off + j * 3) u.cells) := by
            rw [hu]
            intro i v hv
            exact ((gbb hr.out.2.1).cell (p := ⟨b, off + j * 3 + i, none⟩) hbl).trans (hcl j hlt i v hv)
          have hbd := fw_bd (okTo_at HBR.out.2.2 hlt)
          rw [← hu] at hbd
          have hTN : tz seq k X (j + 1) = T + u.bytes.length := by
            rw [hr.out.1, hu]
            unfold tz
            show 8 + _ + (rowsB X j ++ (rAt X j).bytes).length = _
            rw [List.length_append]
            omega
          clear hu hcl hbl
          obtain ⟨kk, vv, nn⟩ := u
          simp only at hbd
          obtain ⟨R, hR⟩ : ∃ R, R = (rowB kk vv nn).length := ⟨_, rfl⟩
          have hRb : R ≤ 66590 := by
            rw [hR, row_len]
            have := num3_le (kk.size : Int) (vv.size : Int) nn (by omega) (by omega) (by omega)
            omega
          have HTN : Hid (tz seq k X (j + 1) = T + R) := by show _ = _; rw [hTN, hR]; rfl
          have HRS : Hid (∀ W, Calls Tryd.prog 62 #[.agg #[.string kk, .string vv, .int .i64 nn]] W fun r w' => r = .returned (.int .i64 (R : Int)) ∧ W.grownBy w' none) := fun W => by
            rw [hR]
            exact jrowSize_c kk vv nn W (by omega) (by omega) (by omega) (by omega)
          have HA : Hid (W0.grownBy (wr.alloc (.cells #[.string kk, .string vv, .int .i64 nn] 48)) none ∧ Bk 48 (wr.alloc (.cells #[.string kk, .string vv, .int .i64 nn] 48)) wr.heap.size #[.string kk, .string vv, .int .i64 nn]) := ⟨gb_trans hr.out.2.1 (gal _ _), (blk_new wr _ _).1⟩
          clear hbd hTN hR
          go_wp2_with (first
            | (refine wpList_load_mid rfl 48 (.tmp 49) rfl b (off + j * 3) (by first | rfl | simp) [.string kk, .string vv, .int .i64 nn] _ HRG.out Tryd.underlying48 rfl (by kernel_rfl) ?_)
            | (refine wpList_load_bk 48 rfl (.tmp 8) rfl Tryd.underlying48 rfl infoRwI wr.heap.size _ rfl HA.out.2 rfl ?_)
            | (go_at_call 62; go_must (refine (Calls.mono (HRS.out _) ?_)); rintro r x2 ⟨rfl, h2⟩; have A2 : Hid (W0.grownBy x2 none) := gb_trans HA.out.1 h2; clear h2))
          go_roundw
          case rel => exact ⟨j + 1, T + R, by omega, by go_num, by go_num, HTN.out.symm, A2.out, by have := hr.out.2.2; omega⟩
          case measure => simp [intOf]; omega
        · obtain rfl : j = k := by omega
          have hge : ¬ (j : Int) < j := by omega
          have HEE : Hid (sE seq j X = (if 268435456 < T then 90 else 0) ∧ w.grownBy wr none) := ⟨by rw [HNF.out, ← hr.out.1], gb_trans HB.out.2.1 hr.out.2.1⟩
          by_cases hbig : 268435456 < T
          · have hb1 : (268435456 : Int) < (T : Int) := by omega
            rw [if_pos hbig] at HEE
            clear hr
            go_wp2_with fail
            go_ret
            rw [HEE.out.1]
            exact ⟨rfl, HEE.out.2⟩
          · have hb1 : ¬ (268435456 : Int) < (T : Int) := by omega
            rw [if_neg hbig] at HEE
            clear hr
            go_wp2_with fail
            go_ret
            rw [HEE.out.1]
            exact ⟨rfl, HEE.out.2⟩
end Go.Proofs.YtcdgfghcmeadgaaDoor
