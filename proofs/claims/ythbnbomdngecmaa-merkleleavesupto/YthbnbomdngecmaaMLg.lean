/-
  What merkle's Leaf answers of rows, and the document's: the digest of a byte 0 and the rows' bytes. Condition: at most 2^20 rows, at most 2^40 bytes.
-/
import Derived.Test.YthbnbomdngecmaaMRb
import Derived.Test.YthbnbomdngecmaaMDs
import Derived.Test.YthbnbomdngecmaaMGn
namespace Go.Proofs.Ythbnbomdngecmaa
open Go.RowKit
set_option linter.unusedVariables false

theorem picB_snoc (X : List Rw) (k : Nat) : picB X (List.range (k + 1)) = picB X (List.range k) ++ rowBr (X.getD k rw0) := by
  rw [List.range_succ, picB_app]; simp [picB]
theorem picB_mono (X : List Rw) (k n : Nat) (h : k ≤ n) : (picB X (List.range k)).length ≤ (picB X (List.range n)).length := by
  induction n with
  | zero => obtain rfl : k = 0 := by omega
            exact Nat.le_refl _
  | succ n ih =>
    rcases Nat.lt_or_ge k (n + 1) with h1 | h1
    · rw [picB_snoc, List.length_append]
      have := ih (by omega)
      omega
    · obtain rfl : k = n + 1 := by omega
      exact Nat.le_refl _
set_option maxHeartbeats 400000 in
theorem leaf_c (a : Option Addr) (cap : Nat) (X : List Rw) (w : World) (hX : X.length ≤ 1048576) (hm : Sml X) (hR : Rws w.heap.size w a X) :
    Calls Try.prog 8 #[.slice a X.length cap] w fun e w' => e = .returned (.agg (u8s (sha (0 :: picB X (List.range X.length))))) ∧ w.grownBy w' none := by
  have hzd := zD
  have HSL : Hid ((sha (0 :: picB X (List.range X.length))).length = 32) := sha_len _
  have HD : Hid (∀ Bs W, W.heap[Bs]? = some (.cells #[.slice a X.length cap] 28 (0, 0)) → w.grownBy W none → Calls Try.prog 16 #[.func (.func 29) #[] #[.pointer (some ⟨Bs, 0, none⟩)]] W fun e w' => e = .returned (.agg (u8s (sha (0 :: picB X (List.range X.length))))) ∧ W.grownBy w' none) := fun Bs W h hg => mdigest_c Bs a cap X W hX hm h (by
    rcases hR.kb (KB.gb hg (Nat.le_refl _)) with q | ⟨b, off, ha, hb, hc⟩
    · exact .inl q
    · exact .inr ⟨b, off, ha, Nat.lt_of_lt_of_le hb hg.size, hc⟩)
  obtain ⟨E, hE⟩ : ∃ E, E = sha (0 :: picB X (List.range X.length)) := ⟨_, rfl⟩
  rw [← hE] at HSL HD ⊢
  obtain ⟨N, hN⟩ : ∃ N, N = X.length := ⟨_, rfl⟩
  rw [← hN] at HD ⊢
  clear hE hR hm hX hN
  have HB : Hid (Bk 25 (w.alloc (.cells (u8s dz32) 25)) w.heap.size (u8s dz32) ∧ w.grownBy (w.alloc (.cells (u8s dz32) 25)) none) := blk_new w _ _
  go_enter Try.func8, Try.ntmps8
  go_wp2_with (first
    | (go_at_call 17; go_must (refine (values_c _ _ _ _).mono ?_); rintro r w1 ⟨rfl, h1⟩; have H1 : Hid (w1.heap[(w.alloc (.cells (u8s dz32) 25)).heap.size]? = some (.cells #[.slice a N cap] 28 (0, 0)) ∧ Bk 25 w1 w.heap.size (u8s dz32) ∧ w.grownBy w1 none) := (by rw [h1]; exact ⟨heap_new _ _, HB.out.1.gb (World.grownBy_alloc _ _ _), gb_trans HB.out.2 (World.grownBy_alloc _ _ _)⟩); clear h1)
    | (go_at_call 16; go_must (refine (Calls.mono (HD.out _ _ (by simpa using H1.out.1) H1.out.2.2) ?_)); rintro r w2 ⟨rfl, q⟩; have H2 : Hid (Bk 25 w2 w.heap.size (u8s dz32) ∧ w.grownBy w2 none) := ⟨H1.out.2.1.gb q, gb_trans H1.out.2.2 q⟩; clear q)
    | (refine wpList_store_bk 25 rfl (.tmp 2) (.tmp 5) rfl infoD w.heap.size (u8s dz32) (u8s E) rfl rfl H2.out.1 rfl (by rw [u8s_size]; exact HSL.out) (u8s_one _) ?_; intro w7 h1 h2; have H7 : Hid (Bk 25 w7 w.heap.size (u8s E) ∧ w.grownBy w7 none) := ⟨h1, gb_newer H2.out.2 h2 (Nat.le_refl _)⟩; clear h1 h2))
  refine bodyPost_ret (results_cell1 Try.results8 _ _ _ ⟨w.heap.size, 0, none⟩ (.agg (u8s E)) rfl (bk_load (T := 25) Try.underlying25 rfl infoD H7.out.1 (by rw [u8s_size]; exact HSL.out))) rfl ?_
  exact ⟨rfl, H7.out.2⟩
theorem own_oneP (w : World) (x : Int) : Pk.Own w.heap.size (w.alloc (.cells #[.int .u8 x] 5)) (.slice (some ⟨w.heap.size, 0, none⟩) 1 1) 1 [x] :=
  ⟨rfl, .inr ⟨w.heap.size, 1, _, rfl, Nat.le_refl _, heap_new w _, Nat.le_refl _, by decide, rfl, rfl⟩⟩
set_option maxRecDepth 20000 in
set_option maxHeartbeats 1000000 in
theorem gleaf_c (a : Option Addr) (cap : Nat) (X : List Rw) (w : World) (hX : X.length ≤ 1048576) (hm : Sml X) (hT : (picB X (List.range X.length)).length ≤ 1099511627000) (hR : Rws w.heap.size w a X) :
    Calls Try.prog 10 #[.slice a X.length cap] w fun e w' => e = .returned (.agg (u8s (sha (0 :: picB X (List.range X.length))))) ∧ w.grownBy w' none := by
  have hzd := zD
  have HC : Hid (Rws w.heap.size w a X ∧ Sml X ∧ (picB X (List.range X.length)).length ≤ 1099511627000) := ⟨hR, hm, hT⟩
  have HSL : Hid ((sha (0 :: picB X (List.range X.length))).length = 32) := sha_len _
  obtain ⟨E, hE⟩ : ∃ E, E = sha (0 :: picB X (List.range X.length)) := ⟨_, rfl⟩
  have HE : Hid (sha (0 :: picB X (List.range X.length)) = E) := hE.symm
  rw [← hE] at HSL ⊢
  obtain ⟨N, hN⟩ : ∃ N, N = X.length := ⟨_, rfl⟩
  have HN : Hid (N = X.length) := hN
  rw [← hN] at hX HC HE ⊢
  clear hE hR hm hT hN
  have HB : Hid (Bk 25 (w.alloc (.cells (u8s dz32) 25)) w.heap.size (u8s dz32) ∧ w.grownBy (w.alloc (.cells (u8s dz32) 25)) none ∧ (w.alloc (.cells (u8s dz32) 25)).heap.size = w.heap.size + 1) := ⟨(blk_new w _ _).1, (blk_new w _ _).2, by simp⟩
  go_enter Try.func10, Try.ntmps10
  go_wp2
  obtain ⟨w1, hw1⟩ : ∃ w1, w1 = w.alloc (.cells (u8s dz32) 25) := ⟨_, rfl⟩
  rw [← hw1] at HB ⊢
  clear hw1
  have H2 : Hid (Pk.Own w1.heap.size (w1.alloc (.cells #[.int .u8 0] 5)) (.slice (some ⟨w1.heap.size, 0, none⟩) 1 1) (1 + (picB X (List.range 0)).length) (0 :: picB X (List.range 0)) ∧ Below w1.heap.size w1 (w1.alloc (.cells #[.int .u8 0] 5))) := ⟨own_oneP w1 0, (Below.refl _ w1).alloc (Nat.le_refl _) _⟩
  obtain ⟨B, hB⟩ : ∃ B, B = w1.heap.size := ⟨_, rfl⟩
  have HBB : Hid (B = w1.heap.size ∧ B = w.heap.size + 1) := ⟨hB, hB.trans HB.out.2.2⟩
  rw [← HB.out.2.2, ← hB]
  rw [← hB] at H2
  clear hB
  go_loopw [3, 4] (fun v i wr => ∃ k : Nat, k ≤ N ∧ i = .int .i64 k ∧ Hid (Pk.Own B wr v (1 + (picB X (List.range k)).length) (0 :: picB X (List.range k)) ∧ Below B w1 wr)) (fun _ i _ => N - (intOf i).toNat)
  case atStart => exact ⟨0, Nat.zero_le _, rfl, H2⟩
  case round =>
    obtain ⟨k, hk, rfl, hr⟩ := hrel
    clear H2
    by_cases hlt : k < N
    · have hi1 : (k : Int) < N := by omega
      have hi0 : (0 : Int) ≤ k := by omega
      have HGW : Hid (w.grownBy wr none) := gb_trans HB.out.2.1 (grown_ofM (HBB.out.1 ▸ hr.out.2))
      rcases HC.out.1.kb (KB.gb HGW.out (Nat.le_refl _)) with h1 | ⟨b, off, rfl, hb, hc⟩
      · have := HN.out; rw [h1] at this; simp at this; omega
      · have hc1 := hc k (by have := HN.out; omega)
        have HSM : Hid _ := HC.out.2.1 k
        have HSN : Hid (picB X (List.range (k + 1)) = picB X (List.range k) ++ rowBr (X.getD k rw0)) := picB_snoc X k
        have HML : Hid ((picB X (List.range (k + 1))).length ≤ 1099511627000) := Nat.le_trans (picB_mono X (k + 1) N (by omega)) HC.out.2.2
        clear hc
        generalize X.getD k rw0 = r at hc1 HSM HSN
        obtain ⟨kf, kv, kn⟩ := r
        simp only at hc1 HSM
        obtain ⟨c0, c1, c2⟩ := hc1
        have HRB : Hid (∀ W, Calls Try.prog 18 #[.agg #[.string kf, .string kv, .int .i64 kn]] W fun r w' => Pk.Ans (rowB kf kv kn) W r w') := fun W => Pk.rowBytes_c kf kv kn W HSM.out.1 HSM.out.2
        unfold rowBr at HSN
        simp only at HSN
        obtain ⟨R, hR⟩ : ∃ R, R = rowB kf kv kn := ⟨_, rfl⟩
        rw [← hR] at HRB HSN
        clear hR
        go_wp2_with (first
          | (go_at_call 18; go_must (refine (Calls.mono (HRB.out _) ?_)); rintro r w3 ⟨ao, m, c, rfl, hm, ho, hsg, hn, hbl⟩; have H3 : Hid (m = R.length ∧ Pk.Seg .u8 w3 ao m R ∧ (ao = none → c = 0) ∧ Pk.Own B w3 u3 (1 + (picB X (List.range k)).length) (0 :: picB X (List.range k)) ∧ Below B w1 w3 ∧ B ≤ w3.heap.size) := ⟨hm, hsg, hn, Pk.own_below hr.out.1 hbl, hr.out.2.trans (hbl.mono (by have := hr.out.2.size; have := HBB.out.1; omega)), by have := hr.out.2.size; have := HBB.out.1; have := hbl.size; omega⟩; clear hm ho hsg hn hbl)
          | (at_builtin; go_must (refine Pk.wpList_append_apart _ rfl (.tmp 12) (.tmp 17) rfl B _ _ _ rfl H3.out.2.2.2.1 ao m c R rfl H3.out.2.2.1 H3.out.2.1 (by have h1 := HML.out; have h2 := H3.out.1; rw [HSN.out, List.length_append] at h1; omega) H3.out.2.2.2.2.2 ?_); intro v4 w4 ho hg _; have H4 : Hid (Pk.Own B w4 v4 (1 + (picB X (List.range (k + 1))).length) (0 :: picB X (List.range (k + 1))) ∧ Below B w1 w4) := ⟨by rw [HSN.out, List.length_append, ← H3.out.1, ← Nat.add_assoc]; exact ho, H3.out.2.2.2.2.1.trans ((Below.refl _ _).grown hg H3.out.2.2.2.2.2 (fun k hk => Pk.own_lo H3.out.2.2.2.1 k hk))⟩; clear ho hg))
        go_roundw
        case rel => exact ⟨k + 1, by omega, by go_num, H4.out⟩
        case measure => simp [intOf]; omega
    · obtain rfl : k = N := by omega
      obtain ⟨ao, c, rfl, hsg, hn, _⟩ := hr.out.1.seg
      have HSU : Hid (Calls Try.prog 19 #[.slice (some ⟨wr.heap.size, 0, none⟩) 1 1] (wr.alloc (.cells #[.slice ao (1 + (picB X (List.range k)).length) c] 48)) fun r w' => r = .returned (.agg (u8s E)) ∧ wr.grownBy w' none) := by
        have h1 := gsum1_c ao (1 + (picB X (List.range k)).length) c (0 :: picB X (List.range k)) wr ⟨hsg.1, hsg.2⟩ (bytes_cat bytes_0 (picB_bytes X _)) (by have := HC.out.2.2; omega) hn 48
        rw [HE.out] at h1
        exact h1
      have H3 : Hid (w1.grownBy wr none) := grown_ofM (HBB.out.1 ▸ hr.out.2)
      obtain ⟨L, hL⟩ : ∃ L, L = 1 + (picB X (List.range k)).length := ⟨_, rfl⟩
      rw [← hL] at HSU ⊢
      clear hr hsg hn hL
      go_wp2_with (first
        | (go_at_call 19; go_must (refine (Calls.mono HSU.out ?_)); rintro r w6 ⟨rfl, h6⟩; have H6 : Hid (Bk 25 w6 w.heap.size (u8s dz32) ∧ w.grownBy w6 none) := ⟨(HB.out.1.gb H3.out).gb h6, gb_trans HB.out.2.1 (gb_trans H3.out h6)⟩; clear h6)
        | (refine wpList_store_bk 25 rfl (.tmp 2) (.tmp 21) rfl infoD w.heap.size (u8s dz32) (u8s E) rfl rfl H6.out.1 rfl (by rw [u8s_size]; exact HSL.out) (u8s_one _) ?_; intro w7 h1 h2; have H7 : Hid (Bk 25 w7 w.heap.size (u8s E) ∧ w.grownBy w7 none) := ⟨h1, gb_newer H6.out.2 h2 (Nat.le_refl _)⟩; clear h1 h2))
      refine bodyPost_ret (results_cell1 Try.results10 _ _ _ ⟨w.heap.size, 0, none⟩ (.agg (u8s E)) rfl (bk_load (T := 25) Try.underlying25 rfl infoD H7.out.1 (by rw [u8s_size]; exact HSL.out))) rfl ?_
      exact ⟨rfl, H7.out.2⟩
end Go.Proofs.Ythbnbomdngecmaa
