/-
  What the document's Leads answers: the digest that a path leads to. Condition: the path's length is fifteen times the depth.
-/
import Derived.Test.YthbnbomdngecmaaMBe
import Derived.Test.YthbnbomdngecmaaMGn
import Derived.Test.YthbnbomdngecmaaRLs
namespace Go.Proofs.Ythbnbomdngecmaa
set_option linter.unusedVariables false
open Go.RowKit

theorem slice_d15h (a : Option Addr) (L c : Nat) (h : 15 ≤ c) (W : World) : (Instr.slice 37 (.slice a L c) none (some (.int .i64 15)) none).run Try.prog W = .ok (.slice a 15 c) W := by
  have e := slice_dh a L c 15 h W
  rw [show ((15 : Nat) : Int) = 15 from rfl] at e
  exact e
theorem bes_take (at' : Nat) (d ps : List Int) (ha : at' < 16) : bes at' d (ps.take 480) = bes at' d ps := by
  unfold bes
  rw [List.take_take, show min (32 * at') 480 = 32 * at' from by omega, List.drop_take, List.take_take]
  congr 2
  omega
set_option maxRecDepth 20000 in
set_option maxHeartbeats 1000000 in
theorem gleads_c (k b : Nat) (d ps : List Int) (a : Option Addr) (cap : Nat) (w : World) (hk : k ≤ 3) (hb : b < 4096) (hd : d.length = 32) (hdb : Bytes d) (hs : Seg .u8 w a (32 * (15 * k)) ps) (hpb : Bytes ps) (hc : 15 * k ≤ cap) (hcm : cap ≤ maxLen) :
    Calls Try.prog 27 #[.int .i64 k, .int .i64 b, .agg (u8s d), .slice a ((15 * k : Nat) : Int).toNat cap] w fun r w' => r = .returned (.agg (u8s (leads k b d ps))) ∧ w.grownBy w' none := by
  have hzd := zD
  have HB : Hid (Bk 25 (w.alloc (.cells (u8s d) 25)) w.heap.size (u8s d) ∧ w.grownBy (w.alloc (.cells (u8s d) 25)) none) := blk_new w _ _
  have HD : Hid (Bk 25 ((w.alloc (.cells (u8s d) 25)).alloc (.cells (u8s dz32) 25)) (w.alloc (.cells (u8s d) 25)).heap.size (u8s dz32) ∧ (w.alloc (.cells (u8s d) 25)).grownBy ((w.alloc (.cells (u8s d) 25)).alloc (.cells (u8s dz32) 25)) none) := blk_new _ _ _
  have HS0 : Hid ((w.alloc (.cells (u8s d) 25)).heap.size = w.heap.size + 1 ∧ ((w.alloc (.cells (u8s d) 25)).alloc (.cells (u8s dz32) 25)).heap.size = w.heap.size + 2) := ⟨by simp, by simp⟩
  have HS : Hid (Seg .u8 w a (32 * (15 * k)) ps ∧ Bytes ps ∧ Bytes d ∧ d.length = 32) := ⟨hs, hpb, hdb, hd⟩
  obtain ⟨E, hE⟩ : ∃ E, E = leads k b d ps := ⟨_, rfl⟩
  have HE : Hid (leads k b d ps = E) := hE.symm
  rw [← hE, show ((15 * k : Nat) : Int).toNat = 15 * k from by omega]
  clear hs hpb hdb hd hE
  go_enter Try.func27, Try.ntmps27
  go_wp2
  obtain ⟨w1, hw1⟩ : ∃ w1, w1 = (w.alloc (.cells (u8s d) 25)).alloc (.cells (u8s dz32) 25) := ⟨_, rfl⟩
  have H1 : Hid (Bk 25 w1 w.heap.size (u8s d) ∧ Bk 25 w1 (w.heap.size + 1) (u8s dz32) ∧ w.grownBy w1 none ∧ w1.heap.size = w.heap.size + 2) := by
    rw [hw1]
    exact ⟨HB.out.1.gb HD.out.2, HS0.out.1 ▸ HD.out.1, gb_trans HB.out.2 HD.out.2, HS0.out.2⟩
  rw [← hw1]
  clear HB HD HS0 hw1
  obtain ⟨D, hD⟩ : ∃ D, D = w.heap.size := ⟨_, rfl⟩
  rw [← hD] at H1 ⊢
  have HDD : Hid (D = w.heap.size) := hD
  clear hD
  go_loopw [1, 3, 9] (fun v u l wr => ∃ (j b' : Nat) (a' : Option Addr) (c' : Nat), j ≤ k ∧ v = .int .i64 b' ∧ u = .slice a' (15 * j) c' ∧ l = .int .i64 j ∧ b' < 4096 ∧ 15 * j ≤ c' ∧ c' ≤ maxLen ∧ Hid (∃ d' ps', Seg .u8 w a' (32 * (15 * j)) ps' ∧ Bytes ps' ∧ Bytes d' ∧ d'.length = 32 ∧ Bk 25 wr D (u8s d') ∧ Bk 25 wr (D + 1) (u8s dz32) ∧ w.grownBy wr none ∧ D + 2 ≤ wr.heap.size ∧ leads j b' d' ps' = E)) (fun _ u _ _ => slen u)
  case atStart => exact ⟨k, b, a, cap, Nat.le_refl _, rfl, rfl, rfl, hb, hc, hcm, d, ps, HS.out.1, HS.out.2.1, HS.out.2.2.1, HS.out.2.2.2, H1.out.1, H1.out.2.1, H1.out.2.2.1, by rw [H1.out.2.2.2]; exact Nat.le_refl _, HE.out⟩
  case round =>
    obtain ⟨j, b', a', c', hj, rfl, rfl, rfl, hb', hc', hcm', hr⟩ := hrel
    clear H1 HS HE hc hcm hb
    obtain ⟨d', ps', h1, h2, h3, h4, h5, h6, h7, h8, h9⟩ := hr.out
    clear hr
    rcases j with _ | j
    · have hz : ¬ (0 : Int) < 0 := by decide
      have HF : Hid (Bk 25 wr D (u8s d') ∧ Bk 25 wr (D + 1) (u8s dz32) ∧ w.grownBy wr none ∧ d' = E ∧ d'.length = 32) := ⟨h5, h6, h7, h9, h4⟩
      clear h1 h2 h3 h4 h5 h6 h7 h8 h9
      go_wp2_with (first
        | (refine wpList_load_bk 25 rfl (.tmp 6) rfl Try.underlying25 rfl infoD D (u8s d') rfl HF.out.1 (by rw [u8s_size]; exact HF.out.2.2.2.2) ?_)
        | (refine wpList_store_bk 25 rfl (.tmp 8) (.tmp 25) rfl infoD (D + 1) (u8s dz32) (u8s d') rfl rfl HF.out.2.1 rfl (by rw [u8s_size]; exact HF.out.2.2.2.2) (u8s_one _) ?_; intro w7 q1 q2; have H7 : Hid (Bk 25 w7 (D + 1) (u8s d') ∧ w.grownBy w7 none) := ⟨q1, gb_newer HF.out.2.2.1 q2 (by rw [← HDD.out]; omega)⟩; clear q1 q2))
      refine bodyPost_ret (results_cell1 Try.results27 _ _ _ ⟨D + 1, 0, none⟩ (.agg (u8s d')) rfl (bk_load (T := 25) Try.underlying25 rfl infoD H7.out.1 (by rw [u8s_size]; exact HF.out.2.2.2.2))) rfl ?_
      exact ⟨by rw [HF.out.2.2.2.1], H7.out.2⟩
    · have hg0 : (0 : Int) < ((j + 1 : Nat) : Int) := by omega
      obtain ⟨at', hat⟩ : ∃ at', at' = b' % 16 := ⟨_, rfl⟩
      have ha16 : at' < 16 := by omega
      have hquo : ((b' : Nat) : Int).tdiv 16 = ((b' / 16 : Nat) : Int) := by rw [Int.tdiv_eq_ediv_of_nonneg (by omega)]; omega
      obtain ⟨L, hL⟩ : ∃ L, L = 15 * (j + 1) := ⟨_, rfl⟩
      have HR : Hid (Seg .u8 w a' (32 * L) ps' ∧ Bytes ps' ∧ Bytes d' ∧ d'.length = 32 ∧ Bk 25 wr D (u8s d') ∧ Bk 25 wr (D + 1) (u8s dz32) ∧ w.grownBy wr none ∧ D + 2 ≤ wr.heap.size ∧ leads (j + 1) b' d' ps' = E) := ⟨hL ▸ h1, h2, h3, h4, h5, h6, h7, h8, h9⟩
      rw [← hL] at hc' ⊢
      have hL15 : 15 ≤ L := by omega
      have hmax : maxLen = 9223372036854775807 := rfl
      have HLL : Hid (L - 15 = 15 * j ∧ 15 * j ≤ c' - 15 ∧ c' - 15 ≤ maxLen ∧ j ≤ k ∧ at' = b' % 16 ∧ 15 * j < L) := ⟨by omega, by omega, by omega, by omega, hat, by omega⟩
      have HSC : Hid (Seg .u8 w (cutD a' c' 15) (32 * (15 * j)) (ps'.drop 480)) := HLL.out.1 ▸ seg_cutD HR.out.1 15 hc'
      have HSB : Hid ((sha (1 :: bes at' d' ps')).length = 32 ∧ Bytes (sha (1 :: bes at' d' ps'))) := ⟨sha_len _, sha_bytes _⟩
      have HEE : Hid (leads j (b' / 16) (sha (1 :: bes at' d' ps')) (ps'.drop 480) = E) := by
        show _ = _
        rw [HLL.out.2.2.2.2.1]
        exact HR.out.2.2.2.2.2.2.2.2
      have HPL : Hid (480 ≤ ps'.length) := by show _ ≤ _; rw [HR.out.1.1]; omega
      have HBE : Hid (∀ W, wr.grownBy W none → Calls Try.prog 42 #[.int .i64 b', .agg (u8s d'), .slice a' 15 c'] W fun r w' => r = .returned (.agg (u8s (bes at' d' ps'))) ∧ W.grownBy w' none) := fun W hW => by
        have e := gbes_c b' d' (ps'.take 480) a' c' W hb' h4 (seg_head ((HR.out.1.below (gb_below HR.out.2.2.2.2.2.2.1)).below (gb_below hW)) (by omega))
        rw [bes_take _ _ _ (by omega), ← HLL.out.2.2.2.2.1] at e
        exact e
      have HNC : Hid (∀ W, Calls Try.prog 12 #[.agg (u8s (bes at' d' ps'))] W fun r w' => r = .returned (.agg (u8s (sha (1 :: bes at' d' ps')))) ∧ W.grownBy w' none) := fun W => gnode_c _ (bes_bytes h3 h2) (bes_len ha16 h4 HPL.out) W
      have HSL : Hid (∀ W, (Instr.slice 37 (.slice a' L c') none (some (.int .i64 15)) none).run Try.prog W = .ok (.slice a' 15 c') W) := fun W => slice_d15h a' L c' (by omega) W
      have hsl4 := fun W => slice_d15 a' L c' hL15 W
      obtain ⟨S, hS⟩ : ∃ S, S = sha (1 :: bes at' d' ps') := ⟨_, rfl⟩
      rw [← hS] at HNC HSB HEE
      obtain ⟨X, hX⟩ : ∃ X, X = bes at' d' ps' := ⟨_, rfl⟩
      rw [← hX] at HNC HBE
      have HDL : Hid ((u8s d').toList.length = 32 ∧ (u8s d').size = 32) := ⟨by simp [u8s, h4], by rw [u8s_size]; exact h4⟩
      clear h1 h2 h3 h4 h5 h6 h7 h8 h9 hat hL hS hX hcm'
      go_wp2
      refine wp_region_last 6 rfl (by kernel_rfl) [15, 16, 17, 18, 19, 20, 100006] [[], [], [], [2], [0, 1, 3], [4], [5]] (by kernel_rfl) (by kernel_rfl) [fun u W => u = .int .i64 (b' : Int), fun u W => u = .agg (u8s d'), fun u W => u = .slice a' L c', fun u W => u = .slice a' 15 c', fun u W => u = .agg (u8s X), fun u W => u = .agg (u8s S)] ?stable ?step ?last
      case stable =>
        intro i v W W' h hg
        match i, h with
        | 0, h => exact h
        | 1, h => exact h
        | 2, h => exact h
        | 3, h => exact h
        | 4, h => exact h
        | 5, h => exact h
        | i + 6, h => exact trivial
      case step =>
        intro f W A hA hg i o hin ho hu K hK
        match i, hin, ho, hu, hK with
        | 0, hin, ho, hu, hK =>
          cases ho
          have e1 : A.eval (.tmp 1) = .int .i64 (b' : Int) := ev_out hA 1 rfl
          exact ph_move _ rfl rfl (.int .i64 (b' : Int)) e1 (hK _ _ (gb_rr W _) rfl)
        | 1, hin, ho, hu, hK =>
          cases ho
          have e6 : A.eval (.tmp 6) = .pointer (some ⟨D, 0, none⟩) := ev_out hA 6 rfl
          exact ph_load rfl 25 _ rfl Try.underlying25 rfl D 0 (u8s d').toList (by rw [HDL.out.1]; exact infoDs) e6 (fun j v hv => by rw [Nat.zero_add, (HR.out.2.2.2.2.1.gb hg).cell]; simpa using hv) (hK _ _ (gb_rr W _) rfl)
        | 2, hin, ho, hu, hK =>
          cases ho
          have e3 : A.eval (.tmp 3) = .slice a' L c' := ev_out hA 3 rfl
          exact ph_move _ rfl rfl (.slice a' L c') e3 (hK _ _ (gb_rr W _) rfl)
        | 3, hin, ho, hu, hK =>
          cases ho
          have e17 : A.eval (.tmp 17) = .slice a' L c' := (ev_in hA 17 2 rfl rfl rfl).trans (show f 2 = .slice a' L c' from hu 2 (by decide))
          have hsl := HSL.out W
          refine ph_sem rfl rfl (r := .ok (.value (.slice a' 15 c')) W) ?_ (hK _ _ (gb_rr W _) rfl)
          have eC : ∀ c, A.eval (.const c) = c := fun _ => rfl; have eF : ∀ g, A.eval (.func g) = .func (.func g) #[] #[] := fun _ => rfl; generalize A.eval = ρ at *
          clear hA hu hg hsl4
          go_simp
        | 4, hin, ho, hu, hK =>
          cases ho
          have e15 : A.eval (.tmp 15) = .int .i64 (b' : Int) := (ev_in hA 15 0 rfl rfl rfl).trans (show f 0 = .int .i64 (b' : Int) from hu 0 (by decide))
          have e16 : A.eval (.tmp 16) = .agg (u8s d') := (ev_in hA 16 1 rfl rfl rfl).trans (show f 1 = .agg (u8s d') from hu 1 (by decide))
          have e18 : A.eval (.tmp 18) = .slice a' 15 c' := (ev_in hA 18 3 rfl rfl rfl).trans (show f 3 = .slice a' 15 c' from hu 3 (by decide))
          refine ph_fn 42 _ _ rfl rfl #[.int .i64 (b' : Int), .agg (u8s d'), .slice a' 15 c'] (by simp [e15, e16, e18]) (by kernel_rfl) ?_
          refine (Calls.mono (HBE.out W hg) ?_)
          rintro e W' ⟨rfl, hq⟩
          exact ⟨_, rfl, hK _ _ hq rfl⟩
        | 5, hin, ho, hu, hK =>
          cases ho
          have e19 : A.eval (.tmp 19) = .agg (u8s X) := (ev_in hA 19 4 rfl rfl rfl).trans (show f 4 = .agg (u8s X) from hu 4 (by decide))
          refine ph_fn 12 _ _ rfl rfl #[.agg (u8s X)] (by simp [e19]) (by kernel_rfl) ?_
          refine (Calls.mono (HNC.out W) ?_)
          rintro e W' ⟨rfl, hq⟩
          exact ⟨_, rfl, hK _ _ hq rfl⟩
        | i + 6, hin, ho, hu, hK => omega
      case last =>
        intro f W A hA hg hu o ho K hK
        cases ho
        obtain ⟨w6, q0, q1, q2⟩ := bk_store (T := 25) infoDs (HR.out.2.2.2.2.1.gb hg) HDL.out.2 (show (u8s S).size = 32 by rw [u8s_size]; exact HSB.out.1) (u8s_one _)
        have e20 : A.eval (.tmp 20) = .agg (u8s S) := (ev_in hA 20 5 rfl rfl rfl).trans (show f 5 = .agg (u8s S) from hu 5 (by decide))
        have e6 : A.eval (.tmp 6) = .pointer (some ⟨D, 0, none⟩) := ev_out hA 6 rfl
        refine ph_store 25 _ _ rfl rfl ⟨D, 0, none⟩ (.agg (u8s S)) e6 e20 w6 q0 (hK _ _ ?_)
        show _
        have H6 : Hid (Bk 25 w6 D (u8s S) ∧ Bk 25 w6 (D + 1) (u8s dz32) ∧ w.grownBy w6 none ∧ D + 2 ≤ w6.heap.size) := ⟨q1, (HR.out.2.2.2.2.2.1.gb hg).grew q2 (fun e => by cases e), gb_newer (gb_trans HR.out.2.2.2.2.2.2.1 hg) q2 (Nat.le_of_eq HDD.out.symm), Nat.le_trans HR.out.2.2.2.2.2.2.2.1 (Nat.le_trans hg.size q2.size)⟩
        clear q0 q1 q2 e6 e20 hg
        have hA2 := hA.trans (putAll_lit [(.int .i64 (b' : Int)), (.agg (u8s d')), (.slice a' L c'), (.slice a' 15 c'), (.agg (u8s X)), (.agg (u8s S)), (f 6)] (by
          intro j hj
          match j, hj with
          | 0, _ => exact hu 0 (by decide)
          | 1, _ => exact hu 1 (by decide)
          | 2, _ => exact hu 2 (by decide)
          | 3, _ => exact hu 3 (by decide)
          | 4, _ => exact hu 4 (by decide)
          | 5, _ => exact hu 5 (by decide)
          | 6, _ => rfl
          | j + 7, hj => exact absurd hj (by simp)))
        clear hu hA
        subst hA2
        simp only [putAll, putL, List.mem_cons, List.not_mem_nil, List.idxOf_cons, Nat.reduceEqDiff, Nat.reduceBEq, Nat.reduceAdd, or_false, or_true, reduceIte, cond_true, cond_false, List.getD_cons_zero, List.getD_cons_succ, BEq.rfl]
        go_wp2
        rw [HLL.out.1]
        go_roundw
        case rel => exact ⟨j, b' / 16, _, _, HLL.out.2.2.2.1, rfl, rfl, by go_num, by omega, HLL.out.2.1, HLL.out.2.2.1, S, ps'.drop 480, HSC.out, bytes_drop HR.out.2.1 _, HSB.out.2, HSB.out.1, H6.out.1, H6.out.2.1, H6.out.2.2.1, H6.out.2.2.2, HEE.out⟩
        case measure => exact HLL.out.2.2.2.2.2
end Go.Proofs.Ythbnbomdngecmaa
