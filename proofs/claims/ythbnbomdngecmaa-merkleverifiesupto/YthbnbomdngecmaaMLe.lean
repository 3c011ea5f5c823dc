/-
  What merkle's lead answers: the digest that a path leads to. Condition: the path's length is fifteen times a depth.
-/
import Derived.Test.YthbnbomdngecmaaMSl
namespace Go.Proofs.Ythbnbomdngecmaa
set_option linter.unusedVariables false
open Go.RowKit

/-- Sixteen digests: one in its place, the others beside it. -/
def bes (at' : Nat) (d ps : List Int) : List Int := ps.take (32 * at') ++ d ++ (ps.drop (32 * at')).take (480 - 32 * at')
/-- The digest that a way up comes to. -/
def leads : Nat → Nat → List Int → List Int → List Int
  | 0, _, d, _ => d
  | k + 1, b, d, ps => leads k (b / 16) (sha (1 :: bes (b % 16) d ps)) (ps.drop 480)
theorem bes_len {at' : Nat} {d ps : List Int} (ha : at' < 16) (hd : d.length = 32) (hp : 480 ≤ ps.length) : (bes at' d ps).length = 512 := by simp [bes]; omega
theorem bytes_take {xs : List Int} (h : Bytes xs) (n : Nat) : Bytes (xs.take n) := bytes_of_mem fun z hz => h.mem z (List.mem_of_mem_take hz)
theorem bytes_drop {xs : List Int} (h : Bytes xs) (n : Nat) : Bytes (xs.drop n) := bytes_of_mem fun z hz => h.mem z (List.mem_of_mem_drop hz)
theorem bes_bytes {at' : Nat} {d ps : List Int} (hd : Bytes d) (hp : Bytes ps) : Bytes (bes at' d ps) := bytes_cat (bytes_cat (bytes_take hp _) hd) (bytes_take (bytes_drop hp _) _)
def dz512 : List Int := List.replicate 512 0
theorem dz512_len : dz512.length = 512 := List.length_replicate
set_option maxRecDepth 20000 in
theorem zA (w : World) : (zeroValue 34).run Try.prog w = .ok (.agg (u8s dz512)) w := by
  have h : (Try.prog.info? 34).map (fun i => (i.zero, i.size)) = some (some (.agg (u8s dz512)), 512) := by kernel_rfl
  exact (zero_of_info h).1 w
theorem lay_bes {at' : Nat} {d ps : List Int} (ha : at' < 16) (hd : d.length = 32) (hp : 480 ≤ ps.length) :
    lay (lay (lay dz512 0 (ps.take (32 * at'))) (32 * at') d) (32 * at' + 32) ((ps.drop (32 * at')).take (32 * (15 - at'))) = bes at' d ps := by
  have l1 : (ps.take (32 * at')).length = 32 * at' := by simp; omega
  have l2 : ((ps.drop (32 * at')).take (32 * (15 - at'))).length = 480 - 32 * at' := by simp; omega
  have e1 : lay dz512 0 (ps.take (32 * at')) = ps.take (32 * at') ++ dz512.drop (32 * at') := by simp [lay, l1]
  have e2 : lay (ps.take (32 * at') ++ dz512.drop (32 * at')) (32 * at') d = ps.take (32 * at') ++ d ++ dz512.drop (32 * at' + 32) := by
    unfold lay
    rw [List.take_left' l1, hd, List.drop_append, List.drop_of_length_le (by omega), l1, List.nil_append, List.drop_drop, show 32 * at' + (32 * at' + 32 - 32 * at') = 32 * at' + 32 from by omega]
  have l3 : (ps.take (32 * at') ++ d).length = 32 * at' + 32 := by rw [List.length_append, l1, hd]
  rw [e1, e2]
  have e3 : (ps.take (32 * at') ++ d ++ dz512.drop (32 * at' + 32)).drop (32 * at' + 32 + (480 - 32 * at')) = [] := List.drop_of_length_le (by rw [List.length_append, l3, List.length_drop, dz512_len]; omega)
  unfold lay bes
  rw [List.take_left' l3, l2, e3, List.append_nil, show 32 * (15 - at') = 480 - 32 * at' from by omega]
theorem slice_d15 (a : Option Addr) (L c : Nat) (h : 15 ≤ L) (W : World) : (Instr.slice 37 (.slice a L c) (some (.int .i64 15)) none none).run Try.prog W = .ok (.slice (cutD a c 15) (L - 15) (c - 15)) W := by
  have e := slice_dl a L c 15 h W
  rw [show ((15 : Nat) : Int) = 15 from rfl] at e
  exact e
theorem wrap_at (a : Nat) (h : a < 16) : IntKind.i64.wrap ((a : Int) + 1) = (a : Int) + 1 := IntWalk.i64_in _ ⟨by omega, by omega⟩
theorem nmin1 (L a : Nat) (h : a ≤ L) : Nat.min L a = a := Nat.min_eq_right h
theorem nmin2 (L a : Nat) (h : 15 ≤ L) (ha : a < 16) : Nat.min (L - a) (15 - a) = 15 - a := nmin1 _ _ (by omega)
theorem lay_lens {at' : Nat} {d ps : List Int} (ha : at' < 16) (hd : d.length = 32) (hp : 480 ≤ ps.length) : (lay dz512 0 (ps.take (32 * at'))).length = 512 ∧ (lay (lay dz512 0 (ps.take (32 * at'))) (32 * at') d).length = 512 := by
  have l1 : (ps.take (32 * at')).length = 32 * at' := by simp; omega
  have e1 : (lay dz512 0 (ps.take (32 * at'))).length = 512 := by
    have h := lay_len dz512 (ps.take (32 * at')) 0 (by rw [l1, dz512_len]; omega)
    rw [h, dz512_len]
  have h := lay_len (lay dz512 0 (ps.take (32 * at'))) d (32 * at') (by rw [e1, hd]; omega)
  exact ⟨e1, by rw [h, e1]⟩
set_option maxRecDepth 20000 in
set_option maxHeartbeats 1000000 in
theorem lead_c (k b : Nat) (d ps : List Int) (a : Option Addr) (cap : Nat) (w : World) (hk : k ≤ 3) (hb : b < 4096) (hd : d.length = 32) (hdb : Bytes d) (hs : Seg .u8 w a (32 * (15 * k)) ps) (hpb : Bytes ps) (hc : 15 * k ≤ cap) (hcm : cap ≤ maxLen) :
    Calls Try.prog 24 #[.int .i64 b, .agg (u8s d), .slice a ((15 * k : Nat) : Int).toNat cap] w fun r w' => r = .returned (.agg (u8s (leads k b d ps))) ∧ w.grownBy w' none := by
  have hzd := zD
  have hza := zA
  have HB : Hid (Bk 25 (w.alloc (.cells (u8s d) 25)) w.heap.size (u8s d) ∧ w.grownBy (w.alloc (.cells (u8s d) 25)) none) := blk_new w _ _
  have HD : Hid (Bk 25 ((w.alloc (.cells (u8s d) 25)).alloc (.cells (u8s dz32) 25)) (w.alloc (.cells (u8s d) 25)).heap.size (u8s dz32) ∧ (w.alloc (.cells (u8s d) 25)).grownBy ((w.alloc (.cells (u8s d) 25)).alloc (.cells (u8s dz32) 25)) none) := blk_new _ _ _
  have HS0 : Hid ((w.alloc (.cells (u8s d) 25)).heap.size = w.heap.size + 1 ∧ ((w.alloc (.cells (u8s d) 25)).alloc (.cells (u8s dz32) 25)).heap.size = w.heap.size + 2) := ⟨by simp, by simp⟩
  have HS : Hid (Seg .u8 w a (32 * (15 * k)) ps ∧ Bytes ps ∧ Bytes d ∧ d.length = 32) := ⟨hs, hpb, hdb, hd⟩
  obtain ⟨E, hE⟩ : ∃ E, E = leads k b d ps := ⟨_, rfl⟩
  have HE : Hid (leads k b d ps = E) := hE.symm
  rw [← hE, show ((15 * k : Nat) : Int).toNat = 15 * k from by omega]
  clear hs hpb hdb hd hE
  go_enter Try.func24, Try.ntmps24
  go_wp2
  obtain ⟨w1, hw1⟩ : ∃ w1, w1 = (w.alloc (.cells (u8s d) 25)).alloc (.cells (u8s dz32) 25) := ⟨_, rfl⟩
  have H1 : Hid (Bk 25 w1 w.heap.size (u8s d) ∧ Bk 25 w1 (w.heap.size + 1) (u8s dz32) ∧ w.grownBy w1 none ∧ w1.heap.size = w.heap.size + 2) := by
    rw [hw1]
    exact ⟨HB.out.1.gb HD.out.2, HS0.out.1 ▸ HD.out.1, gb_trans HB.out.2 HD.out.2, HS0.out.2⟩
  rw [← hw1]
  clear HB HD HS0 hw1
  obtain ⟨D, hD⟩ : ∃ D, D = w.heap.size := ⟨_, rfl⟩
  rw [← hD] at H1 ⊢
  have HDD : Hid (D = w.heap.size) := hD
  clear hD
  go_loopw [0, 2] (fun v u wr => ∃ (j b' : Nat) (a' : Option Addr) (c' : Nat), j ≤ k ∧ v = .int .i64 b' ∧ u = .slice a' (15 * j) c' ∧ b' < 4096 ∧ 15 * j ≤ c' ∧ c' ≤ maxLen ∧ Hid (∃ d' ps', Seg .u8 w a' (32 * (15 * j)) ps' ∧ Bytes ps' ∧ Bytes d' ∧ d'.length = 32 ∧ Bk 25 wr D (u8s d') ∧ Bk 25 wr (D + 1) (u8s dz32) ∧ w.grownBy wr none ∧ D + 2 ≤ wr.heap.size ∧ leads j b' d' ps' = E)) (fun _ u _ => slen u)
  case atStart => exact ⟨k, b, a, cap, Nat.le_refl _, rfl, rfl, hb, hc, hcm, d, ps, HS.out.1, HS.out.2.1, HS.out.2.2.1, HS.out.2.2.2, H1.out.1, H1.out.2.1, H1.out.2.2.1, by rw [H1.out.2.2.2]; exact Nat.le_refl _, HE.out⟩
  case round =>
    obtain ⟨j, b', a', c', hj, rfl, rfl, hb', hc', hcm', hr⟩ := hrel
    clear H1 HS HE hc hcm hb
    obtain ⟨d', ps', h1, h2, h3, h4, h5, h6, h7, h8, h9⟩ := hr.out
    clear hr
    rcases j with _ | j
    · have hz : ¬ (0 : Int) < 0 := by decide
      have HF : Hid (Bk 25 wr D (u8s d') ∧ Bk 25 wr (D + 1) (u8s dz32) ∧ w.grownBy wr none ∧ d' = E ∧ d'.length = 32) := ⟨h5, h6, h7, h9, h4⟩
      clear h1 h2 h3 h4 h5 h6 h7 h8 h9
      go_wp2_with (first
        | (refine wpList_load_bk 25 rfl (.tmp 4) rfl Try.underlying25 rfl infoD D (u8s d') rfl HF.out.1 (by rw [u8s_size]; exact HF.out.2.2.2.2) ?_)
        | (refine wpList_store_bk 25 rfl (.tmp 6) (.tmp 34) rfl infoD (D + 1) (u8s dz32) (u8s d') rfl rfl HF.out.2.1 rfl (by rw [u8s_size]; exact HF.out.2.2.2.2) (u8s_one _) ?_; intro w7 q1 q2; have H7 : Hid (Bk 25 w7 (D + 1) (u8s d') ∧ w.grownBy w7 none) := ⟨q1, gb_newer HF.out.2.2.1 q2 (by rw [← HDD.out]; omega)⟩; clear q1 q2))
      refine bodyPost_ret (results_cell1 Try.results24 _ _ _ ⟨D + 1, 0, none⟩ (.agg (u8s d')) rfl (bk_load (T := 25) Try.underlying25 rfl infoD H7.out.1 (by rw [u8s_size]; exact HF.out.2.2.2.2))) rfl ?_
      exact ⟨by rw [HF.out.2.2.2.1], H7.out.2⟩
    · have hg0 : (0 : Int) < ((15 * (j + 1) : Nat) : Int) := by omega
      obtain ⟨at', hat⟩ : ∃ at', at' = b' % 16 := ⟨_, rfl⟩
      have ha16 : at' < 16 := by omega
      have hrem : ((b' : Nat) : Int).tmod 16 = (at' : Int) := by rw [Int.tmod_eq_emod_of_nonneg (by omega)]; omega
      have hquo : ((b' : Nat) : Int).tdiv 16 = ((b' / 16 : Nat) : Int) := by rw [Int.tdiv_eq_ediv_of_nonneg (by omega)]; omega
      obtain ⟨bb, off, rfl, hbb, hcell⟩ := h1.2.resolve_left (by omega)
      have HZ : Hid (Bk 34 (wr.alloc (.cells (u8s dz512) 34)) wr.heap.size (u8s dz512) ∧ wr.grownBy (wr.alloc (.cells (u8s dz512) 34)) none) := blk_new wr _ _
      have HR : Hid (Seg .u8 w (some ⟨bb, off, none⟩) (32 * (15 * (j + 1))) ps' ∧ Bytes ps' ∧ Bytes d' ∧ d'.length = 32 ∧ Bk 25 wr D (u8s d') ∧ Bk 25 wr (D + 1) (u8s dz32) ∧ w.grownBy wr none ∧ D + 2 ≤ wr.heap.size ∧ leads (j + 1) b' d' ps' = E) := ⟨h1, h2, h3, h4, h5, h6, h7, h8, h9⟩
      obtain ⟨L, hL⟩ : ∃ L, L = 15 * (j + 1) := ⟨_, rfl⟩
      rw [← hL] at hg0 hc' HR ⊢
      have hL15 : 15 ≤ L := by omega
      have hmax : maxLen = 9223372036854775807 := rfl
      rw [hmax] at hcm'
      have HAT : Hid (at' = b' % 16 ∧ L = 15 * (j + 1) ∧ j + 1 ≤ k) := ⟨hat, hL, by omega⟩
      have HN : Hid (D ≠ wr.heap.size ∧ D + 1 ≠ wr.heap.size ∧ D < wr.heap.size) := ⟨by omega, by omega, by omega⟩
      have hsl1 := fun W => slA_to wr.heap.size at' (by omega) W
      obtain ⟨M, hM⟩ : ∃ M, M = 15 - at' := ⟨_, rfl⟩
      have HMM : Hid (M = 15 - at') := hM
      have hsl2 : ∀ W, (Instr.sliceAt 34 (.pointer (some ⟨wr.heap.size, 0, none⟩)) (some (.int .i64 ((at' : Int) + 1))) none none).run Try.prog W = .ok (.slice (cutN wr.heap.size (at' + 1)) M M) W := fun W => by
        rw [slA_from wr.heap.size (at' + 1) (by omega) ((at' : Int) + 1) (by omega) W, hM, show 16 - (at' + 1) = 15 - at' from by omega]
      have hsl3 := fun W => slice_dl (some ⟨bb, off, none⟩) L c' at' (by omega) W
      have hsl4 := fun W => slice_d15 (some ⟨bb, off, none⟩) L c' hL15 W
      have ha0 : (0 : Int) ≤ at' := by omega
      have ha6 : (at' : Int) < 16 := by omega
      have HM : Hid (Nat.min L at' = at' ∧ Nat.min (L - at') M = 15 - at') := ⟨nmin1 L at' (by omega), by rw [hM]; exact nmin2 L at' (by omega) (by omega)⟩
      have HL1 : Hid ((ps'.take (32 * at')).length = 32 * at' ∧ 480 ≤ ps'.length) := by
        have := h1.1
        exact ⟨by simp; omega, by omega⟩
      have HLY : Hid (lay (lay (lay dz512 0 (ps'.take (32 * at'))) (32 * at') d') (32 * at' + 32) ((ps'.drop (32 * at')).take (32 * (15 - at'))) = bes at' d' ps') := lay_bes ha16 h4 HL1.out.2
      have HY1 : Hid ((lay dz512 0 (ps'.take (32 * at'))).length = 512 ∧ (lay (lay dz512 0 (ps'.take (32 * at'))) (32 * at') d').length = 512) := lay_lens ha16 h4 HL1.out.2
      have HF1 : Hid (0 + 32 * Nat.min L at' ≤ dz512.length) := by show _ ≤ _; rw [HM.out.1, dz512_len]; omega
      have HF2 : Hid (at' * 32 + 32 ≤ (lay dz512 0 (ps'.take (32 * at'))).length) := by show _ ≤ _; rw [HY1.out.1]; omega
      have HF3 : Hid (32 * at' + 32 + 32 * Nat.min (L - at') M ≤ (lay (lay dz512 0 (ps'.take (32 * at'))) (32 * at') d').length) := by show _ ≤ _; rw [HM.out.2, HY1.out.2]; omega
      have HF4 : Hid (0 < Nat.min (L - at') M → cutN wr.heap.size (at' + 1) = some ⟨wr.heap.size, 32 * at' + 32, none⟩) := fun h => by
        rw [HM.out.2] at h
        unfold cutN
        rw [if_neg (by omega)]
        rfl
      have HF5 : Hid (Seg .u8 wr (cutD (some ⟨bb, off, none⟩) c' at') (32 * (L - at')) (ps'.drop (32 * at'))) := seg_cutD (HR.out.1.below (gb_below HR.out.2.2.2.2.2.2.1)) at' hc'
      have HNC : Hid (∀ W, Calls Try.prog 11 #[.agg (u8s (bes at' d' ps'))] W fun r w' => r = .returned (.agg (u8s (sha (1 :: bes at' d' ps')))) ∧ W.grownBy w' none) := fun W => node_c _ (bes_bytes h3 h2) (bes_len ha16 h4 HL1.out.2) W
      have HBL : Hid ((u8s (bes at' d' ps')).size = 512) := by show _ = _; rw [u8s_size]; exact bes_len ha16 h4 HL1.out.2
      clear h1 h2 h3 h4 h5 h6 h7 h8 h9 hcell hat hL hj hM
      have hw1 := wrap_at at' ha16
      go_wp2_with (first
        | (refine wpList_copy_dg rfl (.tmp 17) (.tmp 18) rfl 34 wr.heap.size 0 at' 16 (some ⟨wr.heap.size, 0, none⟩) (some ⟨bb, off, none⟩) L c' rfl rfl dz512 ps' HZ.out.1 (HR.out.1.below (gb_below (gb_trans HR.out.2.2.2.2.2.2.1 HZ.out.2))) (fun _ => rfl) HF1.out ?_; intro w2 q1 q2; have H2 : Hid (Bk 34 w2 wr.heap.size (u8s (lay dz512 0 (ps'.take (32 * at')))) ∧ wr.grownBy w2 none) := ⟨HM.out.1 ▸ q1, gb_newer HZ.out.2 q2 (Nat.le_refl _)⟩; clear q1 q2)
        | (refine wpList_load_bk 25 rfl (.tmp 4) rfl Try.underlying25 rfl infoD D (u8s d') rfl (HR.out.2.2.2.2.1.gb H2.out.2) (by rw [u8s_size]; exact HR.out.2.2.2.1) ?_)
        | (refine wpList_store_dg rfl (.tmp 22) (.tmp 21) rfl 34 wr.heap.size (at' * 32) (lay dz512 0 (ps'.take (32 * at'))) d' rfl rfl H2.out.1 HR.out.2.2.2.1 HF2.out ?_; intro w3 q1 q2; have H3 : Hid (Bk 34 w3 wr.heap.size (u8s (lay (lay dz512 0 (ps'.take (32 * at'))) (32 * at') d')) ∧ wr.grownBy w3 none) := ⟨Nat.mul_comm at' 32 ▸ q1, gb_newer H2.out.2 q2 (Nat.le_refl _)⟩; clear q1 q2))
      go_region_law (refine step_copy_dg rfl (.tmp 25) (.tmp 28) rfl 34 wr.heap.size (32 * at' + 32) M M (cutN wr.heap.size (at' + 1)) (cutD (some ⟨bb, off, none⟩) c' at') (L - at') (c' - at') rfl rfl (lay (lay dz512 0 (ps'.take (32 * at'))) (32 * at') d') (ps'.drop (32 * at')) (show Bk _ _ _ _ from H3.out.1) (HF5.out.below (gb_below (gb_drewN H3.out.2 _))) HF4.out HF3.out ?_; intro w4 q1 q2; have H4 : Hid (Bk 34 w4 wr.heap.size (u8s (bes at' d' ps')) ∧ wr.grownBy w4 none) := ⟨by rw [HM.out.2, HLY.out] at q1; exact q1, gb_newer (gb_drewN H3.out.2 _) q2 (Nat.le_refl _)⟩; clear q1 q2)
      all_goals (
        clear hw1 hsl1 hsl2 hsl3
        have HLL : Hid (L - 15 = 15 * j ∧ 15 * j ≤ c' - 15 ∧ c' - 15 ≤ maxLen ∧ j ≤ k) := by
          have := HAT.out
          refine ⟨?_, ?_, ?_, ?_⟩ <;> (try rw [hmax]) <;> omega
        have HSC : Hid (Seg .u8 w (cutD (some ⟨bb, off, none⟩) c' 15) (32 * (15 * j)) (ps'.drop 480)) := HLL.out.1 ▸ seg_cutD HR.out.1 15 hc'
        have HSB : Hid ((sha (1 :: bes at' d' ps')).length = 32 ∧ Bytes (sha (1 :: bes at' d' ps'))) := ⟨sha_len _, sha_bytes _⟩
        have HEE : Hid (leads j (b' / 16) (sha (1 :: bes at' d' ps')) (ps'.drop 480) = E) := by
          show _ = _
          rw [HAT.out.1]
          exact HR.out.2.2.2.2.2.2.2.2
        obtain ⟨S, hS⟩ : ∃ S, S = sha (1 :: bes at' d' ps') := ⟨_, rfl⟩
        rw [← hS] at HNC HSB HEE
        clear hS
        go_wp2_with (first
          | (refine wpList_load_bk 34 rfl (.tmp 8) rfl Try.underlying34 rfl infoA wr.heap.size (u8s (bes at' d' ps')) rfl H4.out.1 HBL.out ?_)
          | (go_at_call 11; go_must (refine (Calls.mono (HNC.out _) ?_)); rintro r w5 ⟨rfl, q5⟩; have H5 : Hid (Bk 25 w5 D (u8s d') ∧ wr.grownBy w5 none) := ⟨(HR.out.2.2.2.2.1.gb H4.out.2).gb q5, gb_trans H4.out.2 q5⟩; clear q5)
          | (refine wpList_store_bk 25 rfl (.tmp 4) (.tmp 31) rfl infoD D (u8s d') (u8s S) rfl rfl H5.out.1 (by rw [u8s_size]; exact HR.out.2.2.2.1) (by rw [u8s_size]; exact HSB.out.1) (u8s_one _) ?_; intro w6 q1 q2; have H6 : Hid (Bk 25 w6 D (u8s S) ∧ Bk 25 w6 (D + 1) (u8s dz32) ∧ w.grownBy w6 none ∧ D + 2 ≤ w6.heap.size) := ⟨q1, (HR.out.2.2.2.2.2.1.gb H5.out.2).grew q2 (fun e => by cases e), gb_newer (gb_trans HR.out.2.2.2.2.2.2.1 H5.out.2) q2 (Nat.le_of_eq HDD.out.symm), Nat.le_trans HR.out.2.2.2.2.2.2.2.1 (Nat.le_trans H5.out.2.size q2.size)⟩; clear q1 q2))
        rw [HLL.out.1]
        go_roundw
        case rel => exact ⟨j, b' / 16, _, _, HLL.out.2.2.2, rfl, rfl, by omega, HLL.out.2.1, HLL.out.2.2.1, S, ps'.drop 480, HSC.out, bytes_drop HR.out.2.1 _, HSB.out.2, HSB.out.1, H6.out.1, H6.out.2.1, H6.out.2.2.1, H6.out.2.2.2, HEE.out⟩
        case measure =>
          have := HAT.out
          show 15 * j < L
          omega)
end Go.Proofs.Ythbnbomdngecmaa
