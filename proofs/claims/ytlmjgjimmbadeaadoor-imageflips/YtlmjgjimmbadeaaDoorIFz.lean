/-
  The law's walk: an image of which bits are turned is refused, or is as it was. Condition: the state's rows and the turned places can be read; the table of package crc lies in memory.
-/
import Derived.Test.YtlmjgjimmbadeaaDoorIDk
import Derived.Test.YtlmjgjimmbadeaaDoorIGf
import Derived.Test.YtlmjgjimmbadeaaDoorIFw
import Derived.Test.YtlmjgjimmbadeaaDoorSme
import Derived.Test.YtlmjgjimmbadeaaDoorRLk
import Derived.Test.YtlmjgjimmbadeaaDoorTSk
namespace Go.Proofs.YtlmjgjimmbadeaaDoor
open Go.RowKit
set_option linter.unusedVariables false

theorem blk_two' (w : World) (T U : TypeId) (cs es : Array Value) : Bk T ((w.alloc (.cells cs T)).alloc (.cells es U)) w.heap.size cs ∧ Bk U ((w.alloc (.cells cs T)).alloc (.cells es U)) (w.heap.size + 1) es ∧ w.grownBy ((w.alloc (.cells cs T)).alloc (.cells es U)) none := blk_twoI w T U cs es
theorem gb_newI {a b c : World} (h : a.grownBy b none) (k : b.grownBy c (some a.heap.size)) : a.grownBy c none :=
  ⟨k.os.trans h.os, k.tape.trans h.tape, k.output.trans h.output, Nat.le_trans h.size k.size, fun i hi hn => (k.block i (Nat.lt_of_lt_of_le hi h.size) (fun e => by have := Option.some.inj e; omega)).trans (h.block i hi hn)⟩
set_option maxRecDepth 20000 in
set_option maxHeartbeats 4000000 in
theorem flips_w (seq : Int) (a : Option Addr) (n cap : Nat) (X : List Rwi) (T0 : Int) (v : Cr.Wd) (am : Option Addr) (lm cm : Nat) (zm : List Int) (w : World) (h : Rws w a n X) (hcm : n ≤ 9223372036854775807) (hT0 : -9223372036854775808 ≤ T0 ∧ T0 ≤ 9223372036854775807) (hm : Seg .i64 w am lm zm) (hz : ∀ i, i < lm → -9223372036854775808 ≤ zm[i]?.getD 0 ∧ zm[i]?.getD 0 ≤ 9223372036854775807) (ht : Cr.Tab w) :
    Calls Tryd.prog 7 #[.agg #[.int .i64 seq, .slice a n cap], .agg #[.int .i64 T0, .int .u32 (Cr.W v), .slice am lm cm]] w fun e w' => e = .returned (.bool true) ∧ Below w.heap.size w w' := by
  obtain ⟨W0, hW0⟩ : ∃ W0, W0 = (w.alloc (.cells #[.int .i64 seq, .slice a n cap] 24)).alloc (.cells #[.int .i64 T0, .int .u32 (Cr.W v), .slice am lm cm] 75) := ⟨_, rfl⟩
  have HB0 : Hid (Bk 24 W0 w.heap.size #[.int .i64 seq, .slice a n cap] ∧ Bk 75 W0 (w.heap.size + 1) #[.int .i64 T0, .int .u32 (Cr.W v), .slice am lm cm] ∧ w.grownBy W0 none) := by
    rw [hW0]; exact blk_twoI w _ _ _ _
  obtain ⟨E, hE⟩ : ∃ E, E = sE seq n X := ⟨_, rfl⟩
  have HJ : Hid (∀ W, w.grownBy W none → Calls Tryd.prog 29 #[.agg #[.int .i64 seq, .slice a n cap]] W fun r w' => r = .returned (.int .i64 E) ∧ W.grownBy w' none) := fun W hg => by
    rw [hE]
    exact jcheck_c seq a n cap X W (h.below (gbb hg)) hcm
  have c0 : W0.cell? ⟨w.heap.size + 1, 0, none⟩ = some (.int .i64 T0) := HB0.out.2.1.cell 0
  have c1 : W0.cell? ⟨w.heap.size + 1, 1, none⟩ = some (.int .u32 (Cr.W v)) := HB0.out.2.1.cell 1
  have c2 : W0.cell? ⟨w.heap.size + 1, 2, none⟩ = some (.slice am lm cm) := HB0.out.2.1.cell 2
  by_cases hE0 : E = 0
  · subst hE0
    have hX : X.length = n := h.1
    have hd := img_dok hE.symm hX
    have hiB : iB seq n X = img seq n X := if_pos hE.symm
    have hbody : ∀ z ∈ bodyTo seq n X n, 0 ≤ z ∧ z < 256 := mem_bytes (body_bytes seq n X n (fun j hj => okTo_at (sE_ok hE.symm).2.2.2.1 hj))
    have hbx : Bytes (img seq n X) := bytes_mem (Cr.sealed_bytes _ hbody)
    obtain ⟨xs, hxs⟩ : ∃ xs, xs = img seq n X := ⟨_, rfl⟩
    obtain ⟨L, hLL⟩ : ∃ L, L = xs.length := ⟨_, rfl⟩
    rw [← hxs] at hd hiB hbx
    have HXB : Hid (Bytes xs) := hbx
    have HDK : Hid (DOk xs seq X) := hd
    have hLb : L ≤ 268435456 ∧ 10 ≤ L := ⟨by rw [hLL]; exact hd.1, by rw [hLL]; exact hd.2.1⟩
    have HEN : Hid (∀ W, w.grownBy W none → Calls Tryd.prog 11 #[.agg #[.int .i64 seq, .slice a n cap]] W fun r w' => ∃ va vc, r = .returned (.tuple #[.slice va L vc, .int .i64 0]) ∧ Seg .u8 w' va L xs ∧ L ≤ vc ∧ (va = none → vc = 0) ∧ W.grownBy w' none) := fun W hg => by
      have k := iencode_c seq a n cap X W (h.below (gbb hg)) (ht.below (gbb hg))
      rw [hiB, ← hE, ← hLL] at k
      refine k.mono ?_
      rintro r w' ⟨va, vc, rfl, k1, k2⟩
      obtain ⟨a', c', e, k3, k4, k5⟩ := k1.seg
      cases e
      exact ⟨va, vc, rfl, k3, k5, k4, below_gbI k2⟩
    have HX : Hid (xs = img seq n X ∧ xs.length = L ∧ ∀ z ∈ bodyTo seq n X n, 0 ≤ z ∧ z < 256) := ⟨hxs, hLL.symm, hbody⟩
    have HMT : Hid (Seg .i64 w am lm zm ∧ (∀ i, i < lm → -9223372036854775808 ≤ zm[i]?.getD 0 ∧ zm[i]?.getD 0 ≤ 9223372036854775807) ∧ Cr.Tab w) := ⟨hm, hz, ht⟩
    have hL10 : ¬ (L : Int) < 10 := by omega
    clear h hm hz ht hE hd hiB hbx hxs hLL hX hbody
    by_cases hbig : 134217728 < L
    · have hb1 : (134217728 : Int) < (L : Int) := by omega
      go_enter Tryd.func7, Tryd.ntmps7
      go_wp2_with fail
      rw [← hW0]
      clear hW0
      go_quiet (fail)
      generalize hW1 : World.drewN W0 _ = W1
      have H1 : Hid (Bk 24 W1 w.heap.size #[.int .i64 seq, .slice a n cap] ∧ w.grownBy W1 none) := by
        rw [← hW1]
        exact ⟨HB0.out.1.grew (gb_dr (grf W0) _) (by simp), gb_dr HB0.out.2.2 _⟩
      clear hW1 c0 c1 c2
      go_wp2_with (first
        | ((fail_if_success (have z := H2)); refine wpList_load_bk 24 rfl (.tmp 2) rfl Tryd.underlying24 rfl infoState w.heap.size _ rfl H1.out.1 rfl ?_)
        | (go_at_call 29; go_must (refine (Calls.mono (HJ.out _ H1.out.2) ?_)); rintro r w2 ⟨rfl, q4⟩; have H2 : Hid (Bk 24 w2 w.heap.size #[.int .i64 seq, .slice a n cap] ∧ w.grownBy w2 none) := ⟨H1.out.1.grew q4 (by simp), gb_trans H1.out.2 q4⟩; clear q4)
        | (have z := H2; clear z; refine wpList_load_bk 24 rfl (.tmp 2) rfl Tryd.underlying24 rfl infoState w.heap.size _ rfl H2.out.1 rfl ?_)
        | (go_at_call 11; go_must (refine (Calls.mono (HEN.out _ H2.out.2) ?_)); rintro r w3 ⟨va, vc, rfl, q1, q2, q3, q4⟩; have H3 : Hid (w.grownBy w3 none ∧ Seg .u8 w3 va L xs ∧ L ≤ vc ∧ (va = none → vc = 0)) := ⟨gb_trans H2.out.2 q4, q1, q2, q3⟩; clear q1 q2 q3 q4)
        | (go_at_call 32; go_must (refine (Calls.mono (copy_c va L vc xs w3 H3.out.2.1 HXB.out (by omega)) ?_)); rintro r w4 ⟨g, cg, rfl, q1, q2⟩; have H4 : Hid (Mine w4 w3.heap.size g L cg xs ∧ Below w3.heap.size w3 w4) := ⟨q1, q2⟩; clear q1 q2))
      go_ret
      exact ⟨rfl, gbb H3.out.1⟩
    have hb1 : ¬ (134217728 : Int) < (L : Int) := by omega
    have HPL : Hid (∀ (k : Int) (W : World), -9223372036854775808 ≤ k ∧ k ≤ 9223372036854775807 → Calls Tryd.prog 33 #[.int .i64 k, .int .i64 (8 * (L : Int))] W fun r w' => ∃ J : Int, 0 ≤ J ∧ J < 8 * (L : Int) ∧ r = .returned (.int .i64 J) ∧ w' = W) := fun k W hk => by
      have q := place_c k (8 * L) W hk (by omega) (by omega)
      rw [Int.natCast_mul] at q
      exact q.mono fun r w' ⟨F, h1, h2, h3⟩ => ⟨(F : Int), by omega, by omega, h2, h3⟩
    by_cases hA : 1 ≤ lm ∧ lm ≤ 3
    · have ha1 : (0 : Int) < (lm : Int) := by omega
      have ha2 : (lm : Int) ≤ 3 := by omega
      go_enter Tryd.func7, Tryd.ntmps7
      go_wp2_with fail
      rw [← hW0]
      clear hW0
      go_quiet (fail)
      generalize hW1 : World.drewN W0 _ = W1
      have H1 : Hid (Bk 24 W1 w.heap.size #[.int .i64 seq, .slice a n cap] ∧ w.grownBy W1 none) := by
        rw [← hW1]
        exact ⟨HB0.out.1.grew (gb_dr (grf W0) _) (by simp), gb_dr HB0.out.2.2 _⟩
      clear hW1 c0 c1 c2
      go_wp2_with (first
        | ((fail_if_success (have z := H2)); refine wpList_load_bk 24 rfl (.tmp 2) rfl Tryd.underlying24 rfl infoState w.heap.size _ rfl H1.out.1 rfl ?_)
        | (go_at_call 29; go_must (refine (Calls.mono (HJ.out _ H1.out.2) ?_)); rintro r w2 ⟨rfl, q4⟩; have H2 : Hid (Bk 24 w2 w.heap.size #[.int .i64 seq, .slice a n cap] ∧ w.grownBy w2 none) := ⟨H1.out.1.grew q4 (by simp), gb_trans H1.out.2 q4⟩; clear q4)
        | (have z := H2; clear z; refine wpList_load_bk 24 rfl (.tmp 2) rfl Tryd.underlying24 rfl infoState w.heap.size _ rfl H2.out.1 rfl ?_)
        | (go_at_call 11; go_must (refine (Calls.mono (HEN.out _ H2.out.2) ?_)); rintro r w3 ⟨va, vc, rfl, q1, q2, q3, q4⟩; have H3 : Hid (w.grownBy w3 none ∧ Seg .u8 w3 va L xs ∧ L ≤ vc ∧ (va = none → vc = 0)) := ⟨gb_trans H2.out.2 q4, q1, q2, q3⟩; clear q1 q2 q3 q4)
        | (go_at_call 32; go_must (refine (Calls.mono (copy_c va L vc xs w3 H3.out.2.1 HXB.out (by omega)) ?_)); rintro r w4 ⟨g, cg, rfl, q1, q2⟩; have H4 : Hid (Mine w4 w3.heap.size g L cg xs ∧ Below w3.heap.size w3 w4) := ⟨q1, q2⟩; clear q1 q2))
      have HVA : Hid (Seg .u8 w3 va L xs ∧ Cr.Tab w3) := ⟨H3.out.2.1, HMT.out.2.2.below (gbb H3.out.1)⟩
      have HWG : Hid (Below w.heap.size w w3 ∧ w.heap.size ≤ w3.heap.size) := ⟨gbb H3.out.1, H3.out.1.size⟩
      have HSM : Hid (Seg .i64 w3 am lm zm) := HMT.out.1.below (gbb H3.out.1)
      go_loopw [67] (fun i wr => ∃ (k : Nat) (ys : List Int) (T : List Nat), k ≤ lm ∧ i = .int .i64 k ∧ Hid (T.length ≤ k ∧ Cr.Turnt xs ys T) ∧ Hid (Mine wr w3.heap.size g L cg ys ∧ Below w3.heap.size w3 wr)) (fun i _ => lm - (intOf i).toNat)
      case atStart => exact ⟨0, xs, [], Nat.zero_le _, rfl, ⟨Nat.le_refl _, Cr.Turnt.start xs (mem_bytes HXB.out)⟩, H4.out⟩
      case round =>
        obtain ⟨k, ys, T, hk, rfl, hT, HR⟩ := hrel
        clear H4
        by_cases hlt : k < lm
        · have hi1 : (k : Int) < lm := by omega
          obtain ⟨bm, om, rfl, hbm, hcmm⟩ := HSM.out.2.resolve_left (by omega)
          have hcell : wr.cell? ⟨bm, om + k, none⟩ = some (.int .i64 (zm[k]?.getD 0)) := (HR.out.2.cell (p := ⟨bm, om + k, none⟩) hbm).trans (hcmm k hlt)
          have hmk := HMT.out.2.1 k hlt
          obtain ⟨m, hme⟩ : ∃ m, m = zm[k]?.getD 0 := ⟨_, rfl⟩
          rw [← hme] at hcell hmk
          have HPK : Hid (Calls Tryd.prog 33 #[.int .i64 m, .int .i64 (8 * (L : Int))] wr fun r w' => ∃ J : Int, 0 ≤ J ∧ J < 8 * (L : Int) ∧ r = .returned (.int .i64 J) ∧ w' = wr) := HPL.out m wr hmk
          clear hme hmk hcmm
          go_wp2_with (go_at_call 33; go_must (refine (Calls.mono HPK.out ?_)); rintro r w5 ⟨J, hJ0, hJ1, rfl, hq⟩; obtain rfl := hq.symm)
          obtain ⟨D, hDe⟩ : ∃ D : Int, J / (8 : Int) = D := ⟨_, rfl⟩
          obtain ⟨E8, hEe⟩ : ∃ E8 : Int, J % (8 : Int) = E8 := ⟨_, rfl⟩
          have hD' : J.tdiv (8 : Int) = D := by rw [← hDe]; exact Int.tdiv_eq_ediv_of_nonneg hJ0
          have hE' : J.tmod (8 : Int) = E8 := by rw [← hEe]; exact Int.tmod_eq_emod_of_nonneg hJ0
          have hD0 : (0 : Int) ≤ D := by omega
          have hD1 : D < (L : Int) := by omega
          have hE0' : (0 : Int) ≤ E8 := by omega
          have hE1' : E8 < 8 := by omega
          have e1 : D.toNat = J.toNat / 8 := by omega
          have e2 : E8.toNat = J.toNat % 8 := by omega
          have hcY : wr.cell? ⟨g, D.toNat, none⟩ = some (.int .u8 (ys[D.toNat]?.getD 0)) := HR.out.1.cell D.toNat (by omega)
          have hfY : wr.frozen? ⟨g, D.toNat, none⟩ = false := HR.out.1.free D.toNat (by have := HR.out.1.le; omega)
          obtain ⟨Y, hY⟩ : ∃ Y, Y = ys[D.toNat]?.getD 0 := ⟨_, rfl⟩
          rw [← hY] at hcY
          have hYb : 0 ≤ Y ∧ Y < 256 := by
            rw [hY]
            exact bytes_mem hT.out.2.bytes D.toNat (by rw [HR.out.1.len]; omega)
          have HVV : Hid (bits .xor .u8 Y ((2 : Int) ^ E8.toNat % 256) = Cr.bx (ys[J.toNat / 8]?.getD 0) ((2 ^ (J.toNat % 8) : Nat) : Int)) := by
            rw [e2]
            exact flip_val J.toNat Y (by rw [hY, e1]) hYb
          have HJL : Hid (J.toNat < 8 * xs.length ∧ D.toNat = J.toNat / 8 ∧ D.toNat < L) := ⟨by rw [HX.out.2.1]; omega, e1, by omega⟩
          obtain ⟨Z, hZ⟩ : ∃ Z, IntKind.u8.wrap ((2 : Int) ^ E8.toNat) = Z := ⟨_, rfl⟩
          obtain ⟨V, hV⟩ : ∃ V, bits .xor .u8 Y Z = V := ⟨_, rfl⟩
          have HV2 : Hid (V = Cr.bx (ys[J.toNat / 8]?.getD 0) ((2 ^ (J.toNat % 8) : Nat) : Int)) := by
            show V = _
            rw [← HVV.out, ← hV, ← hZ, IntKind.wrap_u8]
          have z1 : IntKind.i64.wrap D = D := IntWalk.i64_in _ ⟨by omega, by omega⟩
          have z2 : IntKind.i64.wrap E8 = E8 := IntWalk.i64_in _ ⟨by omega, by omega⟩
          have z3 : min E8.toNat 8 = E8.toNat := by omega
          clear hY e1 e2 hDe hEe
          have HW14 : Hid (∀ W, wr.grownBy W none → W.cell? ⟨g, D.toNat, none⟩ = some (.int .u8 Y) ∧ W.frozen? ⟨g, D.toNat, none⟩ = false) := fun W hg => ⟨((gbb hg).cell HR.out.1.lt).trans hcY, ((gbb hg).frozen HR.out.1.lt).trans hfY⟩
          obtain ⟨T', HT2⟩ := turnt_more hT.out.2 J.toNat HJL.out.1
          have HT2 : Hid (Cr.Turnt xs (Cr.flip ys J.toNat) T' ∧ T'.length ≤ k + 1) := ⟨HT2.1, by have := hT.out.1; have := HT2.2; omega⟩
          have HR5 : Hid (∀ W, wr.grownBy W none → Mine (W.setCell ⟨g, D.toNat, none⟩ (.int .u8 V)) w3.heap.size g L cg (Cr.flip ys J.toNat) ∧ Below w3.heap.size w3 (W.setCell ⟨g, D.toNat, none⟩ (.int .u8 V))) := fun W hg => by
            have q := (HR.out.1.later (gbb hg)).set D.toNat HJL.out.2.2 V
            rw [HV2.out, HJL.out.2.1] at q ⊢
            exact ⟨q, (HR.out.2.trans ((gbb hg).mono HR.out.2.size)).setCell HR.out.1.lo _⟩
          clear HVV HV2 hcY hfY hT hE1'
          refine wp_region_lastR (fun a b => World.grownBy a b none) (fun _ _ _ h k => gb_trans h k) ⟨rfl, rfl, rfl, Nat.le_refl _, fun _ _ _ => rfl⟩ 10 rfl (by kernel_rfl) [74, 75, 76, 77, 78, 79, 80, 81, 82, 83, 100010] [[], [], [1], [0, 2], [3], [], [5], [6], [4, 7], [0, 2], [9, 8]] (by kernel_rfl) (by kernel_rfl) [fun u W => u = .slice (some ⟨g, 0, none⟩) L cg, fun u W => u = .int .i64 J, fun u W => u = .int .i64 D, fun u W => u = .pointer (some ⟨g, D.toNat, none⟩), fun u W => u = .int .u8 Y, fun u W => u = .int .i64 J, fun u W => u = .int .i64 E8, fun u W => u = .int .u8 Z, fun u W => u = .int .u8 V, fun u W => u = .pointer (some ⟨g, D.toNat, none⟩)] ?stable ?step ?last
          case stable =>
            intro i v W W' h hg
            match i, h with
            | 0, h => exact h
            | 1, h => exact h
            | 2, h => exact h
            | 3, h => exact h
            | 4, h => exact h
            | 5, h => exact h
            | 6, h => exact h
            | 7, h => exact h
            | 8, h => exact h
            | 9, h => exact h
            | i + 10, h => exact trivial
          case step =>
            intro f W A hA hg i o hin ho hu K hK
            match i, hin, ho, hu, hK with
            | 0, hin, ho, hu, hK =>
              cases ho
              have hw := HW14.out W hg
              have e11 : A.eval (.tmp 11) = .slice (some ⟨g, 0, none⟩) L cg := ev_out hA 11 rfl
              exact ph_move _ rfl rfl (.slice (some ⟨g, 0, none⟩) L cg) e11 (hK _ _ (gb_rr W _) rfl)
            | 1, hin, ho, hu, hK =>
              cases ho
              have hw := HW14.out W hg
              have e14 : A.eval (.tmp 14) = .int .i64 J := ev_out hA 14 rfl
              exact ph_move _ rfl rfl (.int .i64 J) e14 (hK _ _ (gb_rr W _) rfl)
            | 2, hin, ho, hu, hK =>
              cases ho
              have hw := HW14.out W hg
              have e75 : A.eval (.tmp 75) = .int .i64 J := (ev_in hA 75 1 rfl rfl rfl).trans (show f 1 = .int .i64 J from hu 1 (by decide))
              refine ph_sem rfl rfl (r := .ok (.value (.int .i64 D)) W) ?_ (hK _ _ (gb_rr W _) rfl)
              have eC : ∀ c, A.eval (.const c) = c := fun _ => rfl; have eF : ∀ g, A.eval (.func g) = .func (.func g) #[] #[] := fun _ => rfl; generalize A.eval = ρ at *
              clear hA hu hg hw
              go_simp
            | 3, hin, ho, hu, hK =>
              cases ho
              have hw := HW14.out W hg
              have e74 : A.eval (.tmp 74) = .slice (some ⟨g, 0, none⟩) L cg := (ev_in hA 74 0 rfl rfl rfl).trans (show f 0 = .slice (some ⟨g, 0, none⟩) L cg from hu 0 (by decide))
              have e76 : A.eval (.tmp 76) = .int .i64 D := (ev_in hA 76 2 rfl rfl rfl).trans (show f 2 = .int .i64 D from hu 2 (by decide))
              refine ph_sem rfl rfl (r := .ok (.value (.pointer (some ⟨g, D.toNat, none⟩))) W) ?_ (hK _ _ (gb_rr W _) rfl)
              have eC : ∀ c, A.eval (.const c) = c := fun _ => rfl; have eF : ∀ g, A.eval (.func g) = .func (.func g) #[] #[] := fun _ => rfl; generalize A.eval = ρ at *
              clear hA hu hg hw
              go_simp
            | 4, hin, ho, hu, hK =>
              cases ho
              have hw := HW14.out W hg
              have e77 : A.eval (.tmp 77) = .pointer (some ⟨g, D.toNat, none⟩) := (ev_in hA 77 3 rfl rfl rfl).trans (show f 3 = .pointer (some ⟨g, D.toNat, none⟩) from hu 3 (by decide))
              have hc := hw.1
              refine ph_sem rfl rfl (r := .ok (.value (.int .u8 Y)) W) ?_ (hK _ _ (gb_rr W _) rfl)
              have eC : ∀ c, A.eval (.const c) = c := fun _ => rfl; have eF : ∀ g, A.eval (.func g) = .func (.func g) #[] #[] := fun _ => rfl; generalize A.eval = ρ at *
              clear hA hu hg hw
              go_simp
            | 5, hin, ho, hu, hK =>
              cases ho
              have hw := HW14.out W hg
              have e14 : A.eval (.tmp 14) = .int .i64 J := ev_out hA 14 rfl
              exact ph_move _ rfl rfl (.int .i64 J) e14 (hK _ _ (gb_rr W _) rfl)
            | 6, hin, ho, hu, hK =>
              cases ho
              have hw := HW14.out W hg
              have e79 : A.eval (.tmp 79) = .int .i64 J := (ev_in hA 79 5 rfl rfl rfl).trans (show f 5 = .int .i64 J from hu 5 (by decide))
              refine ph_sem rfl rfl (r := .ok (.value (.int .i64 E8)) W) ?_ (hK _ _ (gb_rr W _) rfl)
              have eC : ∀ c, A.eval (.const c) = c := fun _ => rfl; have eF : ∀ g, A.eval (.func g) = .func (.func g) #[] #[] := fun _ => rfl; generalize A.eval = ρ at *
              clear hA hu hg hw
              go_simp
            | 7, hin, ho, hu, hK =>
              cases ho
              have hw := HW14.out W hg
              have e80 : A.eval (.tmp 80) = .int .i64 E8 := (ev_in hA 80 6 rfl rfl rfl).trans (show f 6 = .int .i64 E8 from hu 6 (by decide))
              refine ph_sem rfl rfl (r := .ok (.value (.int .u8 Z)) W) ?_ (hK _ _ (gb_rr W _) rfl)
              have eC : ∀ c, A.eval (.const c) = c := fun _ => rfl; have eF : ∀ g, A.eval (.func g) = .func (.func g) #[] #[] := fun _ => rfl; generalize A.eval = ρ at *
              clear hA hu hg hw
              go_simp
            | 8, hin, ho, hu, hK =>
              cases ho
              have hw := HW14.out W hg
              have e78 : A.eval (.tmp 78) = .int .u8 Y := (ev_in hA 78 4 rfl rfl rfl).trans (show f 4 = .int .u8 Y from hu 4 (by decide))
              have e81 : A.eval (.tmp 81) = .int .u8 Z := (ev_in hA 81 7 rfl rfl rfl).trans (show f 7 = .int .u8 Z from hu 7 (by decide))
              refine ph_sem rfl rfl (r := .ok (.value (.int .u8 V)) W) ?_ (hK _ _ (gb_rr W _) rfl)
              have eC : ∀ c, A.eval (.const c) = c := fun _ => rfl; have eF : ∀ g, A.eval (.func g) = .func (.func g) #[] #[] := fun _ => rfl; generalize A.eval = ρ at *
              clear hA hu hg hw
              go_simp
            | 9, hin, ho, hu, hK =>
              cases ho
              have hw := HW14.out W hg
              have e74 : A.eval (.tmp 74) = .slice (some ⟨g, 0, none⟩) L cg := (ev_in hA 74 0 rfl rfl rfl).trans (show f 0 = .slice (some ⟨g, 0, none⟩) L cg from hu 0 (by decide))
              have e76 : A.eval (.tmp 76) = .int .i64 D := (ev_in hA 76 2 rfl rfl rfl).trans (show f 2 = .int .i64 D from hu 2 (by decide))
              refine ph_sem rfl rfl (r := .ok (.value (.pointer (some ⟨g, D.toNat, none⟩))) W) ?_ (hK _ _ (gb_rr W _) rfl)
              have eC : ∀ c, A.eval (.const c) = c := fun _ => rfl; have eF : ∀ g, A.eval (.func g) = .func (.func g) #[] #[] := fun _ => rfl; generalize A.eval = ρ at *
              clear hA hu hg hw
              go_simp
            | i + 10, hin, ho, hu, hK => omega
          case last =>
            intro f W A hA hg hu o ho K hK
            cases ho
            have hw := HW14.out W hg
            have e82 : A.eval (.tmp 82) = .int .u8 V := (ev_in hA 82 8 rfl rfl rfl).trans (show f 8 = .int .u8 V from hu 8 (by decide))
            have e83 : A.eval (.tmp 83) = .pointer (some ⟨g, D.toNat, none⟩) := (ev_in hA 83 9 rfl rfl rfl).trans (show f 9 = .pointer (some ⟨g, D.toNat, none⟩) from hu 9 (by decide))
            refine ph_sem rfl rfl (r := .ok .skip (W.setCell ⟨g, D.toNat, none⟩ (.int .u8 V))) ?st (hK _ _ ?go)
            case st =>
              have eC : ∀ c, A.eval (.const c) = c := fun _ => rfl
              have hc := hw.1
              have hf := hw.2
              generalize A.eval = ρ at *
              clear hA hu hg hw
              go_simp
            case go =>
              have H5 : Hid _ := HR5.out W hg
              clear hg hw e82 e83
              have hA2 := hA.trans (putAll_lit [(.slice (some ⟨g, 0, none⟩) L cg), (.int .i64 J), (.int .i64 D), (.pointer (some ⟨g, D.toNat, none⟩)), (.int .u8 Y), (.int .i64 J), (.int .i64 E8), (.int .u8 Z), (.int .u8 V), (.pointer (some ⟨g, D.toNat, none⟩)), (f 10)] (by
                intro j hj
                match j, hj with
                | 0, _ => exact hu 0 (by decide)
                | 1, _ => exact hu 1 (by decide)
                | 2, _ => exact hu 2 (by decide)
                | 3, _ => exact hu 3 (by decide)
                | 4, _ => exact hu 4 (by decide)
                | 5, _ => exact hu 5 (by decide)
                | 6, _ => exact hu 6 (by decide)
                | 7, _ => exact hu 7 (by decide)
                | 8, _ => exact hu 8 (by decide)
                | 9, _ => exact hu 9 (by decide)
                | 10, _ => rfl
                | j + 11, hj => exact absurd hj (by simp)))
              clear hu hA
              subst hA2
              simp only [putAll, putL, List.mem_cons, List.not_mem_nil, List.idxOf_cons, Nat.reduceEqDiff, Nat.reduceBEq, Nat.reduceAdd, or_false, or_true, reduceIte, cond_true, cond_false, List.getD_cons_zero, List.getD_cons_succ, BEq.rfl]
              go_wp2_with fail
              go_roundw
              case rel => exact ⟨k + 1, Cr.flip ys J.toNat, T', by omega, by go_num, ⟨HT2.out.2, HT2.out.1⟩, H5.out⟩
              case measure => simp [intOf]; omega
        · obtain rfl : k = lm := by omega
          have hge : ¬ (k : Int) < k := by omega
          have HYB : Hid (∀ z ∈ ys, 0 ≤ z ∧ z < 256) := hT.out.2.bytes
          have HEND : Hid (ys = xs ∨ Cr.holds ys = false) := by
            have q := hT.out
            rw [HX.out.1] at q ⊢
            exact turnt_end HX.out.2.2 q.2 (by omega) (by rw [← HX.out.1, HX.out.2.1]; omega)
          clear hT
          have HBW : Hid (Below w.heap.size w wr) := HWG.out.1.trans (HR.out.2.mono HWG.out.2)
          by_cases hys : ys = xs
          · have HDE : Hid (Calls Tryd.prog 19 #[.slice (some ⟨g, 0, none⟩) L cg] wr fun r w' => ∃ s sa sn sc, r = .returned (.tuple #[.agg #[.int .i64 s, .slice sa sn sc], .int .i64 0]) ∧ wr.grownBy w' none) := by
              refine (idec_c (some ⟨g, 0, none⟩) L cg ys wr HR.out.1.seg (bytes_mem HYB.out) (by omega) HR.out.1.le (fun e => by cases e) (HVA.out.2.below HR.out.2)).mono ?_
              rintro r w' ⟨⟨b, n', seq', X', p1, p2, p3, p4⟩ | ⟨e, p1, p2⟩, p5⟩
              · exact ⟨_, _, _, _, p1, below_gbI p5⟩
              · exact absurd (by rw [hys]; exact HDK.out) ((dno_not p2).2 seq X)
            have HSA : Hid (∀ W, wr.grownBy W none → Calls Tryd.prog 14 #[.slice va L vc, .slice (some ⟨g, 0, none⟩) L cg] W fun e w' => e = .returned (.bool true) ∧ w' = W) := fun W hg => by
              have k := same_c va (some ⟨g, 0, none⟩) L vc L cg xs ys W ((HVA.out.1.below HR.out.2).grew hg (by simp)) (HR.out.1.seg.grew hg (by simp)) HXB.out (bytes_mem HYB.out)
              rw [hys, show decide (xs = xs) = true from by simp] at k
              exact k
            clear HR HEND HYB hys
            go_wp2_with (first
              | (go_at_call 19; go_must (refine (Calls.mono HDE.out ?_)); rintro r x1 ⟨s, sa, sn, sc, rfl, s4⟩; have A2 : Hid (wr.grownBy (x1.alloc (.cells #[.int .i64 s, .slice sa sn sc] 24)) none) := gb_trans s4 (gal _ _); clear s4 HDE)
              | (go_at_call 14; go_must (refine (Calls.mono (HSA.out _ A2.out) ?_)); rintro r x3 ⟨rfl, hq⟩; obtain rfl := hq.symm))
            go_ret
            exact ⟨rfl, HBW.out.trans ((gbb A2.out).mono HBW.out.size)⟩
          · have HDE : Hid (Calls Tryd.prog 19 #[.slice (some ⟨g, 0, none⟩) L cg] wr fun r w' => ∃ s sa sn sc e, r = .returned (.tuple #[.agg #[.int .i64 s, .slice sa sn sc], .int .i64 e]) ∧ (e != 0) = true ∧ wr.grownBy w' none) := by
              refine (idec_c (some ⟨g, 0, none⟩) L cg ys wr HR.out.1.seg (bytes_mem HYB.out) (by omega) HR.out.1.le (fun e => by cases e) (HVA.out.2.below HR.out.2)).mono ?_
              rintro r w' ⟨⟨b, n', seq', X', p1, p2, p3, p4⟩ | ⟨e, p1, p2⟩, p5⟩
              · rcases HEND.out with q | q
                · exact absurd q hys
                · rw [p2.2.2.2.1] at q; cases q
              · exact ⟨0, none, 0, 0, e, p1, (dno_not p2).1, below_gbI p5⟩
            clear HR HEND HYB hys
            go_wp2_with (go_at_call 19; go_must (refine (Calls.mono HDE.out ?_)); rintro r x1 ⟨s, sa, sn, sc, e, rfl, he, s4⟩; have A2 : Hid (wr.grownBy (x1.alloc (.cells #[.int .i64 s, .slice sa sn sc] 24)) none) := gb_trans s4 (gal _ _); clear s4 HDE)
            go_ret
            exact ⟨by first | rfl | exact congrArg (fun b => Ending.returned (Value.bool b)) he, HBW.out.trans ((gbb A2.out).mono HBW.out.size)⟩
    · have HPT : Hid (∀ W, Calls Tryd.prog 33 #[.int .i64 T0, .int .i64 (8 * (L : Int))] W fun r w' => ∃ J : Int, 0 ≤ J ∧ J < 8 * (L : Int) ∧ r = .returned (.int .i64 J) ∧ w' = W) := fun W => HPL.out T0 W hT0
      rcases (by omega : lm = 0 ∨ 3 < lm) with hl0 | hl3
      · subst hl0
        have hl1 : ¬ (0 : Int) < ((0 : Nat) : Int) := by omega
        go_enter Tryd.func7, Tryd.ntmps7
        go_wp2_with fail
        rw [← hW0]
        clear hW0
        go_quiet (fail)
        generalize hW1 : World.drewN W0 _ = W1
        have H1 : Hid (Bk 24 W1 w.heap.size #[.int .i64 seq, .slice a n cap] ∧ w.grownBy W1 none) := by
          rw [← hW1]
          exact ⟨HB0.out.1.grew (gb_dr (grf W0) _) (by simp), gb_dr HB0.out.2.2 _⟩
        clear hW1 c0 c1 c2
        go_wp2_with (first
          | ((fail_if_success (have z := H2)); refine wpList_load_bk 24 rfl (.tmp 2) rfl Tryd.underlying24 rfl infoState w.heap.size _ rfl H1.out.1 rfl ?_)
          | (go_at_call 29; go_must (refine (Calls.mono (HJ.out _ H1.out.2) ?_)); rintro r w2 ⟨rfl, q4⟩; have H2 : Hid (Bk 24 w2 w.heap.size #[.int .i64 seq, .slice a n cap] ∧ w.grownBy w2 none) := ⟨H1.out.1.grew q4 (by simp), gb_trans H1.out.2 q4⟩; clear q4)
          | (have z := H2; clear z; refine wpList_load_bk 24 rfl (.tmp 2) rfl Tryd.underlying24 rfl infoState w.heap.size _ rfl H2.out.1 rfl ?_)
          | (go_at_call 11; go_must (refine (Calls.mono (HEN.out _ H2.out.2) ?_)); rintro r w3 ⟨va, vc, rfl, q1, q2, q3, q4⟩; have H3 : Hid (w.grownBy w3 none ∧ Seg .u8 w3 va L xs ∧ L ≤ vc ∧ (va = none → vc = 0)) := ⟨gb_trans H2.out.2 q4, q1, q2, q3⟩; clear q1 q2 q3 q4)
          | (go_at_call 32; go_must (refine (Calls.mono (copy_c va L vc xs w3 H3.out.2.1 HXB.out (by omega)) ?_)); rintro r w4 ⟨g, cg, rfl, q1, q2⟩; have H4 : Hid (Mine w4 w3.heap.size g L cg xs ∧ Below w3.heap.size w3 w4) := ⟨q1, q2⟩; clear q1 q2)
          | (go_at_call 33; go_must (refine (Calls.mono (HPT.out _) ?_)); rintro r w5 ⟨F, hF0, hF1, rfl, hq⟩; obtain rfl := hq.symm))
        have HVA : Hid (Seg .u8 w3 va L xs ∧ Cr.Tab w3) := ⟨H3.out.2.1, HMT.out.2.2.below (gbb H3.out.1)⟩
        have HWG : Hid (Below w.heap.size w w3 ∧ w.heap.size ≤ w3.heap.size) := ⟨gbb H3.out.1, H3.out.1.size⟩
        go_loopw [16] (fun i wr => ∃ (k : Nat) (ys : List Int), k ≤ 32 ∧ F + (k : Int) ≤ 8 * (L : Int) ∧ i = .int .i64 k ∧ Hid ((∀ z ∈ ys, 0 ≤ z ∧ z < 256) ∧ (∀ r, Cr.reg r ys = Cr.reg r xs ^^^ Cr.txn (8 * L - F.toNat) (Cr.low v k)) ∧ (Cr.low v k = 0 → ys = xs)) ∧ Hid (Mine wr w3.heap.size g L cg ys ∧ Below w3.heap.size w3 wr)) (fun i _ => 32 - (intOf i).toNat)
        case atStart => exact ⟨0, xs, Nat.zero_le _, by omega, rfl, ⟨mem_bytes HXB.out, fun r => by rw [show Cr.low v 0 = 0 from rfl, Cr.txn_zero]; exact BitVec.xor_zero.symm, fun _ => rfl⟩, H4.out⟩
        case round =>
          obtain ⟨k, ys, hk, hFk, rfl, hT, HR⟩ := hrel
          clear H4
          by_cases hlt : k < 32 ∧ F + (k : Int) < 8 * (L : Int)
          · obtain ⟨hk1, hk2⟩ := hlt
            have hk3 : (k : Int) < 32 := by omega
            have hk0 : (0 : Int) ≤ (k : Int) := by omega
            have hbit := Cr.W_bit v k hk1
            cases hv : v.getLsbD k with
            | false =>
              have hc2 : (bits .and .u32 (Cr.W v / (2 : Int) ^ k) 1 == 1) = false := by rw [hbit, hv]; rfl
              have HL : Hid (Cr.low v (k + 1) = Cr.low v k) := by
                show Cr.low v k ^^^ _ = _
                rw [hv]; exact BitVec.xor_zero
              clear hbit hv
              go_wp2_with fail
              go_roundw
              case rel => exact ⟨k + 1, ys, by omega, by omega, by go_num, by rw [HL.out]; exact hT, HR⟩
              case measure => simp [intOf]; omega
            | true =>
              have hc2 : (bits .and .u32 (Cr.W v / (2 : Int) ^ k) 1 == 1) = true := by rw [hbit, hv]; rfl
              have HL : Hid (Cr.low v (k + 1) = Cr.low v k ^^^ 1#32 <<< k) := by
                show Cr.low v k ^^^ _ = _
                rw [hv]; rfl
              have HNZ : Hid (Cr.low v (k + 1) ≠ 0) := (Cr.low_ne v (k + 1) (by omega)).2 ⟨k, by omega, hv⟩
              obtain ⟨J, hJ⟩ : ∃ J : Int, F + (k : Int) = J := ⟨_, rfl⟩
              have hJ0 : 0 ≤ J := by omega
              have hJ1 : J < 8 * (L : Int) := by omega
              have zJ : IntKind.i64.wrap J = J := IntWalk.i64_in _ ⟨by omega, by omega⟩
              obtain ⟨D, hDe⟩ : ∃ D : Int, J / (8 : Int) = D := ⟨_, rfl⟩
              obtain ⟨E8, hEe⟩ : ∃ E8 : Int, J % (8 : Int) = E8 := ⟨_, rfl⟩
              have hD' : J.tdiv (8 : Int) = D := by rw [← hDe]; exact Int.tdiv_eq_ediv_of_nonneg hJ0
              have hE' : J.tmod (8 : Int) = E8 := by rw [← hEe]; exact Int.tmod_eq_emod_of_nonneg hJ0
              have hD0 : (0 : Int) ≤ D := by omega
              have hD1 : D < (L : Int) := by omega
              have hE0' : (0 : Int) ≤ E8 := by omega
              have hE1' : E8 < 8 := by omega
              have e1 : D.toNat = J.toNat / 8 := by omega
              have e2 : E8.toNat = J.toNat % 8 := by omega
              have hcY : wr.cell? ⟨g, D.toNat, none⟩ = some (.int .u8 (ys[D.toNat]?.getD 0)) := HR.out.1.cell D.toNat (by omega)
              have hfY : wr.frozen? ⟨g, D.toNat, none⟩ = false := HR.out.1.free D.toNat (by have := HR.out.1.le; omega)
              obtain ⟨Y, hY⟩ : ∃ Y, Y = ys[D.toNat]?.getD 0 := ⟨_, rfl⟩
              rw [← hY] at hcY
              have hYb : 0 ≤ Y ∧ Y < 256 := by
                rw [hY]
                exact bytes_mem hT.out.1 D.toNat (by rw [HR.out.1.len]; omega)
              have HVV : Hid (bits .xor .u8 Y ((2 : Int) ^ E8.toNat % 256) = Cr.bx (ys[J.toNat / 8]?.getD 0) ((2 ^ (J.toNat % 8) : Nat) : Int)) := by
                rw [e2]
                exact flip_val J.toNat Y (by rw [hY, e1]) hYb
              have HJL : Hid (J.toNat < 8 * xs.length ∧ D.toNat = J.toNat / 8 ∧ D.toNat < L) := ⟨by rw [HX.out.2.1]; omega, e1, by omega⟩
              obtain ⟨Z, hZ⟩ : ∃ Z, IntKind.u8.wrap ((2 : Int) ^ E8.toNat) = Z := ⟨_, rfl⟩
              obtain ⟨V, hV⟩ : ∃ V, bits .xor .u8 Y Z = V := ⟨_, rfl⟩
              have HV2 : Hid (V = Cr.bx (ys[J.toNat / 8]?.getD 0) ((2 ^ (J.toNat % 8) : Nat) : Int)) := by
                show V = _
                rw [← HVV.out, ← hV, ← hZ, IntKind.wrap_u8]
              have z1 : IntKind.i64.wrap D = D := IntWalk.i64_in _ ⟨by omega, by omega⟩
              have z2 : IntKind.i64.wrap E8 = E8 := IntWalk.i64_in _ ⟨by omega, by omega⟩
              have z3 : min E8.toNat 8 = E8.toNat := by omega
              clear hY e1 e2 hDe hEe
              have HW21 : Hid (∀ W, wr.grownBy W none → W.cell? ⟨g, D.toNat, none⟩ = some (.int .u8 Y) ∧ W.frozen? ⟨g, D.toNat, none⟩ = false) := fun W hg => ⟨((gbb hg).cell HR.out.1.lt).trans hcY, ((gbb hg).frozen HR.out.1.lt).trans hfY⟩
              have HL2 : Hid ((∀ z ∈ Cr.flip ys J.toNat, 0 ≤ z ∧ z < 256) ∧ (∀ r, Cr.reg r (Cr.flip ys J.toNat) = Cr.reg r xs ^^^ Cr.txn (8 * L - F.toNat) (Cr.low v (k + 1))) ∧ (Cr.low v (k + 1) = 0 → Cr.flip ys J.toNat = xs)) := by
                refine ⟨Cr.flip_bytes ys _ hT.out.1, fun r => ?_, fun e => absurd e HNZ.out⟩
                have hjl : J.toNat < 8 * ys.length := by rw [HR.out.1.len]; omega
                rw [Cr.reg_flip ys r J.toNat hjl hT.out.1, hT.out.2.1, HL.out, Cr.txn_lin, BitVec.xor_assoc]
                congr 2
                rw [Cr.bit_pw k hk1, ← Cr.txn_add, HR.out.1.len]
                unfold Cr.pw
                congr 1
                omega
              have HR5 : Hid (∀ W, wr.grownBy W none → Mine (W.setCell ⟨g, D.toNat, none⟩ (.int .u8 V)) w3.heap.size g L cg (Cr.flip ys J.toNat) ∧ Below w3.heap.size w3 (W.setCell ⟨g, D.toNat, none⟩ (.int .u8 V))) := fun W hg => by
                have q := (HR.out.1.later (gbb hg)).set D.toNat HJL.out.2.2 V
                rw [HV2.out, HJL.out.2.1] at q ⊢
                exact ⟨q, (HR.out.2.trans ((gbb hg).mono HR.out.2.size)).setCell HR.out.1.lo _⟩
              clear HVV HV2 hcY hfY hT hE1' hbit hv HL HNZ
              go_wp2_with fail
              refine wp_region_lastR (fun a b => World.grownBy a b none) (fun _ _ _ h k => gb_trans h k) ⟨rfl, rfl, rfl, Nat.le_refl _, fun _ _ _ => rfl⟩ 14 rfl (by kernel_rfl) [104, 105, 106, 107, 108, 109, 110, 111, 112, 113, 114, 115, 116, 117, 100014] [[], [], [], [1, 2], [3], [0, 4], [5], [], [], [7, 8], [9], [10], [6, 11], [0, 4], [13, 12]] (by kernel_rfl) (by kernel_rfl) [fun u W => u = .slice (some ⟨g, 0, none⟩) L cg, fun u W => u = .int .i64 F, fun u W => u = .int .i64 (k : Int), fun u W => u = .int .i64 J, fun u W => u = .int .i64 D, fun u W => u = .pointer (some ⟨g, D.toNat, none⟩), fun u W => u = .int .u8 Y, fun u W => u = .int .i64 F, fun u W => u = .int .i64 (k : Int), fun u W => u = .int .i64 J, fun u W => u = .int .i64 E8, fun u W => u = .int .u8 Z, fun u W => u = .int .u8 V, fun u W => u = .pointer (some ⟨g, D.toNat, none⟩)] ?stable ?step ?last
              case stable =>
                intro i v W W' h hg
                match i, h with
                | 0, h => exact h
                | 1, h => exact h
                | 2, h => exact h
                | 3, h => exact h
                | 4, h => exact h
                | 5, h => exact h
                | 6, h => exact h
                | 7, h => exact h
                | 8, h => exact h
                | 9, h => exact h
                | 10, h => exact h
                | 11, h => exact h
                | 12, h => exact h
                | 13, h => exact h
                | i + 14, h => exact trivial
              case step =>
                intro f W A hA hg i o hin ho hu K hK
                match i, hin, ho, hu, hK with
                | 0, hin, ho, hu, hK =>
                  cases ho
                  have hw := HW21.out W hg
                  have e11 : A.eval (.tmp 11) = .slice (some ⟨g, 0, none⟩) L cg := ev_out hA 11 rfl
                  exact ph_move _ rfl rfl (.slice (some ⟨g, 0, none⟩) L cg) e11 (hK _ _ (gb_rr W _) rfl)
                | 1, hin, ho, hu, hK =>
                  cases ho
                  have hw := HW21.out W hg
                  have e15 : A.eval (.tmp 15) = .int .i64 F := ev_out hA 15 rfl
                  exact ph_move _ rfl rfl (.int .i64 F) e15 (hK _ _ (gb_rr W _) rfl)
                | 2, hin, ho, hu, hK =>
                  cases ho
                  have hw := HW21.out W hg
                  have e16 : A.eval (.tmp 16) = .int .i64 (k : Int) := ev_out hA 16 rfl
                  exact ph_move _ rfl rfl (.int .i64 (k : Int)) e16 (hK _ _ (gb_rr W _) rfl)
                | 3, hin, ho, hu, hK =>
                  cases ho
                  have hw := HW21.out W hg
                  have e105 : A.eval (.tmp 105) = .int .i64 F := (ev_in hA 105 1 rfl rfl rfl).trans (show f 1 = .int .i64 F from hu 1 (by decide))
                  have e106 : A.eval (.tmp 106) = .int .i64 (k : Int) := (ev_in hA 106 2 rfl rfl rfl).trans (show f 2 = .int .i64 (k : Int) from hu 2 (by decide))
                  refine ph_sem rfl rfl (r := .ok (.value (.int .i64 J)) W) ?_ (hK _ _ (gb_rr W _) rfl)
                  have eC : ∀ c, A.eval (.const c) = c := fun _ => rfl; have eF : ∀ g, A.eval (.func g) = .func (.func g) #[] #[] := fun _ => rfl; generalize A.eval = ρ at *
                  clear hA hu hg hw
                  go_simp
                | 4, hin, ho, hu, hK =>
                  cases ho
                  have hw := HW21.out W hg
                  have e107 : A.eval (.tmp 107) = .int .i64 J := (ev_in hA 107 3 rfl rfl rfl).trans (show f 3 = .int .i64 J from hu 3 (by decide))
                  refine ph_sem rfl rfl (r := .ok (.value (.int .i64 D)) W) ?_ (hK _ _ (gb_rr W _) rfl)
                  have eC : ∀ c, A.eval (.const c) = c := fun _ => rfl; have eF : ∀ g, A.eval (.func g) = .func (.func g) #[] #[] := fun _ => rfl; generalize A.eval = ρ at *
                  clear hA hu hg hw
                  go_simp
                | 5, hin, ho, hu, hK =>
                  cases ho
                  have hw := HW21.out W hg
                  have e104 : A.eval (.tmp 104) = .slice (some ⟨g, 0, none⟩) L cg := (ev_in hA 104 0 rfl rfl rfl).trans (show f 0 = .slice (some ⟨g, 0, none⟩) L cg from hu 0 (by decide))
                  have e108 : A.eval (.tmp 108) = .int .i64 D := (ev_in hA 108 4 rfl rfl rfl).trans (show f 4 = .int .i64 D from hu 4 (by decide))
                  refine ph_sem rfl rfl (r := .ok (.value (.pointer (some ⟨g, D.toNat, none⟩))) W) ?_ (hK _ _ (gb_rr W _) rfl)
                  have eC : ∀ c, A.eval (.const c) = c := fun _ => rfl; have eF : ∀ g, A.eval (.func g) = .func (.func g) #[] #[] := fun _ => rfl; generalize A.eval = ρ at *
                  clear hA hu hg hw
                  go_simp
                | 6, hin, ho, hu, hK =>
                  cases ho
                  have hw := HW21.out W hg
                  have e109 : A.eval (.tmp 109) = .pointer (some ⟨g, D.toNat, none⟩) := (ev_in hA 109 5 rfl rfl rfl).trans (show f 5 = .pointer (some ⟨g, D.toNat, none⟩) from hu 5 (by decide))
                  have hc := hw.1
                  refine ph_sem rfl rfl (r := .ok (.value (.int .u8 Y)) W) ?_ (hK _ _ (gb_rr W _) rfl)
                  have eC : ∀ c, A.eval (.const c) = c := fun _ => rfl; have eF : ∀ g, A.eval (.func g) = .func (.func g) #[] #[] := fun _ => rfl; generalize A.eval = ρ at *
                  clear hA hu hg hw
                  go_simp
                | 7, hin, ho, hu, hK =>
                  cases ho
                  have hw := HW21.out W hg
                  have e15 : A.eval (.tmp 15) = .int .i64 F := ev_out hA 15 rfl
                  exact ph_move _ rfl rfl (.int .i64 F) e15 (hK _ _ (gb_rr W _) rfl)
                | 8, hin, ho, hu, hK =>
                  cases ho
                  have hw := HW21.out W hg
                  have e16 : A.eval (.tmp 16) = .int .i64 (k : Int) := ev_out hA 16 rfl
                  exact ph_move _ rfl rfl (.int .i64 (k : Int)) e16 (hK _ _ (gb_rr W _) rfl)
                | 9, hin, ho, hu, hK =>
                  cases ho
                  have hw := HW21.out W hg
                  have e111 : A.eval (.tmp 111) = .int .i64 F := (ev_in hA 111 7 rfl rfl rfl).trans (show f 7 = .int .i64 F from hu 7 (by decide))
                  have e112 : A.eval (.tmp 112) = .int .i64 (k : Int) := (ev_in hA 112 8 rfl rfl rfl).trans (show f 8 = .int .i64 (k : Int) from hu 8 (by decide))
                  refine ph_sem rfl rfl (r := .ok (.value (.int .i64 J)) W) ?_ (hK _ _ (gb_rr W _) rfl)
                  have eC : ∀ c, A.eval (.const c) = c := fun _ => rfl; have eF : ∀ g, A.eval (.func g) = .func (.func g) #[] #[] := fun _ => rfl; generalize A.eval = ρ at *
                  clear hA hu hg hw
                  go_simp
                | 10, hin, ho, hu, hK =>
                  cases ho
                  have hw := HW21.out W hg
                  have e113 : A.eval (.tmp 113) = .int .i64 J := (ev_in hA 113 9 rfl rfl rfl).trans (show f 9 = .int .i64 J from hu 9 (by decide))
                  refine ph_sem rfl rfl (r := .ok (.value (.int .i64 E8)) W) ?_ (hK _ _ (gb_rr W _) rfl)
                  have eC : ∀ c, A.eval (.const c) = c := fun _ => rfl; have eF : ∀ g, A.eval (.func g) = .func (.func g) #[] #[] := fun _ => rfl; generalize A.eval = ρ at *
                  clear hA hu hg hw
                  go_simp
                | 11, hin, ho, hu, hK =>
                  cases ho
                  have hw := HW21.out W hg
                  have e114 : A.eval (.tmp 114) = .int .i64 E8 := (ev_in hA 114 10 rfl rfl rfl).trans (show f 10 = .int .i64 E8 from hu 10 (by decide))
                  refine ph_sem rfl rfl (r := .ok (.value (.int .u8 Z)) W) ?_ (hK _ _ (gb_rr W _) rfl)
                  have eC : ∀ c, A.eval (.const c) = c := fun _ => rfl; have eF : ∀ g, A.eval (.func g) = .func (.func g) #[] #[] := fun _ => rfl; generalize A.eval = ρ at *
                  clear hA hu hg hw
                  go_simp
                | 12, hin, ho, hu, hK =>
                  cases ho
                  have hw := HW21.out W hg
                  have e110 : A.eval (.tmp 110) = .int .u8 Y := (ev_in hA 110 6 rfl rfl rfl).trans (show f 6 = .int .u8 Y from hu 6 (by decide))
                  have e115 : A.eval (.tmp 115) = .int .u8 Z := (ev_in hA 115 11 rfl rfl rfl).trans (show f 11 = .int .u8 Z from hu 11 (by decide))
                  refine ph_sem rfl rfl (r := .ok (.value (.int .u8 V)) W) ?_ (hK _ _ (gb_rr W _) rfl)
                  have eC : ∀ c, A.eval (.const c) = c := fun _ => rfl; have eF : ∀ g, A.eval (.func g) = .func (.func g) #[] #[] := fun _ => rfl; generalize A.eval = ρ at *
                  clear hA hu hg hw
                  go_simp
                | 13, hin, ho, hu, hK =>
                  cases ho
                  have hw := HW21.out W hg
                  have e104 : A.eval (.tmp 104) = .slice (some ⟨g, 0, none⟩) L cg := (ev_in hA 104 0 rfl rfl rfl).trans (show f 0 = .slice (some ⟨g, 0, none⟩) L cg from hu 0 (by decide))
                  have e108 : A.eval (.tmp 108) = .int .i64 D := (ev_in hA 108 4 rfl rfl rfl).trans (show f 4 = .int .i64 D from hu 4 (by decide))
                  refine ph_sem rfl rfl (r := .ok (.value (.pointer (some ⟨g, D.toNat, none⟩))) W) ?_ (hK _ _ (gb_rr W _) rfl)
                  have eC : ∀ c, A.eval (.const c) = c := fun _ => rfl; have eF : ∀ g, A.eval (.func g) = .func (.func g) #[] #[] := fun _ => rfl; generalize A.eval = ρ at *
                  clear hA hu hg hw
                  go_simp
                | i + 14, hin, ho, hu, hK => omega
              case last =>
                intro f W A hA hg hu o ho K hK
                cases ho
                have hw := HW21.out W hg
                have e116 : A.eval (.tmp 116) = .int .u8 V := (ev_in hA 116 12 rfl rfl rfl).trans (show f 12 = .int .u8 V from hu 12 (by decide))
                have e117 : A.eval (.tmp 117) = .pointer (some ⟨g, D.toNat, none⟩) := (ev_in hA 117 13 rfl rfl rfl).trans (show f 13 = .pointer (some ⟨g, D.toNat, none⟩) from hu 13 (by decide))
                refine ph_sem rfl rfl (r := .ok .skip (W.setCell ⟨g, D.toNat, none⟩ (.int .u8 V))) ?st (hK _ _ ?go)
                case st =>
                  have eC : ∀ c, A.eval (.const c) = c := fun _ => rfl
                  have hc := hw.1
                  have hf := hw.2
                  generalize A.eval = ρ at *
                  clear hA hu hg hw
                  go_simp
                case go =>
                  have H5 : Hid _ := HR5.out W hg
                  clear hg hw e116 e117
                  have hA2 := hA.trans (putAll_lit [(.slice (some ⟨g, 0, none⟩) L cg), (.int .i64 F), (.int .i64 (k : Int)), (.int .i64 J), (.int .i64 D), (.pointer (some ⟨g, D.toNat, none⟩)), (.int .u8 Y), (.int .i64 F), (.int .i64 (k : Int)), (.int .i64 J), (.int .i64 E8), (.int .u8 Z), (.int .u8 V), (.pointer (some ⟨g, D.toNat, none⟩)), (f 14)] (by
                    intro j hj
                    match j, hj with
                    | 0, _ => exact hu 0 (by decide)
                    | 1, _ => exact hu 1 (by decide)
                    | 2, _ => exact hu 2 (by decide)
                    | 3, _ => exact hu 3 (by decide)
                    | 4, _ => exact hu 4 (by decide)
                    | 5, _ => exact hu 5 (by decide)
                    | 6, _ => exact hu 6 (by decide)
                    | 7, _ => exact hu 7 (by decide)
                    | 8, _ => exact hu 8 (by decide)
                    | 9, _ => exact hu 9 (by decide)
                    | 10, _ => exact hu 10 (by decide)
                    | 11, _ => exact hu 11 (by decide)
                    | 12, _ => exact hu 12 (by decide)
                    | 13, _ => exact hu 13 (by decide)
                    | 14, _ => rfl
                    | j + 15, hj => exact absurd hj (by simp)))
                  clear hu hA
                  subst hA2
                  simp only [putAll, putL, List.mem_cons, List.not_mem_nil, List.idxOf_cons, Nat.reduceEqDiff, Nat.reduceBEq, Nat.reduceAdd, or_false, or_true, reduceIte, cond_true, cond_false, List.getD_cons_zero, List.getD_cons_succ, BEq.rfl]
                  go_wp2_with fail
                  go_roundw
                  case rel => exact ⟨k + 1, Cr.flip ys J.toNat, by omega, by omega, by go_num, HL2.out, H5.out⟩
                  case measure => simp [intOf]; omega
          · have HYB : Hid (∀ z ∈ ys, 0 ≤ z ∧ z < 256) := hT.out.1
            have HEND : Hid (ys = xs ∨ Cr.holds ys = false) := by
              have q := hT.out
              rw [HX.out.1] at q ⊢
              exact run_end HX.out.2.2 q.1 q.2.1 q.2.2
            clear hT
            by_cases hk3 : k < 32
            · have hk4 : (k : Int) < 32 := by omega
              have hge : ¬ F + (k : Int) < 8 * (L : Int) := by omega
              clear hlt hk3
              have HBW : Hid (Below w.heap.size w wr) := HWG.out.1.trans (HR.out.2.mono HWG.out.2)
              by_cases hys : ys = xs
              · have HDE : Hid (Calls Tryd.prog 19 #[.slice (some ⟨g, 0, none⟩) L cg] wr fun r w' => ∃ s sa sn sc, r = .returned (.tuple #[.agg #[.int .i64 s, .slice sa sn sc], .int .i64 0]) ∧ wr.grownBy w' none) := by
                  refine (idec_c (some ⟨g, 0, none⟩) L cg ys wr HR.out.1.seg (bytes_mem HYB.out) (by omega) HR.out.1.le (fun e => by cases e) (HVA.out.2.below HR.out.2)).mono ?_
                  rintro r w' ⟨⟨b, n', seq', X', p1, p2, p3, p4⟩ | ⟨e, p1, p2⟩, p5⟩
                  · exact ⟨_, _, _, _, p1, below_gbI p5⟩
                  · exact absurd (by rw [hys]; exact HDK.out) ((dno_not p2).2 seq X)
                have HSA : Hid (∀ W, wr.grownBy W none → Calls Tryd.prog 14 #[.slice va L vc, .slice (some ⟨g, 0, none⟩) L cg] W fun e w' => e = .returned (.bool true) ∧ w' = W) := fun W hg => by
                  have k := same_c va (some ⟨g, 0, none⟩) L vc L cg xs ys W ((HVA.out.1.below HR.out.2).grew hg (by simp)) (HR.out.1.seg.grew hg (by simp)) HXB.out (bytes_mem HYB.out)
                  rw [hys, show decide (xs = xs) = true from by simp] at k
                  exact k
                clear HR HEND HYB hys
                go_wp2_with (first
                  | (go_at_call 19; go_must (refine (Calls.mono HDE.out ?_)); rintro r x1 ⟨s, sa, sn, sc, rfl, s4⟩; have A2 : Hid (wr.grownBy (x1.alloc (.cells #[.int .i64 s, .slice sa sn sc] 24)) none) := gb_trans s4 (gal _ _); clear s4 HDE)
                  | (go_at_call 14; go_must (refine (Calls.mono (HSA.out _ A2.out) ?_)); rintro r x3 ⟨rfl, hq⟩; obtain rfl := hq.symm))
                go_ret
                exact ⟨rfl, HBW.out.trans ((gbb A2.out).mono HBW.out.size)⟩
              · have HDE : Hid (Calls Tryd.prog 19 #[.slice (some ⟨g, 0, none⟩) L cg] wr fun r w' => ∃ s sa sn sc e, r = .returned (.tuple #[.agg #[.int .i64 s, .slice sa sn sc], .int .i64 e]) ∧ (e != 0) = true ∧ wr.grownBy w' none) := by
                  refine (idec_c (some ⟨g, 0, none⟩) L cg ys wr HR.out.1.seg (bytes_mem HYB.out) (by omega) HR.out.1.le (fun e => by cases e) (HVA.out.2.below HR.out.2)).mono ?_
                  rintro r w' ⟨⟨b, n', seq', X', p1, p2, p3, p4⟩ | ⟨e, p1, p2⟩, p5⟩
                  · rcases HEND.out with q | q
                    · exact absurd q hys
                    · rw [p2.2.2.2.1] at q; cases q
                  · exact ⟨0, none, 0, 0, e, p1, (dno_not p2).1, below_gbI p5⟩
                clear HR HEND HYB hys
                go_wp2_with (go_at_call 19; go_must (refine (Calls.mono HDE.out ?_)); rintro r x1 ⟨s, sa, sn, sc, e, rfl, he, s4⟩; have A2 : Hid (wr.grownBy (x1.alloc (.cells #[.int .i64 s, .slice sa sn sc] 24)) none) := gb_trans s4 (gal _ _); clear s4 HDE)
                go_ret
                exact ⟨by first | rfl | exact congrArg (fun b => Ending.returned (Value.bool b)) he, HBW.out.trans ((gbb A2.out).mono HBW.out.size)⟩
            · have hk4 : ¬ (k : Int) < 32 := by omega
              clear hlt hk3
              have HBW : Hid (Below w.heap.size w wr) := HWG.out.1.trans (HR.out.2.mono HWG.out.2)
              by_cases hys : ys = xs
              · have HDE : Hid (Calls Tryd.prog 19 #[.slice (some ⟨g, 0, none⟩) L cg] wr fun r w' => ∃ s sa sn sc, r = .returned (.tuple #[.agg #[.int .i64 s, .slice sa sn sc], .int .i64 0]) ∧ wr.grownBy w' none) := by
                  refine (idec_c (some ⟨g, 0, none⟩) L cg ys wr HR.out.1.seg (bytes_mem HYB.out) (by omega) HR.out.1.le (fun e => by cases e) (HVA.out.2.below HR.out.2)).mono ?_
                  rintro r w' ⟨⟨b, n', seq', X', p1, p2, p3, p4⟩ | ⟨e, p1, p2⟩, p5⟩
                  · exact ⟨_, _, _, _, p1, below_gbI p5⟩
                  · exact absurd (by rw [hys]; exact HDK.out) ((dno_not p2).2 seq X)
                have HSA : Hid (∀ W, wr.grownBy W none → Calls Tryd.prog 14 #[.slice va L vc, .slice (some ⟨g, 0, none⟩) L cg] W fun e w' => e = .returned (.bool true) ∧ w' = W) := fun W hg => by
                  have k := same_c va (some ⟨g, 0, none⟩) L vc L cg xs ys W ((HVA.out.1.below HR.out.2).grew hg (by simp)) (HR.out.1.seg.grew hg (by simp)) HXB.out (bytes_mem HYB.out)
                  rw [hys, show decide (xs = xs) = true from by simp] at k
                  exact k
                clear HR HEND HYB hys
                go_wp2_with (first
                  | (go_at_call 19; go_must (refine (Calls.mono HDE.out ?_)); rintro r x1 ⟨s, sa, sn, sc, rfl, s4⟩; have A2 : Hid (wr.grownBy (x1.alloc (.cells #[.int .i64 s, .slice sa sn sc] 24)) none) := gb_trans s4 (gal _ _); clear s4 HDE)
                  | (go_at_call 14; go_must (refine (Calls.mono (HSA.out _ A2.out) ?_)); rintro r x3 ⟨rfl, hq⟩; obtain rfl := hq.symm))
                go_ret
                exact ⟨rfl, HBW.out.trans ((gbb A2.out).mono HBW.out.size)⟩
              · have HDE : Hid (Calls Tryd.prog 19 #[.slice (some ⟨g, 0, none⟩) L cg] wr fun r w' => ∃ s sa sn sc e, r = .returned (.tuple #[.agg #[.int .i64 s, .slice sa sn sc], .int .i64 e]) ∧ (e != 0) = true ∧ wr.grownBy w' none) := by
                  refine (idec_c (some ⟨g, 0, none⟩) L cg ys wr HR.out.1.seg (bytes_mem HYB.out) (by omega) HR.out.1.le (fun e => by cases e) (HVA.out.2.below HR.out.2)).mono ?_
                  rintro r w' ⟨⟨b, n', seq', X', p1, p2, p3, p4⟩ | ⟨e, p1, p2⟩, p5⟩
                  · rcases HEND.out with q | q
                    · exact absurd q hys
                    · rw [p2.2.2.2.1] at q; cases q
                  · exact ⟨0, none, 0, 0, e, p1, (dno_not p2).1, below_gbI p5⟩
                clear HR HEND HYB hys
                go_wp2_with (go_at_call 19; go_must (refine (Calls.mono HDE.out ?_)); rintro r x1 ⟨s, sa, sn, sc, e, rfl, he, s4⟩; have A2 : Hid (wr.grownBy (x1.alloc (.cells #[.int .i64 s, .slice sa sn sc] 24)) none) := gb_trans s4 (gal _ _); clear s4 HDE)
                go_ret
                exact ⟨by first | rfl | exact congrArg (fun b => Ending.returned (Value.bool b)) he, HBW.out.trans ((gbb A2.out).mono HBW.out.size)⟩
      · have hl1 : (0 : Int) < (lm : Int) := by omega
        have hl2 : ¬ (lm : Int) ≤ 3 := by omega
        go_enter Tryd.func7, Tryd.ntmps7
        go_wp2_with fail
        rw [← hW0]
        clear hW0
        go_quiet (fail)
        generalize hW1 : World.drewN W0 _ = W1
        have H1 : Hid (Bk 24 W1 w.heap.size #[.int .i64 seq, .slice a n cap] ∧ w.grownBy W1 none) := by
          rw [← hW1]
          exact ⟨HB0.out.1.grew (gb_dr (grf W0) _) (by simp), gb_dr HB0.out.2.2 _⟩
        clear hW1 c0 c1 c2
        go_wp2_with (first
          | ((fail_if_success (have z := H2)); refine wpList_load_bk 24 rfl (.tmp 2) rfl Tryd.underlying24 rfl infoState w.heap.size _ rfl H1.out.1 rfl ?_)
          | (go_at_call 29; go_must (refine (Calls.mono (HJ.out _ H1.out.2) ?_)); rintro r w2 ⟨rfl, q4⟩; have H2 : Hid (Bk 24 w2 w.heap.size #[.int .i64 seq, .slice a n cap] ∧ w.grownBy w2 none) := ⟨H1.out.1.grew q4 (by simp), gb_trans H1.out.2 q4⟩; clear q4)
          | (have z := H2; clear z; refine wpList_load_bk 24 rfl (.tmp 2) rfl Tryd.underlying24 rfl infoState w.heap.size _ rfl H2.out.1 rfl ?_)
          | (go_at_call 11; go_must (refine (Calls.mono (HEN.out _ H2.out.2) ?_)); rintro r w3 ⟨va, vc, rfl, q1, q2, q3, q4⟩; have H3 : Hid (w.grownBy w3 none ∧ Seg .u8 w3 va L xs ∧ L ≤ vc ∧ (va = none → vc = 0)) := ⟨gb_trans H2.out.2 q4, q1, q2, q3⟩; clear q1 q2 q3 q4)
          | (go_at_call 32; go_must (refine (Calls.mono (copy_c va L vc xs w3 H3.out.2.1 HXB.out (by omega)) ?_)); rintro r w4 ⟨g, cg, rfl, q1, q2⟩; have H4 : Hid (Mine w4 w3.heap.size g L cg xs ∧ Below w3.heap.size w3 w4) := ⟨q1, q2⟩; clear q1 q2)
          | (go_at_call 33; go_must (refine (Calls.mono (HPT.out _) ?_)); rintro r w5 ⟨F, hF0, hF1, rfl, hq⟩; obtain rfl := hq.symm))
        have HVA : Hid (Seg .u8 w3 va L xs ∧ Cr.Tab w3) := ⟨H3.out.2.1, HMT.out.2.2.below (gbb H3.out.1)⟩
        have HWG : Hid (Below w.heap.size w w3 ∧ w.heap.size ≤ w3.heap.size) := ⟨gbb H3.out.1, H3.out.1.size⟩
        go_loopw [16] (fun i wr => ∃ (k : Nat) (ys : List Int), k ≤ 32 ∧ F + (k : Int) ≤ 8 * (L : Int) ∧ i = .int .i64 k ∧ Hid ((∀ z ∈ ys, 0 ≤ z ∧ z < 256) ∧ (∀ r, Cr.reg r ys = Cr.reg r xs ^^^ Cr.txn (8 * L - F.toNat) (Cr.low v k)) ∧ (Cr.low v k = 0 → ys = xs)) ∧ Hid (Mine wr w3.heap.size g L cg ys ∧ Below w3.heap.size w3 wr)) (fun i _ => 32 - (intOf i).toNat)
        case atStart => exact ⟨0, xs, Nat.zero_le _, by omega, rfl, ⟨mem_bytes HXB.out, fun r => by rw [show Cr.low v 0 = 0 from rfl, Cr.txn_zero]; exact BitVec.xor_zero.symm, fun _ => rfl⟩, H4.out⟩
        case round =>
          obtain ⟨k, ys, hk, hFk, rfl, hT, HR⟩ := hrel
          clear H4
          by_cases hlt : k < 32 ∧ F + (k : Int) < 8 * (L : Int)
          · obtain ⟨hk1, hk2⟩ := hlt
            have hk3 : (k : Int) < 32 := by omega
            have hk0 : (0 : Int) ≤ (k : Int) := by omega
            have hbit := Cr.W_bit v k hk1
            cases hv : v.getLsbD k with
            | false =>
              have hc2 : (bits .and .u32 (Cr.W v / (2 : Int) ^ k) 1 == 1) = false := by rw [hbit, hv]; rfl
              have HL : Hid (Cr.low v (k + 1) = Cr.low v k) := by
                show Cr.low v k ^^^ _ = _
                rw [hv]; exact BitVec.xor_zero
              clear hbit hv
              go_wp2_with fail
              go_roundw
              case rel => exact ⟨k + 1, ys, by omega, by omega, by go_num, by rw [HL.out]; exact hT, HR⟩
              case measure => simp [intOf]; omega
            | true =>
              have hc2 : (bits .and .u32 (Cr.W v / (2 : Int) ^ k) 1 == 1) = true := by rw [hbit, hv]; rfl
              have HL : Hid (Cr.low v (k + 1) = Cr.low v k ^^^ 1#32 <<< k) := by
                show Cr.low v k ^^^ _ = _
                rw [hv]; rfl
              have HNZ : Hid (Cr.low v (k + 1) ≠ 0) := (Cr.low_ne v (k + 1) (by omega)).2 ⟨k, by omega, hv⟩
              obtain ⟨J, hJ⟩ : ∃ J : Int, F + (k : Int) = J := ⟨_, rfl⟩
              have hJ0 : 0 ≤ J := by omega
              have hJ1 : J < 8 * (L : Int) := by omega
              have zJ : IntKind.i64.wrap J = J := IntWalk.i64_in _ ⟨by omega, by omega⟩
              obtain ⟨D, hDe⟩ : ∃ D : Int, J / (8 : Int) = D := ⟨_, rfl⟩
              obtain ⟨E8, hEe⟩ : ∃ E8 : Int, J % (8 : Int) = E8 := ⟨_, rfl⟩
              have hD' : J.tdiv (8 : Int) = D := by rw [← hDe]; exact Int.tdiv_eq_ediv_of_nonneg hJ0
              have hE' : J.tmod (8 : Int) = E8 := by rw [← hEe]; exact Int.tmod_eq_emod_of_nonneg hJ0
              have hD0 : (0 : Int) ≤ D := by omega
              have hD1 : D < (L : Int) := by omega
              have hE0' : (0 : Int) ≤ E8 := by omega
              have hE1' : E8 < 8 := by omega
              have e1 : D.toNat = J.toNat / 8 := by omega
              have e2 : E8.toNat = J.toNat % 8 := by omega
              have hcY : wr.cell? ⟨g, D.toNat, none⟩ = some (.int .u8 (ys[D.toNat]?.getD 0)) := HR.out.1.cell D.toNat (by omega)
              have hfY : wr.frozen? ⟨g, D.toNat, none⟩ = false := HR.out.1.free D.toNat (by have := HR.out.1.le; omega)
              obtain ⟨Y, hY⟩ : ∃ Y, Y = ys[D.toNat]?.getD 0 := ⟨_, rfl⟩
              rw [← hY] at hcY
              have hYb : 0 ≤ Y ∧ Y < 256 := by
                rw [hY]
                exact bytes_mem hT.out.1 D.toNat (by rw [HR.out.1.len]; omega)
              have HVV : Hid (bits .xor .u8 Y ((2 : Int) ^ E8.toNat % 256) = Cr.bx (ys[J.toNat / 8]?.getD 0) ((2 ^ (J.toNat % 8) : Nat) : Int)) := by
                rw [e2]
                exact flip_val J.toNat Y (by rw [hY, e1]) hYb
              have HJL : Hid (J.toNat < 8 * xs.length ∧ D.toNat = J.toNat / 8 ∧ D.toNat < L) := ⟨by rw [HX.out.2.1]; omega, e1, by omega⟩
              obtain ⟨Z, hZ⟩ : ∃ Z, IntKind.u8.wrap ((2 : Int) ^ E8.toNat) = Z := ⟨_, rfl⟩
              obtain ⟨V, hV⟩ : ∃ V, bits .xor .u8 Y Z = V := ⟨_, rfl⟩
              have HV2 : Hid (V = Cr.bx (ys[J.toNat / 8]?.getD 0) ((2 ^ (J.toNat % 8) : Nat) : Int)) := by
                show V = _
                rw [← HVV.out, ← hV, ← hZ, IntKind.wrap_u8]
              have z1 : IntKind.i64.wrap D = D := IntWalk.i64_in _ ⟨by omega, by omega⟩
              have z2 : IntKind.i64.wrap E8 = E8 := IntWalk.i64_in _ ⟨by omega, by omega⟩
              have z3 : min E8.toNat 8 = E8.toNat := by omega
              clear hY e1 e2 hDe hEe
              have HW21 : Hid (∀ W, wr.grownBy W none → W.cell? ⟨g, D.toNat, none⟩ = some (.int .u8 Y) ∧ W.frozen? ⟨g, D.toNat, none⟩ = false) := fun W hg => ⟨((gbb hg).cell HR.out.1.lt).trans hcY, ((gbb hg).frozen HR.out.1.lt).trans hfY⟩
              have HL2 : Hid ((∀ z ∈ Cr.flip ys J.toNat, 0 ≤ z ∧ z < 256) ∧ (∀ r, Cr.reg r (Cr.flip ys J.toNat) = Cr.reg r xs ^^^ Cr.txn (8 * L - F.toNat) (Cr.low v (k + 1))) ∧ (Cr.low v (k + 1) = 0 → Cr.flip ys J.toNat = xs)) := by
                refine ⟨Cr.flip_bytes ys _ hT.out.1, fun r => ?_, fun e => absurd e HNZ.out⟩
                have hjl : J.toNat < 8 * ys.length := by rw [HR.out.1.len]; omega
                rw [Cr.reg_flip ys r J.toNat hjl hT.out.1, hT.out.2.1, HL.out, Cr.txn_lin, BitVec.xor_assoc]
                congr 2
                rw [Cr.bit_pw k hk1, ← Cr.txn_add, HR.out.1.len]
                unfold Cr.pw
                congr 1
                omega
              have HR5 : Hid (∀ W, wr.grownBy W none → Mine (W.setCell ⟨g, D.toNat, none⟩ (.int .u8 V)) w3.heap.size g L cg (Cr.flip ys J.toNat) ∧ Below w3.heap.size w3 (W.setCell ⟨g, D.toNat, none⟩ (.int .u8 V))) := fun W hg => by
                have q := (HR.out.1.later (gbb hg)).set D.toNat HJL.out.2.2 V
                rw [HV2.out, HJL.out.2.1] at q ⊢
                exact ⟨q, (HR.out.2.trans ((gbb hg).mono HR.out.2.size)).setCell HR.out.1.lo _⟩
              clear HVV HV2 hcY hfY hT hE1' hbit hv HL HNZ
              go_wp2_with fail
              refine wp_region_lastR (fun a b => World.grownBy a b none) (fun _ _ _ h k => gb_trans h k) ⟨rfl, rfl, rfl, Nat.le_refl _, fun _ _ _ => rfl⟩ 14 rfl (by kernel_rfl) [104, 105, 106, 107, 108, 109, 110, 111, 112, 113, 114, 115, 116, 117, 100014] [[], [], [], [1, 2], [3], [0, 4], [5], [], [], [7, 8], [9], [10], [6, 11], [0, 4], [13, 12]] (by kernel_rfl) (by kernel_rfl) [fun u W => u = .slice (some ⟨g, 0, none⟩) L cg, fun u W => u = .int .i64 F, fun u W => u = .int .i64 (k : Int), fun u W => u = .int .i64 J, fun u W => u = .int .i64 D, fun u W => u = .pointer (some ⟨g, D.toNat, none⟩), fun u W => u = .int .u8 Y, fun u W => u = .int .i64 F, fun u W => u = .int .i64 (k : Int), fun u W => u = .int .i64 J, fun u W => u = .int .i64 E8, fun u W => u = .int .u8 Z, fun u W => u = .int .u8 V, fun u W => u = .pointer (some ⟨g, D.toNat, none⟩)] ?stable ?step ?last
              case stable =>
                intro i v W W' h hg
                match i, h with
                | 0, h => exact h
                | 1, h => exact h
                | 2, h => exact h
                | 3, h => exact h
                | 4, h => exact h
                | 5, h => exact h
                | 6, h => exact h
                | 7, h => exact h
                | 8, h => exact h
                | 9, h => exact h
                | 10, h => exact h
                | 11, h => exact h
                | 12, h => exact h
                | 13, h => exact h
                | i + 14, h => exact trivial
              case step =>
                intro f W A hA hg i o hin ho hu K hK
                match i, hin, ho, hu, hK with
                | 0, hin, ho, hu, hK =>
                  cases ho
                  have hw := HW21.out W hg
                  have e11 : A.eval (.tmp 11) = .slice (some ⟨g, 0, none⟩) L cg := ev_out hA 11 rfl
                  exact ph_move _ rfl rfl (.slice (some ⟨g, 0, none⟩) L cg) e11 (hK _ _ (gb_rr W _) rfl)
                | 1, hin, ho, hu, hK =>
                  cases ho
                  have hw := HW21.out W hg
                  have e15 : A.eval (.tmp 15) = .int .i64 F := ev_out hA 15 rfl
                  exact ph_move _ rfl rfl (.int .i64 F) e15 (hK _ _ (gb_rr W _) rfl)
                | 2, hin, ho, hu, hK =>
                  cases ho
                  have hw := HW21.out W hg
                  have e16 : A.eval (.tmp 16) = .int .i64 (k : Int) := ev_out hA 16 rfl
                  exact ph_move _ rfl rfl (.int .i64 (k : Int)) e16 (hK _ _ (gb_rr W _) rfl)
                | 3, hin, ho, hu, hK =>
                  cases ho
                  have hw := HW21.out W hg
                  have e105 : A.eval (.tmp 105) = .int .i64 F := (ev_in hA 105 1 rfl rfl rfl).trans (show f 1 = .int .i64 F from hu 1 (by decide))
                  have e106 : A.eval (.tmp 106) = .int .i64 (k : Int) := (ev_in hA 106 2 rfl rfl rfl).trans (show f 2 = .int .i64 (k : Int) from hu 2 (by decide))
                  refine ph_sem rfl rfl (r := .ok (.value (.int .i64 J)) W) ?_ (hK _ _ (gb_rr W _) rfl)
                  have eC : ∀ c, A.eval (.const c) = c := fun _ => rfl; have eF : ∀ g, A.eval (.func g) = .func (.func g) #[] #[] := fun _ => rfl; generalize A.eval = ρ at *
                  clear hA hu hg hw
                  go_simp
                | 4, hin, ho, hu, hK =>
                  cases ho
                  have hw := HW21.out W hg
                  have e107 : A.eval (.tmp 107) = .int .i64 J := (ev_in hA 107 3 rfl rfl rfl).trans (show f 3 = .int .i64 J from hu 3 (by decide))
                  refine ph_sem rfl rfl (r := .ok (.value (.int .i64 D)) W) ?_ (hK _ _ (gb_rr W _) rfl)
                  have eC : ∀ c, A.eval (.const c) = c := fun _ => rfl; have eF : ∀ g, A.eval (.func g) = .func (.func g) #[] #[] := fun _ => rfl; generalize A.eval = ρ at *
                  clear hA hu hg hw
                  go_simp
                | 5, hin, ho, hu, hK =>
                  cases ho
                  have hw := HW21.out W hg
                  have e104 : A.eval (.tmp 104) = .slice (some ⟨g, 0, none⟩) L cg := (ev_in hA 104 0 rfl rfl rfl).trans (show f 0 = .slice (some ⟨g, 0, none⟩) L cg from hu 0 (by decide))
                  have e108 : A.eval (.tmp 108) = .int .i64 D := (ev_in hA 108 4 rfl rfl rfl).trans (show f 4 = .int .i64 D from hu 4 (by decide))
                  refine ph_sem rfl rfl (r := .ok (.value (.pointer (some ⟨g, D.toNat, none⟩))) W) ?_ (hK _ _ (gb_rr W _) rfl)
                  have eC : ∀ c, A.eval (.const c) = c := fun _ => rfl; have eF : ∀ g, A.eval (.func g) = .func (.func g) #[] #[] := fun _ => rfl; generalize A.eval = ρ at *
                  clear hA hu hg hw
                  go_simp
                | 6, hin, ho, hu, hK =>
                  cases ho
                  have hw := HW21.out W hg
                  have e109 : A.eval (.tmp 109) = .pointer (some ⟨g, D.toNat, none⟩) := (ev_in hA 109 5 rfl rfl rfl).trans (show f 5 = .pointer (some ⟨g, D.toNat, none⟩) from hu 5 (by decide))
                  have hc := hw.1
                  refine ph_sem rfl rfl (r := .ok (.value (.int .u8 Y)) W) ?_ (hK _ _ (gb_rr W _) rfl)
                  have eC : ∀ c, A.eval (.const c) = c := fun _ => rfl; have eF : ∀ g, A.eval (.func g) = .func (.func g) #[] #[] := fun _ => rfl; generalize A.eval = ρ at *
                  clear hA hu hg hw
                  go_simp
                | 7, hin, ho, hu, hK =>
                  cases ho
                  have hw := HW21.out W hg
                  have e15 : A.eval (.tmp 15) = .int .i64 F := ev_out hA 15 rfl
                  exact ph_move _ rfl rfl (.int .i64 F) e15 (hK _ _ (gb_rr W _) rfl)
                | 8, hin, ho, hu, hK =>
                  cases ho
                  have hw := HW21.out W hg
                  have e16 : A.eval (.tmp 16) = .int .i64 (k : Int) := ev_out hA 16 rfl
                  exact ph_move _ rfl rfl (.int .i64 (k : Int)) e16 (hK _ _ (gb_rr W _) rfl)
                | 9, hin, ho, hu, hK =>
                  cases ho
                  have hw := HW21.out W hg
                  have e111 : A.eval (.tmp 111) = .int .i64 F := (ev_in hA 111 7 rfl rfl rfl).trans (show f 7 = .int .i64 F from hu 7 (by decide))
                  have e112 : A.eval (.tmp 112) = .int .i64 (k : Int) := (ev_in hA 112 8 rfl rfl rfl).trans (show f 8 = .int .i64 (k : Int) from hu 8 (by decide))
                  refine ph_sem rfl rfl (r := .ok (.value (.int .i64 J)) W) ?_ (hK _ _ (gb_rr W _) rfl)
                  have eC : ∀ c, A.eval (.const c) = c := fun _ => rfl; have eF : ∀ g, A.eval (.func g) = .func (.func g) #[] #[] := fun _ => rfl; generalize A.eval = ρ at *
                  clear hA hu hg hw
                  go_simp
                | 10, hin, ho, hu, hK =>
                  cases ho
                  have hw := HW21.out W hg
                  have e113 : A.eval (.tmp 113) = .int .i64 J := (ev_in hA 113 9 rfl rfl rfl).trans (show f 9 = .int .i64 J from hu 9 (by decide))
                  refine ph_sem rfl rfl (r := .ok (.value (.int .i64 E8)) W) ?_ (hK _ _ (gb_rr W _) rfl)
                  have eC : ∀ c, A.eval (.const c) = c := fun _ => rfl; have eF : ∀ g, A.eval (.func g) = .func (.func g) #[] #[] := fun _ => rfl; generalize A.eval = ρ at *
                  clear hA hu hg hw
                  go_simp
                | 11, hin, ho, hu, hK =>
                  cases ho
                  have hw := HW21.out W hg
                  have e114 : A.eval (.tmp 114) = .int .i64 E8 := (ev_in hA 114 10 rfl rfl rfl).trans (show f 10 = .int .i64 E8 from hu 10 (by decide))
                  refine ph_sem rfl rfl (r := .ok (.value (.int .u8 Z)) W) ?_ (hK _ _ (gb_rr W _) rfl)
                  have eC : ∀ c, A.eval (.const c) = c := fun _ => rfl; have eF : ∀ g, A.eval (.func g) = .func (.func g) #[] #[] := fun _ => rfl; generalize A.eval = ρ at *
                  clear hA hu hg hw
                  go_simp
                | 12, hin, ho, hu, hK =>
                  cases ho
                  have hw := HW21.out W hg
                  have e110 : A.eval (.tmp 110) = .int .u8 Y := (ev_in hA 110 6 rfl rfl rfl).trans (show f 6 = .int .u8 Y from hu 6 (by decide))
                  have e115 : A.eval (.tmp 115) = .int .u8 Z := (ev_in hA 115 11 rfl rfl rfl).trans (show f 11 = .int .u8 Z from hu 11 (by decide))
                  refine ph_sem rfl rfl (r := .ok (.value (.int .u8 V)) W) ?_ (hK _ _ (gb_rr W _) rfl)
                  have eC : ∀ c, A.eval (.const c) = c := fun _ => rfl; have eF : ∀ g, A.eval (.func g) = .func (.func g) #[] #[] := fun _ => rfl; generalize A.eval = ρ at *
                  clear hA hu hg hw
                  go_simp
                | 13, hin, ho, hu, hK =>
                  cases ho
                  have hw := HW21.out W hg
                  have e104 : A.eval (.tmp 104) = .slice (some ⟨g, 0, none⟩) L cg := (ev_in hA 104 0 rfl rfl rfl).trans (show f 0 = .slice (some ⟨g, 0, none⟩) L cg from hu 0 (by decide))
                  have e108 : A.eval (.tmp 108) = .int .i64 D := (ev_in hA 108 4 rfl rfl rfl).trans (show f 4 = .int .i64 D from hu 4 (by decide))
                  refine ph_sem rfl rfl (r := .ok (.value (.pointer (some ⟨g, D.toNat, none⟩))) W) ?_ (hK _ _ (gb_rr W _) rfl)
                  have eC : ∀ c, A.eval (.const c) = c := fun _ => rfl; have eF : ∀ g, A.eval (.func g) = .func (.func g) #[] #[] := fun _ => rfl; generalize A.eval = ρ at *
                  clear hA hu hg hw
                  go_simp
                | i + 14, hin, ho, hu, hK => omega
              case last =>
                intro f W A hA hg hu o ho K hK
                cases ho
                have hw := HW21.out W hg
                have e116 : A.eval (.tmp 116) = .int .u8 V := (ev_in hA 116 12 rfl rfl rfl).trans (show f 12 = .int .u8 V from hu 12 (by decide))
                have e117 : A.eval (.tmp 117) = .pointer (some ⟨g, D.toNat, none⟩) := (ev_in hA 117 13 rfl rfl rfl).trans (show f 13 = .pointer (some ⟨g, D.toNat, none⟩) from hu 13 (by decide))
                refine ph_sem rfl rfl (r := .ok .skip (W.setCell ⟨g, D.toNat, none⟩ (.int .u8 V))) ?st (hK _ _ ?go)
                case st =>
                  have eC : ∀ c, A.eval (.const c) = c := fun _ => rfl
                  have hc := hw.1
                  have hf := hw.2
                  generalize A.eval = ρ at *
                  clear hA hu hg hw
                  go_simp
                case go =>
                  have H5 : Hid _ := HR5.out W hg
                  clear hg hw e116 e117
                  have hA2 := hA.trans (putAll_lit [(.slice (some ⟨g, 0, none⟩) L cg), (.int .i64 F), (.int .i64 (k : Int)), (.int .i64 J), (.int .i64 D), (.pointer (some ⟨g, D.toNat, none⟩)), (.int .u8 Y), (.int .i64 F), (.int .i64 (k : Int)), (.int .i64 J), (.int .i64 E8), (.int .u8 Z), (.int .u8 V), (.pointer (some ⟨g, D.toNat, none⟩)), (f 14)] (by
                    intro j hj
                    match j, hj with
                    | 0, _ => exact hu 0 (by decide)
                    | 1, _ => exact hu 1 (by decide)
                    | 2, _ => exact hu 2 (by decide)
                    | 3, _ => exact hu 3 (by decide)
                    | 4, _ => exact hu 4 (by decide)
                    | 5, _ => exact hu 5 (by decide)
                    | 6, _ => exact hu 6 (by decide)
                    | 7, _ => exact hu 7 (by decide)
                    | 8, _ => exact hu 8 (by decide)
                    | 9, _ => exact hu 9 (by decide)
                    | 10, _ => exact hu 10 (by decide)
                    | 11, _ => exact hu 11 (by decide)
                    | 12, _ => exact hu 12 (by decide)
                    | 13, _ => exact hu 13 (by decide)
                    | 14, _ => rfl
                    | j + 15, hj => exact absurd hj (by simp)))
                  clear hu hA
                  subst hA2
                  simp only [putAll, putL, List.mem_cons, List.not_mem_nil, List.idxOf_cons, Nat.reduceEqDiff, Nat.reduceBEq, Nat.reduceAdd, or_false, or_true, reduceIte, cond_true, cond_false, List.getD_cons_zero, List.getD_cons_succ, BEq.rfl]
                  go_wp2_with fail
                  go_roundw
                  case rel => exact ⟨k + 1, Cr.flip ys J.toNat, by omega, by omega, by go_num, HL2.out, H5.out⟩
                  case measure => simp [intOf]; omega
          · have HYB : Hid (∀ z ∈ ys, 0 ≤ z ∧ z < 256) := hT.out.1
            have HEND : Hid (ys = xs ∨ Cr.holds ys = false) := by
              have q := hT.out
              rw [HX.out.1] at q ⊢
              exact run_end HX.out.2.2 q.1 q.2.1 q.2.2
            clear hT
            by_cases hk3 : k < 32
            · have hk4 : (k : Int) < 32 := by omega
              have hge : ¬ F + (k : Int) < 8 * (L : Int) := by omega
              clear hlt hk3
              have HBW : Hid (Below w.heap.size w wr) := HWG.out.1.trans (HR.out.2.mono HWG.out.2)
              by_cases hys : ys = xs
              · have HDE : Hid (Calls Tryd.prog 19 #[.slice (some ⟨g, 0, none⟩) L cg] wr fun r w' => ∃ s sa sn sc, r = .returned (.tuple #[.agg #[.int .i64 s, .slice sa sn sc], .int .i64 0]) ∧ wr.grownBy w' none) := by
                  refine (idec_c (some ⟨g, 0, none⟩) L cg ys wr HR.out.1.seg (bytes_mem HYB.out) (by omega) HR.out.1.le (fun e => by cases e) (HVA.out.2.below HR.out.2)).mono ?_
                  rintro r w' ⟨⟨b, n', seq', X', p1, p2, p3, p4⟩ | ⟨e, p1, p2⟩, p5⟩
                  · exact ⟨_, _, _, _, p1, below_gbI p5⟩
                  · exact absurd (by rw [hys]; exact HDK.out) ((dno_not p2).2 seq X)
                have HSA : Hid (∀ W, wr.grownBy W none → Calls Tryd.prog 14 #[.slice va L vc, .slice (some ⟨g, 0, none⟩) L cg] W fun e w' => e = .returned (.bool true) ∧ w' = W) := fun W hg => by
                  have k := same_c va (some ⟨g, 0, none⟩) L vc L cg xs ys W ((HVA.out.1.below HR.out.2).grew hg (by simp)) (HR.out.1.seg.grew hg (by simp)) HXB.out (bytes_mem HYB.out)
                  rw [hys, show decide (xs = xs) = true from by simp] at k
                  exact k
                clear HR HEND HYB hys
                go_wp2_with (first
                  | (go_at_call 19; go_must (refine (Calls.mono HDE.out ?_)); rintro r x1 ⟨s, sa, sn, sc, rfl, s4⟩; have A2 : Hid (wr.grownBy (x1.alloc (.cells #[.int .i64 s, .slice sa sn sc] 24)) none) := gb_trans s4 (gal _ _); clear s4 HDE)
                  | (go_at_call 14; go_must (refine (Calls.mono (HSA.out _ A2.out) ?_)); rintro r x3 ⟨rfl, hq⟩; obtain rfl := hq.symm))
                go_ret
                exact ⟨rfl, HBW.out.trans ((gbb A2.out).mono HBW.out.size)⟩
              · have HDE : Hid (Calls Tryd.prog 19 #[.slice (some ⟨g, 0, none⟩) L cg] wr fun r w' => ∃ s sa sn sc e, r = .returned (.tuple #[.agg #[.int .i64 s, .slice sa sn sc], .int .i64 e]) ∧ (e != 0) = true ∧ wr.grownBy w' none) := by
                  refine (idec_c (some ⟨g, 0, none⟩) L cg ys wr HR.out.1.seg (bytes_mem HYB.out) (by omega) HR.out.1.le (fun e => by cases e) (HVA.out.2.below HR.out.2)).mono ?_
                  rintro r w' ⟨⟨b, n', seq', X', p1, p2, p3, p4⟩ | ⟨e, p1, p2⟩, p5⟩
                  · rcases HEND.out with q | q
                    · exact absurd q hys
                    · rw [p2.2.2.2.1] at q; cases q
                  · exact ⟨0, none, 0, 0, e, p1, (dno_not p2).1, below_gbI p5⟩
                clear HR HEND HYB hys
                go_wp2_with (go_at_call 19; go_must (refine (Calls.mono HDE.out ?_)); rintro r x1 ⟨s, sa, sn, sc, e, rfl, he, s4⟩; have A2 : Hid (wr.grownBy (x1.alloc (.cells #[.int .i64 s, .slice sa sn sc] 24)) none) := gb_trans s4 (gal _ _); clear s4 HDE)
                go_ret
                exact ⟨by first | rfl | exact congrArg (fun b => Ending.returned (Value.bool b)) he, HBW.out.trans ((gbb A2.out).mono HBW.out.size)⟩
            · have hk4 : ¬ (k : Int) < 32 := by omega
              clear hlt hk3
              have HBW : Hid (Below w.heap.size w wr) := HWG.out.1.trans (HR.out.2.mono HWG.out.2)
              by_cases hys : ys = xs
              · have HDE : Hid (Calls Tryd.prog 19 #[.slice (some ⟨g, 0, none⟩) L cg] wr fun r w' => ∃ s sa sn sc, r = .returned (.tuple #[.agg #[.int .i64 s, .slice sa sn sc], .int .i64 0]) ∧ wr.grownBy w' none) := by
                  refine (idec_c (some ⟨g, 0, none⟩) L cg ys wr HR.out.1.seg (bytes_mem HYB.out) (by omega) HR.out.1.le (fun e => by cases e) (HVA.out.2.below HR.out.2)).mono ?_
                  rintro r w' ⟨⟨b, n', seq', X', p1, p2, p3, p4⟩ | ⟨e, p1, p2⟩, p5⟩
                  · exact ⟨_, _, _, _, p1, below_gbI p5⟩
                  · exact absurd (by rw [hys]; exact HDK.out) ((dno_not p2).2 seq X)
                have HSA : Hid (∀ W, wr.grownBy W none → Calls Tryd.prog 14 #[.slice va L vc, .slice (some ⟨g, 0, none⟩) L cg] W fun e w' => e = .returned (.bool true) ∧ w' = W) := fun W hg => by
                  have k := same_c va (some ⟨g, 0, none⟩) L vc L cg xs ys W ((HVA.out.1.below HR.out.2).grew hg (by simp)) (HR.out.1.seg.grew hg (by simp)) HXB.out (bytes_mem HYB.out)
                  rw [hys, show decide (xs = xs) = true from by simp] at k
                  exact k
                clear HR HEND HYB hys
                go_wp2_with (first
                  | (go_at_call 19; go_must (refine (Calls.mono HDE.out ?_)); rintro r x1 ⟨s, sa, sn, sc, rfl, s4⟩; have A2 : Hid (wr.grownBy (x1.alloc (.cells #[.int .i64 s, .slice sa sn sc] 24)) none) := gb_trans s4 (gal _ _); clear s4 HDE)
                  | (go_at_call 14; go_must (refine (Calls.mono (HSA.out _ A2.out) ?_)); rintro r x3 ⟨rfl, hq⟩; obtain rfl := hq.symm))
                go_ret
                exact ⟨rfl, HBW.out.trans ((gbb A2.out).mono HBW.out.size)⟩
              · have HDE : Hid (Calls Tryd.prog 19 #[.slice (some ⟨g, 0, none⟩) L cg] wr fun r w' => ∃ s sa sn sc e, r = .returned (.tuple #[.agg #[.int .i64 s, .slice sa sn sc], .int .i64 e]) ∧ (e != 0) = true ∧ wr.grownBy w' none) := by
                  refine (idec_c (some ⟨g, 0, none⟩) L cg ys wr HR.out.1.seg (bytes_mem HYB.out) (by omega) HR.out.1.le (fun e => by cases e) (HVA.out.2.below HR.out.2)).mono ?_
                  rintro r w' ⟨⟨b, n', seq', X', p1, p2, p3, p4⟩ | ⟨e, p1, p2⟩, p5⟩
                  · rcases HEND.out with q | q
                    · exact absurd q hys
                    · rw [p2.2.2.2.1] at q; cases q
                  · exact ⟨0, none, 0, 0, e, p1, (dno_not p2).1, below_gbI p5⟩
                clear HR HEND HYB hys
                go_wp2_with (go_at_call 19; go_must (refine (Calls.mono HDE.out ?_)); rintro r x1 ⟨s, sa, sn, sc, e, rfl, he, s4⟩; have A2 : Hid (wr.grownBy (x1.alloc (.cells #[.int .i64 s, .slice sa sn sc] 24)) none) := gb_trans s4 (gal _ _); clear s4 HDE)
                go_ret
                exact ⟨by first | rfl | exact congrArg (fun b => Ending.returned (Value.bool b)) he, HBW.out.trans ((gbb A2.out).mono HBW.out.size)⟩
  · have hEb : (E != 0) = true := by simp [hE0]
    clear h hm hz ht hE hE0
    go_enter Tryd.func7, Tryd.ntmps7
    go_wp2_with fail
    rw [← hW0]
    clear hW0
    go_quiet (fail)
    generalize hW1 : World.drewN W0 _ = W1
    have H1 : Hid (Bk 24 W1 w.heap.size #[.int .i64 seq, .slice a n cap] ∧ w.grownBy W1 none) := by
      rw [← hW1]
      exact ⟨HB0.out.1.grew (gb_dr (grf W0) _) (by simp), gb_dr HB0.out.2.2 _⟩
    clear hW1 c0 c1 c2
    go_wp2_with (first
      | (refine wpList_load_bk 24 rfl (.tmp 2) rfl Tryd.underlying24 rfl infoState w.heap.size _ rfl H1.out.1 rfl ?_)
      | (go_at_call 29; go_must (refine (Calls.mono (HJ.out _ H1.out.2) ?_)); rintro r w2 ⟨rfl, q4⟩; have H2 : Hid (w.grownBy w2 none) := gb_trans H1.out.2 q4; clear q4))
    go_ret
    exact ⟨rfl, gbb H2.out⟩
end Go.Proofs.YtlmjgjimmbadeaaDoor
