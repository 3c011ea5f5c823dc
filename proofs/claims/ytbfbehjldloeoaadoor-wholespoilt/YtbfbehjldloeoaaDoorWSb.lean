/-
  What the law's turned answers: the bytes with one to three bits turned, or with some turned within 32 neighbours; so that no beginning holds but that of the bytes themselves. Condition: at least one byte and fewer than 2^27; the places can be read.
-/
import Derived.Test.YtbfbehjldloeoaaDoorWSa
import Derived.Test.YtbfbehjldloeoaaDoorRLf
import Derived.Test.YtbfbehjldloeoaaDoorTSf
import Derived.Sort.AtCall
namespace Go.Proofs.YtbfbehjldloeoaaDoor
open Go.RowKit
set_option linter.unusedVariables false

set_option maxRecDepth 20000 in
set_option maxHeartbeats 4000000 in
theorem turned_c (a : Option Addr) (L cap : Nat) (xs : List Int) (T0 : Int) (v : Wd) (am : Option Addr) (lm cm : Nat) (zm : List Int) (w : World) (hs : Seg .u8 w a L xs) (hx : Bytes xs) (hL0 : 0 < L) (hL : L ≤ 134217728) (hT0 : -9223372036854775808 ≤ T0 ∧ T0 ≤ 9223372036854775807) (hm : Seg .i64 w am lm zm) (hz : ∀ i, i < lm → -9223372036854775808 ≤ zm[i]?.getD 0 ∧ zm[i]?.getD 0 ≤ 9223372036854775807) (hlm : lm ≤ 9223372036854775807) :
    Calls Tryd.prog 6 #[.slice a L cap, .agg #[.int .i64 T0, .int .u32 (W v), .slice am lm cm]] w fun r w' => ∃ g cg ys, r = .returned (.slice (some ⟨g, 0, none⟩) L cg) ∧ Tn w' w.heap.size g L cg ys ∧ Tells xs ys ∧ Below w.heap.size w w' := by
  obtain ⟨N, hN⟩ : ∃ N, N = w.heap.size := ⟨_, rfl⟩
  obtain ⟨w1, hw1⟩ : ∃ w1, w1 = w.alloc (.cells #[.int .i64 T0, .int .u32 (W v), .slice am lm cm] 26) := ⟨_, rfl⟩
  have HB1 : Hid (Bk 26 w1 N #[.int .i64 T0, .int .u32 (W v), .slice am lm cm] ∧ Below w.heap.size w w1 ∧ N = w.heap.size) := by rw [hw1, hN]; exact ⟨heap_new w _, (Below.refl _ _).alloc (Nat.le_refl _) _, rfl⟩
  have HLN : Hid (xs.length = L ∧ Bytes xs) := ⟨hs.1, hx⟩
  have HCP : Hid (Calls Tryd.prog 13 #[.slice a L cap] w1 fun e w' => ∃ g cap', e = .returned (.slice (some ⟨g, 0, none⟩) L cap') ∧ Tn w' w1.heap.size g L cap' xs ∧ Below w1.heap.size w1 w') := copyW_c a L cap xs w1 (hs.below HB1.out.2.1) hx (by omega)
  have HMT : Hid (Seg .i64 w1 am lm zm ∧ ∀ i, i < lm → -9223372036854775808 ≤ zm[i]?.getD 0 ∧ zm[i]?.getD 0 ≤ 9223372036854775807) := ⟨hm.below HB1.out.2.1, hz⟩
  have HPL : Hid (∀ (k : Int) (W : World), -9223372036854775808 ≤ k ∧ k ≤ 9223372036854775807 → Calls Tryd.prog 4 #[.int .i64 k, .int .i64 (8 * (L : Int))] W fun r w' => ∃ J : Int, 0 ≤ J ∧ J < 8 * (L : Int) ∧ r = .returned (.int .i64 J) ∧ w' = W) := fun k W hk => by
    have q := put_c k (8 * L) W hk (by omega) (by omega)
    rw [Int.natCast_mul] at q
    exact q.mono fun r w' ⟨F, h1, h2, h3⟩ => ⟨(F : Int), by omega, by omega, h2, h3⟩
  have HK : Hid (∀ Wx, Below w1.heap.size w1 Wx → Bk 26 Wx N #[.int .i64 T0, .int .u32 (W v), .slice am lm cm]) := fun Wx hb => HB1.out.1.below hb (lt_of_block HB1.out.1)
  have HEN : Hid (∀ Wx g cg ys, Tn Wx w1.heap.size g L cg ys → Below w1.heap.size w1 Wx → Tn Wx w.heap.size g L cg ys ∧ Below w.heap.size w Wx) := fun Wx g cg ys h1 h3 => ⟨⟨h1.len, h1.le, Nat.le_trans HB1.out.2.1.size h1.lo, h1.lt, h1.cell, h1.free⟩, HB1.out.2.1.trans (h3.mono HB1.out.2.1.size)⟩
  clear hs hx hm hz
  by_cases hA : 1 ≤ lm ∧ lm ≤ 3
  · have ha1 : (0 : Int) < (lm : Int) := by omega
    have ha2 : (lm : Int) ≤ 3 := by omega
    go_enter Tryd.func6, Tryd.ntmps6
    go_wp2_with (first
      | (go_at_call 13; rw [← hw1, ← hN]; clear hw1 hN; go_must (refine (Calls.mono HCP.out ?_)); rintro r w2 ⟨g, cg, rfl, z1, z2⟩; have H2 : Hid (Tn w2 w1.heap.size g L cg xs ∧ Below w1.heap.size w1 w2) := ⟨z1, z2⟩; have c2 := (HK.out w2 z2).cell 2; simp at c2; clear z1 z2))
    go_loopw [30] (fun i wr => ∃ (k : Nat) (js : List Nat), k ≤ lm ∧ i = .int .i64 k ∧ Hid (js.length = k) ∧ Hid (Tn wr w1.heap.size g L cg (flipsOf xs js) ∧ Below w1.heap.size w1 wr)) (fun i _ => lm - (intOf i).toNat)
    case atStart => exact ⟨0, [], Nat.zero_le _, rfl, rfl, H2.out⟩
    case round =>
      obtain ⟨k, js, hk, rfl, hjs, HR⟩ := hrel
      clear H2 c2
      by_cases hlt : k < lm
      · have hi1 : (k : Int) < lm := by omega
        obtain ⟨bm, om, rfl, hbm, hcmm⟩ := HMT.out.1.2.resolve_left (by omega)
        have hcell : wr.cell? ⟨bm, om + k, none⟩ = some (.int .i64 (zm[k]?.getD 0)) := (HR.out.2.cell (p := ⟨bm, om + k, none⟩) hbm).trans (hcmm k hlt)
        have hmk := HMT.out.2 k hlt
        obtain ⟨m, hme⟩ : ∃ m, m = zm[k]?.getD 0 := ⟨_, rfl⟩
        rw [← hme] at hcell hmk
        have HPK : Hid (Calls Tryd.prog 4 #[.int .i64 m, .int .i64 (8 * (L : Int))] wr fun r w' => ∃ J : Int, 0 ≤ J ∧ J < 8 * (L : Int) ∧ r = .returned (.int .i64 J) ∧ w' = wr) := HPL.out m wr hmk
        clear hme hmk hcmm
        go_wp2_with (go_at_call 4; go_must (refine (Calls.mono HPK.out ?_)); rintro r w5 ⟨J, hJ0, hJ1, rfl, hq⟩; obtain rfl := hq.symm)
        obtain ⟨D, hDe⟩ : ∃ D : Int, J / (8 : Int) = D := ⟨_, rfl⟩
        obtain ⟨E8, hEe⟩ : ∃ E8 : Int, J % (8 : Int) = E8 := ⟨_, rfl⟩
        have hD' : J.tdiv (8 : Int) = D := by rw [← hDe]; exact Int.tdiv_eq_ediv_of_nonneg hJ0
        have hE' : J.tmod (8 : Int) = E8 := by rw [← hEe]; exact Int.tmod_eq_emod_of_nonneg hJ0
        have hD0 : (0 : Int) ≤ D := by omega
        have hD1 : D < (L : Int) := by omega
        have hE0' : (0 : Int) ≤ E8 := by omega
        have hE1' : E8 < 8 := by omega
        have e1 : D.toNat = J.toNat / 8 := by omega
        have e2 : E8.toNat = J.toNat % 8 := by omega
        obtain ⟨ys, hys⟩ : ∃ ys, ys = flipsOf xs js := ⟨_, rfl⟩
        have HT0 : Hid (Tn wr w1.heap.size g L cg ys) := by rw [hys]; exact HR.out.1
        have hcY : wr.cell? ⟨g, D.toNat, none⟩ = some (.int .u8 (ys[D.toNat]?.getD 0)) := HT0.out.cell D.toNat (by omega)
        have hfY : wr.frozen? ⟨g, D.toNat, none⟩ = false := HT0.out.free D.toNat (by omega)
        obtain ⟨Y, hY⟩ : ∃ Y, Y = ys[D.toNat]?.getD 0 := ⟨_, rfl⟩
        rw [← hY] at hcY
        have hYb : 0 ≤ Y ∧ Y < 256 := by
          have hb : ∀ z ∈ ys, 0 ≤ z ∧ z < 256 := by rw [hys]; exact flipsOf_bytes _ _ HLN.out.2.mem
          rw [hY]
          exact bytes_of_mem hb D.toNat (by rw [HT0.out.len]; omega)
        have HVV : Hid (bits .xor .u8 Y ((2 : Int) ^ E8.toNat % 256) = bx (ys[J.toNat / 8]?.getD 0) ((2 ^ (J.toNat % 8) : Nat) : Int)) := by
          rw [e2]
          exact flip_val J.toNat Y (by rw [hY, e1]) hYb
        have HJL : Hid (D.toNat = J.toNat / 8 ∧ D.toNat < L) := ⟨e1, by omega⟩
        obtain ⟨Z, hZ⟩ : ∃ Z, IntKind.u8.wrap ((2 : Int) ^ E8.toNat) = Z := ⟨_, rfl⟩
        obtain ⟨V, hV⟩ : ∃ V, bits .xor .u8 Y Z = V := ⟨_, rfl⟩
        have HV2 : Hid (V = bx (ys[J.toNat / 8]?.getD 0) ((2 ^ (J.toNat % 8) : Nat) : Int)) := by
          show V = _
          rw [← HVV.out, ← hV, ← hZ, IntKind.wrap_u8]
        have z1 : IntKind.i64.wrap D = D := IntWalk.i64_in _ ⟨by omega, by omega⟩
        have z2 : IntKind.i64.wrap E8 = E8 := IntWalk.i64_in _ ⟨by omega, by omega⟩
        have z3 : min E8.toNat 8 = E8.toNat := by omega
        have HW14 : Hid (∀ W, wr.grownBy W none → W.cell? ⟨g, D.toNat, none⟩ = some (.int .u8 Y) ∧ W.frozen? ⟨g, D.toNat, none⟩ = false) := fun W hg => ⟨((gb_below hg).cell (p := ⟨g, D.toNat, none⟩) HT0.out.lt).trans hcY, ((gb_below hg).frozen (p := ⟨g, D.toNat, none⟩) HT0.out.lt).trans hfY⟩
        have HR5 : Hid (∀ W, wr.grownBy W none → Tn (W.setCell ⟨g, D.toNat, none⟩ (.int .u8 V)) w1.heap.size g L cg (flipsOf xs (js ++ [J.toNat])) ∧ Below w1.heap.size w1 (W.setCell ⟨g, D.toNat, none⟩ (.int .u8 V))) := fun W hg => by
          have q := (HT0.out.gb hg).set D.toNat HJL.out.2 V
          have hnw : flipsOf xs (js ++ [J.toNat]) = ys.set D.toNat V := by rw [HV2.out, HJL.out.1]; rw [flipsOf_snoc, ← hys]; rfl
          rw [hnw]
          exact ⟨q, (HR.out.2.trans ((gb_below hg).mono HR.out.2.size)).setCell HT0.out.lo _⟩
        clear hY e1 e2 hDe hEe HVV HV2 hcY hfY hE1' hys HT0
        have HJS : Hid ((js ++ [J.toNat]).length = k + 1) := by show _ = _; rw [List.length_append, hjs.out]; rfl
        refine wp_region_lastR (fun a b => World.grownBy a b none) (fun _ _ _ h k => gb_trans h k) ⟨rfl, rfl, rfl, Nat.le_refl _, fun _ _ _ => rfl⟩ 10 rfl (by kernel_rfl) [37, 38, 39, 40, 41, 42, 43, 44, 45, 46, 100010] [[], [], [1], [0, 2], [3], [], [5], [6], [4, 7], [0, 2], [9, 8]] (by kernel_rfl) (by kernel_rfl) [fun u W => u = .slice (some ⟨g, 0, none⟩) L cg, fun u W => u = .int .i64 J, fun u W => u = .int .i64 D, fun u W => u = .pointer (some ⟨g, D.toNat, none⟩), fun u W => u = .int .u8 Y, fun u W => u = .int .i64 J, fun u W => u = .int .i64 E8, fun u W => u = .int .u8 Z, fun u W => u = .int .u8 V, fun u W => u = .pointer (some ⟨g, D.toNat, none⟩)] ?stable ?step ?last
        case stable =>
          intro i v W W' h hg
          match i, h with
          | 0, h => exact h
          | 1, h => exact h
          | 2, h => exact h
          | 3, h => exact h
          | 4, h => exact h
          | 5, h => exact h
          | 6, h => exact h
          | 7, h => exact h
          | 8, h => exact h
          | 9, h => exact h
          | i + 10, h => exact trivial
        case step =>
          intro f W A hA hg i o hin ho hu K hK
          match i, hin, ho, hu, hK with
          | 0, hin, ho, hu, hK =>
            cases ho
            have hw := HW14.out W hg
            have e5 : A.eval (.tmp 5) = .slice (some ⟨g, 0, none⟩) L cg := ev_out hA 5 rfl
            exact ph_move _ rfl rfl (.slice (some ⟨g, 0, none⟩) L cg) e5 (hK _ _ (gb_rr W _) rfl)
          | 1, hin, ho, hu, hK =>
            cases ho
            have hw := HW14.out W hg
            have e9 : A.eval (.tmp 9) = .int .i64 J := ev_out hA 9 rfl
            exact ph_move _ rfl rfl (.int .i64 J) e9 (hK _ _ (gb_rr W _) rfl)
          | 2, hin, ho, hu, hK =>
            cases ho
            have hw := HW14.out W hg
            have e38 : A.eval (.tmp 38) = .int .i64 J := (ev_in hA 38 1 rfl rfl rfl).trans (show f 1 = .int .i64 J from hu 1 (by decide))
            refine ph_sem rfl rfl (r := .ok (.value (.int .i64 D)) W) ?_ (hK _ _ (gb_rr W _) rfl)
            have eC : ∀ c, A.eval (.const c) = c := fun _ => rfl; have eF : ∀ g, A.eval (.func g) = .func (.func g) #[] #[] := fun _ => rfl; generalize A.eval = ρ at *
            clear hA hu hg hw hin hK
            go_simp
          | 3, hin, ho, hu, hK =>
            cases ho
            have hw := HW14.out W hg
            have e37 : A.eval (.tmp 37) = .slice (some ⟨g, 0, none⟩) L cg := (ev_in hA 37 0 rfl rfl rfl).trans (show f 0 = .slice (some ⟨g, 0, none⟩) L cg from hu 0 (by decide))
            have e39 : A.eval (.tmp 39) = .int .i64 D := (ev_in hA 39 2 rfl rfl rfl).trans (show f 2 = .int .i64 D from hu 2 (by decide))
            refine ph_sem rfl rfl (r := .ok (.value (.pointer (some ⟨g, D.toNat, none⟩))) W) ?_ (hK _ _ (gb_rr W _) rfl)
            have eC : ∀ c, A.eval (.const c) = c := fun _ => rfl; have eF : ∀ g, A.eval (.func g) = .func (.func g) #[] #[] := fun _ => rfl; generalize A.eval = ρ at *
            clear hA hu hg hw hin hK
            go_simp
          | 4, hin, ho, hu, hK =>
            cases ho
            have hw := HW14.out W hg
            have e40 : A.eval (.tmp 40) = .pointer (some ⟨g, D.toNat, none⟩) := (ev_in hA 40 3 rfl rfl rfl).trans (show f 3 = .pointer (some ⟨g, D.toNat, none⟩) from hu 3 (by decide))
            have hc := hw.1
            refine ph_sem rfl rfl (r := .ok (.value (.int .u8 Y)) W) ?_ (hK _ _ (gb_rr W _) rfl)
            have eC : ∀ c, A.eval (.const c) = c := fun _ => rfl; have eF : ∀ g, A.eval (.func g) = .func (.func g) #[] #[] := fun _ => rfl; generalize A.eval = ρ at *
            clear hA hu hg hw hin hK
            go_simp
          | 5, hin, ho, hu, hK =>
            cases ho
            have hw := HW14.out W hg
            have e9 : A.eval (.tmp 9) = .int .i64 J := ev_out hA 9 rfl
            exact ph_move _ rfl rfl (.int .i64 J) e9 (hK _ _ (gb_rr W _) rfl)
          | 6, hin, ho, hu, hK =>
            cases ho
            have hw := HW14.out W hg
            have e42 : A.eval (.tmp 42) = .int .i64 J := (ev_in hA 42 5 rfl rfl rfl).trans (show f 5 = .int .i64 J from hu 5 (by decide))
            refine ph_sem rfl rfl (r := .ok (.value (.int .i64 E8)) W) ?_ (hK _ _ (gb_rr W _) rfl)
            have eC : ∀ c, A.eval (.const c) = c := fun _ => rfl; have eF : ∀ g, A.eval (.func g) = .func (.func g) #[] #[] := fun _ => rfl; generalize A.eval = ρ at *
            clear hA hu hg hw hin hK
            go_simp
          | 7, hin, ho, hu, hK =>
            cases ho
            have hw := HW14.out W hg
            have e43 : A.eval (.tmp 43) = .int .i64 E8 := (ev_in hA 43 6 rfl rfl rfl).trans (show f 6 = .int .i64 E8 from hu 6 (by decide))
            refine ph_sem rfl rfl (r := .ok (.value (.int .u8 Z)) W) ?_ (hK _ _ (gb_rr W _) rfl)
            have eC : ∀ c, A.eval (.const c) = c := fun _ => rfl; have eF : ∀ g, A.eval (.func g) = .func (.func g) #[] #[] := fun _ => rfl; generalize A.eval = ρ at *
            clear hA hu hg hw hin hK
            go_simp
          | 8, hin, ho, hu, hK =>
            cases ho
            have hw := HW14.out W hg
            have e41 : A.eval (.tmp 41) = .int .u8 Y := (ev_in hA 41 4 rfl rfl rfl).trans (show f 4 = .int .u8 Y from hu 4 (by decide))
            have e44 : A.eval (.tmp 44) = .int .u8 Z := (ev_in hA 44 7 rfl rfl rfl).trans (show f 7 = .int .u8 Z from hu 7 (by decide))
            refine ph_sem rfl rfl (r := .ok (.value (.int .u8 V)) W) ?_ (hK _ _ (gb_rr W _) rfl)
            have eC : ∀ c, A.eval (.const c) = c := fun _ => rfl; have eF : ∀ g, A.eval (.func g) = .func (.func g) #[] #[] := fun _ => rfl; generalize A.eval = ρ at *
            clear hA hu hg hw hin hK
            go_simp
          | 9, hin, ho, hu, hK =>
            cases ho
            have hw := HW14.out W hg
            have e37 : A.eval (.tmp 37) = .slice (some ⟨g, 0, none⟩) L cg := (ev_in hA 37 0 rfl rfl rfl).trans (show f 0 = .slice (some ⟨g, 0, none⟩) L cg from hu 0 (by decide))
            have e39 : A.eval (.tmp 39) = .int .i64 D := (ev_in hA 39 2 rfl rfl rfl).trans (show f 2 = .int .i64 D from hu 2 (by decide))
            refine ph_sem rfl rfl (r := .ok (.value (.pointer (some ⟨g, D.toNat, none⟩))) W) ?_ (hK _ _ (gb_rr W _) rfl)
            have eC : ∀ c, A.eval (.const c) = c := fun _ => rfl; have eF : ∀ g, A.eval (.func g) = .func (.func g) #[] #[] := fun _ => rfl; generalize A.eval = ρ at *
            clear hA hu hg hw hin hK
            go_simp
          | i + 10, hin, ho, hu, hK => omega
        case last =>
          intro f W A hA hg hu o ho K hK
          cases ho
          have hw := HW14.out W hg
          have e45 : A.eval (.tmp 45) = .int .u8 V := (ev_in hA 45 8 rfl rfl rfl).trans (show f 8 = .int .u8 V from hu 8 (by decide))
          have e46 : A.eval (.tmp 46) = .pointer (some ⟨g, D.toNat, none⟩) := (ev_in hA 46 9 rfl rfl rfl).trans (show f 9 = .pointer (some ⟨g, D.toNat, none⟩) from hu 9 (by decide))
          refine ph_sem rfl rfl (r := .ok .skip (W.setCell ⟨g, D.toNat, none⟩ (.int .u8 V))) ?st (hK _ _ ?go)
          case st =>
            have eC : ∀ c, A.eval (.const c) = c := fun _ => rfl
            have hc := hw.1
            have hf := hw.2
            generalize A.eval = ρ at *
            clear hA hu hg hw hK
            go_simp
          case go =>
            have H5 : Hid _ := HR5.out W hg
            clear hg hw e45 e46
            have hA2 := hA.trans (putAll_lit [(.slice (some ⟨g, 0, none⟩) L cg), (.int .i64 J), (.int .i64 D), (.pointer (some ⟨g, D.toNat, none⟩)), (.int .u8 Y), (.int .i64 J), (.int .i64 E8), (.int .u8 Z), (.int .u8 V), (.pointer (some ⟨g, D.toNat, none⟩)), (f 10)] (by
              intro j hj
              match j, hj with
              | 0, _ => exact hu 0 (by decide)
              | 1, _ => exact hu 1 (by decide)
              | 2, _ => exact hu 2 (by decide)
              | 3, _ => exact hu 3 (by decide)
              | 4, _ => exact hu 4 (by decide)
              | 5, _ => exact hu 5 (by decide)
              | 6, _ => exact hu 6 (by decide)
              | 7, _ => exact hu 7 (by decide)
              | 8, _ => exact hu 8 (by decide)
              | 9, _ => exact hu 9 (by decide)
              | 10, _ => rfl
              | j + 11, hj => exact absurd hj (by simp)))
            clear hu hA
            subst hA2
            simp only [putAll, putL, List.mem_cons, List.not_mem_nil, List.idxOf_cons, Nat.reduceEqDiff, Nat.reduceBEq, Nat.reduceAdd, or_false, or_true, reduceIte, cond_true, cond_false, List.getD_cons_zero, List.getD_cons_succ, BEq.rfl]
            go_wp2_with fail
            go_roundw
            case rel => exact ⟨k + 1, js ++ [J.toNat], by omega, by go_num, HJS.out, H5.out⟩
            case measure => simp [intOf]; omega
      · obtain rfl : k = lm := by omega
        have hge : ¬ (k : Int) < k := by omega
        have HT : Hid (Tells xs (flipsOf xs js)) := tells_flips xs HLN.out.2 (by rw [HLN.out.1]; exact hL) js (by have := hjs.out; omega)
        go_wp2_with fail
        go_ret
        exact ⟨g, cg, rfl, _, (HEN.out wr g cg _ HR.out.1 HR.out.2).1, HT.out, (HEN.out wr g cg _ HR.out.1 HR.out.2).2⟩
  · have HPT : Hid (∀ W, Calls Tryd.prog 4 #[.int .i64 T0, .int .i64 (8 * (L : Int))] W fun r w' => ∃ J : Int, 0 ≤ J ∧ J < 8 * (L : Int) ∧ r = .returned (.int .i64 J) ∧ w' = W) := fun W => HPL.out T0 W hT0
    rcases (by omega : lm = 0 ∨ 3 < lm) with hl0 | hl3
    · subst hl0
      have hl1 : ¬ (0 : Int) < ((0 : Nat) : Int) := by omega
      go_enter Tryd.func6, Tryd.ntmps6
      go_wp2_with (first
        | (go_at_call 13; rw [← hw1, ← hN]; clear hw1 hN; go_must (refine (Calls.mono HCP.out ?_)); rintro r w2 ⟨g, cg, rfl, z1, z2⟩; have H2 : Hid (Tn w2 w1.heap.size g L cg xs ∧ Below w1.heap.size w1 w2) := ⟨z1, z2⟩; have c2 := (HK.out w2 z2).cell 2; have c0 := (HK.out w2 z2).cell 0; simp at c2 c0; clear z1 z2)
        | (go_at_call 4; go_must (refine (Calls.mono (HPT.out _) ?_)); rintro r w5 ⟨F, hF0, hF1, rfl, hq⟩; obtain rfl := hq.symm))
      go_loopw [11] (fun i wr => ∃ (k : Nat), k ≤ 32 ∧ F + (k : Int) ≤ 8 * (L : Int) ∧ i = .int .i64 k ∧ Hid (Tn wr w1.heap.size g L cg (runOf F.toNat v k xs) ∧ Below w1.heap.size w1 wr)) (fun i _ => 32 - (intOf i).toNat)
      case atStart => exact ⟨0, Nat.zero_le _, by omega, rfl, H2.out⟩
      case round =>
        obtain ⟨k, hk, hFk, rfl, HR⟩ := hrel
        clear H2 c2 c0
        have d1 := (HK.out wr HR.out.2).cell 1
        simp at d1
        by_cases hlt : k < 32 ∧ F + (k : Int) < 8 * (L : Int)
        · obtain ⟨hk1, hk2⟩ := hlt
          have hk3 : (k : Int) < 32 := by omega
          have hk0 : (0 : Int) ≤ (k : Int) := by omega
          have hbit := W_bit v k hk1
          cases hv : v.getLsbD k with
          | false =>
            have hc2 : (bits .and .u32 (W v / (2 : Int) ^ k) 1 == 1) = false := by rw [hbit, hv]; rfl
            have HN1 : Hid (runOf F.toNat v (k + 1) xs = runOf F.toNat v k xs) := by
              show _ = _
              conv => lhs; unfold runOf
              rw [if_neg (fun z => by rw [hv] at z; cases z.1)]
            clear hbit hv
            go_wp2_with fail
            go_roundw
            case rel => exact ⟨k + 1, by omega, by omega, by go_num, by rw [HN1.out]; exact HR.out⟩
            case measure => simp [intOf]; omega
          | true =>
            have hc2 : (bits .and .u32 (W v / (2 : Int) ^ k) 1 == 1) = true := by rw [hbit, hv]; rfl
            obtain ⟨J, hJ⟩ : ∃ J : Int, F + (k : Int) = J := ⟨_, rfl⟩
            have hJ0 : 0 ≤ J := by omega
            have hJ1 : J < 8 * (L : Int) := by omega
            have eJ : J.toNat = F.toNat + k := by omega
            have zJ : IntKind.i64.wrap J = J := IntWalk.i64_in _ ⟨by omega, by omega⟩
            have HN1 : Hid (runOf F.toNat v (k + 1) xs = flip (runOf F.toNat v k xs) J.toNat) := by
              show _ = _
              conv => lhs; unfold runOf
              rw [if_pos ⟨hv, by rw [HLN.out.1]; omega⟩, eJ]
            obtain ⟨D, hDe⟩ : ∃ D : Int, J / (8 : Int) = D := ⟨_, rfl⟩
            obtain ⟨E8, hEe⟩ : ∃ E8 : Int, J % (8 : Int) = E8 := ⟨_, rfl⟩
            have hD' : J.tdiv (8 : Int) = D := by rw [← hDe]; exact Int.tdiv_eq_ediv_of_nonneg hJ0
            have hE' : J.tmod (8 : Int) = E8 := by rw [← hEe]; exact Int.tmod_eq_emod_of_nonneg hJ0
            have hD0 : (0 : Int) ≤ D := by omega
            have hD1 : D < (L : Int) := by omega
            have hE0' : (0 : Int) ≤ E8 := by omega
            have hE1' : E8 < 8 := by omega
            have e1 : D.toNat = J.toNat / 8 := by omega
            have e2 : E8.toNat = J.toNat % 8 := by omega
            obtain ⟨ys, hys⟩ : ∃ ys, ys = runOf F.toNat v k xs := ⟨_, rfl⟩
            have HT0 : Hid (Tn wr w1.heap.size g L cg ys) := by rw [hys]; exact HR.out.1
            have hcY : wr.cell? ⟨g, D.toNat, none⟩ = some (.int .u8 (ys[D.toNat]?.getD 0)) := HT0.out.cell D.toNat (by omega)
            have hfY : wr.frozen? ⟨g, D.toNat, none⟩ = false := HT0.out.free D.toNat (by omega)
            obtain ⟨Y, hY⟩ : ∃ Y, Y = ys[D.toNat]?.getD 0 := ⟨_, rfl⟩
            rw [← hY] at hcY
            have hYb : 0 ≤ Y ∧ Y < 256 := by
              have hb : ∀ z ∈ ys, 0 ≤ z ∧ z < 256 := by rw [hys]; exact runOf_bytes _ _ _ _ HLN.out.2.mem
              rw [hY]
              exact bytes_of_mem hb D.toNat (by rw [HT0.out.len]; omega)
            have HVV : Hid (bits .xor .u8 Y ((2 : Int) ^ E8.toNat % 256) = bx (ys[J.toNat / 8]?.getD 0) ((2 ^ (J.toNat % 8) : Nat) : Int)) := by
              rw [e2]
              exact flip_val J.toNat Y (by rw [hY, e1]) hYb
            have HJL : Hid (D.toNat = J.toNat / 8 ∧ D.toNat < L) := ⟨e1, by omega⟩
            obtain ⟨Z, hZ⟩ : ∃ Z, IntKind.u8.wrap ((2 : Int) ^ E8.toNat) = Z := ⟨_, rfl⟩
            obtain ⟨V, hV⟩ : ∃ V, bits .xor .u8 Y Z = V := ⟨_, rfl⟩
            have HV2 : Hid (V = bx (ys[J.toNat / 8]?.getD 0) ((2 ^ (J.toNat % 8) : Nat) : Int)) := by
              show V = _
              rw [← HVV.out, ← hV, ← hZ, IntKind.wrap_u8]
            have z1 : IntKind.i64.wrap D = D := IntWalk.i64_in _ ⟨by omega, by omega⟩
            have z2 : IntKind.i64.wrap E8 = E8 := IntWalk.i64_in _ ⟨by omega, by omega⟩
            have z3 : min E8.toNat 8 = E8.toNat := by omega
            have HW14 : Hid (∀ W, wr.grownBy W none → W.cell? ⟨g, D.toNat, none⟩ = some (.int .u8 Y) ∧ W.frozen? ⟨g, D.toNat, none⟩ = false) := fun W hg => ⟨((gb_below hg).cell (p := ⟨g, D.toNat, none⟩) HT0.out.lt).trans hcY, ((gb_below hg).frozen (p := ⟨g, D.toNat, none⟩) HT0.out.lt).trans hfY⟩
            have HR5 : Hid (∀ W, wr.grownBy W none → Tn (W.setCell ⟨g, D.toNat, none⟩ (.int .u8 V)) w1.heap.size g L cg (runOf F.toNat v (k + 1) xs) ∧ Below w1.heap.size w1 (W.setCell ⟨g, D.toNat, none⟩ (.int .u8 V))) := fun W hg => by
              have q := (HT0.out.gb hg).set D.toNat HJL.out.2 V
              have hnw : runOf F.toNat v (k + 1) xs = ys.set D.toNat V := by rw [HV2.out, HJL.out.1]; rw [HN1.out, ← hys]; rfl
              rw [hnw]
              exact ⟨q, (HR.out.2.trans ((gb_below hg).mono HR.out.2.size)).setCell HT0.out.lo _⟩
            clear hY e1 e2 hDe hEe HVV HV2 hcY hfY hE1' hys HT0 hbit hv eJ
            go_wp2_with fail
            refine wp_region_lastR (fun a b => World.grownBy a b none) (fun _ _ _ h k => gb_trans h k) ⟨rfl, rfl, rfl, Nat.le_refl _, fun _ _ _ => rfl⟩ 14 rfl (by kernel_rfl) [70, 71, 72, 73, 74, 75, 76, 77, 78, 79, 80, 81, 82, 83, 100014] [[], [], [], [1, 2], [3], [0, 4], [5], [], [], [7, 8], [9], [10], [6, 11], [0, 4], [13, 12]] (by kernel_rfl) (by kernel_rfl) [fun u W => u = .slice (some ⟨g, 0, none⟩) L cg, fun u W => u = .int .i64 F, fun u W => u = .int .i64 (k : Int), fun u W => u = .int .i64 J, fun u W => u = .int .i64 D, fun u W => u = .pointer (some ⟨g, D.toNat, none⟩), fun u W => u = .int .u8 Y, fun u W => u = .int .i64 F, fun u W => u = .int .i64 (k : Int), fun u W => u = .int .i64 J, fun u W => u = .int .i64 E8, fun u W => u = .int .u8 Z, fun u W => u = .int .u8 V, fun u W => u = .pointer (some ⟨g, D.toNat, none⟩)] ?stable ?step ?last
            case stable =>
              intro i v W W' h hg
              match i, h with
              | 0, h => exact h
              | 1, h => exact h
              | 2, h => exact h
              | 3, h => exact h
              | 4, h => exact h
              | 5, h => exact h
              | 6, h => exact h
              | 7, h => exact h
              | 8, h => exact h
              | 9, h => exact h
              | 10, h => exact h
              | 11, h => exact h
              | 12, h => exact h
              | 13, h => exact h
              | i + 14, h => exact trivial
            case step =>
              intro f W A hA hg i o hin ho hu K hK
              match i, hin, ho, hu, hK with
              | 0, hin, ho, hu, hK =>
                cases ho
                have hw := HW14.out W hg
                have e5 : A.eval (.tmp 5) = .slice (some ⟨g, 0, none⟩) L cg := ev_out hA 5 rfl
                exact ph_move _ rfl rfl (.slice (some ⟨g, 0, none⟩) L cg) e5 (hK _ _ (gb_rr W _) rfl)
              | 1, hin, ho, hu, hK =>
                cases ho
                have hw := HW14.out W hg
                have e10 : A.eval (.tmp 10) = .int .i64 F := ev_out hA 10 rfl
                exact ph_move _ rfl rfl (.int .i64 F) e10 (hK _ _ (gb_rr W _) rfl)
              | 2, hin, ho, hu, hK =>
                cases ho
                have hw := HW14.out W hg
                have e11 : A.eval (.tmp 11) = .int .i64 (k : Int) := ev_out hA 11 rfl
                exact ph_move _ rfl rfl (.int .i64 (k : Int)) e11 (hK _ _ (gb_rr W _) rfl)
              | 3, hin, ho, hu, hK =>
                cases ho
                have hw := HW14.out W hg
                have e71 : A.eval (.tmp 71) = .int .i64 F := (ev_in hA 71 1 rfl rfl rfl).trans (show f 1 = .int .i64 F from hu 1 (by decide))
                have e72 : A.eval (.tmp 72) = .int .i64 (k : Int) := (ev_in hA 72 2 rfl rfl rfl).trans (show f 2 = .int .i64 (k : Int) from hu 2 (by decide))
                refine ph_sem rfl rfl (r := .ok (.value (.int .i64 J)) W) ?_ (hK _ _ (gb_rr W _) rfl)
                have eC : ∀ c, A.eval (.const c) = c := fun _ => rfl; have eF : ∀ g, A.eval (.func g) = .func (.func g) #[] #[] := fun _ => rfl; generalize A.eval = ρ at *
                clear hA hu hg hw hin hK
                go_simp
              | 4, hin, ho, hu, hK =>
                cases ho
                have hw := HW14.out W hg
                have e73 : A.eval (.tmp 73) = .int .i64 J := (ev_in hA 73 3 rfl rfl rfl).trans (show f 3 = .int .i64 J from hu 3 (by decide))
                refine ph_sem rfl rfl (r := .ok (.value (.int .i64 D)) W) ?_ (hK _ _ (gb_rr W _) rfl)
                have eC : ∀ c, A.eval (.const c) = c := fun _ => rfl; have eF : ∀ g, A.eval (.func g) = .func (.func g) #[] #[] := fun _ => rfl; generalize A.eval = ρ at *
                clear hA hu hg hw hin hK
                go_simp
              | 5, hin, ho, hu, hK =>
                cases ho
                have hw := HW14.out W hg
                have e70 : A.eval (.tmp 70) = .slice (some ⟨g, 0, none⟩) L cg := (ev_in hA 70 0 rfl rfl rfl).trans (show f 0 = .slice (some ⟨g, 0, none⟩) L cg from hu 0 (by decide))
                have e74 : A.eval (.tmp 74) = .int .i64 D := (ev_in hA 74 4 rfl rfl rfl).trans (show f 4 = .int .i64 D from hu 4 (by decide))
                refine ph_sem rfl rfl (r := .ok (.value (.pointer (some ⟨g, D.toNat, none⟩))) W) ?_ (hK _ _ (gb_rr W _) rfl)
                have eC : ∀ c, A.eval (.const c) = c := fun _ => rfl; have eF : ∀ g, A.eval (.func g) = .func (.func g) #[] #[] := fun _ => rfl; generalize A.eval = ρ at *
                clear hA hu hg hw hin hK
                go_simp
              | 6, hin, ho, hu, hK =>
                cases ho
                have hw := HW14.out W hg
                have e75 : A.eval (.tmp 75) = .pointer (some ⟨g, D.toNat, none⟩) := (ev_in hA 75 5 rfl rfl rfl).trans (show f 5 = .pointer (some ⟨g, D.toNat, none⟩) from hu 5 (by decide))
                have hc := hw.1
                refine ph_sem rfl rfl (r := .ok (.value (.int .u8 Y)) W) ?_ (hK _ _ (gb_rr W _) rfl)
                have eC : ∀ c, A.eval (.const c) = c := fun _ => rfl; have eF : ∀ g, A.eval (.func g) = .func (.func g) #[] #[] := fun _ => rfl; generalize A.eval = ρ at *
                clear hA hu hg hw hin hK
                go_simp
              | 7, hin, ho, hu, hK =>
                cases ho
                have hw := HW14.out W hg
                have e10 : A.eval (.tmp 10) = .int .i64 F := ev_out hA 10 rfl
                exact ph_move _ rfl rfl (.int .i64 F) e10 (hK _ _ (gb_rr W _) rfl)
              | 8, hin, ho, hu, hK =>
                cases ho
                have hw := HW14.out W hg
                have e11 : A.eval (.tmp 11) = .int .i64 (k : Int) := ev_out hA 11 rfl
                exact ph_move _ rfl rfl (.int .i64 (k : Int)) e11 (hK _ _ (gb_rr W _) rfl)
              | 9, hin, ho, hu, hK =>
                cases ho
                have hw := HW14.out W hg
                have e77 : A.eval (.tmp 77) = .int .i64 F := (ev_in hA 77 7 rfl rfl rfl).trans (show f 7 = .int .i64 F from hu 7 (by decide))
                have e78 : A.eval (.tmp 78) = .int .i64 (k : Int) := (ev_in hA 78 8 rfl rfl rfl).trans (show f 8 = .int .i64 (k : Int) from hu 8 (by decide))
                refine ph_sem rfl rfl (r := .ok (.value (.int .i64 J)) W) ?_ (hK _ _ (gb_rr W _) rfl)
                have eC : ∀ c, A.eval (.const c) = c := fun _ => rfl; have eF : ∀ g, A.eval (.func g) = .func (.func g) #[] #[] := fun _ => rfl; generalize A.eval = ρ at *
                clear hA hu hg hw hin hK
                go_simp
              | 10, hin, ho, hu, hK =>
                cases ho
                have hw := HW14.out W hg
                have e79 : A.eval (.tmp 79) = .int .i64 J := (ev_in hA 79 9 rfl rfl rfl).trans (show f 9 = .int .i64 J from hu 9 (by decide))
                refine ph_sem rfl rfl (r := .ok (.value (.int .i64 E8)) W) ?_ (hK _ _ (gb_rr W _) rfl)
                have eC : ∀ c, A.eval (.const c) = c := fun _ => rfl; have eF : ∀ g, A.eval (.func g) = .func (.func g) #[] #[] := fun _ => rfl; generalize A.eval = ρ at *
                clear hA hu hg hw hin hK
                go_simp
              | 11, hin, ho, hu, hK =>
                cases ho
                have hw := HW14.out W hg
                have e80 : A.eval (.tmp 80) = .int .i64 E8 := (ev_in hA 80 10 rfl rfl rfl).trans (show f 10 = .int .i64 E8 from hu 10 (by decide))
                refine ph_sem rfl rfl (r := .ok (.value (.int .u8 Z)) W) ?_ (hK _ _ (gb_rr W _) rfl)
                have eC : ∀ c, A.eval (.const c) = c := fun _ => rfl; have eF : ∀ g, A.eval (.func g) = .func (.func g) #[] #[] := fun _ => rfl; generalize A.eval = ρ at *
                clear hA hu hg hw hin hK
                go_simp
              | 12, hin, ho, hu, hK =>
                cases ho
                have hw := HW14.out W hg
                have e76 : A.eval (.tmp 76) = .int .u8 Y := (ev_in hA 76 6 rfl rfl rfl).trans (show f 6 = .int .u8 Y from hu 6 (by decide))
                have e81 : A.eval (.tmp 81) = .int .u8 Z := (ev_in hA 81 11 rfl rfl rfl).trans (show f 11 = .int .u8 Z from hu 11 (by decide))
                refine ph_sem rfl rfl (r := .ok (.value (.int .u8 V)) W) ?_ (hK _ _ (gb_rr W _) rfl)
                have eC : ∀ c, A.eval (.const c) = c := fun _ => rfl; have eF : ∀ g, A.eval (.func g) = .func (.func g) #[] #[] := fun _ => rfl; generalize A.eval = ρ at *
                clear hA hu hg hw hin hK
                go_simp
              | 13, hin, ho, hu, hK =>
                cases ho
                have hw := HW14.out W hg
                have e70 : A.eval (.tmp 70) = .slice (some ⟨g, 0, none⟩) L cg := (ev_in hA 70 0 rfl rfl rfl).trans (show f 0 = .slice (some ⟨g, 0, none⟩) L cg from hu 0 (by decide))
                have e74 : A.eval (.tmp 74) = .int .i64 D := (ev_in hA 74 4 rfl rfl rfl).trans (show f 4 = .int .i64 D from hu 4 (by decide))
                refine ph_sem rfl rfl (r := .ok (.value (.pointer (some ⟨g, D.toNat, none⟩))) W) ?_ (hK _ _ (gb_rr W _) rfl)
                have eC : ∀ c, A.eval (.const c) = c := fun _ => rfl; have eF : ∀ g, A.eval (.func g) = .func (.func g) #[] #[] := fun _ => rfl; generalize A.eval = ρ at *
                clear hA hu hg hw hin hK
                go_simp
              | i + 14, hin, ho, hu, hK => omega
            case last =>
              intro f W A hA hg hu o ho K hK
              cases ho
              have hw := HW14.out W hg
              have e82 : A.eval (.tmp 82) = .int .u8 V := (ev_in hA 82 12 rfl rfl rfl).trans (show f 12 = .int .u8 V from hu 12 (by decide))
              have e83 : A.eval (.tmp 83) = .pointer (some ⟨g, D.toNat, none⟩) := (ev_in hA 83 13 rfl rfl rfl).trans (show f 13 = .pointer (some ⟨g, D.toNat, none⟩) from hu 13 (by decide))
              refine ph_sem rfl rfl (r := .ok .skip (W.setCell ⟨g, D.toNat, none⟩ (.int .u8 V))) ?st (hK _ _ ?go)
              case st =>
                have eC : ∀ c, A.eval (.const c) = c := fun _ => rfl
                have hc := hw.1
                have hf := hw.2
                generalize A.eval = ρ at *
                clear hA hu hg hw hK
                go_simp
              case go =>
                have H5 : Hid _ := HR5.out W hg
                clear hg hw e82 e83
                have hA2 := hA.trans (putAll_lit [(.slice (some ⟨g, 0, none⟩) L cg), (.int .i64 F), (.int .i64 (k : Int)), (.int .i64 J), (.int .i64 D), (.pointer (some ⟨g, D.toNat, none⟩)), (.int .u8 Y), (.int .i64 F), (.int .i64 (k : Int)), (.int .i64 J), (.int .i64 E8), (.int .u8 Z), (.int .u8 V), (.pointer (some ⟨g, D.toNat, none⟩)), (f 14)] (by
                  intro j hj
                  match j, hj with
                  | 0, _ => exact hu 0 (by decide)
                  | 1, _ => exact hu 1 (by decide)
                  | 2, _ => exact hu 2 (by decide)
                  | 3, _ => exact hu 3 (by decide)
                  | 4, _ => exact hu 4 (by decide)
                  | 5, _ => exact hu 5 (by decide)
                  | 6, _ => exact hu 6 (by decide)
                  | 7, _ => exact hu 7 (by decide)
                  | 8, _ => exact hu 8 (by decide)
                  | 9, _ => exact hu 9 (by decide)
                  | 10, _ => exact hu 10 (by decide)
                  | 11, _ => exact hu 11 (by decide)
                  | 12, _ => exact hu 12 (by decide)
                  | 13, _ => exact hu 13 (by decide)
                  | 14, _ => rfl
                  | j + 15, hj => exact absurd hj (by simp)))
                clear hu hA
                subst hA2
                simp only [putAll, putL, List.mem_cons, List.not_mem_nil, List.idxOf_cons, Nat.reduceEqDiff, Nat.reduceBEq, Nat.reduceAdd, or_false, or_true, reduceIte, cond_true, cond_false, List.getD_cons_zero, List.getD_cons_succ, BEq.rfl]
                go_wp2_with fail
                go_roundw
                case rel => exact ⟨k + 1, by omega, by omega, by go_num, H5.out⟩
                case measure => simp [intOf]; omega
        · have HT : Hid (Tells xs (runOf F.toNat v k xs)) := tells_run xs HLN.out.2 _ _ k hk
          by_cases hk32 : k < 32
          · have hk3 : (k : Int) < 32 := by omega
            have hk4 : ¬ (F + (k : Int) < 8 * (L : Int)) := fun z => hlt ⟨hk32, z⟩
            clear hlt
            go_wp2_with fail
            go_ret
            exact ⟨g, cg, rfl, _, (HEN.out wr g cg _ HR.out.1 HR.out.2).1, HT.out, (HEN.out wr g cg _ HR.out.1 HR.out.2).2⟩
          · have hk3 : ¬ ((k : Int) < 32) := by omega
            clear hlt
            go_wp2_with fail
            go_ret
            exact ⟨g, cg, rfl, _, (HEN.out wr g cg _ HR.out.1 HR.out.2).1, HT.out, (HEN.out wr g cg _ HR.out.1 HR.out.2).2⟩
    · have hl1 : (0 : Int) < (lm : Int) := by omega
      have hl2 : ¬ (lm : Int) ≤ 3 := by omega
      go_enter Tryd.func6, Tryd.ntmps6
      go_wp2_with (first
        | (go_at_call 13; rw [← hw1, ← hN]; clear hw1 hN; go_must (refine (Calls.mono HCP.out ?_)); rintro r w2 ⟨g, cg, rfl, z1, z2⟩; have H2 : Hid (Tn w2 w1.heap.size g L cg xs ∧ Below w1.heap.size w1 w2) := ⟨z1, z2⟩; have c2 := (HK.out w2 z2).cell 2; have c0 := (HK.out w2 z2).cell 0; simp at c2 c0; clear z1 z2)
        | (go_at_call 4; go_must (refine (Calls.mono (HPT.out _) ?_)); rintro r w5 ⟨F, hF0, hF1, rfl, hq⟩; obtain rfl := hq.symm))
      go_loopw [11] (fun i wr => ∃ (k : Nat), k ≤ 32 ∧ F + (k : Int) ≤ 8 * (L : Int) ∧ i = .int .i64 k ∧ Hid (Tn wr w1.heap.size g L cg (runOf F.toNat v k xs) ∧ Below w1.heap.size w1 wr)) (fun i _ => 32 - (intOf i).toNat)
      case atStart => exact ⟨0, Nat.zero_le _, by omega, rfl, H2.out⟩
      case round =>
        obtain ⟨k, hk, hFk, rfl, HR⟩ := hrel
        clear H2 c2 c0
        have d1 := (HK.out wr HR.out.2).cell 1
        simp at d1
        by_cases hlt : k < 32 ∧ F + (k : Int) < 8 * (L : Int)
        · obtain ⟨hk1, hk2⟩ := hlt
          have hk3 : (k : Int) < 32 := by omega
          have hk0 : (0 : Int) ≤ (k : Int) := by omega
          have hbit := W_bit v k hk1
          cases hv : v.getLsbD k with
          | false =>
            have hc2 : (bits .and .u32 (W v / (2 : Int) ^ k) 1 == 1) = false := by rw [hbit, hv]; rfl
            have HN1 : Hid (runOf F.toNat v (k + 1) xs = runOf F.toNat v k xs) := by
              show _ = _
              conv => lhs; unfold runOf
              rw [if_neg (fun z => by rw [hv] at z; cases z.1)]
            clear hbit hv
            go_wp2_with fail
            go_roundw
            case rel => exact ⟨k + 1, by omega, by omega, by go_num, by rw [HN1.out]; exact HR.out⟩
            case measure => simp [intOf]; omega
          | true =>
            have hc2 : (bits .and .u32 (W v / (2 : Int) ^ k) 1 == 1) = true := by rw [hbit, hv]; rfl
            obtain ⟨J, hJ⟩ : ∃ J : Int, F + (k : Int) = J := ⟨_, rfl⟩
            have hJ0 : 0 ≤ J := by omega
            have hJ1 : J < 8 * (L : Int) := by omega
            have eJ : J.toNat = F.toNat + k := by omega
            have zJ : IntKind.i64.wrap J = J := IntWalk.i64_in _ ⟨by omega, by omega⟩
            have HN1 : Hid (runOf F.toNat v (k + 1) xs = flip (runOf F.toNat v k xs) J.toNat) := by
              show _ = _
              conv => lhs; unfold runOf
              rw [if_pos ⟨hv, by rw [HLN.out.1]; omega⟩, eJ]
            obtain ⟨D, hDe⟩ : ∃ D : Int, J / (8 : Int) = D := ⟨_, rfl⟩
            obtain ⟨E8, hEe⟩ : ∃ E8 : Int, J % (8 : Int) = E8 := ⟨_, rfl⟩
            have hD' : J.tdiv (8 : Int) = D := by rw [← hDe]; exact Int.tdiv_eq_ediv_of_nonneg hJ0
            have hE' : J.tmod (8 : Int) = E8 := by rw [← hEe]; exact Int.tmod_eq_emod_of_nonneg hJ0
            have hD0 : (0 : Int) ≤ D := by omega
            have hD1 : D < (L : Int) := by omega
            have hE0' : (0 : Int) ≤ E8 := by omega
            have hE1' : E8 < 8 := by omega
            have e1 : D.toNat = J.toNat / 8 := by omega
            have e2 : E8.toNat = J.toNat % 8 := by omega
            obtain ⟨ys, hys⟩ : ∃ ys, ys = runOf F.toNat v k xs := ⟨_, rfl⟩
            have HT0 : Hid (Tn wr w1.heap.size g L cg ys) := by rw [hys]; exact HR.out.1
            have hcY : wr.cell? ⟨g, D.toNat, none⟩ = some (.int .u8 (ys[D.toNat]?.getD 0)) := HT0.out.cell D.toNat (by omega)
            have hfY : wr.frozen? ⟨g, D.toNat, none⟩ = false := HT0.out.free D.toNat (by omega)
            obtain ⟨Y, hY⟩ : ∃ Y, Y = ys[D.toNat]?.getD 0 := ⟨_, rfl⟩
            rw [← hY] at hcY
            have hYb : 0 ≤ Y ∧ Y < 256 := by
              have hb : ∀ z ∈ ys, 0 ≤ z ∧ z < 256 := by rw [hys]; exact runOf_bytes _ _ _ _ HLN.out.2.mem
              rw [hY]
              exact bytes_of_mem hb D.toNat (by rw [HT0.out.len]; omega)
            have HVV : Hid (bits .xor .u8 Y ((2 : Int) ^ E8.toNat % 256) = bx (ys[J.toNat / 8]?.getD 0) ((2 ^ (J.toNat % 8) : Nat) : Int)) := by
              rw [e2]
              exact flip_val J.toNat Y (by rw [hY, e1]) hYb
            have HJL : Hid (D.toNat = J.toNat / 8 ∧ D.toNat < L) := ⟨e1, by omega⟩
            obtain ⟨Z, hZ⟩ : ∃ Z, IntKind.u8.wrap ((2 : Int) ^ E8.toNat) = Z := ⟨_, rfl⟩
            obtain ⟨V, hV⟩ : ∃ V, bits .xor .u8 Y Z = V := ⟨_, rfl⟩
            have HV2 : Hid (V = bx (ys[J.toNat / 8]?.getD 0) ((2 ^ (J.toNat % 8) : Nat) : Int)) := by
              show V = _
              rw [← HVV.out, ← hV, ← hZ, IntKind.wrap_u8]
            have z1 : IntKind.i64.wrap D = D := IntWalk.i64_in _ ⟨by omega, by omega⟩
            have z2 : IntKind.i64.wrap E8 = E8 := IntWalk.i64_in _ ⟨by omega, by omega⟩
            have z3 : min E8.toNat 8 = E8.toNat := by omega
            have HW14 : Hid (∀ W, wr.grownBy W none → W.cell? ⟨g, D.toNat, none⟩ = some (.int .u8 Y) ∧ W.frozen? ⟨g, D.toNat, none⟩ = false) := fun W hg => ⟨((gb_below hg).cell (p := ⟨g, D.toNat, none⟩) HT0.out.lt).trans hcY, ((gb_below hg).frozen (p := ⟨g, D.toNat, none⟩) HT0.out.lt).trans hfY⟩
            have HR5 : Hid (∀ W, wr.grownBy W none → Tn (W.setCell ⟨g, D.toNat, none⟩ (.int .u8 V)) w1.heap.size g L cg (runOf F.toNat v (k + 1) xs) ∧ Below w1.heap.size w1 (W.setCell ⟨g, D.toNat, none⟩ (.int .u8 V))) := fun W hg => by
              have q := (HT0.out.gb hg).set D.toNat HJL.out.2 V
              have hnw : runOf F.toNat v (k + 1) xs = ys.set D.toNat V := by rw [HV2.out, HJL.out.1]; rw [HN1.out, ← hys]; rfl
              rw [hnw]
              exact ⟨q, (HR.out.2.trans ((gb_below hg).mono HR.out.2.size)).setCell HT0.out.lo _⟩
            clear hY e1 e2 hDe hEe HVV HV2 hcY hfY hE1' hys HT0 hbit hv eJ
            go_wp2_with fail
            refine wp_region_lastR (fun a b => World.grownBy a b none) (fun _ _ _ h k => gb_trans h k) ⟨rfl, rfl, rfl, Nat.le_refl _, fun _ _ _ => rfl⟩ 14 rfl (by kernel_rfl) [70, 71, 72, 73, 74, 75, 76, 77, 78, 79, 80, 81, 82, 83, 100014] [[], [], [], [1, 2], [3], [0, 4], [5], [], [], [7, 8], [9], [10], [6, 11], [0, 4], [13, 12]] (by kernel_rfl) (by kernel_rfl) [fun u W => u = .slice (some ⟨g, 0, none⟩) L cg, fun u W => u = .int .i64 F, fun u W => u = .int .i64 (k : Int), fun u W => u = .int .i64 J, fun u W => u = .int .i64 D, fun u W => u = .pointer (some ⟨g, D.toNat, none⟩), fun u W => u = .int .u8 Y, fun u W => u = .int .i64 F, fun u W => u = .int .i64 (k : Int), fun u W => u = .int .i64 J, fun u W => u = .int .i64 E8, fun u W => u = .int .u8 Z, fun u W => u = .int .u8 V, fun u W => u = .pointer (some ⟨g, D.toNat, none⟩)] ?stable ?step ?last
            case stable =>
              intro i v W W' h hg
              match i, h with
              | 0, h => exact h
              | 1, h => exact h
              | 2, h => exact h
              | 3, h => exact h
              | 4, h => exact h
              | 5, h => exact h
              | 6, h => exact h
              | 7, h => exact h
              | 8, h => exact h
              | 9, h => exact h
              | 10, h => exact h
              | 11, h => exact h
              | 12, h => exact h
              | 13, h => exact h
              | i + 14, h => exact trivial
            case step =>
              intro f W A hA hg i o hin ho hu K hK
              match i, hin, ho, hu, hK with
              | 0, hin, ho, hu, hK =>
                cases ho
                have hw := HW14.out W hg
                have e5 : A.eval (.tmp 5) = .slice (some ⟨g, 0, none⟩) L cg := ev_out hA 5 rfl
                exact ph_move _ rfl rfl (.slice (some ⟨g, 0, none⟩) L cg) e5 (hK _ _ (gb_rr W _) rfl)
              | 1, hin, ho, hu, hK =>
                cases ho
                have hw := HW14.out W hg
                have e10 : A.eval (.tmp 10) = .int .i64 F := ev_out hA 10 rfl
                exact ph_move _ rfl rfl (.int .i64 F) e10 (hK _ _ (gb_rr W _) rfl)
              | 2, hin, ho, hu, hK =>
                cases ho
                have hw := HW14.out W hg
                have e11 : A.eval (.tmp 11) = .int .i64 (k : Int) := ev_out hA 11 rfl
                exact ph_move _ rfl rfl (.int .i64 (k : Int)) e11 (hK _ _ (gb_rr W _) rfl)
              | 3, hin, ho, hu, hK =>
                cases ho
                have hw := HW14.out W hg
                have e71 : A.eval (.tmp 71) = .int .i64 F := (ev_in hA 71 1 rfl rfl rfl).trans (show f 1 = .int .i64 F from hu 1 (by decide))
                have e72 : A.eval (.tmp 72) = .int .i64 (k : Int) := (ev_in hA 72 2 rfl rfl rfl).trans (show f 2 = .int .i64 (k : Int) from hu 2 (by decide))
                refine ph_sem rfl rfl (r := .ok (.value (.int .i64 J)) W) ?_ (hK _ _ (gb_rr W _) rfl)
                have eC : ∀ c, A.eval (.const c) = c := fun _ => rfl; have eF : ∀ g, A.eval (.func g) = .func (.func g) #[] #[] := fun _ => rfl; generalize A.eval = ρ at *
                clear hA hu hg hw hin hK
                go_simp
              | 4, hin, ho, hu, hK =>
                cases ho
                have hw := HW14.out W hg
                have e73 : A.eval (.tmp 73) = .int .i64 J := (ev_in hA 73 3 rfl rfl rfl).trans (show f 3 = .int .i64 J from hu 3 (by decide))
                refine ph_sem rfl rfl (r := .ok (.value (.int .i64 D)) W) ?_ (hK _ _ (gb_rr W _) rfl)
                have eC : ∀ c, A.eval (.const c) = c := fun _ => rfl; have eF : ∀ g, A.eval (.func g) = .func (.func g) #[] #[] := fun _ => rfl; generalize A.eval = ρ at *
                clear hA hu hg hw hin hK
                go_simp
              | 5, hin, ho, hu, hK =>
                cases ho
                have hw := HW14.out W hg
                have e70 : A.eval (.tmp 70) = .slice (some ⟨g, 0, none⟩) L cg := (ev_in hA 70 0 rfl rfl rfl).trans (show f 0 = .slice (some ⟨g, 0, none⟩) L cg from hu 0 (by decide))
                have e74 : A.eval (.tmp 74) = .int .i64 D := (ev_in hA 74 4 rfl rfl rfl).trans (show f 4 = .int .i64 D from hu 4 (by decide))
                refine ph_sem rfl rfl (r := .ok (.value (.pointer (some ⟨g, D.toNat, none⟩))) W) ?_ (hK _ _ (gb_rr W _) rfl)
                have eC : ∀ c, A.eval (.const c) = c := fun _ => rfl; have eF : ∀ g, A.eval (.func g) = .func (.func g) #[] #[] := fun _ => rfl; generalize A.eval = ρ at *
                clear hA hu hg hw hin hK
                go_simp
              | 6, hin, ho, hu, hK =>
                cases ho
                have hw := HW14.out W hg
                have e75 : A.eval (.tmp 75) = .pointer (some ⟨g, D.toNat, none⟩) := (ev_in hA 75 5 rfl rfl rfl).trans (show f 5 = .pointer (some ⟨g, D.toNat, none⟩) from hu 5 (by decide))
                have hc := hw.1
                refine ph_sem rfl rfl (r := .ok (.value (.int .u8 Y)) W) ?_ (hK _ _ (gb_rr W _) rfl)
                have eC : ∀ c, A.eval (.const c) = c := fun _ => rfl; have eF : ∀ g, A.eval (.func g) = .func (.func g) #[] #[] := fun _ => rfl; generalize A.eval = ρ at *
                clear hA hu hg hw hin hK
                go_simp
              | 7, hin, ho, hu, hK =>
                cases ho
                have hw := HW14.out W hg
                have e10 : A.eval (.tmp 10) = .int .i64 F := ev_out hA 10 rfl
                exact ph_move _ rfl rfl (.int .i64 F) e10 (hK _ _ (gb_rr W _) rfl)
              | 8, hin, ho, hu, hK =>
                cases ho
                have hw := HW14.out W hg
                have e11 : A.eval (.tmp 11) = .int .i64 (k : Int) := ev_out hA 11 rfl
                exact ph_move _ rfl rfl (.int .i64 (k : Int)) e11 (hK _ _ (gb_rr W _) rfl)
              | 9, hin, ho, hu, hK =>
                cases ho
                have hw := HW14.out W hg
                have e77 : A.eval (.tmp 77) = .int .i64 F := (ev_in hA 77 7 rfl rfl rfl).trans (show f 7 = .int .i64 F from hu 7 (by decide))
                have e78 : A.eval (.tmp 78) = .int .i64 (k : Int) := (ev_in hA 78 8 rfl rfl rfl).trans (show f 8 = .int .i64 (k : Int) from hu 8 (by decide))
                refine ph_sem rfl rfl (r := .ok (.value (.int .i64 J)) W) ?_ (hK _ _ (gb_rr W _) rfl)
                have eC : ∀ c, A.eval (.const c) = c := fun _ => rfl; have eF : ∀ g, A.eval (.func g) = .func (.func g) #[] #[] := fun _ => rfl; generalize A.eval = ρ at *
                clear hA hu hg hw hin hK
                go_simp
              | 10, hin, ho, hu, hK =>
                cases ho
                have hw := HW14.out W hg
                have e79 : A.eval (.tmp 79) = .int .i64 J := (ev_in hA 79 9 rfl rfl rfl).trans (show f 9 = .int .i64 J from hu 9 (by decide))
                refine ph_sem rfl rfl (r := .ok (.value (.int .i64 E8)) W) ?_ (hK _ _ (gb_rr W _) rfl)
                have eC : ∀ c, A.eval (.const c) = c := fun _ => rfl; have eF : ∀ g, A.eval (.func g) = .func (.func g) #[] #[] := fun _ => rfl; generalize A.eval = ρ at *
                clear hA hu hg hw hin hK
                go_simp
              | 11, hin, ho, hu, hK =>
                cases ho
                have hw := HW14.out W hg
                have e80 : A.eval (.tmp 80) = .int .i64 E8 := (ev_in hA 80 10 rfl rfl rfl).trans (show f 10 = .int .i64 E8 from hu 10 (by decide))
                refine ph_sem rfl rfl (r := .ok (.value (.int .u8 Z)) W) ?_ (hK _ _ (gb_rr W _) rfl)
                have eC : ∀ c, A.eval (.const c) = c := fun _ => rfl; have eF : ∀ g, A.eval (.func g) = .func (.func g) #[] #[] := fun _ => rfl; generalize A.eval = ρ at *
                clear hA hu hg hw hin hK
                go_simp
              | 12, hin, ho, hu, hK =>
                cases ho
                have hw := HW14.out W hg
                have e76 : A.eval (.tmp 76) = .int .u8 Y := (ev_in hA 76 6 rfl rfl rfl).trans (show f 6 = .int .u8 Y from hu 6 (by decide))
                have e81 : A.eval (.tmp 81) = .int .u8 Z := (ev_in hA 81 11 rfl rfl rfl).trans (show f 11 = .int .u8 Z from hu 11 (by decide))
                refine ph_sem rfl rfl (r := .ok (.value (.int .u8 V)) W) ?_ (hK _ _ (gb_rr W _) rfl)
                have eC : ∀ c, A.eval (.const c) = c := fun _ => rfl; have eF : ∀ g, A.eval (.func g) = .func (.func g) #[] #[] := fun _ => rfl; generalize A.eval = ρ at *
                clear hA hu hg hw hin hK
                go_simp
              | 13, hin, ho, hu, hK =>
                cases ho
                have hw := HW14.out W hg
                have e70 : A.eval (.tmp 70) = .slice (some ⟨g, 0, none⟩) L cg := (ev_in hA 70 0 rfl rfl rfl).trans (show f 0 = .slice (some ⟨g, 0, none⟩) L cg from hu 0 (by decide))
                have e74 : A.eval (.tmp 74) = .int .i64 D := (ev_in hA 74 4 rfl rfl rfl).trans (show f 4 = .int .i64 D from hu 4 (by decide))
                refine ph_sem rfl rfl (r := .ok (.value (.pointer (some ⟨g, D.toNat, none⟩))) W) ?_ (hK _ _ (gb_rr W _) rfl)
                have eC : ∀ c, A.eval (.const c) = c := fun _ => rfl; have eF : ∀ g, A.eval (.func g) = .func (.func g) #[] #[] := fun _ => rfl; generalize A.eval = ρ at *
                clear hA hu hg hw hin hK
                go_simp
              | i + 14, hin, ho, hu, hK => omega
            case last =>
              intro f W A hA hg hu o ho K hK
              cases ho
              have hw := HW14.out W hg
              have e82 : A.eval (.tmp 82) = .int .u8 V := (ev_in hA 82 12 rfl rfl rfl).trans (show f 12 = .int .u8 V from hu 12 (by decide))
              have e83 : A.eval (.tmp 83) = .pointer (some ⟨g, D.toNat, none⟩) := (ev_in hA 83 13 rfl rfl rfl).trans (show f 13 = .pointer (some ⟨g, D.toNat, none⟩) from hu 13 (by decide))
              refine ph_sem rfl rfl (r := .ok .skip (W.setCell ⟨g, D.toNat, none⟩ (.int .u8 V))) ?st (hK _ _ ?go)
              case st =>
                have eC : ∀ c, A.eval (.const c) = c := fun _ => rfl
                have hc := hw.1
                have hf := hw.2
                generalize A.eval = ρ at *
                clear hA hu hg hw hK
                go_simp
              case go =>
                have H5 : Hid _ := HR5.out W hg
                clear hg hw e82 e83
                have hA2 := hA.trans (putAll_lit [(.slice (some ⟨g, 0, none⟩) L cg), (.int .i64 F), (.int .i64 (k : Int)), (.int .i64 J), (.int .i64 D), (.pointer (some ⟨g, D.toNat, none⟩)), (.int .u8 Y), (.int .i64 F), (.int .i64 (k : Int)), (.int .i64 J), (.int .i64 E8), (.int .u8 Z), (.int .u8 V), (.pointer (some ⟨g, D.toNat, none⟩)), (f 14)] (by
                  intro j hj
                  match j, hj with
                  | 0, _ => exact hu 0 (by decide)
                  | 1, _ => exact hu 1 (by decide)
                  | 2, _ => exact hu 2 (by decide)
                  | 3, _ => exact hu 3 (by decide)
                  | 4, _ => exact hu 4 (by decide)
                  | 5, _ => exact hu 5 (by decide)
                  | 6, _ => exact hu 6 (by decide)
                  | 7, _ => exact hu 7 (by decide)
                  | 8, _ => exact hu 8 (by decide)
                  | 9, _ => exact hu 9 (by decide)
                  | 10, _ => exact hu 10 (by decide)
                  | 11, _ => exact hu 11 (by decide)
                  | 12, _ => exact hu 12 (by decide)
                  | 13, _ => exact hu 13 (by decide)
                  | 14, _ => rfl
                  | j + 15, hj => exact absurd hj (by simp)))
                clear hu hA
                subst hA2
                simp only [putAll, putL, List.mem_cons, List.not_mem_nil, List.idxOf_cons, Nat.reduceEqDiff, Nat.reduceBEq, Nat.reduceAdd, or_false, or_true, reduceIte, cond_true, cond_false, List.getD_cons_zero, List.getD_cons_succ, BEq.rfl]
                go_wp2_with fail
                go_roundw
                case rel => exact ⟨k + 1, by omega, by omega, by go_num, H5.out⟩
                case measure => simp [intOf]; omega
        · have HT : Hid (Tells xs (runOf F.toNat v k xs)) := tells_run xs HLN.out.2 _ _ k hk
          by_cases hk32 : k < 32
          · have hk3 : (k : Int) < 32 := by omega
            have hk4 : ¬ (F + (k : Int) < 8 * (L : Int)) := fun z => hlt ⟨hk32, z⟩
            clear hlt
            go_wp2_with fail
            go_ret
            exact ⟨g, cg, rfl, _, (HEN.out wr g cg _ HR.out.1 HR.out.2).1, HT.out, (HEN.out wr g cg _ HR.out.1 HR.out.2).2⟩
          · have hk3 : ¬ ((k : Int) < 32) := by omega
            clear hlt
            go_wp2_with fail
            go_ret
            exact ⟨g, cg, rfl, _, (HEN.out wr g cg _ HR.out.1 HR.out.2).1, HT.out, (HEN.out wr g cg _ HR.out.1 HR.out.2).2⟩
end Go.Proofs.YtbfbehjldloeoaaDoor
