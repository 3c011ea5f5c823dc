/-
  What the document's Reader's Row answers: what the plain function rr gives. Condition: its bytes can be read, and their length is one that a machine has.
-/
import Derived.Test.YtcdgfghcmeadgaaDoorXDig
import Derived.Test.YtcdgfghcmeadgaaDoorPRow
namespace Go.Proofs.YtcdgfghcmeadgaaDoor
open Go.RowKit
set_option linter.unusedVariables false

theorem cell_one {w : World} {ad : Addr} {v : Value} (h : w.cell? ad = some v) (T : TypeId) (C : Array Value) : (w.alloc (.cells C T)).cell? ad = some v :=
  (World.grownBy_alloc w (.cells C T) none).cell h (by simp)

set_option maxRecDepth 20000 in
theorem xrow_no (g : Nat) (a : Option Addr) (len cap : Nat) (xs : List Int) (e : Int) (p : Nat) (w : World) (h : XS w g a len cap xs e p) (he : (e == 0) = false) :
    Calls Tryd.prog 53 #[.pointer (some ⟨g, 0, none⟩)] w fun r w' => r = .returned (.agg (rowV [] [] 0)) ∧ XS w' g a len cap xs e p ∧ w.grownBy w' (some g) := by
  have HR : Hid (XS w g a len cap xs e p) := h
  have HT := blk_new w 48 (rowV [] [] 0)
  obtain ⟨N, hN⟩ : ∃ N, N = w.heap.size := ⟨_, rfl⟩
  have HGL : Hid (N = w.heap.size) := hN
  have hb : (e != 0) = true := by simp at he ⊢; exact he
  have c2 := cell_one h.rdr.c2 48
  clear h
  go_enter Tryd.func53, Tryd.ntmps53
  go_wp2_with (first
    | (refine wpList_store_bk 48 rfl (.tmp 2) (.tmp 13) rfl infoRow w.heap.size (rowV [] [] 0) (rowV [] [] 0) rfl rfl HT.1 rfl rfl (rowV_one _ _ _) ?_; generalize hW1 : World.alloc w _ = W1; rw [← hN]; have H1 : Hid (w.grownBy W1 none) := (by rw [← hW1]; exact HT.2); clear hW1 HT hN c2; intro w2 h1 h2; have H2 : Hid (Bk 48 w2 N (rowV [] [] 0) ∧ W1.grownBy w2 (some N)) := ⟨h1, h2⟩; clear h1 h2))
  refine bodyPost_ret (results_cell1 Tryd.results53 _ _ _ ⟨N, 0, none⟩ (.agg (rowV [] [] 0)) rfl (bk_load Tryd.underlying48 rfl infoRow H2.out.1 rfl)) rfl ?_
  have hg2 := gb_newer H1.out H2.out.2 (Nat.le_of_eq HGL.out.symm)
  exact ⟨rfl, HR.out.new hg2, gb_wide hg2 _⟩

set_option maxRecDepth 20000 in
set_option maxHeartbeats 2000000 in
theorem xrow_ok (g : Nat) (a : Option Addr) (len cap : Nat) (xs : List Int) (p : Nat) (w : World) (h : XS w g a len cap xs 0 p) :
    Calls Tryd.prog 53 #[.pointer (some ⟨g, 0, none⟩)] w fun r w' => r = .returned (.agg (rowV (rr xs p).1.1 (rr xs p).1.2.1 (rr xs p).1.2.2)) ∧ XS w' g a len cap xs (rr xs p).2.2 (rr xs p).2.1 ∧ w.grownBy w' (some g) := by
  have HR : Hid (XS w g a len cap xs 0 p) := h
  have HT := blk_new w 48 (rowV [] [] 0)
  have hgl : g < w.heap.size := lt_of_block h.rdr
  obtain ⟨N, hN⟩ : ∃ N, N = w.heap.size := ⟨_, rfl⟩
  have HGL : Hid (g < N ∧ N = w.heap.size) := ⟨by rw [hN]; exact hgl, hN⟩
  have c2 := cell_one h.rdr.c2 48
  have HC : Hid (rr xs p = _) := rr.eq_1 xs p
  have hby := h.bytes
  have hsl := h.seg.1
  have hlc := h.lc
  have hlm := h.lm
  have hcm := h.cm
  have hple := h.le
  have HKK : Hid (∀ w, Seg .u8 w a len xs → Calls Tryd.prog 90 #[.slice a len cap, .int .i64 (p : Int), .int .i64 1024] w fun r w' => r = .returned (.tuple #[.string (strOfNums (rt xs p 1024).1), .int .i64 (pl (rt xs p 1024).2.1 (rt xs p 1024).2.2 : Nat), .int .i64 (rt xs p 1024).2.2]) ∧ w' = w) := fun w h => text_c a len cap xs p 1024 w h hby hple hlc hlm hcm (by omega)
  have hkb := rt_bd hby p (by rw [hsl]; exact hple) 1024
  obtain ⟨KS, KP, KE, hK⟩ : ∃ KS KP KE, rt xs p 1024 = (KS, KP, KE) := ⟨_, _, _, rfl⟩
  rw [hK] at HC HKK hkb
  simp only at HC HKK hkb
  rw [hsl] at hkb
  have HVV : Hid (∀ w, Seg .u8 w a len xs → Calls Tryd.prog 90 #[.slice a len cap, .int .i64 (KP : Int), .int .i64 65536] w fun r w' => r = .returned (.tuple #[.string (strOfNums (rt xs KP 65536).1), .int .i64 (pl (rt xs KP 65536).2.1 (rt xs KP 65536).2.2 : Nat), .int .i64 (rt xs KP 65536).2.2]) ∧ w' = w) := fun w h => text_c a len cap xs KP 65536 w h hby hkb.1 hlc hlm hcm (by omega)
  have hvb := rt_bd hby KP (by rw [hsl]; exact hkb.1) 65536
  obtain ⟨VS, VP, VE, hV⟩ : ∃ VS VP VE, rt xs KP 65536 = (VS, VP, VE) := ⟨_, _, _, rfl⟩
  rw [hV] at HC HVV hvb
  simp only at HC HVV hvb
  rw [hsl] at hvb
  have HNN : Hid (∀ w, Seg .u8 w a len xs → Calls Tryd.prog 88 #[.slice a len cap, .int .i64 (VP : Int), .int .i64 1152921504606846976] w fun r w' => r = .returned (.tuple #[.int .i64 (ri xs VP 1152921504606846976).1, .int .i64 (pl (ri xs VP 1152921504606846976).2.1 (ri xs VP 1152921504606846976).2.2 : Nat), .int .i64 (ri xs VP 1152921504606846976).2.2]) ∧ w' = w) := fun w h => upto_c a len cap xs VP 1152921504606846976 w h hby hvb.1 hlc hlm hcm (by omega)
  have hnb := ri_bd hby VP (by rw [hsl]; exact hvb.1) 1152921504606846976
  obtain ⟨NV, NP, NE, hNN⟩ : ∃ NV NP NE, ri xs VP 1152921504606846976 = (NV, NP, NE) := ⟨_, _, _, rfl⟩
  rw [hNN] at HC HNN hnb
  simp only at HC HNN hnb
  rw [hsl] at hnb
  obtain ⟨R, hR⟩ : ∃ R, R = rr xs p := ⟨_, rfl⟩
  rw [← hR] at HC ⊢
  have pll : ∀ q e, q ≤ len → pl q e ≤ len := fun q e h => by unfold pl; split <;> omega
  obtain ⟨KQ, hKQ⟩ : ∃ KQ, KQ = pl KP KE := ⟨_, rfl⟩
  obtain ⟨VQ, hVQ⟩ : ∃ VQ, VQ = pl VP VE := ⟨_, rfl⟩
  obtain ⟨NQ, hNQ⟩ : ∃ NQ, NQ = pl NP NE := ⟨_, rfl⟩
  rw [← hKQ] at HKK
  rw [← hVQ] at HVV
  rw [← hNQ] at HNN
  have HKL : Hid (KQ ≤ len) := by rw [hKQ]; exact pll _ _ hkb.1
  have HVL : Hid (VQ ≤ len) := by rw [hVQ]; exact pll _ _ hvb.1
  have HNL : Hid (NQ ≤ len) := by rw [hNQ]; exact pll _ _ hnb.2.2.2.1
  clear h hgl hK hV hNN hR hkb hvb hnb hby hsl pll hlc hcm
  have he0 : (strOfNums []).toList.isEmpty = true := by rw [ByteArray.toList_eq]; rfl
  by_cases hKE : KE = 0
  · subst hKE
    obtain rfl : KQ = KP := by rw [hKQ]; rfl
    clear hKQ
    rw [if_neg (by simp)] at HC
    by_cases hVE : VE = 0
    · subst hVE
      obtain rfl : VQ = VP := by rw [hVQ]; rfl
      clear hVQ
      rw [if_neg (by simp)] at HC
      by_cases hNE : NE = 0
      · subst hNE
        have HNQ : Hid (NQ = NP) := by rw [hNQ]; exact rfl
        clear hNQ
        rw [if_neg (by simp)] at HC
        by_cases hkn : KS = [] ∨ NV = 0
        · rw [if_pos hkn] at HC
          by_cases hk0 : KS = []
          · subst hk0
            clear hkn
            go_enter Tryd.func53, Tryd.ntmps53
            go_wp2
            generalize hW1 : World.alloc w _ = W1
            rw [← hN]
            have H1 : Hid (Bk 48 W1 N (rowV [] [] 0) ∧ w.grownBy W1 none) := by rw [← hW1, hN]; exact HT
            have HR1 : Hid (XS W1 g a len cap xs 0 p) := HR.out.new H1.out.2
            clear hW1 HT hN c2
            have c0 := HR1.out.rdr.c0
            have c1 := HR1.out.rdr.c1
            go_quiet ((go_at_call 90; go_must (refine Calls.quiet_of_same (HKK.out _ (HR1.out.drewN _).seg))))
            obtain ⟨w2, hw2⟩ : ∃ w2, w2 = W1.drewN nq := ⟨_, rfl⟩
            rw [← hw2]
            have H2 : Hid (XS w2 g a len cap xs 0 p ∧ W1.grownBy w2 (some g)) := by rw [hw2]; exact ⟨HR1.out.drewN _, gb_drewN (World.grownBy.refl _ _) _⟩
            clear hw2 c0 c1
            have c0 := H2.out.1.rdr.c0
            go_wp2_with fail
            refine (HVV.out _ H2.out.1.seg).mono ?_
            rintro r w3 ⟨rfl, rfl⟩
            go_wp2_with fail
            refine (HNN.out _ H2.out.1.seg).mono ?_
            rintro r w4 ⟨rfl, rfl⟩
            go_wp2_with fail
            refine (done_c g a len cap xs p NQ 32 _ H2.out.1 (HNL.out)).mono ?_
            rintro r w6 ⟨rfl, h1, h2⟩
            have H6 : Hid (XS w6 g a len cap xs 32 p ∧ W1.grownBy w6 (some g)) := ⟨by simpa using h1, gb_trans H2.out.2 h2⟩
            have HB6 : Hid (Bk 48 w6 N (rowV [] [] 0)) := H1.out.1.grew H6.out.2 (fun e => by cases e; have := HGL.out; omega)
            clear h1 h2 c0
            go_wp2_with (first
              | (refine wpList_store_bk 48 rfl (.tmp 2) (.tmp 66) rfl infoRow N (rowV [] [] 0) (rowV [] [] 0) rfl rfl HB6.out rfl rfl (rowV_one _ _ _) ?_; intro w7 h1 h2; have H7 : Hid (Bk 48 w7 N (rowV [] [] 0) ∧ w6.grownBy w7 (some N)) := ⟨h1, h2⟩; clear h1 h2))
            refine bodyPost_ret (results_cell1 Tryd.results53 _ _ _ ⟨N, 0, none⟩ (.agg (rowV [] [] 0)) rfl (bk_load Tryd.underlying48 rfl infoRow H7.out.1 rfl)) rfl ?_
            rw [HC.out]
            have hN2 := HGL.out.2
            have hk : ∀ k, k < w.heap.size → w7.heap[k]? = w6.heap[k]? := fun k hk => H7.out.2.block k (Nat.lt_of_lt_of_le hk (Nat.le_trans H1.out.2.size H6.out.2.size)) (fun e => by cases e; omega)
            have hA : w.grownBy w6 (some g) := gb_trans (gb_wide H1.out.2 _) H6.out.2
            exact ⟨rfl, HR.out.keep H6.out.1 hk (Nat.le_trans hA.size H7.out.2.size), ⟨H7.out.2.os.trans hA.os, H7.out.2.tape.trans hA.tape, H7.out.2.output.trans hA.output, Nat.le_trans hA.size H7.out.2.size, fun k hkl hne => (hk k hkl).trans (hA.block k hkl hne)⟩⟩
          · obtain rfl : NV = 0 := by rcases hkn with h | h; exact absurd h hk0; exact h
            have hem := empty_str KS hk0
            clear hkn hk0
            go_enter Tryd.func53, Tryd.ntmps53
            go_wp2
            generalize hW1 : World.alloc w _ = W1
            rw [← hN]
            have H1 : Hid (Bk 48 W1 N (rowV [] [] 0) ∧ w.grownBy W1 none) := by rw [← hW1, hN]; exact HT
            have HR1 : Hid (XS W1 g a len cap xs 0 p) := HR.out.new H1.out.2
            clear hW1 HT hN c2
            have c0 := HR1.out.rdr.c0
            have c1 := HR1.out.rdr.c1
            go_quiet ((go_at_call 90; go_must (refine Calls.quiet_of_same (HKK.out _ (HR1.out.drewN _).seg))))
            obtain ⟨w2, hw2⟩ : ∃ w2, w2 = W1.drewN nq := ⟨_, rfl⟩
            rw [← hw2]
            have H2 : Hid (XS w2 g a len cap xs 0 p ∧ W1.grownBy w2 (some g)) := by rw [hw2]; exact ⟨HR1.out.drewN _, gb_drewN (World.grownBy.refl _ _) _⟩
            clear hw2 c0 c1
            have c0 := H2.out.1.rdr.c0
            go_wp2_with fail
            refine (HVV.out _ H2.out.1.seg).mono ?_
            rintro r w3 ⟨rfl, rfl⟩
            go_wp2_with fail
            refine (HNN.out _ H2.out.1.seg).mono ?_
            rintro r w4 ⟨rfl, rfl⟩
            go_wp2_with fail
            refine (done_c g a len cap xs p NQ 32 _ H2.out.1 (HNL.out)).mono ?_
            rintro r w6 ⟨rfl, h1, h2⟩
            have H6 : Hid (XS w6 g a len cap xs 32 p ∧ W1.grownBy w6 (some g)) := ⟨by simpa using h1, gb_trans H2.out.2 h2⟩
            have HB6 : Hid (Bk 48 w6 N (rowV [] [] 0)) := H1.out.1.grew H6.out.2 (fun e => by cases e; have := HGL.out; omega)
            clear h1 h2 c0
            go_wp2_with (first
              | (refine wpList_store_bk 48 rfl (.tmp 2) (.tmp 66) rfl infoRow N (rowV [] [] 0) (rowV [] [] 0) rfl rfl HB6.out rfl rfl (rowV_one _ _ _) ?_; intro w7 h1 h2; have H7 : Hid (Bk 48 w7 N (rowV [] [] 0) ∧ w6.grownBy w7 (some N)) := ⟨h1, h2⟩; clear h1 h2))
            refine bodyPost_ret (results_cell1 Tryd.results53 _ _ _ ⟨N, 0, none⟩ (.agg (rowV [] [] 0)) rfl (bk_load Tryd.underlying48 rfl infoRow H7.out.1 rfl)) rfl ?_
            rw [HC.out]
            have hN2 := HGL.out.2
            have hk : ∀ k, k < w.heap.size → w7.heap[k]? = w6.heap[k]? := fun k hk => H7.out.2.block k (Nat.lt_of_lt_of_le hk (Nat.le_trans H1.out.2.size H6.out.2.size)) (fun e => by cases e; omega)
            have hA : w.grownBy w6 (some g) := gb_trans (gb_wide H1.out.2 _) H6.out.2
            exact ⟨rfl, HR.out.keep H6.out.1 hk (Nat.le_trans hA.size H7.out.2.size), ⟨H7.out.2.os.trans hA.os, H7.out.2.tape.trans hA.tape, H7.out.2.output.trans hA.output, Nat.le_trans hA.size H7.out.2.size, fun k hkl hne => (hk k hkl).trans (hA.block k hkl hne)⟩⟩
        · rw [if_neg hkn] at HC
          have hem := empty_str KS (fun h => hkn (.inl h))
          have hnz : (NV == 0) = false := by simp; exact fun h => hkn (.inr h)
          clear hkn
          go_enter Tryd.func53, Tryd.ntmps53
          go_wp2
          generalize hW1 : World.alloc w _ = W1
          rw [← hN]
          have H1 : Hid (Bk 48 W1 N (rowV [] [] 0) ∧ w.grownBy W1 none) := by rw [← hW1, hN]; exact HT
          have HR1 : Hid (XS W1 g a len cap xs 0 p) := HR.out.new H1.out.2
          clear hW1 HT hN c2
          have c0 := HR1.out.rdr.c0
          have c1 := HR1.out.rdr.c1
          go_quiet ((go_at_call 90; go_must (refine Calls.quiet_of_same (HKK.out _ (HR1.out.drewN _).seg))))
          obtain ⟨w2, hw2⟩ : ∃ w2, w2 = W1.drewN nq := ⟨_, rfl⟩
          rw [← hw2]
          have H2 : Hid (XS w2 g a len cap xs 0 p ∧ W1.grownBy w2 (some g)) := by rw [hw2]; exact ⟨HR1.out.drewN _, gb_drewN (World.grownBy.refl _ _) _⟩
          clear hw2 c0 c1
          have c0 := H2.out.1.rdr.c0
          go_wp2_with fail
          refine (HVV.out _ H2.out.1.seg).mono ?_
          rintro r w3 ⟨rfl, rfl⟩
          go_wp2_with fail
          refine (HNN.out _ H2.out.1.seg).mono ?_
          rintro r w4 ⟨rfl, rfl⟩
          go_wp2_with fail
          refine (done_c g a len cap xs p NQ 0 _ H2.out.1 (HNL.out)).mono ?_
          rintro r w6 ⟨rfl, h1, h2⟩
          have H6 : Hid (XS w6 g a len cap xs 0 NP ∧ W1.grownBy w6 (some g)) := ⟨by have h3 : NQ = NP := HNQ.out; rw [← h3]; simpa using h1, gb_trans H2.out.2 h2⟩
          have HB6 : Hid (Bk 48 w6 N (rowV [] [] 0)) := H1.out.1.grew H6.out.2 (fun e => by cases e; have := HGL.out; omega)
          clear h1 h2 c0
          go_wp2_with (first
            | (refine wpList_store_bk 48 rfl (.tmp 2) (.tmp 70) rfl infoRow N (rowV [] [] 0) (rowV KS VS NV) rfl rfl HB6.out rfl rfl (rowV_one _ _ _) ?_; intro w7 h1 h2; have H7 : Hid (Bk 48 w7 N (rowV KS VS NV) ∧ w6.grownBy w7 (some N)) := ⟨h1, h2⟩; clear h1 h2))
          refine bodyPost_ret (results_cell1 Tryd.results53 _ _ _ ⟨N, 0, none⟩ (.agg (rowV KS VS NV)) rfl (bk_load Tryd.underlying48 rfl infoRow H7.out.1 rfl)) rfl ?_
          rw [HC.out]
          have hN2 := HGL.out.2
          have hk : ∀ k, k < w.heap.size → w7.heap[k]? = w6.heap[k]? := fun k hk => H7.out.2.block k (Nat.lt_of_lt_of_le hk (Nat.le_trans H1.out.2.size H6.out.2.size)) (fun e => by cases e; omega)
          have hA : w.grownBy w6 (some g) := gb_trans (gb_wide H1.out.2 _) H6.out.2
          exact ⟨rfl, HR.out.keep H6.out.1 hk (Nat.le_trans hA.size H7.out.2.size), ⟨H7.out.2.os.trans hA.os, H7.out.2.tape.trans hA.tape, H7.out.2.output.trans hA.output, Nat.le_trans hA.size H7.out.2.size, fun k hkl hne => (hk k hkl).trans (hA.block k hkl hne)⟩⟩
      · have hb : (NE == 0) = false := by simp [hNE]
        have HE : Hid (NE ≠ 0) := hNE
        rw [if_pos hNE] at HC
        clear hNE hNQ
        go_enter Tryd.func53, Tryd.ntmps53
        go_wp2
        generalize hW1 : World.alloc w _ = W1
        rw [← hN]
        have H1 : Hid (Bk 48 W1 N (rowV [] [] 0) ∧ w.grownBy W1 none) := by rw [← hW1, hN]; exact HT
        have HR1 : Hid (XS W1 g a len cap xs 0 p) := HR.out.new H1.out.2
        clear hW1 HT hN c2
        have c0 := HR1.out.rdr.c0
        have c1 := HR1.out.rdr.c1
        go_quiet ((go_at_call 90; go_must (refine Calls.quiet_of_same (HKK.out _ (HR1.out.drewN _).seg))))
        obtain ⟨w2, hw2⟩ : ∃ w2, w2 = W1.drewN nq := ⟨_, rfl⟩
        rw [← hw2]
        have H2 : Hid (XS w2 g a len cap xs 0 p ∧ W1.grownBy w2 (some g)) := by rw [hw2]; exact ⟨HR1.out.drewN _, gb_drewN (World.grownBy.refl _ _) _⟩
        clear hw2 c0 c1
        have c0 := H2.out.1.rdr.c0
        go_wp2_with fail
        refine (HVV.out _ H2.out.1.seg).mono ?_
        rintro r w3 ⟨rfl, rfl⟩
        go_wp2_with fail
        refine (HNN.out _ H2.out.1.seg).mono ?_
        rintro r w4 ⟨rfl, rfl⟩
        go_wp2_with fail
        refine (done_c g a len cap xs p NQ NE _ H2.out.1 (HNL.out)).mono ?_
        rintro r w6 ⟨rfl, h1, h2⟩
        have H6 : Hid (XS w6 g a len cap xs NE p ∧ W1.grownBy w6 (some g)) := ⟨by have := h1; rw [if_neg HE.out] at this; exact this, gb_trans H2.out.2 h2⟩
        have HB6 : Hid (Bk 48 w6 N (rowV [] [] 0)) := H1.out.1.grew H6.out.2 (fun e => by cases e; have := HGL.out; omega)
        clear h1 h2 c0
        go_wp2_with (first
          | (refine wpList_store_bk 48 rfl (.tmp 2) (.tmp 66) rfl infoRow N (rowV [] [] 0) (rowV [] [] 0) rfl rfl HB6.out rfl rfl (rowV_one _ _ _) ?_; intro w7 h1 h2; have H7 : Hid (Bk 48 w7 N (rowV [] [] 0) ∧ w6.grownBy w7 (some N)) := ⟨h1, h2⟩; clear h1 h2))
        refine bodyPost_ret (results_cell1 Tryd.results53 _ _ _ ⟨N, 0, none⟩ (.agg (rowV [] [] 0)) rfl (bk_load Tryd.underlying48 rfl infoRow H7.out.1 rfl)) rfl ?_
        rw [HC.out]
        have hN2 := HGL.out.2
        have hk : ∀ k, k < w.heap.size → w7.heap[k]? = w6.heap[k]? := fun k hk => H7.out.2.block k (Nat.lt_of_lt_of_le hk (Nat.le_trans H1.out.2.size H6.out.2.size)) (fun e => by cases e; omega)
        have hA : w.grownBy w6 (some g) := gb_trans (gb_wide H1.out.2 _) H6.out.2
        exact ⟨rfl, HR.out.keep H6.out.1 hk (Nat.le_trans hA.size H7.out.2.size), ⟨H7.out.2.os.trans hA.os, H7.out.2.tape.trans hA.tape, H7.out.2.output.trans hA.output, Nat.le_trans hA.size H7.out.2.size, fun k hkl hne => (hk k hkl).trans (hA.block k hkl hne)⟩⟩
    · have hb : (VE == 0) = false := by simp [hVE]
      have HE : Hid (VE ≠ 0) := hVE
      rw [if_pos hVE] at HC
      clear hVE hVQ hNQ
      go_enter Tryd.func53, Tryd.ntmps53
      go_wp2
      generalize hW1 : World.alloc w _ = W1
      rw [← hN]
      have H1 : Hid (Bk 48 W1 N (rowV [] [] 0) ∧ w.grownBy W1 none) := by rw [← hW1, hN]; exact HT
      have HR1 : Hid (XS W1 g a len cap xs 0 p) := HR.out.new H1.out.2
      clear hW1 HT hN c2
      have c0 := HR1.out.rdr.c0
      have c1 := HR1.out.rdr.c1
      go_quiet ((go_at_call 90; go_must (refine Calls.quiet_of_same (HKK.out _ (HR1.out.drewN _).seg))))
      obtain ⟨w2, hw2⟩ : ∃ w2, w2 = W1.drewN nq := ⟨_, rfl⟩
      rw [← hw2]
      have H2 : Hid (XS w2 g a len cap xs 0 p ∧ W1.grownBy w2 (some g)) := by rw [hw2]; exact ⟨HR1.out.drewN _, gb_drewN (World.grownBy.refl _ _) _⟩
      clear hw2 c0 c1
      have c0 := H2.out.1.rdr.c0
      go_wp2_with fail
      refine (HVV.out _ H2.out.1.seg).mono ?_
      rintro r w3 ⟨rfl, rfl⟩
      go_wp2_with fail
      refine (done_c g a len cap xs p VQ VE _ H2.out.1 (HVL.out)).mono ?_
      rintro r w6 ⟨rfl, h1, h2⟩
      have H6 : Hid (XS w6 g a len cap xs VE p ∧ W1.grownBy w6 (some g)) := ⟨by have := h1; rw [if_neg HE.out] at this; exact this, gb_trans H2.out.2 h2⟩
      have HB6 : Hid (Bk 48 w6 N (rowV [] [] 0)) := H1.out.1.grew H6.out.2 (fun e => by cases e; have := HGL.out; omega)
      clear h1 h2 c0
      go_wp2_with (first
        | (refine wpList_store_bk 48 rfl (.tmp 2) (.tmp 66) rfl infoRow N (rowV [] [] 0) (rowV [] [] 0) rfl rfl HB6.out rfl rfl (rowV_one _ _ _) ?_; intro w7 h1 h2; have H7 : Hid (Bk 48 w7 N (rowV [] [] 0) ∧ w6.grownBy w7 (some N)) := ⟨h1, h2⟩; clear h1 h2))
      refine bodyPost_ret (results_cell1 Tryd.results53 _ _ _ ⟨N, 0, none⟩ (.agg (rowV [] [] 0)) rfl (bk_load Tryd.underlying48 rfl infoRow H7.out.1 rfl)) rfl ?_
      rw [HC.out]
      have hN2 := HGL.out.2
      have hk : ∀ k, k < w.heap.size → w7.heap[k]? = w6.heap[k]? := fun k hk => H7.out.2.block k (Nat.lt_of_lt_of_le hk (Nat.le_trans H1.out.2.size H6.out.2.size)) (fun e => by cases e; omega)
      have hA : w.grownBy w6 (some g) := gb_trans (gb_wide H1.out.2 _) H6.out.2
      exact ⟨rfl, HR.out.keep H6.out.1 hk (Nat.le_trans hA.size H7.out.2.size), ⟨H7.out.2.os.trans hA.os, H7.out.2.tape.trans hA.tape, H7.out.2.output.trans hA.output, Nat.le_trans hA.size H7.out.2.size, fun k hkl hne => (hk k hkl).trans (hA.block k hkl hne)⟩⟩
  · have hb : (KE == 0) = false := by simp [hKE]
    have HE : Hid (KE ≠ 0) := hKE
    rw [if_pos hKE] at HC
    clear hKE hKQ hVQ hNQ
    go_enter Tryd.func53, Tryd.ntmps53
    go_wp2
    generalize hW1 : World.alloc w _ = W1
    rw [← hN]
    have H1 : Hid (Bk 48 W1 N (rowV [] [] 0) ∧ w.grownBy W1 none) := by rw [← hW1, hN]; exact HT
    have HR1 : Hid (XS W1 g a len cap xs 0 p) := HR.out.new H1.out.2
    clear hW1 HT hN c2
    have c0 := HR1.out.rdr.c0
    have c1 := HR1.out.rdr.c1
    go_quiet ((go_at_call 90; go_must (refine Calls.quiet_of_same (HKK.out _ (HR1.out.drewN _).seg))))
    obtain ⟨w2, hw2⟩ : ∃ w2, w2 = W1.drewN nq := ⟨_, rfl⟩
    rw [← hw2]
    have H2 : Hid (XS w2 g a len cap xs 0 p ∧ W1.grownBy w2 (some g)) := by rw [hw2]; exact ⟨HR1.out.drewN _, gb_drewN (World.grownBy.refl _ _) _⟩
    clear hw2 c0 c1
    have c0 := H2.out.1.rdr.c0
    go_wp2_with fail
    refine (done_c g a len cap xs p KQ KE _ H2.out.1 (HKL.out)).mono ?_
    rintro r w6 ⟨rfl, h1, h2⟩
    have H6 : Hid (XS w6 g a len cap xs KE p ∧ W1.grownBy w6 (some g)) := ⟨by have := h1; rw [if_neg HE.out] at this; exact this, gb_trans H2.out.2 h2⟩
    have HB6 : Hid (Bk 48 w6 N (rowV [] [] 0)) := H1.out.1.grew H6.out.2 (fun e => by cases e; have := HGL.out; omega)
    clear h1 h2 c0
    go_wp2_with (first
      | (refine wpList_store_bk 48 rfl (.tmp 2) (.tmp 66) rfl infoRow N (rowV [] [] 0) (rowV [] [] 0) rfl rfl HB6.out rfl rfl (rowV_one _ _ _) ?_; intro w7 h1 h2; have H7 : Hid (Bk 48 w7 N (rowV [] [] 0) ∧ w6.grownBy w7 (some N)) := ⟨h1, h2⟩; clear h1 h2))
    refine bodyPost_ret (results_cell1 Tryd.results53 _ _ _ ⟨N, 0, none⟩ (.agg (rowV [] [] 0)) rfl (bk_load Tryd.underlying48 rfl infoRow H7.out.1 rfl)) rfl ?_
    rw [HC.out]
    have hN2 := HGL.out.2
    have hk : ∀ k, k < w.heap.size → w7.heap[k]? = w6.heap[k]? := fun k hk => H7.out.2.block k (Nat.lt_of_lt_of_le hk (Nat.le_trans H1.out.2.size H6.out.2.size)) (fun e => by cases e; omega)
    have hA : w.grownBy w6 (some g) := gb_trans (gb_wide H1.out.2 _) H6.out.2
    exact ⟨rfl, HR.out.keep H6.out.1 hk (Nat.le_trans hA.size H7.out.2.size), ⟨H7.out.2.os.trans hA.os, H7.out.2.tape.trans hA.tape, H7.out.2.output.trans hA.output, Nat.le_trans hA.size H7.out.2.size, fun k hkl hne => (hk k hkl).trans (hA.block k hkl hne)⟩⟩
end Go.Proofs.YtcdgfghcmeadgaaDoor
