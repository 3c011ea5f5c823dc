/-
  What the document's Decode answers of bytes: the state that they are, or the error. Condition: at most 2^47 bytes.
-/
import Derived.Test.YtcdgfghcmeadgaaDoorIJw
import Derived.Test.YtcdgfghcmeadgaaDoorIGf
import Derived.Test.YtcdgfghcmeadgaaDoorIPx
import Derived.Test.YtcdgfghcmeadgaaDoorXRow
import Derived.Test.YtcdgfghcmeadgaaDoorCrC
import Derived.Test.YtcdgfghcmeadgaaDoorFd
import Derived.Test.YtcdgfghcmeadgaaDoorFb
namespace Go.Proofs.YtcdgfghcmeadgaaDoor
open Go.RowKit
set_option linter.unusedVariables false

theorem hid_dr (W : World) : Hid (W.grownBy W.drew none) := ⟨rfl, rfl, rfl, Nat.le_refl _, fun _ _ _ => rfl⟩
theorem own_grewI {B : Nat} {w w' : World} {v : Value} {n : Nat} {xs : List Value} {row : Option Nat} (h : w.ownsRow B 48 3 v n xs) (hg : w.grownBy w' row) (hne : ∀ b, v.ownBlock = some b → row ≠ some b) : w'.ownsRow B 48 3 v n xs := by
  refine ⟨h.1, ?_⟩
  rcases h.2 with h0 | ⟨g, cap, cur, rfl, hB, hgb, r⟩
  · exact .inl h0
  · exact .inr ⟨g, cap, cur, rfl, hB, (hg.block g (lt_of_block hgb) (fun e => hne g rfl e.symm)).trans hgb, r⟩
theorem bk_setI {T : TypeId} {w : World} {b : Nat} {cs : Array Value} (h : Bk T w b cs) (i : Nat) (v : Value) : Bk T (w.setCell ⟨b, i, none⟩ v) b (cs.setIfInBounds i v) := by
  unfold Bk at h ⊢
  rw [heap_setCell_same w b i _ T _ h]
theorem gb_own' {a b c : World} {row : Option Nat} (h : a.grownBy b none) (k : b.grownBy c row) (hr : ∀ g, row = some g → a.heap.size ≤ g) : a.grownBy c none :=
  ⟨k.os.trans h.os, k.tape.trans h.tape, k.output.trans h.output, Nat.le_trans h.size k.size, fun i hi hn => (k.block i (Nat.lt_of_lt_of_le hi h.size) (fun e => by have := hr i e.symm; omega)).trans (h.block i hi hn)⟩
/-- What the document's Decode comes to. -/
def DJ (xs : List Int) (w : World) (r : Ending) (w' : World) : Prop :=
  ((∃ a n c seq X, r = .returned (.tuple #[.agg #[.int .i64 seq, .slice a n c], .int .i64 0]) ∧ DOk xs seq X ∧ Rws w' a n X ∧ ∀ b o s, a = some ⟨b, o, s⟩ → w.heap.size ≤ b) ∨ (∃ e, r = .returned (.tuple #[.agg noSt, .int .i64 e]) ∧ DNo xs e)) ∧ w.grownBy w' none
set_option maxRecDepth 20000 in
set_option maxHeartbeats 4000000 in
theorem jdec_c (a : Option Addr) (len cap : Nat) (xs : List Int) (w : World) (h : Seg .u8 w a len xs) (hx : Bytes xs) (hl : len ≤ 140737488355328) (hlc : len ≤ cap) (hcm : cap ≤ 9223372036854775807) :
    Calls Tryd.prog 20 #[.slice a len cap] w fun r w' => DJ xs w r w' := by
  have hxl : xs.length = len := h.1
  have HZ : Hid (∀ e : Int, Bk 24 (w.alloc (.cells #[.int .i64 0, .slice none 0 0] 24)) w.heap.size noSt ∧ w.grownBy (w.alloc (.cells #[.int .i64 0, .slice none 0 0] 24)) none) := fun _ => blk_new w _ _
  have HXL : Hid (xs.length = len) := hxl
  by_cases hbig : 268435456 < len
  · have hb1 : (268435456 : Int) < (len : Int) := by omega
    clear h hx hxl
    go_enter Tryd.func20, Tryd.ntmps20
    go_wp2
    refine bodyPost_ret (Tb.results_cell2 Tryd.results20 _ _ _ ⟨w.heap.size, 0, none⟩ (.agg noSt) (.int .i64 90) rfl rfl (bk_load Tryd.underlying24 rfl infoSt (HZ.out 0).1 rfl)) rfl ?_
    exact ⟨.inr ⟨90, rfl, .inl ⟨by rw [HXL.out]; exact hbig, rfl⟩⟩, (HZ.out 0).2⟩
  have hb1 : ¬ (268435456 : Int) < (len : Int) := by omega
  by_cases hsh : len < 10
  · have hb2 : (len : Int) < 10 := by omega
    clear h hx hxl
    go_enter Tryd.func20, Tryd.ntmps20
    go_wp2
    refine bodyPost_ret (Tb.results_cell2 Tryd.results20 _ _ _ ⟨w.heap.size, 0, none⟩ (.agg noSt) (.int .i64 92) rfl rfl (bk_load Tryd.underlying24 rfl infoSt (HZ.out 0).1 rfl)) rfl ?_
    exact ⟨.inr ⟨92, rfl, .inr (.inl ⟨by rw [HXL.out]; omega, .inl (by rw [HXL.out]; exact hsh), rfl⟩)⟩, (HZ.out 0).2⟩
  have hb2 : ¬ (len : Int) < 10 := by omega
  obtain ⟨W0, hW0⟩ : ∃ W0, W0 = w.alloc (.cells #[.int .i64 0, .slice none 0 0] 24) := ⟨_, rfl⟩
  have HZ0 : Hid (Bk 24 W0 w.heap.size noSt ∧ w.grownBy W0 none) := by rw [hW0]; exact HZ.out 0
  have h0 : Seg .u8 W0 a len xs := h.grew HZ0.out.2 (by simp)
  have hs4 := sliceH a len cap 4 4 rfl (by omega)
  have hcv := seg_string (P := Tryd.prog) 27 9 5 cap (seg_take h0 4 (by omega)) Tryd.underlying27 Tryd.underlying5 Tryd.underlying9
  have he := mark_eq hx (by omega)
  generalize strOfNums (xs.take 4) = S at hcv he
  cases hm : mk4 xs with
  | false =>
    rw [hm] at he
    have he2 : (S.toList != [104, 119, 105, 49]) = true := by simp [bne, he]
    have HMK : Hid (mk4 xs = false) := hm
    rw [hW0] at hcv
    clear h hx hm hxl h0 hW0
    go_enter Tryd.func20, Tryd.ntmps20
    go_wp2
    refine bodyPost_ret (Tb.results_cell2 Tryd.results20 _ _ _ ⟨w.heap.size, 0, none⟩ (.agg noSt) (.int .i64 92) rfl rfl (bk_load Tryd.underlying24 rfl infoSt (HZ.out 0).1 rfl)) rfl ?_
    exact ⟨.inr ⟨92, rfl, .inr (.inl ⟨by rw [HXL.out]; omega, .inr HMK.out, rfl⟩)⟩, (HZ.out 0).2⟩
  | true =>
  rw [hm] at he
  have he2 : (S.toList != [104, 119, 105, 49]) = false := by simp [bne, he]
  have HMK : Hid (mk4 xs = true) := hm
  have sL := sliceL a len cap (len - 4) ((len : Int) - 4) (by omega) (by omega)
  have sH := sliceH a len cap (len - 4) ((len : Int) - 4) (by omega) (by omega)
  obtain ⟨T, hT⟩ : ∃ T, T = Cr.sum (xs.take (len - 4)) := ⟨_, rfl⟩
  have HSU : Hid (∀ W, Hid (W0.grownBy W none) → Calls Tryd.prog 37 #[.slice a (len - 4) cap] W fun r w' => r = .returned (.int .u32 (Cr.W T)) ∧ Hid (W0.grownBy w' none)) := fun W hg => by
    rw [hT]
    refine (Cr.rsum_c a (len - 4) cap (xs.take (len - 4)) W (seg_take (h0.grew hg.out (by simp)) (len - 4) (by omega)) (bytes_take hx (len - 4)) (by omega)).mono ?_
    rintro r w' ⟨q1, q2⟩
    subst q2
    exact ⟨q1, hg⟩
  have HWO : Hid (∀ W, Hid (W0.grownBy W none) → Calls Tryd.prog 36 #[.int .u32 (Cr.W T)] W fun e w' => ∃ g, e = .returned (.slice (some ⟨g, 0, none⟩) 4 4) ∧ Hid (W0.grownBy w' none ∧ Seg .u8 w' (some ⟨g, 0, none⟩) 4 (Cr.by4 T))) := fun W hg => (jword_c T W).mono fun r w' ⟨g, q1, q2, q3⟩ => ⟨g, q1, gb_trans hg.out q3, q2⟩
  obtain ⟨O, hO⟩ : ∃ O, O = Cr.holds xs := ⟨_, rfl⟩
  have HSA : Hid (∀ g W, Hid (W0.grownBy W none ∧ Seg .u8 W (some ⟨g, 0, none⟩) 4 (Cr.by4 T)) → Calls Tryd.prog 14 #[.slice (cutI a cap (len - 4)) (len - (len - 4)) (cap - (len - 4)), .slice (some ⟨g, 0, none⟩) 4 4] W fun r w' => r = .returned (.bool O) ∧ Hid (W0.grownBy w' none)) := fun g W hg => by
    have k := same_c (cutI a cap (len - 4)) (some ⟨g, 0, none⟩) (len - (len - 4)) (cap - (len - 4)) 4 4 (xs.drop (len - 4)) (Cr.by4 T) W (seg_cutI (h0.grew hg.out.1 (by simp)) (len - 4) hlc) hg.out.2 (bytes_drop hx _) (bytes_mem (Cr.by4_bytes T))
    have e : decide (xs.drop (len - 4) = Cr.by4 T) = O := by
      rw [hO]
      unfold Cr.holds
      rw [hxl, hT]
      apply decide_eq_decide.2
      exact ⟨fun z => ⟨by omega, z⟩, fun z => z.2⟩
    rw [e] at k
    refine k.mono ?_
    rintro r w' ⟨q1, q2⟩
    subst q2
    exact ⟨q1, hg.out.1⟩
  have HOK : Hid (Cr.holds xs = O) := hO.symm
  have i0 : (0 : Int) ≤ (len : Int) - 4 := by omega
  have i1 : (len : Int) - 4 ≤ (len : Int) := by omega
  have i2 : (len : Int) - 4 ≤ (cap : Int) := by omega
  have HSG : Hid (Seg .u8 W0 a len xs ∧ Bytes xs ∧ len ≤ cap) := ⟨h0, hx, hlc⟩
  have zl : IntKind.i64.wrap ((len : Int) - 4) = (len : Int) - 4 := IntWalk.i64_in _ ⟨by omega, by omega⟩
  clear h hx hm hxl h0 hT hO
  cases O with
  | false =>
    go_enter Tryd.func20, Tryd.ntmps20
    go_wp2_with (rw [← hW0]; clear hW0)
    go_region_held3 (fun W => Hid (W0.grownBy W none)) (first | assumption | exact hid_dr W0) (first
      | (go_at_call 37; refine (Calls.mono (HSU.out _ (by assumption)) ?_); rintro r x4 ⟨rfl, h4⟩)
      | (go_at_call 36; refine (Calls.mono (HWO.out _ (by assumption)) ?_); rintro r x5 ⟨g5, rfl, h5⟩; have h5' : Hid (W0.grownBy x5 none) := h5.out.1)
      | (go_at_call 14; refine (Calls.mono (HSA.out g5 _ (by assumption)) ?_); rintro r x6 ⟨rfl, h6⟩))
    have H7 : Hid (W0.grownBy x6 none) := h6
    clear h6
    go_wp2_with (refine wpList_store_bk 24 rfl (.tmp 2) _ rfl infoSt w.heap.size noSt noSt rfl rfl (HZ0.out.1.grew H7.out (by simp)) rfl rfl (by simp [noSt, Value.oneCell']) ?_; intro x7 k1 k2; have H8 : Hid (Bk 24 x7 w.heap.size noSt ∧ w.grownBy x7 none) := ⟨k1, gb_above (gb_trans HZ0.out.2 H7.out) k2 (Nat.le_refl _)⟩; clear k1 k2)
    refine bodyPost_ret (Tb.results_cell2 Tryd.results20 _ _ _ ⟨w.heap.size, 0, none⟩ (.agg noSt) (.int .i64 93) rfl rfl (bk_load Tryd.underlying24 rfl infoSt H8.out.1 rfl)) rfl ?_
    exact ⟨.inr ⟨93, rfl, .inr (.inr (.inl ⟨by rw [HXL.out]; omega, by rw [HXL.out]; omega, HMK.out, HOK.out, rfl⟩))⟩, H8.out.2⟩
  | true =>
    have s8 := sliceI a len cap 4 (len - 4) 4 ((len : Int) - 4) rfl (by omega) (by omega) (by omega)
    obtain ⟨L, hL⟩ : ∃ L, L = len - 4 - 4 := ⟨_, rfl⟩
    obtain ⟨ca, hca⟩ : ∃ c, c = cutI a cap 4 := ⟨_, rfl⟩
    obtain ⟨cc, hcc⟩ : ∃ c, c = cap - 4 := ⟨_, rfl⟩
    rw [← hL, ← hca, ← hcc] at s8
    obtain ⟨ys, hys⟩ : ∃ ys, ys = mid xs := ⟨_, rfl⟩
    have hyb : Bytes ys := by rw [hys]; exact bytes_mid HSG.out.2.1
    have hyl : ys.length = L := by rw [hys, hL]; unfold mid; rw [List.length_drop, List.length_take, HXL.out]; omega
    have HXN : Hid (∀ W, W0.grownBy W none → XS (W.alloc (.cells #[.slice ca L cc, .int .i64 0, .int .i64 0] 109)) W.heap.size ca L cc ys 0 0 ∧ W.grownBy (W.alloc (.cells #[.slice ca L cc, .int .i64 0, .int .i64 0] 109)) none) := fun W hg => by
      have e : mid xs = (xs.drop 4).take L := by
        unfold mid
        rw [List.drop_take, HXL.out, hL]
      have hseg : Seg .u8 W ca L ys := by
        rw [hys, e, hca]
        exact (seg_take (seg_cutI HSG.out.1 4 HSG.out.2.2) L (by omega)).grew hg (by simp)
      exact xs_new hseg hyb (by omega) (by omega : L ≤ cc) (by omega)
    have HBL : Hid (∀ b o s, ca = some ⟨b, o, s⟩ → L = 0 ∨ b < W0.heap.size) := fun b o s z => by
      have e : mid xs = (xs.drop 4).take L := by
        unfold mid
        rw [List.drop_take, HXL.out, hL]
      have hseg : Seg .u8 W0 ca L ys := by
        rw [hys, e, hca]
        exact seg_take (seg_cutI HSG.out.1 4 HSG.out.2.2) L (by omega)
      rcases hseg.2 with q | ⟨b', o', q, hb, _⟩
      · exact .inl q
      · rw [z] at q; cases q; exact .inr hb
    obtain ⟨V1, p1, E1, hr1⟩ : ∃ V p E, d1 ys = (V, p, E) := ⟨_, _, _, rfl⟩
    obtain ⟨V2, p2, E2, hr2⟩ : ∃ V p E, d2 ys = (V, p, E) := ⟨_, _, _, rfl⟩
    have HI1 : Hid (∀ g W, XS W g ca L cc ys 0 0 → Calls Tryd.prog 52 #[.pointer (some ⟨g, 0, none⟩), .int .i64 1152921504606846976] W fun r w' => r = .returned (.int .i64 V1) ∧ XS w' g ca L cc ys E1 p1 ∧ W.grownBy w' (some g)) := fun g W hs => by
      have := xint_ok g ca L cc ys 0 1152921504606846976 W hs (by omega)
      rw [show ri ys 0 1152921504606846976 = d1 ys from rfl, hr1] at this
      exact this
    have HI2 : Hid (∀ g W, XS W g ca L cc ys E1 p1 → Calls Tryd.prog 52 #[.pointer (some ⟨g, 0, none⟩), .int .i64 1048576] W fun r w' => r = .returned (.int .i64 V2) ∧ XS w' g ca L cc ys E2 p2 ∧ W.grownBy w' (some g)) := fun g W hs => by
      have := xint_c g ca L cc ys E1 p1 1048576 W hs (by omega)
      have e : pI ys p1 E1 1048576 = d2 ys := by unfold d2; rw [hr1]
      rw [e, hr2] at this
      exact this
    have HST : Hid (∃ N : Nat, V2 = (N : Int) ∧ N ≤ 1048576 ∧ (E2 = 0 → LJ ys V1 N [] p2) ∧ (E2 ≠ 0 → N = 0 ∧ ∀ s Y, ¬ TSok ys s Y)) := by
      have q := d_start hyb
      rw [hr1, hr2] at q
      rcases q with ⟨q1, q2, q3⟩ | ⟨q1, q2, N, q3, q4, q5, q6, q7⟩
      · exact ⟨0, q2, by omega, fun z => absurd z q1, fun _ => ⟨rfl, q3⟩⟩
      · exact ⟨N, q3, q4, fun _ => q7, fun z => absurd q1 z⟩
    obtain ⟨N, hN, hNb, hN1, hN2⟩ := HST.out
    subst hN
    have HOF : Hid (∀ k, W0.heap.size ≤ k → L = 0 ∨ Off ca k) := fun k hk => by
      by_cases hL0 : L = 0
      · exact .inl hL0
      · exact .inr fun b o s z e => by
          rcases HBL.out b o s z with q | q
          · exact hL0 q
          · omega
    have HLJ : Hid ((E2 = 0 → LJ ys V1 N [] p2) ∧ (E2 ≠ 0 → N = 0 ∧ ∀ s Y, ¬ TSok ys s Y) ∧ ys.length = L ∧ Bytes ys ∧ ys = mid xs) := ⟨hN1, hN2, hyl, hyb, hys⟩
    have hLb : L + 8 ≤ 268435456 := by omega
    clear HST hN1 hN2 hr1 hr2 hyl hyb hys hL hca hcc
    go_enter Tryd.func20, Tryd.ntmps20
    go_wp2_with (rw [← hW0]; clear hW0)
    go_region_held3 (fun W => Hid (W0.grownBy W none)) (first | assumption | exact hid_dr W0) (first
      | (go_at_call 37; refine (Calls.mono (HSU.out _ (by assumption)) ?_); rintro r x4 ⟨rfl, h4⟩)
      | (go_at_call 36; refine (Calls.mono (HWO.out _ (by assumption)) ?_); rintro r x5 ⟨g5, rfl, h5⟩; have h5' : Hid (W0.grownBy x5 none) := h5.out.1)
      | (go_at_call 14; refine (Calls.mono (HSA.out g5 _ (by assumption)) ?_); rintro r x6 ⟨rfl, h6⟩))
    have H7 : Hid (W0.grownBy x6 none) := h6
    clear h6 HSU HWO HSA
    obtain ⟨R, hR⟩ : ∃ R, R = x6.heap.size := ⟨_, rfl⟩
    have H8 : Hid (∀ W, W = (x6.alloc (.cells #[.slice ca L cc, .int .i64 0, .int .i64 0] 109)).alloc (.cells #[.int .i64 0, .slice none 0 0] 24) → XS W R ca L cc ys 0 0 ∧ Bk 24 W (R + 1) noSt ∧ x6.grownBy W none) := fun W e => by
      have q := HXN.out x6 H7.out
      have q2 := blk_new (x6.alloc (.cells #[.slice ca L cc, .int .i64 0, .int .i64 0] 109)) 24 noSt
      rw [World.size_alloc, ← hR] at q2
      rw [← hR] at q
      subst e
      exact ⟨q.1.new q2.2, q2.1, gb_trans q.2 q2.2⟩
    go_wp2_with fail
    rw [← hR]
    have HRR : Hid (R = x6.heap.size ∧ W0.heap.size ≤ R) := ⟨hR, by rw [hR]; exact H7.out.size⟩
    clear hR
    refine (HI1.out R _ (H8.out _ rfl).1).mono ?_
    rintro r x9 ⟨rfl, q1, q2⟩
    have H9 : Hid (XS x9 R ca L cc ys E1 p1 ∧ Bk 24 x9 (R + 1) noSt ∧ x6.grownBy x9 none) := ⟨q1, (H8.out _ rfl).2.1.grew q2 (fun e => by have := Option.some.inj e; omega), gb_above (H8.out _ rfl).2.2 q2 (by have := HRR.out.1; have := HRR.out.2; omega)⟩
    clear q1 q2 H8
    have c0 : x9.cell? ⟨R + 1, 0, none⟩ = some (.int .i64 0) := H9.out.2.1.cell 0
    have f0 : x9.frozen? ⟨R + 1, 0, none⟩ = false := frozen_of_row x9 _ 0 _ _ H9.out.2.1
    have H10 : Hid (∀ W, W = x9.setCell ⟨R + 1, 0, none⟩ (.int .i64 V1) → XS W R ca L cc ys E1 p1 ∧ Bk 24 W (R + 1) #[.int .i64 V1, .slice none 0 0] ∧ x6.grownBy W none) := fun W e => by
      subst e
      have hg := grownBy_cell x9 (R + 1) 0 (.int .i64 V1)
      exact ⟨H9.out.1.other hg (fun e => by have := Option.some.inj e; omega) (fun k e => by cases e; exact HOF.out _ (by have := HRR.out.1; have := HRR.out.2; omega)), bk_setI H9.out.2.1 0 (.int .i64 V1), gb_above H9.out.2.2 hg (by have := HRR.out.1; have := HRR.out.2; omega)⟩
    go_wp2_with fail
    refine (HI2.out R _ (H10.out _ rfl).1).mono ?_
    rintro r x11 ⟨rfl, q1, q2⟩
    have H11 : Hid (XS x11 R ca L cc ys E2 p2 ∧ Bk 24 x11 (R + 1) #[.int .i64 V1, .slice none 0 0] ∧ x6.grownBy x11 none) := ⟨q1, (H10.out _ rfl).2.1.grew q2 (fun e => by have := Option.some.inj e; omega), gb_above (H10.out _ rfl).2.2 q2 (by have := HRR.out.1; have := HRR.out.2; omega)⟩
    clear q1 q2 H10 H9 c0 f0
    go_wp2_with fail
    go_loopw [8] (fun i wr => ∃ (k : Nat) (X : List Rwi) (e : Int) (p : Nat) (v : Value), k ≤ N ∧ i = .int .i64 k ∧ Hid (X.length = k ∧ XS wr R ca L cc ys e p ∧ Bk 24 wr (R + 1) #[.int .i64 V1, v] ∧ wr.ownsRow (R + 2) 48 3 v X.length (flI X) ∧ R + 2 ≤ wr.heap.size ∧ x6.grownBy wr none ∧ (e = 0 → LJ ys V1 N X p) ∧ (e ≠ 0 → ∀ s Y, ¬ TSok ys s Y))) (fun i _ => N - (intOf i).toNat)
    case atStart => exact ⟨0, [], E2, p2, _, Nat.zero_le _, rfl, rfl, H11.out.1, H11.out.2.1, ⟨rfl, .inl ⟨rfl, rfl⟩⟩, by have := lt_of_block H11.out.2.1; omega, H11.out.2.2, HLJ.out.1, fun z => (HLJ.out.2.1 z).2⟩
    case round =>
      obtain ⟨k, X, e, p, v, hk, rfl, hr⟩ := hrel
      clear H11
      have c2 : wr.cell? ⟨R, 2, none⟩ = some (.int .i64 e) := hr.out.2.1.rdr.c2
      by_cases hgo : k < N ∧ e = 0
      · obtain ⟨hlt, rfl⟩ := hgo
        have hi1 : (k : Int) < N := by omega
        obtain ⟨kk, hkk⟩ : ∃ kk, kk = strOfNums (rr ys p).1.1 := ⟨_, rfl⟩
        obtain ⟨vv, hvv⟩ : ∃ vv, vv = strOfNums (rr ys p).1.2.1 := ⟨_, rfl⟩
        obtain ⟨nn, hnn⟩ : ∃ nn, nn = (rr ys p).1.2.2 := ⟨_, rfl⟩
        obtain ⟨e', he'⟩ : ∃ e', e' = (rr ys p).2.2 := ⟨_, rfl⟩
        obtain ⟨p', hp'⟩ : ∃ p', p' = (rr ys p).2.1 := ⟨_, rfl⟩
        have HRW : Hid (∀ W, wr.grownBy W none → Calls Tryd.prog 53 #[.pointer (some ⟨R, 0, none⟩)] W fun r w' => r = .returned (.agg #[.string kk, .string vv, .int .i64 nn]) ∧ XS w' R ca L cc ys e' p' ∧ W.grownBy w' (some R)) := fun W hg => by
          have q := xrow_ok R ca L cc ys p W (hr.out.2.1.new hg)
          rw [← he', ← hp'] at q
          unfold rowV at q
          rw [← hkk, ← hvv, ← hnn] at q
          exact q
        have HNX : Hid (∀ W, XS W R ca L cc ys e' p' → (e' = 0 → LJ ys V1 N (X ++ [⟨kk, vv, nn⟩]) p') ∧ (e' ≠ 0 → ∀ s Y, ¬ TSok ys s Y)) := fun W hs => by
          have hl := hr.out.2.2.2.2.2.2.1 rfl
          have hX := hr.out.1
          have q : (⟨kk, vv, nn⟩ : Rwi) = rrow ys p := by unfold rrow; rw [hkk, hvv, hnn]
          refine ⟨fun z => ?_, fun z => hl.none (by have := HRR.out.1; have := HRR.out.2; omega) (by rw [← he']; exact z)⟩
          rw [q, hp']
          exact hl.step HLJ.out.2.2.2.1 (by have := HRR.out.1; have := HRR.out.2; omega) (by rw [← he']; exact z) (by rw [← hp', HLJ.out.2.2.1]; exact hs.le)
        clear hkk hvv hnn he' hp'
        have HV : Hid (v.ownBlock ≠ some (R + 1) ∧ v.ownBlock ≠ some R ∧ ∀ b, v.ownBlock = some b → R + 2 ≤ b) := by
          have q : ∀ b, v.ownBlock = some b → R + 2 ≤ b := fun b hb => by
            rcases hr.out.2.2.2.1.2 with ⟨z, _⟩ | ⟨g, cp, cur, z, hB, _⟩
            · rw [z] at hb; cases hb
            · rw [z] at hb; cases hb; exact hB
          exact ⟨fun z => by have := q _ z; omega, fun z => by have := q _ z; omega, q⟩
        have cv : wr.drew.cell? ⟨R + 1, 1, none⟩ = some v := hr.out.2.2.1.cell 1
        obtain ⟨i3, hi3, hz3, hs3, hb3⟩ := infoRow40
        have HI3 : Hid (Tryd.prog.info? 48 = some i3 ∧ i3.zero = some (.agg #[.string { data := #[] }, .string { data := #[] }, .int .i64 0]) ∧ i3.size = 3 ∧ i3.bytes = 40) := ⟨hi3, hz3, hs3, hb3⟩
        have HRD : Hid (wr.grownBy wr.drew none) := hid_dr wr
        clear hi3 hz3 hs3 hb3
        go_wp2_with fail
        go_region_law (first
          | (go_simp; go_at_call 53; refine (Calls.mono (HRW.out _ HRD.out) ?_); rintro r y1 ⟨rfl, q1, q2⟩; have A1 : Hid (XS y1 R ca L cc ys e' p' ∧ Bk 24 y1 (R + 1) #[.int .i64 V1, v] ∧ y1.ownsRow (R + 2) 48 3 v X.length (flI X) ∧ R + 2 ≤ y1.heap.size ∧ x6.grownBy y1 none) := ⟨q1, (hr.out.2.2.1.grew HRD.out (by simp)).grew q2 (fun e => by have := Option.some.inj e; omega), own_grewI (own_grewI hr.out.2.2.2.1 HRD.out (by simp)) q2 (fun b hb e => HV.out.2.1 (by rw [hb]; exact e.symm)), Nat.le_trans hr.out.2.2.2.2.1 (Nat.le_trans HRD.out.size q2.size), gb_above (gb_trans hr.out.2.2.2.2.2.1 HRD.out) q2 (by have := HRR.out.1; have := HRR.out.2; omega)⟩; have cva : y1.cell? ⟨R + 1, 1, none⟩ = some v := A1.out.2.1.cell 1; have cvb : ∀ o, (y1.alloc o).cell? ⟨R + 1, 1, none⟩ = some v := (fun o => (A1.out.2.1.grew (gal _ _) (by simp)).cell 1); clear q1 q2)
          | (have z := A1; clear z; refine step_append_lies _ rfl (.tmp 60) (.tmp 63) 22 rfl (R + 2) 48 i3 (.agg #[.string { data := #[] }, .string { data := #[] }, .int .i64 0]) 3 40 Tryd.underlying22 HI3.out.1 HI3.out.2.1 HI3.out.2.2.1 HI3.out.2.2.2 rfl (by decide) v X.length (flI X) rfl (own_grewI A1.out.2.2.1 (gal _ _) (by simp)) ⟨y1.heap.size, 0, none⟩ 1 1 [.string kk, .string vv, .int .i64 nn] rfl rfl (World.news_of_block (heap_new y1 _)) (by intro u hu; simp at hu; rcases hu with rfl | rfl | rfl <;> rfl) (by decide) (by rw [hr.out.1]; unfold maxLen; omega) (by rw [hr.out.1]; omega) (Nat.le_trans A1.out.2.2.2.1 (gal y1 _).size) _ rfl ?_; intro g cp y2 k1 k2 k3 k4; have A2 : Hid (y2.ownsRow (R + 2) 48 3 (.slice (some ⟨g, 0, none⟩) (X.length + 1) cp) (X.length + 1) (flI X ++ [.string kk, .string vv, .int .i64 nn]) ∧ Bk 24 y2 (R + 1) #[.int .i64 V1, v] ∧ XS y2 R ca L cc ys e' p' ∧ R + 2 ≤ y2.heap.size ∧ x6.grownBy y2 none) := ⟨k1, (A1.out.2.1.grew (gal _ _) (by simp)).grew k2 HV.out.1, (A1.out.1.new (gal _ _)).other k2 HV.out.2.1 (fun b hb => HOF.out b (by have := HV.out.2.2 b hb; have := HRR.out.1; have := HRR.out.2; omega)), Nat.le_trans A1.out.2.2.2.1 (Nat.le_trans (gal y1 _).size k2.size), gb_own' (gb_trans A1.out.2.2.2.2 (gal _ _)) k2 (fun b hb => by have := HV.out.2.2 b hb; have := HRR.out.1; have := HRR.out.2; omega)⟩; have cx : y2.cell? ⟨R + 1, 1, none⟩ = some v := A2.out.2.1.cell 1; have fx : y2.frozen? ⟨R + 1, 1, none⟩ = false := frozen_of_row y2 _ 1 _ _ A2.out.2.1; clear k1 k2 k3 k4))
        all_goals
          have H5 : Hid (∀ W, W = y2.setCell ⟨R + 1, 1, none⟩ (.slice (some ⟨g, 0, none⟩) (X.length + 1) cp) → (X ++ [(⟨kk, vv, nn⟩ : Rwi)]).length = k + 1 ∧ XS W R ca L cc ys e' p' ∧ Bk 24 W (R + 1) #[.int .i64 V1, .slice (some ⟨g, 0, none⟩) (X.length + 1) cp] ∧ W.ownsRow (R + 2) 48 3 (.slice (some ⟨g, 0, none⟩) (X.length + 1) cp) (X ++ [(⟨kk, vv, nn⟩ : Rwi)]).length (flI (X ++ [(⟨kk, vv, nn⟩ : Rwi)])) ∧ R + 2 ≤ W.heap.size ∧ x6.grownBy W none ∧ (e' = 0 → LJ ys V1 N (X ++ [(⟨kk, vv, nn⟩ : Rwi)]) p') ∧ (e' ≠ 0 → ∀ s Y, ¬ TSok ys s Y)) := fun W e => by
            subst e
            have hg := grownBy_cell y2 (R + 1) 1 (.slice (some ⟨g, 0, none⟩) (X.length + 1) cp)
            have ho := A2.out.1
            have hgB : R + 2 ≤ g := by
              rcases ho.2 with ⟨z, _⟩ | ⟨g', cp', cur, z, hB, _⟩
              · cases z
              · cases z; exact hB
            have hx5 := A2.out.2.2.1.other hg (fun e => by have := Option.some.inj e; omega) (fun b e => by cases e; exact HOF.out _ (by have := HRR.out.2; omega))
            refine ⟨by rw [List.length_append, hr.out.1]; rfl, hx5, bk_setI A2.out.2.1 1 _, ?_, Nat.le_trans A2.out.2.2.2.1 hg.size, gb_above A2.out.2.2.2.2 hg (by have := HRR.out.1; omega), HNX.out _ hx5⟩
            rw [List.length_append, flI_snoc]
            exact own_grewI ho hg (fun b hb e => by have h1 : g = b := Option.some.inj hb; have h2 : R + 1 = b := Option.some.inj e; omega)
          clear cv cva cvb cx fx
          go_wp2_with fail
          go_roundw
          case rel => exact ⟨k + 1, X ++ [(⟨kk, vv, nn⟩ : Rwi)], e', p', .slice (some ⟨g, 0, none⟩) (X.length + 1) cp, by omega, by go_num, show Hid _ from H5.out _ rfl⟩
          case measure => simp [intOf]; omega
      · obtain ⟨va, vc, hv, hrw, _, _, _⟩ := own_rwsI hr.out.2.2.2.1
        subst hv
        have HEN : Hid (Calls Tryd.prog 54 #[.pointer (some ⟨R, 0, none⟩)] wr fun r w' => r = .returned (.int .i64 (rend L e p)) ∧ wr.grownBy w' none) := (xend_c R ca L cc ys e p wr hr.out.2.1).mono fun r w' ⟨q1, m, q2⟩ => ⟨q1, by rw [q2]; exact gb_dr (grf wr) m⟩
        have HZR : Hid (Bk 24 wr w.heap.size noSt ∧ w.grownBy wr none) := ⟨(HZ0.out.1.grew H7.out (by simp)).grew hr.out.2.2.2.2.2.1 (by simp), gb_trans HZ0.out.2 (gb_trans H7.out hr.out.2.2.2.2.2.1)⟩
        have HSP : Hid (Bk 24 wr (R + 1) #[.int .i64 V1, .slice va X.length vc] ∧ Rws wr va X.length X ∧ w.heap.size < R + 1) := ⟨hr.out.2.2.1, hrw, by have := HRR.out.2; have := lt_of_block HZ0.out.1; omega⟩
        have HVF : Hid (∀ b o s, va = some ⟨b, o, s⟩ → w.heap.size < b) := fun b o s z => by
          have hB := hr.out.2.2.2.1
          rw [z] at hB
          rcases hB.2 with ⟨q, _⟩ | ⟨g', cp', cur, q, hB2, _⟩
          · cases q
          · cases q
            have := HRR.out.2
            have := lt_of_block HZ0.out.1
            omega
        have HVB : Hid (∀ o s, va ≠ some ⟨w.heap.size, o, s⟩) := fun o s z => by have := HVF.out _ _ _ z; omega
        have hXk := hr.out.1
        have hLJ := hr.out.2.2.2.2.2.2
        have hle := hr.out.2.1.le
        clear hr hrw
        cases hz : (rend L e p == 0) with
        | false =>
          have HNO : Hid (∀ s Y, ¬ TSok ys s Y) := by
            rcases Classical.em (e = 0) with z | z
            · rcases rend_no hz with q | q
              · exact absurd z q
              · have hkN : k = N := by
                  rcases Nat.lt_or_ge k N with q2 | q2
                  · exact absurd ⟨q2, z⟩ hgo
                  · omega
                exact (hLJ.1 z).end1 (by omega) (by rw [HLJ.out.2.2.1]; exact q)
            · exact hLJ.2 z
          obtain ⟨D, hD⟩ : ∃ D, D = rend L e p := ⟨_, rfl⟩
          rw [← hD] at HEN hz
          have hDn : (D != 0) = true := by simp [bne, hz]
          clear hLJ hD hz
          by_cases hkN : k < N
          · have he0 : (e == 0) = false := by
              have : e ≠ 0 := fun z => hgo ⟨hkN, z⟩
              simp [this]
            have hi1 : (k : Int) < N := by omega
            clear hgo
            go_wp2_with (first
              | (go_at_call 54; go_must (refine (Calls.mono HEN.out ?_)); rintro r z1 ⟨rfl, q⟩; have B2 : Hid (wr.grownBy z1 none) := q; clear q)
              | ((fail_if_success (have z := B3)); have z := B2; clear z; refine wpList_store_bk 24 rfl (.tmp 2) (.tmp 74) rfl infoState w.heap.size noSt noSt rfl rfl (HZR.out.1.grew B2.out (by simp)) rfl rfl (by simp [noSt, Value.oneCell']) ?_; intro z3 k1 k2; have B3 : Hid (Bk 24 z3 w.heap.size noSt ∧ w.grownBy z3 none) := ⟨k1, gb_above (gb_trans HZR.out.2 B2.out) k2 (Nat.le_refl _)⟩; clear k1 k2))
            refine bodyPost_ret (Tb.results_cell2 Tryd.results20 _ _ _ ⟨w.heap.size, 0, none⟩ (.agg noSt) (.int .i64 92) rfl rfl (bk_load Tryd.underlying24 rfl infoSt B3.out.1 rfl)) rfl ?_
            exact ⟨.inr ⟨92, rfl, .inr (.inr (.inr ⟨by rw [HXL.out]; omega, by rw [HXL.out]; omega, HMK.out, HOK.out, by rw [← HLJ.out.2.2.2.2]; exact HNO.out, rfl⟩))⟩, B3.out.2⟩
          · have hi1 : ¬ (k : Int) < N := by omega
            clear hgo
            go_wp2_with (first
              | (go_at_call 54; go_must (refine (Calls.mono HEN.out ?_)); rintro r z1 ⟨rfl, q⟩; have B2 : Hid (wr.grownBy z1 none) := q; clear q)
              | ((fail_if_success (have z := B3)); have z := B2; clear z; refine wpList_store_bk 24 rfl (.tmp 2) (.tmp 74) rfl infoState w.heap.size noSt noSt rfl rfl (HZR.out.1.grew B2.out (by simp)) rfl rfl (by simp [noSt, Value.oneCell']) ?_; intro z3 k1 k2; have B3 : Hid (Bk 24 z3 w.heap.size noSt ∧ w.grownBy z3 none) := ⟨k1, gb_above (gb_trans HZR.out.2 B2.out) k2 (Nat.le_refl _)⟩; clear k1 k2))
            refine bodyPost_ret (Tb.results_cell2 Tryd.results20 _ _ _ ⟨w.heap.size, 0, none⟩ (.agg noSt) (.int .i64 92) rfl rfl (bk_load Tryd.underlying24 rfl infoSt B3.out.1 rfl)) rfl ?_
            exact ⟨.inr ⟨92, rfl, .inr (.inr (.inr ⟨by rw [HXL.out]; omega, by rw [HXL.out]; omega, HMK.out, HOK.out, by rw [← HLJ.out.2.2.2.2]; exact HNO.out, rfl⟩))⟩, B3.out.2⟩
        | true =>
          obtain ⟨he0, hLp⟩ := rend_ok hz
          subst he0
          have hkN : k = N := by
            rcases Nat.lt_or_ge k N with q2 | q2
            · exact absurd ⟨q2, rfl⟩ hgo
            · omega
          subst hkN
          have hge : ¬ (k : Int) < k := by omega
          have hD0 : rend L 0 p = 0 := by simpa using hz
          rw [hD0] at HEN
          have hl2 := (hLJ.1 rfl).end2 hXk (by rw [HLJ.out.2.2.1]; exact hLp)
          rw [hXk] at HSP
          have HJC : Hid (∀ W, wr.grownBy W none → Calls Tryd.prog 29 #[.agg #[.int .i64 V1, .slice va k vc]] W fun r w' => r = .returned (.int .i64 (sE V1 k X)) ∧ W.grownBy w' none) := fun W hg => jcheck_c V1 va k vc X W (HSP.out.2.1.below (gbb hg)) (by omega)
          by_cases hE3 : sE V1 k X = 0
          · rw [hE3] at HJC
            have HTS : Hid (TSok (mid xs) V1 X) := by rw [← HLJ.out.2.2.2.2]; exact hl2.1 hE3
            have hone2 : (#[Value.int .i64 V1, .slice va k vc]).all (·.oneCell') = true := by simp [Value.oneCell']
            clear hLJ hl2 hgo hz hLp hD0 hle hE3
            go_wp2_with (first
              | (go_at_call 54; go_must (refine (Calls.mono HEN.out ?_)); rintro r z1 ⟨rfl, q⟩; have B1 : Hid (wr.grownBy z1 none) := q; clear q)
              | ((fail_if_success (have z := B2)); have z := B1; clear z; refine wpList_load_bkG 24 rfl (.tmp 6) rfl Tryd.underlying24 rfl infoState (R + 1) _ rfl (HSP.out.1.grew B1.out (by simp)) rfl ?_)
              | (go_at_call 29; go_must (refine (Calls.mono (HJC.out _ B1.out) ?_)); rintro r z2 ⟨rfl, q⟩; have B2 : Hid (wr.grownBy z2 none) := gb_trans B1.out q; clear q)
              | ((fail_if_success (have z := B3)); have z := B2; clear z; refine wpList_load_bk 24 rfl (.tmp 6) rfl Tryd.underlying24 rfl infoState (R + 1) _ rfl (HSP.out.1.grew B2.out (by simp)) rfl ?_)
              | ((fail_if_success (have z := B3)); have z := B2; clear z; refine wpList_store_bk 24 rfl (.tmp 2) (.tmp 75) rfl infoState w.heap.size noSt #[.int .i64 V1, .slice va k vc] rfl rfl (HZR.out.1.grew B2.out (by simp)) rfl rfl hone2 ?_; intro z3 k1 k2; have B3 : Hid (Bk 24 z3 w.heap.size #[.int .i64 V1, .slice va k vc] ∧ w.grownBy z3 none ∧ Rws z3 va k X) := ⟨k1, gb_above (gb_trans HZR.out.2 B2.out) k2 (Nat.le_refl _), (HSP.out.2.1.below (gbb B2.out)).grew k2 (fun o s z => HVB.out o s z)⟩; clear k1 k2))
            refine bodyPost_ret (Tb.results_cell2 Tryd.results20 _ _ _ ⟨w.heap.size, 0, none⟩ (.agg #[.int .i64 V1, .slice va k vc]) (.int .i64 0) rfl rfl (bk_load Tryd.underlying24 rfl infoSt B3.out.1 rfl)) rfl ?_
            exact ⟨.inl ⟨va, k, vc, V1, X, rfl, ⟨by rw [HXL.out]; omega, by rw [HXL.out]; omega, HMK.out, HOK.out, HTS.out⟩, B3.out.2.2, fun b o s z => Nat.le_of_lt (HVF.out b o s z)⟩, B3.out.2.1⟩
          · have HNO : Hid (∀ s Y, ¬ TSok ys s Y) := hl2.2 (by rw [HLJ.out.2.2.1]; omega) hE3
            obtain ⟨E3, hE3e⟩ : ∃ E3, E3 = sE V1 k X := ⟨_, rfl⟩
            rw [← hE3e] at HJC hE3
            have hE3b : (E3 != 0) = true := by simp [hE3]
            clear hLJ hl2 hgo hz hLp hD0 hle hE3 hE3e
            go_wp2_with (first
              | (go_at_call 54; go_must (refine (Calls.mono HEN.out ?_)); rintro r z1 ⟨rfl, q⟩; have B1 : Hid (wr.grownBy z1 none) := q; clear q)
              | ((fail_if_success (have z := B2)); have z := B1; clear z; refine wpList_load_bkG 24 rfl (.tmp 6) rfl Tryd.underlying24 rfl infoState (R + 1) _ rfl (HSP.out.1.grew B1.out (by simp)) rfl ?_)
              | (go_at_call 29; go_must (refine (Calls.mono (HJC.out _ B1.out) ?_)); rintro r z2 ⟨rfl, q⟩; have B2 : Hid (wr.grownBy z2 none) := gb_trans B1.out q; clear q)
              | ((fail_if_success (have z := B3)); have z := B2; clear z; refine wpList_store_bk 24 rfl (.tmp 2) (.tmp 74) rfl infoState w.heap.size noSt noSt rfl rfl (HZR.out.1.grew B2.out (by simp)) rfl rfl (by simp [noSt, Value.oneCell']) ?_; intro z3 k1 k2; have B3 : Hid (Bk 24 z3 w.heap.size noSt ∧ w.grownBy z3 none) := ⟨k1, gb_above (gb_trans HZR.out.2 B2.out) k2 (Nat.le_refl _)⟩; clear k1 k2))
            refine bodyPost_ret (Tb.results_cell2 Tryd.results20 _ _ _ ⟨w.heap.size, 0, none⟩ (.agg noSt) (.int .i64 92) rfl rfl (bk_load Tryd.underlying24 rfl infoSt B3.out.1 rfl)) rfl ?_
            exact ⟨.inr ⟨92, rfl, .inr (.inr (.inr ⟨by rw [HXL.out]; omega, by rw [HXL.out]; omega, HMK.out, HOK.out, by rw [← HLJ.out.2.2.2.2]; exact HNO.out, rfl⟩))⟩, B3.out.2⟩
end Go.Proofs.YtcdgfghcmeadgaaDoor
