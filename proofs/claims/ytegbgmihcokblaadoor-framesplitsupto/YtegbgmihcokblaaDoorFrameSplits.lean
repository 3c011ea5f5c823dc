/-
  Proved, in its second form: for every most and all steps that hold together at most 2^20 values, hawserlaw04.FrameSplits answers true: what a splitter answers, fed any pieces and told its stream's end at any times, is what the document's walk over the whole stream comes to (the card ties the table of package crc to the program's text).
-/
import Derived.Test.YtegbgmihcokblaaDoorRows
import Derived.Test.YtegbgmihcokblaaDoorCards
import Derived.Test.YtegbgmihcokblaaDoorTie
import Derived.Test.YtegbgmihcokblaaDoorFSv
import Derived.WalkKit
import Derived.ProofKit
import Derived.OpenShut
import Derived.ShutString
import Derived.ChangeOld
import Derived.Below
import Derived.Lib.SmallJoins
import Derived.JoinedCond
import Derived.Deep.DeepHandedRow
import Derived.Lib.LaidTab
import Derived.Sort.AtCall
import Derived.BigQuiet
namespace Go.Proofs.YtegbgmihcokblaaDoor.frameSplits
open Go.ChangeShapes Go.WideShapes Go.ChangeAt Go.RowKit
set_option linter.unusedVariables false

theorem own : ownKnob Tryd.prog.godebug = none := by kernel_rfl
theorem laidOut : laidOutB Tryd.prog = true := by kernel_rfl

theorem stsW_cut (X : List StM) (k : Nat) (f : StM) (h : X[k]? = some f) : stsW (X.drop k) = f.ys.length + 1 + stsW (X.drop (k + 1)) := by
  obtain ⟨h1, h2⟩ := List.getElem?_eq_some_iff.1 h
  rw [List.drop_eq_getElem_cons h1, h2]
  unfold stsW
  simp
theorem len_stsW (X : List StM) : X.length ≤ stsW X := by
  unfold stsW
  induction X with
  | nil => simp
  | cons f X ih => simp; omega
set_option maxRecDepth 20000 in
set_option maxHeartbeats 8000000 in
theorem walk (V : Int) (a : Option Addr) (n cap : Nat) (X : List StM) (w : World) (wV : (Lit.int .i64 V).wf = true) (x1 : Sts w a n X) (y1 : stsW X ≤ 1048576) (ht : Tab w) :
    Calls Tryd.prog 3 #[.int .i64 V, .slice a n cap] w fun e w' => e = .returned (.bool true) ∧ Below w.heap.size w w' := by
  by_cases hV : V < 0
  · have HN : Hid _ := new_no V (.inl hV) w
    clear x1 y1 ht wV
    go_enter Tryd.func3, Tryd.ntmps3
    go_wp2_with (first
      | (go_at_call 9; go_must (refine (Calls.mono HN.out ?_)); rintro r w1 ⟨rfl, hq⟩; obtain rfl := hq.symm; clear hq)
      | (go_at_call 10; go_must (refine (Calls.mono (num_c _ _) ?_)); rintro r w2 ⟨rfl, hq⟩; obtain rfl := hq.symm; clear hq))
    go_ret
    exact ⟨rfl, Below.refl _ _⟩
  by_cases hV2 : 1048576 < V
  · have HN : Hid _ := new_no V (.inr hV2) w
    clear x1 y1 ht wV
    go_enter Tryd.func3, Tryd.ntmps3
    go_wp2_with (first
      | (go_at_call 9; go_must (refine (Calls.mono HN.out ?_)); rintro r w1 ⟨rfl, hq⟩; obtain rfl := hq.symm; clear hq)
      | (go_at_call 10; go_must (refine (Calls.mono (num_c _ _) ?_)); rintro r w2 ⟨rfl, hq⟩; obtain rfl := hq.symm; clear hq))
    go_ret
    exact ⟨rfl, Below.refl _ _⟩
  obtain ⟨most, rfl⟩ : ∃ m : Nat, V = (m : Int) := ⟨V.toNat, by omega⟩
  have hm : most ≤ 1048576 := by omega
  have HN : Hid (Calls Tryd.prog 9 #[.int .i64 (most : Int)] w (NewAns w most)) := new_c most (by omega) (by omega) w
  have HX : Hid (Sts w a n X ∧ stsW X ≤ 1048576 ∧ Tab w) := ⟨x1, y1, ht⟩
  have hnb : n ≤ 1048576 := by have := x1.1; have := len_stsW X; omega
  clear x1 y1 ht wV
  go_enter Tryd.func3, Tryd.ntmps3
  go_wp2_with (first
    | (go_at_call 9; go_must (refine (Calls.mono HN.out ?_)); rintro r w1 ⟨S, T, rfl, h1, h2, h3, h4, h5⟩; have H1 : Hid (Fs w w1 w.heap.size S most [] (.slice none 0 0) 0 0 0 0 (fun k => w.heap.size ≤ k ∧ k < w1.heap.size)) := fs_start h1 h2 h3 h4 h5; clear h1 h2 h3 h4 h5)
    | (go_at_call 10; go_must (refine (Calls.mono (num_c _ _) ?_)); rintro r w2 ⟨rfl, hq⟩; obtain rfl := hq.symm; clear hq))
  obtain ⟨B, hB⟩ : ∃ B, B = w.heap.size := ⟨_, rfl⟩
  rw [← hB] at H1
  have HBW : Hid (B = w.heap.size) := hB
  clear hB HN
  go_loopw [7, 8, 9, 10, 11] (fun sv fv jv lv iv wr => ∃ (k sn sc fo jn lo : Nat) (sa : Option Addr) (st : List Int) (Q : Nat → Prop), k ≤ n ∧ iv = .int .i64 (k : Int) ∧ sv = .slice sa sn sc ∧ fv = .int .i64 (fo : Int) ∧ jv = .int .i64 (jn : Int) ∧ lv = .int .i64 (lo : Int) ∧ Hid (Fs w wr B S most st (.slice sa sn sc) sn fo jn lo Q ∧ Bytes st ∧ ∃ T, jn ≤ T ∧ lo ≤ T ∧ T + st.length + stsW (X.drop k) ≤ 1048576)) (fun _ _ _ _ iv _ => n - (intOf iv).toNat)
  case atStart => exact ⟨0, 0, 0, 0, 0, 0, none, [], _, Nat.zero_le _, rfl, rfl, rfl, rfl, rfl, H1.out, fun i hi => absurd hi (by simp), 0, Nat.le_refl _, Nat.le_refl _, by simp; exact HX.out.2.1⟩
  case round =>
    clear H1
    obtain ⟨k, sn, sc, fo, jn, lo, sa, st, Q, hk, rfl, rfl, rfl, rfl, rfl, HF⟩ := hrel
    by_cases hlt : k < n
    · have hci : (k : Int) < (n : Int) := by omega
      obtain ⟨f, hf⟩ : ∃ f, X[k]? = some f := ⟨_, List.getElem?_eq_getElem (show k < X.length by have := HX.out.1.1; omega)⟩
      obtain ⟨b, off, ea, hbl, hrr⟩ := HX.out.1.2.2.resolve_left (by omega)
      obtain ⟨ua, uc, hu, hseg, hmc, hnz⟩ := (HX.out.1.2.1 f (List.mem_of_getElem? hf)).sg
      have hby := (HX.out.1.2.1 f (List.mem_of_getElem? hf)).bt
      have hr := hrr k f hf
      obtain ⟨ys, hys⟩ : ∃ ys, ys = f.ys := ⟨_, rfl⟩
      obtain ⟨m, hm'⟩ : ∃ m, m = f.ys.length := ⟨_, rfl⟩
      obtain ⟨en, hen⟩ : ∃ en, en = f.en := ⟨_, rfl⟩
      obtain ⟨ak, hak⟩ : ∃ ak, ak = f.ak := ⟨_, rfl⟩
      rw [hu, ← hm', ← hen, ← hak] at hr
      rw [← hm', ← hys] at hseg
      rw [← hm'] at hmc
      rw [← hys] at hby
      have HW : Hid (∀ W, Below B w W → W.rangeAt b (off + k * 3) [.slice ua m uc, .bool en, .bool ak] ∧ Seg .u8 W ua m ys ∧ Tab W) := fun W hb => by
        rw [HBW.out] at hb
        exact ⟨fun i v hv => by rw [hb.cell (p := ⟨b, off + k * 3 + i, none⟩) hbl]; exact hr i v hv, hseg.below hb, HX.out.2.2.below hb⟩
      have HT1 : Hid (∃ T, jn ≤ T ∧ lo ≤ T ∧ T + st.length + (m + 1) + stsW (X.drop (k + 1)) ≤ 1048576) := by
        obtain ⟨T, t1, t2, t3⟩ := HF.out.2.2
        rw [stsW_cut X k f hf, ← hm'] at t3
        exact ⟨T, t1, t2, by omega⟩
      have HY : Hid (Bytes ys ∧ ys.length = m ∧ m ≤ uc ∧ (ua = none → uc = 0) ∧ m ≤ 1048576) := ⟨hby, by rw [hys, hm'], hmc, hnz, by obtain ⟨T, t1, t2, t3⟩ := HT1.out; omega⟩
      have hmb : m ≤ 1048576 := HY.out.2.2.2.2
      have HLK : Hid (k + 1 ≤ n) := hlt
      have HSN : Hid (sn ≤ 1048576 ∧ st.length = sn) := by
        have := own_ln HF.out.1.own
        obtain ⟨T, t1, t2, t3⟩ := HT1.out
        exact ⟨by omega, this⟩
      have hsnb : sn ≤ 1048576 := HSN.out.1
      have HQ0 : Hid (¬ Q 0 ∧ ∀ k, Q k → k < wr.heap.size) := ⟨fun z => by have := HF.out.1.q 0 z; have := HX.out.2.2.pos; have := HBW.out; omega, fun k z => (HF.out.1.q k z).2⟩
      subst ea
      clear hf hrr hu hseg hmc hnz hby hr hys hm' hen hak hbl
      have HZS : Hid _ := sbk_new wr
      have HSR : Hid (∀ (W : World) (EN : Bool) (sb : Option Addr) (sm sd : Nat) (st2 : List Int), Own B W (.slice sb sm sd) sm st2 → Bytes st2 → sm ≤ 1048576 → Calls Tryd.prog 15 #[.int .i64 (most : Int), .slice sb sm sd, .bool EN] W fun r w' => ∃ fa fc cn L p j l, r = .returned (.agg #[.slice fa cn fc, .int .i64 ((p : Nat) : Int), .int .i64 ((j : Nat) : Int), .int .i64 ((l : Nat) : Int)]) ∧ L.length = cn ∧ StA most EN st2 W w' (.slice fa cn fc) L p j l) := fun W EN sb sm sd st2 ho hb hl => by
        obtain ⟨xa, xc, e, hs, _, hlc⟩ := ho.seg
        cases e
        exact gstream_c most sb sm sd st2 EN W hlc hs hb (by omega) hm
      cases en with
      | true =>
        have HB2 : Hid (Bytes st) := HF.out.2.1
        have HT2 : Hid (∃ T, jn ≤ T ∧ lo ≤ T ∧ T + st.length + stsW (X.drop (k + 1)) ≤ 1048576) := by
          obtain ⟨T, t1, t2, t3⟩ := HT1.out
          exact ⟨T, t1, t2, by omega⟩
        go_wp2_with (first
          | (refine wpList_load_mid rfl 30 (.tmp 50) rfl b (off + k * 3) rfl [.slice ua m uc, .bool true, .bool ak] _ (HW.out wr HF.out.1.bel).1 Tryd.underlying30 rfl (by kernel_rfl) ?_)
          | (refine wpList_store_bk 30 rfl (.tmp 12) (.tmp 51) rfl Tryd.infoStep wr.heap.size _ _ rfl rfl HZS.out rfl rfl (step_one _ _ _ _ _) ?_; intro w2 h1 h2; have H2 : Hid (Bk 30 w2 wr.heap.size #[.slice ua m uc, .bool true, .bool ak] ∧ Fs w w2 B S most st (.slice sa sn sc) sn fo jn lo Q) := ⟨h1, HF.out.1.below (grown_below h2)⟩; have c20 : w2.cell? ⟨wr.heap.size, 0, none⟩ = some (.slice ua m uc) := h1.cell 0; have c21 : w2.cell? ⟨wr.heap.size, 1, none⟩ = some (.bool true) := h1.cell 1; clear h1 h2)
          | (go_at_call 11; go_must (refine (Calls.mono (end_c Q w2 S 2097180 _ most _ _ H2.out.2.ss (HW.out w2 H2.out.2.bel).2.2 HQ0.out.1 hm (by decide) (by obtain ⟨T, t1, t2, t3⟩ := HT1.out; have := fseen_small most false _ st (Nat.le_refl _); omega) (by obtain ⟨T, t1, t2, t3⟩ := HT1.out; have := fseen_small most false _ st (Nat.le_refl _); omega)) ?_)); intro r w6 hcl; obtain ⟨ga, gc, gn, LG, rn, J, Lo, Q2, rfl, hmd, hgr⟩ := md_end H2.out.2 hcl; have HM : Hid (Md w w6 B S most true st (.slice sa sn sc) sn (.slice ga gn gc) gn LG fo jn lo rn J Lo Q2) := hmd; have HP6 : Hid (Bk 30 w6 wr.heap.size #[.slice ua m uc, .bool true, .bool ak]) := Bk.gr H2.out.1 hgr (fun z => by have := HQ0.out.2 _ z; omega); have c61 : w6.cell? ⟨wr.heap.size, 1, none⟩ = some (.bool true) := HP6.out.cell 1; clear hcl hmd hgr)
          | (go_at_call 15; go_must (refine (Calls.mono (HSR.out w6 true sa sn sc st HM.out.own HB2.out (by obtain ⟨T, t1, t2, t3⟩ := HT2.out; have := own_ln HM.out.own; omega)) ?_)); rintro r w7 ⟨fa, fc, cn, LS, pS, jS, lS, rfl, z1, z2⟩; go_loud ( have H7 : Hid (LS.length = cn ∧ StA most true st w6 w7 (.slice fa cn fc) LS pS jS lS) := ⟨z1, z2⟩; clear z1 z2; have HML : Hid (cn = fo + gn ∧ cn = (fseen most true st).frames.length ∧ pS + rn = sn ∧ J = jn + jS ∧ Lo = lo + lS ∧ st.length = sn ∧ jS ≤ st.length ∧ lS ≤ st.length ∧ cn ≤ st.length ∧ sn ≤ 1048576 ∧ jn ≤ 1048576 ∧ lo ≤ 1048576) := (by have q := md_len HM.out H7.out.2; rw [H7.out.1] at q; obtain ⟨T, t1, t2, t3⟩ := HT2.out; show _ ∧ _; omega); have q1 : IntKind.i64.wrap ((cn : Int) - (fo : Int)) = (gn : Int) := (by have := HML.out; rw [IntWalk.i64_in _ ⟨by omega, by omega⟩]; omega); have q2 : wrap64 ((cn : Int) - (fo : Int)) = (gn : Int) := (by have := HML.out; rw [IntWalk.wrap64_in _ ⟨by omega, by omega⟩]; omega); have HZ7 : Hid _ := sb_new w7))
          | (refine wpList_store_bk 38 rfl (.tmp 15) (.tmp 75) rfl Tryd.infoSeen w7.heap.size _ _ rfl rfl HZ7.out rfl rfl (seen_one _ _ _ _ _ _) ?_; intro w8 h1 h2; have H8 : Hid (Sb w8 w7.heap.size (.slice fa cn fc) pS jS lS ∧ Below w7.heap.size w7 w8) := ⟨h1, grown_below h2⟩; have s0 := H8.out.1.cells.1; clear h1 h2))
        obtain ⟨P, hP⟩ : ∃ P, P = wr.heap.size := ⟨_, rfl⟩
        rw [← hP] at HP6 ⊢
        obtain ⟨R, hR⟩ : ∃ R, R = w7.heap.size := ⟨_, rfl⟩
        rw [← hR]
        have b68 : Below w6.heap.size w6 w8 := by
          have z := H7.out.2.bel
          exact z.trans (H8.out.2.mono z.size)
        have HM8 : Hid (Md w w8 B S most true st (.slice sa sn sc) sn (.slice ga gn gc) gn LG fo jn lo rn J Lo Q2) := HM.out.gb (gb_of b68)
        have HBK : Hid (∀ W, w8.grownBy W none → Bk 30 W P #[.slice ua m uc, .bool true, .bool ak] ∧ Sb W R (.slice fa cn fc) pS jS lS) := fun W hg => by
          have z := H8.out.1
          rw [← hR] at z
          exact ⟨(HP6.out.below b68 (lt_of_block HP6.out)).grew hg (by simp), Bk.grew z hg (by simp)⟩
        have HLS : Hid (∀ W, w8.grownBy W none → GrL (fun k => w6.heap.size + 2 ≤ k) W (.slice fa cn fc) LS) := fun W hg => (H7.out.2.mem.gr (Gr.ofB (G := fun _ => False) H8.out.2) (fun _ _ z => z)).gr (Gr.of (G := fun _ => False) hg (by simp)) (fun _ _ z => z)
        have HSA : Hid (StA most true st w6 w7 (.slice fa cn fc) LS pS jS lS ∧ LS.length = cn) := ⟨H7.out.2, H7.out.1⟩
        have HAR : Hid (IntKind.i64.wrap ((sn : Int) - (pS : Int)) = (rn : Int) ∧ wrap64 ((sn : Int) - (pS : Int)) = (rn : Int) ∧ IntKind.i64.wrap ((jn : Int) + (jS : Int)) = (J : Int) ∧ wrap64 ((jn : Int) + (jS : Int)) = (J : Int) ∧ IntKind.i64.wrap ((lo : Int) + (lS : Int)) = (Lo : Int) ∧ wrap64 ((lo : Int) + (lS : Int)) = (Lo : Int)) := by
          have := HML.out
          refine ⟨?_, ?_, ?_, ?_, ?_, ?_⟩
          · rw [IntWalk.i64_in _ ⟨by omega, by omega⟩]; omega
          · rw [IntWalk.wrap64_in _ ⟨by omega, by omega⟩]; omega
          · rw [IntWalk.i64_in _ ⟨by omega, by omega⟩]; omega
          · rw [IntWalk.wrap64_in _ ⟨by omega, by omega⟩]; omega
          · rw [IntWalk.i64_in _ ⟨by omega, by omega⟩]; omega
          · rw [IntWalk.wrap64_in _ ⟨by omega, by omega⟩]; omega
        have HFC : Hid (cn = (fseen most true st).frames.length) := HML.out.2.1
        have HTT : Hid (∃ T, J ≤ T ∧ Lo ≤ T ∧ T + ([] : List Int).length + stsW (X.drop (k + 1)) ≤ 1048576) := by
          have := HML.out
          obtain ⟨T, t1, t2, t3⟩ := HT2.out
          exact ⟨T + st.length, by omega, by omega, by simp; omega⟩
        have hcn : cn ≤ 1048576 := by have := HML.out; omega
        have hgc : fo + gn = cn := by have := HML.out; omega
        have HGC : Hid (fo + gn = cn ∧ cn ≤ 1048576) := ⟨hgc, hcn⟩
        have hgb : gn ≤ 1048576 := by omega
        clear hgc H7 HZ7 H8 b68 hR HM HP6 s0 q1 q2 HML HT2 hP HZS c20 c21 c61 H2
        go_loopw [16] (fun iv wr => ∃ ix : Nat, ix ≤ gn ∧ iv = .int .i64 (ix : Int) ∧ Hid (w8.grownBy wr none)) (fun iv _ => gn - (intOf iv).toNat)
        case atStart => exact ⟨0, Nat.zero_le _, rfl, World.grownBy.refl _ _⟩
        case round =>
          obtain ⟨ix, hi, rfl, HG⟩ := hrel
          have r0 : wr.cell? ⟨R, 0, none⟩ = some (.slice fa cn fc) := (HBK.out wr HG.out).2.cells.1
          by_cases hil : ix < gn
          · have hci : (ix : Int) < (gn : Int) := by omega
            obtain ⟨f, f2, hf, hf2, e1, e2, hby⟩ := md_same HM8.out HSA.out.1 HB2.out hil
            obtain ⟨g, gc', va, vc, v1, hu, hs, hr, hgl⟩ := (HM8.out.gb HG.out).rd.at ix f hf
            obtain ⟨g2, gc2', vb, vd, v2, hu2, hs2, hr2, hgl2⟩ := (HLS.out wr HG.out).at (fo + ix) f2 hf2
            rw [e1, e2] at hr2
            rw [e2] at hs2
            have v3 : ga = some ⟨g, 0, none⟩ := by injection v1
            have v4 : fa = some ⟨g2, 0, none⟩ := by injection v2
            obtain ⟨t, ht'⟩ : ∃ t, t = f.t := ⟨_, rfl⟩
            obtain ⟨c, hc'⟩ : ∃ c, c = f.ys.length := ⟨_, rfl⟩
            rw [← ht', ← hc'] at hr hr2
            rw [← hc'] at hs hs2
            obtain ⟨fi, hfi⟩ : ∃ fi, fi = fo + ix := ⟨_, rfl⟩
            rw [← hfi] at hr2
            have HRF : Hid (∀ W, wr.grownBy W none → W.rangeAt g (ix * 2) [.int .i64 t, .slice va c vc] ∧ W.cell? ⟨R, 0, none⟩ = some (.slice (some ⟨g2, 0, none⟩) cn fc) ∧ W.rangeAt g2 (fi * 2) [.int .i64 t, .slice vb c vd] ∧ Calls Tryd.prog 16 #[.agg #[.int .i64 t, .slice va c vc], .agg #[.int .i64 t, .slice vb c vd]] W fun r w' => r = .returned (.bool true) ∧ W.grownBy w' none) := fun W hg => by
              refine ⟨range_gbO hr hg hgl, by rw [← v4]; exact (HBK.out W (gb_trans HG.out hg)).2.cells.1, range_gbO hr2 hg hgl2, ?_⟩
              exact (lsame_c t va vb c vc c vd f.ys W (hs.below (gb_below hg)) (hs2.below (gb_below hg)) hby).mono (fun r w' ⟨z1, z2⟩ => ⟨z1, gb_of z2⟩)
            have HLT : Hid (ix + 1 ≤ gn ∧ fo + gn = cn ∧ cn ≤ 1048576 ∧ fi = fo + ix) := ⟨hil, HGC.out.1, HGC.out.2, hfi⟩
            subst v3
            subst v4
            clear hfi hf hf2 e1 e2 hby hu hs hr hgl hu2 hs2 hr2 hgl2 ht' hc' v1 v2 r0
            go_wp2_with fail
            refine wp_region_lastR (fun a b => World.grownBy a b none) (fun _ _ _ h k => gb_trans h k) ⟨rfl, rfl, rfl, Nat.le_refl _, fun _ _ _ => rfl⟩ 12 rfl (by kernel_rfl) [90, 91, 92, 93, 94, 95, 96, 97, 98, 99, 100, 101, 102] [[], [], [0, 1], [2], [], [4], [], [], [6, 7], [5, 8], [9], [3, 10], [11]] (by kernel_rfl) (by kernel_rfl) [fun u W => u = .slice (some ⟨g, 0, none⟩) gn gc, fun u W => u = .int .i64 (ix : Int), fun u W => u = .pointer (some ⟨g, ix * 2, none⟩), fun u W => u = .agg #[.int .i64 t, .slice va c vc], fun u W => u = .pointer (some ⟨R, 0, none⟩), fun u W => u = .slice (some ⟨g2, 0, none⟩) cn fc, fun u W => u = .int .i64 (fo : Int), fun u W => u = .int .i64 (ix : Int), fun u W => u = .int .i64 (fi : Int), fun u W => u = .pointer (some ⟨g2, fi * 2, none⟩), fun u W => u = .agg #[.int .i64 t, .slice vb c vd], fun u W => u = .bool true] ?stable ?step ?last
            case stable =>
              intro i v W W' h hg
              match i, h with
              | 0, h => exact h
              | 1, h => exact h
              | 2, h => exact h
              | 3, h => exact h
              | 4, h => exact h
              | 5, h => exact h
              | 6, h => exact h
              | 7, h => exact h
              | 8, h => exact h
              | 9, h => exact h
              | 10, h => exact h
              | 11, h => exact h
              | i + 12, h => exact trivial
            case step =>
              intro fs W A hA hg i o hin ho hu K hK
              match i, hin, ho, hu, hK with
              | 0, hin, ho, hu, hK =>
                cases ho
                have e13 : A.eval (.tmp 13) = .slice (some ⟨g, 0, none⟩) gn gc := ev_out hA 13 rfl
                exact ph_move _ rfl rfl (.slice (some ⟨g, 0, none⟩) gn gc) e13 (hK _ _ (gb_rr W _) rfl)
              | 1, hin, ho, hu, hK =>
                cases ho
                have e16 : A.eval (.tmp 16) = .int .i64 (ix : Int) := ev_out hA 16 rfl
                exact ph_move _ rfl rfl (.int .i64 (ix : Int)) e16 (hK _ _ (gb_rr W _) rfl)
              | 2, hin, ho, hu, hK =>
                cases ho
                have e90 : A.eval (.tmp 90) = .slice (some ⟨g, 0, none⟩) gn gc := (ev_in hA 90 0 rfl rfl rfl).trans (show fs 0 = .slice (some ⟨g, 0, none⟩) gn gc from hu 0 (by decide))
                have e91 : A.eval (.tmp 91) = .int .i64 (ix : Int) := (ev_in hA 91 1 rfl rfl rfl).trans (show fs 1 = .int .i64 (ix : Int) from hu 1 (by decide))
                have q8 : ¬ ((gn : Int) ≤ (ix : Int)) := by have := HLT.out; omega
                have q9 : (ix : Int) < (gn : Int) := by have := HLT.out; omega
                refine ph_sem rfl rfl (r := .ok (.value (.pointer (some ⟨g, ix * 2, none⟩))) W) ?_ (hK _ _ (gb_rr W _) rfl)
                have eC : ∀ c, A.eval (.const c) = c := fun _ => rfl; have eF : ∀ g, A.eval (.func g) = .func (.func g) #[] #[] := fun _ => rfl; generalize A.eval = ρ at *
                clear hA hu hg hK hin
                go_simp
              | 3, hin, ho, hu, hK =>
                cases ho
                have e92 : A.eval (.tmp 92) = .pointer (some ⟨g, ix * 2, none⟩) := (ev_in hA 92 2 rfl rfl rfl).trans (show fs 2 = .pointer (some ⟨g, ix * 2, none⟩) from hu 2 (by decide))
                exact ph_load rfl 42 _ rfl Tryd.underlying42 rfl g (ix * 2) [.int .i64 t, .slice va c vc] (by kernel_rfl) e92 ((HRF.out W hg).1) (hK _ _ (gb_rr W _) rfl)
              | 4, hin, ho, hu, hK =>
                cases ho
                have e15 : A.eval (.tmp 15) = .pointer (some ⟨R, 0, none⟩) := ev_out hA 15 rfl
                exact ph_field _ _ _ rfl rfl _ (.pointer (some ⟨R, 0, none⟩)) e15 (by kernel_rfl) (hK _ _ (gb_rr W _) rfl)
              | 5, hin, ho, hu, hK =>
                cases ho
                have e94 : A.eval (.tmp 94) = .pointer (some ⟨R, 0, none⟩) := (ev_in hA 94 4 rfl rfl rfl).trans (show fs 4 = .pointer (some ⟨R, 0, none⟩) from hu 4 (by decide))
                have hc : W.cell? ⟨R, 0, none⟩ = some (.slice (some ⟨g2, 0, none⟩) cn fc) := (HRF.out W hg).2.1
                refine ph_sem rfl rfl (r := .ok (.value (.slice (some ⟨g2, 0, none⟩) cn fc)) W) ?_ (hK _ _ (gb_rr W _) rfl)
                have eC : ∀ c, A.eval (.const c) = c := fun _ => rfl; have eF : ∀ g, A.eval (.func g) = .func (.func g) #[] #[] := fun _ => rfl; generalize A.eval = ρ at *
                clear hA hu hg
                go_simp
              | 6, hin, ho, hu, hK =>
                cases ho
                have e8 : A.eval (.tmp 8) = .int .i64 (fo : Int) := ev_out hA 8 rfl
                exact ph_move _ rfl rfl (.int .i64 (fo : Int)) e8 (hK _ _ (gb_rr W _) rfl)
              | 7, hin, ho, hu, hK =>
                cases ho
                have e16 : A.eval (.tmp 16) = .int .i64 (ix : Int) := ev_out hA 16 rfl
                exact ph_move _ rfl rfl (.int .i64 (ix : Int)) e16 (hK _ _ (gb_rr W _) rfl)
              | 8, hin, ho, hu, hK =>
                cases ho
                have e96 : A.eval (.tmp 96) = .int .i64 (fo : Int) := (ev_in hA 96 6 rfl rfl rfl).trans (show fs 6 = .int .i64 (fo : Int) from hu 6 (by decide))
                have e97 : A.eval (.tmp 97) = .int .i64 (ix : Int) := (ev_in hA 97 7 rfl rfl rfl).trans (show fs 7 = .int .i64 (ix : Int) from hu 7 (by decide))
                have z3 : IntKind.i64.wrap ((fo : Int) + (ix : Int)) = (fi : Int) := by have := HLT.out; rw [IntWalk.i64_in _ ⟨by omega, by omega⟩]; omega
                have z4 : wrap64 ((fo : Int) + (ix : Int)) = (fi : Int) := by have := HLT.out; rw [IntWalk.wrap64_in _ ⟨by omega, by omega⟩]; omega
                refine ph_sem rfl rfl (r := .ok (.value (.int .i64 (fi : Int))) W) ?_ (hK _ _ (gb_rr W _) rfl)
                have eC : ∀ c, A.eval (.const c) = c := fun _ => rfl; have eF : ∀ g, A.eval (.func g) = .func (.func g) #[] #[] := fun _ => rfl; generalize A.eval = ρ at *
                clear hA hu hg hK hin
                go_simp
              | 9, hin, ho, hu, hK =>
                cases ho
                have e95 : A.eval (.tmp 95) = .slice (some ⟨g2, 0, none⟩) cn fc := (ev_in hA 95 5 rfl rfl rfl).trans (show fs 5 = .slice (some ⟨g2, 0, none⟩) cn fc from hu 5 (by decide))
                have e98 : A.eval (.tmp 98) = .int .i64 (fi : Int) := (ev_in hA 98 8 rfl rfl rfl).trans (show fs 8 = .int .i64 (fi : Int) from hu 8 (by decide))
                have hfc : fi < cn := by have := HLT.out; omega
                have q8 : ¬ ((cn : Int) ≤ (fi : Int)) := by omega
                have q9 : (fi : Int) < (cn : Int) := by omega
                refine ph_sem rfl rfl (r := .ok (.value (.pointer (some ⟨g2, fi * 2, none⟩))) W) ?_ (hK _ _ (gb_rr W _) rfl)
                have eC : ∀ c, A.eval (.const c) = c := fun _ => rfl; have eF : ∀ g, A.eval (.func g) = .func (.func g) #[] #[] := fun _ => rfl; generalize A.eval = ρ at *
                clear hA hu hg hK hin
                go_simp
              | 10, hin, ho, hu, hK =>
                cases ho
                have e99 : A.eval (.tmp 99) = .pointer (some ⟨g2, fi * 2, none⟩) := (ev_in hA 99 9 rfl rfl rfl).trans (show fs 9 = .pointer (some ⟨g2, fi * 2, none⟩) from hu 9 (by decide))
                exact ph_load rfl 43 _ rfl Tryd.underlying43 rfl g2 (fi * 2) [.int .i64 t, .slice vb c vd] (by kernel_rfl) e99 ((HRF.out W hg).2.2.1) (hK _ _ (gb_rr W _) rfl)
              | 11, hin, ho, hu, hK =>
                cases ho
                have e93 : A.eval (.tmp 93) = .agg #[.int .i64 t, .slice va c vc] := (ev_in hA 93 3 rfl rfl rfl).trans (show fs 3 = .agg #[.int .i64 t, .slice va c vc] from hu 3 (by decide))
                have e100 : A.eval (.tmp 100) = .agg #[.int .i64 t, .slice vb c vd] := (ev_in hA 100 10 rfl rfl rfl).trans (show fs 10 = .agg #[.int .i64 t, .slice vb c vd] from hu 10 (by decide))
                refine ph_fn 16 _ _ rfl rfl #[.agg #[.int .i64 t, .slice va c vc], .agg #[.int .i64 t, .slice vb c vd]] (by simp [e93, e100]) (by kernel_rfl) ?_
                refine (Calls.mono (HRF.out W hg).2.2.2 ?_)
                rintro e W' ⟨rfl, hq⟩
                exact ⟨_, rfl, hK _ _ hq rfl⟩
              | i + 12, hin, ho, hu, hK => omega
            case last =>
              intro fs W A hA hg hu o ho K hK
              cases ho
              have e101 : A.eval (.tmp 101) = .bool true := (ev_in hA 101 11 rfl rfl rfl).trans (show fs 11 = .bool true from hu 11 (by decide))
              have HW : Hid (w8.grownBy W none) := gb_trans HG.out hg
              refine ph_sem rfl rfl (r := .ok (.value (.bool false)) W) ?_ (hK _ _ ?_)
              · have eC : ∀ c, A.eval (.const c) = c := fun _ => rfl
                generalize A.eval = ρ at *
                clear hA hu hg hK
                go_simp
              have hA2 := hA.trans (putAll_lit [(.slice (some ⟨g, 0, none⟩) gn gc), (.int .i64 (ix : Int)), (.pointer (some ⟨g, ix * 2, none⟩)), (.agg #[.int .i64 t, .slice va c vc]), (.pointer (some ⟨R, 0, none⟩)), (.slice (some ⟨g2, 0, none⟩) cn fc), (.int .i64 (fo : Int)), (.int .i64 (ix : Int)), (.int .i64 (fi : Int)), (.pointer (some ⟨g2, fi * 2, none⟩)), (.agg #[.int .i64 t, .slice vb c vd]), (.bool true), (fs 12)] (by
                intro j hj
                match j, hj with
                | 0, _ => exact hu 0 (by decide)
                | 1, _ => exact hu 1 (by decide)
                | 2, _ => exact hu 2 (by decide)
                | 3, _ => exact hu 3 (by decide)
                | 4, _ => exact hu 4 (by decide)
                | 5, _ => exact hu 5 (by decide)
                | 6, _ => exact hu 6 (by decide)
                | 7, _ => exact hu 7 (by decide)
                | 8, _ => exact hu 8 (by decide)
                | 9, _ => exact hu 9 (by decide)
                | 10, _ => exact hu 10 (by decide)
                | 11, _ => exact hu 11 (by decide)
                | 12, _ => rfl
                | j + 13, hj => exact absurd hj (by simp)))
              clear hu hA
              subst hA2
              simp only [putAll, putL, List.mem_cons, List.not_mem_nil, List.idxOf_cons, Nat.reduceEqDiff, Nat.reduceBEq, Nat.reduceAdd, or_false, or_true, reduceIte, cond_true, cond_false, List.getD_cons_zero, List.getD_cons_succ, BEq.rfl]
              clear e101 hg
              go_wp2_with fail
              go_roundw
              case rel => exact ⟨ix + 1, HLT.out.1, by go_num, HW.out⟩
              case measure => have := HLT.out; simp [intOf]; omega
          · have hci : ¬ ((ix : Int) < (gn : Int)) := by omega
            have HAS : Hid (∀ W, wr.grownBy W none → W.cell? ⟨P, 2, none⟩ = some (.bool ak) ∧ Sb W R (.slice fa cn fc) pS jS lS ∧ (Calls Tryd.prog 17 #[.pointer (some ⟨S, 0, none⟩)] W fun r w' => r = .returned (.int .i64 (rn : Int)) ∧ W.grownBy w' none) ∧ (Calls Tryd.prog 18 #[.pointer (some ⟨S, 0, none⟩)] W fun r w' => r = .returned (.int .i64 (J : Int)) ∧ W.grownBy w' none) ∧ (Calls Tryd.prog 19 #[.pointer (some ⟨S, 0, none⟩)] W fun r w' => r = .returned (.int .i64 (Lo : Int)) ∧ W.grownBy w' none)) := fun W hg => by
              have hgW := gb_trans HG.out hg
              have hMW := HM8.out.gb hgW
              exact ⟨(HBK.out W hgW).1.cell 2, (HBK.out W hgW).2, by have := ss_waits hMW.ss (by decide); rw [← hMW.rn] at this; exact this, ss_junk hMW.ss, ss_lost hMW.ss⟩
            go_wp2_with fail
            cases ak with
            | true =>
              refine wp_region_lastR (fun a b => World.grownBy a b none) (fun _ _ _ h k => gb_trans h k) ⟨rfl, rfl, rfl, Nat.le_refl _, fun _ _ _ => rfl⟩ 29 rfl (by kernel_rfl) [106, 107, 108, 109, 110, 111, 112, 113, 114, 115, 116, 117, 118, 119, 120, 121, 122, 123, 124, 125, 126, 127, 128, 129, 130, 131, 132, 133, 134, 135] [[], [0], [1], [2], [3, 2], [2], [5, 2], [2], [7, 2], [6, 8, 2], [4, 9, 2], [10, 2], [11], [12, 11], [11], [11], [15, 11], [14, 16, 11], [13, 17, 11], [11, 18, 2], [19, 2], [20], [21, 20], [20], [20], [24, 20], [23, 25, 20], [22, 26, 20], [20, 27, 2], [2, 28]] (by kernel_rfl) (by kernel_rfl) [fun u W => u = .pointer (some ⟨P, 2, none⟩), fun u W => u = .bool true, fun u W => u = .bool true, fun u W => u = .pointer (some ⟨S, 0, none⟩), fun u W => u = .int .i64 (rn : Int), fun u W => u = .slice sa sn sc, fun u W => u = .int .i64 (sn : Int), fun u W => u = .pointer (some ⟨R, 1, none⟩), fun u W => u = .int .i64 (pS : Int), fun u W => u = .int .i64 (rn : Int), fun u W => u = .bool false, fun u W => u = .bool false, fun u W => u = .pointer (some ⟨S, 0, none⟩), fun u W => u = .int .i64 (J : Int), fun u W => u = .int .i64 (jn : Int), fun u W => u = .pointer (some ⟨R, 2, none⟩), fun u W => u = .int .i64 (jS : Int), fun u W => u = .int .i64 (J : Int), fun u W => u = .bool false, fun u W => u = .bool false, fun u W => u = .bool false, fun u W => u = .pointer (some ⟨S, 0, none⟩), fun u W => u = .int .i64 (Lo : Int), fun u W => u = .int .i64 (lo : Int), fun u W => u = .pointer (some ⟨R, 3, none⟩), fun u W => u = .int .i64 (lS : Int), fun u W => u = .int .i64 (Lo : Int), fun u W => u = .bool false, fun u W => u = .bool false] ?stable ?step ?last
              case stable =>
                intro i v W W' h hg
                match i, h with
                | 0, h => exact h
                | 1, h => exact h
                | 2, h => exact h
                | 3, h => exact h
                | 4, h => exact h
                | 5, h => exact h
                | 6, h => exact h
                | 7, h => exact h
                | 8, h => exact h
                | 9, h => exact h
                | 10, h => exact h
                | 11, h => exact h
                | 12, h => exact h
                | 13, h => exact h
                | 14, h => exact h
                | 15, h => exact h
                | 16, h => exact h
                | 17, h => exact h
                | 18, h => exact h
                | 19, h => exact h
                | 20, h => exact h
                | 21, h => exact h
                | 22, h => exact h
                | 23, h => exact h
                | 24, h => exact h
                | 25, h => exact h
                | 26, h => exact h
                | 27, h => exact h
                | 28, h => exact h
                | i + 29, h => exact trivial
              case step =>
                intro fs W A hA hg i o hin ho hu K hK
                match i, hin, ho, hu, hK with
                | 0, hin, ho, hu, hK =>
                  cases ho
                  have e12 : A.eval (.tmp 12) = .pointer (some ⟨P, 0, none⟩) := ev_out hA 12 rfl
                  exact ph_field _ _ _ rfl rfl _ (.pointer (some ⟨P, 2, none⟩)) e12 (by kernel_rfl) (hK _ _ (gb_rr W _) rfl)
                | 1, hin, ho, hu, hK =>
                  cases ho
                  have e106 : A.eval (.tmp 106) = .pointer (some ⟨P, 2, none⟩) := (ev_in hA 106 0 rfl rfl rfl).trans (show fs 0 = .pointer (some ⟨P, 2, none⟩) from hu 0 (by decide))
                  have hc : W.cell? ⟨P, 2, none⟩ = some (.bool true) := (HAS.out W hg).1
                  refine ph_sem rfl rfl (r := .ok (.value (.bool true)) W) ?_ (hK _ _ (gb_rr W _) rfl)
                  have eC : ∀ c, A.eval (.const c) = c := fun _ => rfl; have eF : ∀ g, A.eval (.func g) = .func (.func g) #[] #[] := fun _ => rfl; generalize A.eval = ρ at *
                  clear hA hu hg
                  go_simp
                | 2, hin, ho, hu, hK =>
                  cases ho
                  have e107 : A.eval (.tmp 107) = .bool true := (ev_in hA 107 1 rfl rfl rfl).trans (show fs 1 = .bool true from hu 1 (by decide))
                  exact ph_move _ rfl rfl (.bool true) e107 (hK _ _ (gb_rr W _) rfl)
                | 3, hin, ho, hu, hK =>
                  cases ho
                  have e5 : A.eval (.tmp 5) = .pointer (some ⟨S, 0, none⟩) := ev_out hA 5 rfl
                  have e108 : A.eval (.tmp 108) = .bool true := (ev_in hA 108 2 rfl rfl rfl).trans (show fs 2 = .bool true from hu 2 (by decide))
                  exact ph_move _ rfl (wanted_in hA 2 true rfl 108 rfl rfl e108) (.pointer (some ⟨S, 0, none⟩)) e5 (hK _ _ (gb_rr W _) rfl)
                | 4, hin, ho, hu, hK =>
                  cases ho
                  have e109 : A.eval (.tmp 109) = .pointer (some ⟨S, 0, none⟩) := (ev_in hA 109 3 rfl rfl rfl).trans (show fs 3 = .pointer (some ⟨S, 0, none⟩) from hu 3 (by decide))
                  have e108 : A.eval (.tmp 108) = .bool true := (ev_in hA 108 2 rfl rfl rfl).trans (show fs 2 = .bool true from hu 2 (by decide))
                  refine ph_fn 17 _ _ rfl (wanted_in hA 2 true rfl 108 rfl rfl e108) #[.pointer (some ⟨S, 0, none⟩)] (by simp [e109]) (by kernel_rfl) ?_
                  refine (Calls.mono (HAS.out W hg).2.2.1 ?_)
                  rintro e W' ⟨rfl, hq⟩
                  exact ⟨_, rfl, hK _ _ hq rfl⟩
                | 5, hin, ho, hu, hK =>
                  cases ho
                  have e7 : A.eval (.tmp 7) = .slice sa sn sc := ev_out hA 7 rfl
                  have e108 : A.eval (.tmp 108) = .bool true := (ev_in hA 108 2 rfl rfl rfl).trans (show fs 2 = .bool true from hu 2 (by decide))
                  exact ph_move _ rfl (wanted_in hA 2 true rfl 108 rfl rfl e108) (.slice sa sn sc) e7 (hK _ _ (gb_rr W _) rfl)
                | 6, hin, ho, hu, hK =>
                  cases ho
                  have e111 : A.eval (.tmp 111) = .slice sa sn sc := (ev_in hA 111 5 rfl rfl rfl).trans (show fs 5 = .slice sa sn sc from hu 5 (by decide))
                  have e108 : A.eval (.tmp 108) = .bool true := (ev_in hA 108 2 rfl rfl rfl).trans (show fs 2 = .bool true from hu 2 (by decide))
                  refine ph_sem rfl (wanted_in hA 2 true rfl 108 rfl rfl e108) (r := .ok (.value (.int .i64 (sn : Int))) W) ?_ (hK _ _ (gb_rr W _) rfl)
                  have eC : ∀ c, A.eval (.const c) = c := fun _ => rfl; have eF : ∀ g, A.eval (.func g) = .func (.func g) #[] #[] := fun _ => rfl; generalize A.eval = ρ at *
                  clear hA hu hg hK hin
                  go_simp
                | 7, hin, ho, hu, hK =>
                  cases ho
                  have e15 : A.eval (.tmp 15) = .pointer (some ⟨R, 0, none⟩) := ev_out hA 15 rfl
                  have e108 : A.eval (.tmp 108) = .bool true := (ev_in hA 108 2 rfl rfl rfl).trans (show fs 2 = .bool true from hu 2 (by decide))
                  exact ph_field _ _ _ rfl (wanted_in hA 2 true rfl 108 rfl rfl e108) _ (.pointer (some ⟨R, 1, none⟩)) e15 (by kernel_rfl) (hK _ _ (gb_rr W _) rfl)
                | 8, hin, ho, hu, hK =>
                  cases ho
                  have e113 : A.eval (.tmp 113) = .pointer (some ⟨R, 1, none⟩) := (ev_in hA 113 7 rfl rfl rfl).trans (show fs 7 = .pointer (some ⟨R, 1, none⟩) from hu 7 (by decide))
                  have e108 : A.eval (.tmp 108) = .bool true := (ev_in hA 108 2 rfl rfl rfl).trans (show fs 2 = .bool true from hu 2 (by decide))
                  have hc : W.cell? ⟨R, 1, none⟩ = some (.int .i64 (pS : Int)) := (HAS.out W hg).2.1.cells.2.1
                  refine ph_sem rfl (wanted_in hA 2 true rfl 108 rfl rfl e108) (r := .ok (.value (.int .i64 (pS : Int))) W) ?_ (hK _ _ (gb_rr W _) rfl)
                  have eC : ∀ c, A.eval (.const c) = c := fun _ => rfl; have eF : ∀ g, A.eval (.func g) = .func (.func g) #[] #[] := fun _ => rfl; generalize A.eval = ρ at *
                  clear hA hu hg
                  go_simp
                | 9, hin, ho, hu, hK =>
                  cases ho
                  have e112 : A.eval (.tmp 112) = .int .i64 (sn : Int) := (ev_in hA 112 6 rfl rfl rfl).trans (show fs 6 = .int .i64 (sn : Int) from hu 6 (by decide))
                  have e114 : A.eval (.tmp 114) = .int .i64 (pS : Int) := (ev_in hA 114 8 rfl rfl rfl).trans (show fs 8 = .int .i64 (pS : Int) from hu 8 (by decide))
                  have e108 : A.eval (.tmp 108) = .bool true := (ev_in hA 108 2 rfl rfl rfl).trans (show fs 2 = .bool true from hu 2 (by decide))
                  have z3 := HAR.out.1
                  have z4 := HAR.out.2.1
                  refine ph_sem rfl (wanted_in hA 2 true rfl 108 rfl rfl e108) (r := .ok (.value (.int .i64 (rn : Int))) W) ?_ (hK _ _ (gb_rr W _) rfl)
                  have eC : ∀ c, A.eval (.const c) = c := fun _ => rfl; have eF : ∀ g, A.eval (.func g) = .func (.func g) #[] #[] := fun _ => rfl; generalize A.eval = ρ at *
                  clear hA hu hg hK hin
                  go_simp
                | 10, hin, ho, hu, hK =>
                  cases ho
                  have e110 : A.eval (.tmp 110) = .int .i64 (rn : Int) := (ev_in hA 110 4 rfl rfl rfl).trans (show fs 4 = .int .i64 (rn : Int) from hu 4 (by decide))
                  have e115 : A.eval (.tmp 115) = .int .i64 (rn : Int) := (ev_in hA 115 9 rfl rfl rfl).trans (show fs 9 = .int .i64 (rn : Int) from hu 9 (by decide))
                  have e108 : A.eval (.tmp 108) = .bool true := (ev_in hA 108 2 rfl rfl rfl).trans (show fs 2 = .bool true from hu 2 (by decide))
                  refine ph_sem rfl (wanted_in hA 2 true rfl 108 rfl rfl e108) (r := .ok (.value (.bool false)) W) ?_ (hK _ _ (gb_rr W _) rfl)
                  have eC : ∀ c, A.eval (.const c) = c := fun _ => rfl; have eF : ∀ g, A.eval (.func g) = .func (.func g) #[] #[] := fun _ => rfl; generalize A.eval = ρ at *
                  clear hA hu hg hK hin
                  go_simp
                | 11, hin, ho, hu, hK =>
                  cases ho
                  have e116 : A.eval (.tmp 116) = .bool false := (ev_in hA 116 10 rfl rfl rfl).trans (show fs 10 = .bool false from hu 10 (by decide))
                  have e108 : A.eval (.tmp 108) = .bool true := (ev_in hA 108 2 rfl rfl rfl).trans (show fs 2 = .bool true from hu 2 (by decide))
                  exact ph_move _ rfl (wanted_in hA 2 true rfl 108 rfl rfl e108) (.bool false) e116 (hK _ _ (gb_rr W _) rfl)
                | 12, hin, ho, hu, hK =>
                  cases ho
                  have e5 : A.eval (.tmp 5) = .pointer (some ⟨S, 0, none⟩) := ev_out hA 5 rfl
                  have e117 : A.eval (.tmp 117) = .bool false := (ev_in hA 117 11 rfl rfl rfl).trans (show fs 11 = .bool false from hu 11 (by decide))
                  exact ph_move _ rfl (wanted_in hA 11 false rfl 117 rfl rfl e117) (.pointer (some ⟨S, 0, none⟩)) e5 (hK _ _ (gb_rr W _) rfl)
                | 13, hin, ho, hu, hK =>
                  cases ho
                  have e118 : A.eval (.tmp 118) = .pointer (some ⟨S, 0, none⟩) := (ev_in hA 118 12 rfl rfl rfl).trans (show fs 12 = .pointer (some ⟨S, 0, none⟩) from hu 12 (by decide))
                  have e117 : A.eval (.tmp 117) = .bool false := (ev_in hA 117 11 rfl rfl rfl).trans (show fs 11 = .bool false from hu 11 (by decide))
                  refine ph_fn 18 _ _ rfl (wanted_in hA 11 false rfl 117 rfl rfl e117) #[.pointer (some ⟨S, 0, none⟩)] (by simp [e118]) (by kernel_rfl) ?_
                  refine (Calls.mono (HAS.out W hg).2.2.2.1 ?_)
                  rintro e W' ⟨rfl, hq⟩
                  exact ⟨_, rfl, hK _ _ hq rfl⟩
                | 14, hin, ho, hu, hK =>
                  cases ho
                  have e9 : A.eval (.tmp 9) = .int .i64 (jn : Int) := ev_out hA 9 rfl
                  have e117 : A.eval (.tmp 117) = .bool false := (ev_in hA 117 11 rfl rfl rfl).trans (show fs 11 = .bool false from hu 11 (by decide))
                  exact ph_move _ rfl (wanted_in hA 11 false rfl 117 rfl rfl e117) (.int .i64 (jn : Int)) e9 (hK _ _ (gb_rr W _) rfl)
                | 15, hin, ho, hu, hK =>
                  cases ho
                  have e15 : A.eval (.tmp 15) = .pointer (some ⟨R, 0, none⟩) := ev_out hA 15 rfl
                  have e117 : A.eval (.tmp 117) = .bool false := (ev_in hA 117 11 rfl rfl rfl).trans (show fs 11 = .bool false from hu 11 (by decide))
                  exact ph_field _ _ _ rfl (wanted_in hA 11 false rfl 117 rfl rfl e117) _ (.pointer (some ⟨R, 2, none⟩)) e15 (by kernel_rfl) (hK _ _ (gb_rr W _) rfl)
                | 16, hin, ho, hu, hK =>
                  cases ho
                  have e121 : A.eval (.tmp 121) = .pointer (some ⟨R, 2, none⟩) := (ev_in hA 121 15 rfl rfl rfl).trans (show fs 15 = .pointer (some ⟨R, 2, none⟩) from hu 15 (by decide))
                  have e117 : A.eval (.tmp 117) = .bool false := (ev_in hA 117 11 rfl rfl rfl).trans (show fs 11 = .bool false from hu 11 (by decide))
                  have hc : W.cell? ⟨R, 2, none⟩ = some (.int .i64 (jS : Int)) := (HAS.out W hg).2.1.cells.2.2.1
                  refine ph_sem rfl (wanted_in hA 11 false rfl 117 rfl rfl e117) (r := .ok (.value (.int .i64 (jS : Int))) W) ?_ (hK _ _ (gb_rr W _) rfl)
                  have eC : ∀ c, A.eval (.const c) = c := fun _ => rfl; have eF : ∀ g, A.eval (.func g) = .func (.func g) #[] #[] := fun _ => rfl; generalize A.eval = ρ at *
                  clear hA hu hg
                  go_simp
                | 17, hin, ho, hu, hK =>
                  cases ho
                  have e120 : A.eval (.tmp 120) = .int .i64 (jn : Int) := (ev_in hA 120 14 rfl rfl rfl).trans (show fs 14 = .int .i64 (jn : Int) from hu 14 (by decide))
                  have e122 : A.eval (.tmp 122) = .int .i64 (jS : Int) := (ev_in hA 122 16 rfl rfl rfl).trans (show fs 16 = .int .i64 (jS : Int) from hu 16 (by decide))
                  have e117 : A.eval (.tmp 117) = .bool false := (ev_in hA 117 11 rfl rfl rfl).trans (show fs 11 = .bool false from hu 11 (by decide))
                  have z3 := HAR.out.2.2.1
                  have z4 := HAR.out.2.2.2.1
                  refine ph_sem rfl (wanted_in hA 11 false rfl 117 rfl rfl e117) (r := .ok (.value (.int .i64 (J : Int))) W) ?_ (hK _ _ (gb_rr W _) rfl)
                  have eC : ∀ c, A.eval (.const c) = c := fun _ => rfl; have eF : ∀ g, A.eval (.func g) = .func (.func g) #[] #[] := fun _ => rfl; generalize A.eval = ρ at *
                  clear hA hu hg hK hin
                  go_simp
                | 18, hin, ho, hu, hK =>
                  cases ho
                  have e119 : A.eval (.tmp 119) = .int .i64 (J : Int) := (ev_in hA 119 13 rfl rfl rfl).trans (show fs 13 = .int .i64 (J : Int) from hu 13 (by decide))
                  have e123 : A.eval (.tmp 123) = .int .i64 (J : Int) := (ev_in hA 123 17 rfl rfl rfl).trans (show fs 17 = .int .i64 (J : Int) from hu 17 (by decide))
                  have e117 : A.eval (.tmp 117) = .bool false := (ev_in hA 117 11 rfl rfl rfl).trans (show fs 11 = .bool false from hu 11 (by decide))
                  refine ph_sem rfl (wanted_in hA 11 false rfl 117 rfl rfl e117) (r := .ok (.value (.bool false)) W) ?_ (hK _ _ (gb_rr W _) rfl)
                  have eC : ∀ c, A.eval (.const c) = c := fun _ => rfl; have eF : ∀ g, A.eval (.func g) = .func (.func g) #[] #[] := fun _ => rfl; generalize A.eval = ρ at *
                  clear hA hu hg hK hin
                  go_simp
                | 19, hin, ho, hu, hK =>
                  cases ho
                  have e117 : A.eval (.tmp 117) = .bool false := (ev_in hA 117 11 rfl rfl rfl).trans (show fs 11 = .bool false from hu 11 (by decide))
                  have e124 : A.eval (.tmp 124) = .bool false := (ev_in hA 124 18 rfl rfl rfl).trans (show fs 18 = .bool false from hu 18 (by decide))
                  have e108 : A.eval (.tmp 108) = .bool true := (ev_in hA 108 2 rfl rfl rfl).trans (show fs 2 = .bool true from hu 2 (by decide))
                  exact ph_pick _ _ _ rfl (wanted_in hA 2 true rfl 108 rfl rfl e108) false (.bool true) (.bool false) e117 rfl e124 (hK _ _ (gb_rr W _) rfl)
                | 20, hin, ho, hu, hK =>
                  cases ho
                  have e125 : A.eval (.tmp 125) = .bool false := (ev_in hA 125 19 rfl rfl rfl).trans (show fs 19 = .bool false from hu 19 (by decide))
                  have e108 : A.eval (.tmp 108) = .bool true := (ev_in hA 108 2 rfl rfl rfl).trans (show fs 2 = .bool true from hu 2 (by decide))
                  exact ph_move _ rfl (wanted_in hA 2 true rfl 108 rfl rfl e108) (.bool false) e125 (hK _ _ (gb_rr W _) rfl)
                | 21, hin, ho, hu, hK =>
                  cases ho
                  have e5 : A.eval (.tmp 5) = .pointer (some ⟨S, 0, none⟩) := ev_out hA 5 rfl
                  have e126 : A.eval (.tmp 126) = .bool false := (ev_in hA 126 20 rfl rfl rfl).trans (show fs 20 = .bool false from hu 20 (by decide))
                  exact ph_move _ rfl (wanted_in hA 20 false rfl 126 rfl rfl e126) (.pointer (some ⟨S, 0, none⟩)) e5 (hK _ _ (gb_rr W _) rfl)
                | 22, hin, ho, hu, hK =>
                  cases ho
                  have e127 : A.eval (.tmp 127) = .pointer (some ⟨S, 0, none⟩) := (ev_in hA 127 21 rfl rfl rfl).trans (show fs 21 = .pointer (some ⟨S, 0, none⟩) from hu 21 (by decide))
                  have e126 : A.eval (.tmp 126) = .bool false := (ev_in hA 126 20 rfl rfl rfl).trans (show fs 20 = .bool false from hu 20 (by decide))
                  refine ph_fn 19 _ _ rfl (wanted_in hA 20 false rfl 126 rfl rfl e126) #[.pointer (some ⟨S, 0, none⟩)] (by simp [e127]) (by kernel_rfl) ?_
                  refine (Calls.mono (HAS.out W hg).2.2.2.2 ?_)
                  rintro e W' ⟨rfl, hq⟩
                  exact ⟨_, rfl, hK _ _ hq rfl⟩
                | 23, hin, ho, hu, hK =>
                  cases ho
                  have e10 : A.eval (.tmp 10) = .int .i64 (lo : Int) := ev_out hA 10 rfl
                  have e126 : A.eval (.tmp 126) = .bool false := (ev_in hA 126 20 rfl rfl rfl).trans (show fs 20 = .bool false from hu 20 (by decide))
                  exact ph_move _ rfl (wanted_in hA 20 false rfl 126 rfl rfl e126) (.int .i64 (lo : Int)) e10 (hK _ _ (gb_rr W _) rfl)
                | 24, hin, ho, hu, hK =>
                  cases ho
                  have e15 : A.eval (.tmp 15) = .pointer (some ⟨R, 0, none⟩) := ev_out hA 15 rfl
                  have e126 : A.eval (.tmp 126) = .bool false := (ev_in hA 126 20 rfl rfl rfl).trans (show fs 20 = .bool false from hu 20 (by decide))
                  exact ph_field _ _ _ rfl (wanted_in hA 20 false rfl 126 rfl rfl e126) _ (.pointer (some ⟨R, 3, none⟩)) e15 (by kernel_rfl) (hK _ _ (gb_rr W _) rfl)
                | 25, hin, ho, hu, hK =>
                  cases ho
                  have e130 : A.eval (.tmp 130) = .pointer (some ⟨R, 3, none⟩) := (ev_in hA 130 24 rfl rfl rfl).trans (show fs 24 = .pointer (some ⟨R, 3, none⟩) from hu 24 (by decide))
                  have e126 : A.eval (.tmp 126) = .bool false := (ev_in hA 126 20 rfl rfl rfl).trans (show fs 20 = .bool false from hu 20 (by decide))
                  have hc : W.cell? ⟨R, 3, none⟩ = some (.int .i64 (lS : Int)) := (HAS.out W hg).2.1.cells.2.2.2
                  refine ph_sem rfl (wanted_in hA 20 false rfl 126 rfl rfl e126) (r := .ok (.value (.int .i64 (lS : Int))) W) ?_ (hK _ _ (gb_rr W _) rfl)
                  have eC : ∀ c, A.eval (.const c) = c := fun _ => rfl; have eF : ∀ g, A.eval (.func g) = .func (.func g) #[] #[] := fun _ => rfl; generalize A.eval = ρ at *
                  clear hA hu hg
                  go_simp
                | 26, hin, ho, hu, hK =>
                  cases ho
                  have e129 : A.eval (.tmp 129) = .int .i64 (lo : Int) := (ev_in hA 129 23 rfl rfl rfl).trans (show fs 23 = .int .i64 (lo : Int) from hu 23 (by decide))
                  have e131 : A.eval (.tmp 131) = .int .i64 (lS : Int) := (ev_in hA 131 25 rfl rfl rfl).trans (show fs 25 = .int .i64 (lS : Int) from hu 25 (by decide))
                  have e126 : A.eval (.tmp 126) = .bool false := (ev_in hA 126 20 rfl rfl rfl).trans (show fs 20 = .bool false from hu 20 (by decide))
                  have z3 := HAR.out.2.2.2.2.1
                  have z4 := HAR.out.2.2.2.2.2
                  refine ph_sem rfl (wanted_in hA 20 false rfl 126 rfl rfl e126) (r := .ok (.value (.int .i64 (Lo : Int))) W) ?_ (hK _ _ (gb_rr W _) rfl)
                  have eC : ∀ c, A.eval (.const c) = c := fun _ => rfl; have eF : ∀ g, A.eval (.func g) = .func (.func g) #[] #[] := fun _ => rfl; generalize A.eval = ρ at *
                  clear hA hu hg hK hin
                  go_simp
                | 27, hin, ho, hu, hK =>
                  cases ho
                  have e128 : A.eval (.tmp 128) = .int .i64 (Lo : Int) := (ev_in hA 128 22 rfl rfl rfl).trans (show fs 22 = .int .i64 (Lo : Int) from hu 22 (by decide))
                  have e132 : A.eval (.tmp 132) = .int .i64 (Lo : Int) := (ev_in hA 132 26 rfl rfl rfl).trans (show fs 26 = .int .i64 (Lo : Int) from hu 26 (by decide))
                  have e126 : A.eval (.tmp 126) = .bool false := (ev_in hA 126 20 rfl rfl rfl).trans (show fs 20 = .bool false from hu 20 (by decide))
                  refine ph_sem rfl (wanted_in hA 20 false rfl 126 rfl rfl e126) (r := .ok (.value (.bool false)) W) ?_ (hK _ _ (gb_rr W _) rfl)
                  have eC : ∀ c, A.eval (.const c) = c := fun _ => rfl; have eF : ∀ g, A.eval (.func g) = .func (.func g) #[] #[] := fun _ => rfl; generalize A.eval = ρ at *
                  clear hA hu hg hK hin
                  go_simp
                | 28, hin, ho, hu, hK =>
                  cases ho
                  have e126 : A.eval (.tmp 126) = .bool false := (ev_in hA 126 20 rfl rfl rfl).trans (show fs 20 = .bool false from hu 20 (by decide))
                  have e133 : A.eval (.tmp 133) = .bool false := (ev_in hA 133 27 rfl rfl rfl).trans (show fs 27 = .bool false from hu 27 (by decide))
                  have e108 : A.eval (.tmp 108) = .bool true := (ev_in hA 108 2 rfl rfl rfl).trans (show fs 2 = .bool true from hu 2 (by decide))
                  exact ph_pick _ _ _ rfl (wanted_in hA 2 true rfl 108 rfl rfl e108) false (.bool true) (.bool false) e126 rfl e133 (hK _ _ (gb_rr W _) rfl)
                | i + 29, hin, ho, hu, hK => omega
              case last =>
                intro fs W A hA hg hu o ho K hK
                cases ho
                have e108 : A.eval (.tmp 108) = .bool true := (ev_in hA 108 2 rfl rfl rfl).trans (show fs 2 = .bool true from hu 2 (by decide))
                have e134 : A.eval (.tmp 134) = .bool false := (ev_in hA 134 28 rfl rfl rfl).trans (show fs 28 = .bool false from hu 28 (by decide))
                have HW : Hid (w8.grownBy W none) := gb_trans HG.out hg
                refine ph_sem rfl rfl (r := .ok (.value (.bool false)) W) ?_ (hK _ _ ?_)
                · have eC : ∀ c, A.eval (.const c) = c := fun _ => rfl
                  generalize A.eval = ρ at *
                  clear hA hu hg hK
                  go_simp
                have hA2 := hA.trans (putAll_lit [(.pointer (some ⟨P, 2, none⟩)), (.bool true), (.bool true), (.pointer (some ⟨S, 0, none⟩)), (.int .i64 (rn : Int)), (.slice sa sn sc), (.int .i64 (sn : Int)), (.pointer (some ⟨R, 1, none⟩)), (.int .i64 (pS : Int)), (.int .i64 (rn : Int)), (.bool false), (.bool false), (.pointer (some ⟨S, 0, none⟩)), (.int .i64 (J : Int)), (.int .i64 (jn : Int)), (.pointer (some ⟨R, 2, none⟩)), (.int .i64 (jS : Int)), (.int .i64 (J : Int)), (.bool false), (.bool false), (.bool false), (.pointer (some ⟨S, 0, none⟩)), (.int .i64 (Lo : Int)), (.int .i64 (lo : Int)), (.pointer (some ⟨R, 3, none⟩)), (.int .i64 (lS : Int)), (.int .i64 (Lo : Int)), (.bool false), (.bool false), (fs 29)] (by
                  intro j hj
                  match j, hj with
                  | 0, _ => exact hu 0 (by decide)
                  | 1, _ => exact hu 1 (by decide)
                  | 2, _ => exact hu 2 (by decide)
                  | 3, _ => exact hu 3 (by decide)
                  | 4, _ => exact hu 4 (by decide)
                  | 5, _ => exact hu 5 (by decide)
                  | 6, _ => exact hu 6 (by decide)
                  | 7, _ => exact hu 7 (by decide)
                  | 8, _ => exact hu 8 (by decide)
                  | 9, _ => exact hu 9 (by decide)
                  | 10, _ => exact hu 10 (by decide)
                  | 11, _ => exact hu 11 (by decide)
                  | 12, _ => exact hu 12 (by decide)
                  | 13, _ => exact hu 13 (by decide)
                  | 14, _ => exact hu 14 (by decide)
                  | 15, _ => exact hu 15 (by decide)
                  | 16, _ => exact hu 16 (by decide)
                  | 17, _ => exact hu 17 (by decide)
                  | 18, _ => exact hu 18 (by decide)
                  | 19, _ => exact hu 19 (by decide)
                  | 20, _ => exact hu 20 (by decide)
                  | 21, _ => exact hu 21 (by decide)
                  | 22, _ => exact hu 22 (by decide)
                  | 23, _ => exact hu 23 (by decide)
                  | 24, _ => exact hu 24 (by decide)
                  | 25, _ => exact hu 25 (by decide)
                  | 26, _ => exact hu 26 (by decide)
                  | 27, _ => exact hu 27 (by decide)
                  | 28, _ => exact hu 28 (by decide)
                  | 29, _ => rfl
                  | j + 30, hj => exact absurd hj (by simp)))
                clear hu hA
                subst hA2
                simp only [putAll, putL, List.mem_cons, List.not_mem_nil, List.idxOf_cons, Nat.reduceEqDiff, Nat.reduceBEq, Nat.reduceAdd, or_false, or_true, reduceIte, cond_true, cond_false, List.getD_cons_zero, List.getD_cons_succ, BEq.rfl]
                clear e108 e134 hg
                have m1 := (HBK.out W HW.out).1.cell 1
                have r2 := (HBK.out W HW.out).2.cells.2.2.1
                have r3 := (HBK.out W HW.out).2.cells.2.2.2
                have HNX : Hid (Fs w W B S most [] (.slice none 0 0) 0 0 J Lo Q2) := fs_anew (HM8.out.gb HW.out)
                simp at m1
                have z3 := HAR.out.2.2.1
                have z4 := HAR.out.2.2.2.1
                have z5 := HAR.out.2.2.2.2.1
                have z6 := HAR.out.2.2.2.2.2
                go_wp2_with fail
                go_quiet (fail)
                all_goals (go_wp2_with fail)
                go_roundw
                case rel => exact ⟨k + 1, 0, 0, 0, J, Lo, none, [], Q2, HLK.out, by go_num, rfl, rfl, rfl, rfl, HNX.out.below (gb_below (drewN_gb _ _)), fun i hi => absurd hi (by simp), HTT.out⟩
                case measure => have := HLK.out; simp [intOf]; omega
            | false =>
              have p2 := (HAS.out wr (World.grownBy.refl _ _)).1
              go_quiet (fail)
              obtain ⟨Wq, hWq⟩ : ∃ Wq, Wq = wr.drewN nq := ⟨_, rfl⟩
              rw [← hWq]
              have HW : Hid (w8.grownBy Wq none) := by rw [hWq]; exact gb_trans HG.out (drewN_gb wr nq)
              clear hWq
              have m1 := (HBK.out Wq HW.out).1.cell 1
              have r2 := (HBK.out Wq HW.out).2.cells.2.2.1
              have r3 := (HBK.out Wq HW.out).2.cells.2.2.2
              have HNX : Hid (Fs w Wq B S most [] (.slice none 0 0) 0 0 J Lo Q2) := fs_anew (HM8.out.gb HW.out)
              simp at m1
              have z3 := HAR.out.2.2.1
              have z4 := HAR.out.2.2.2.1
              have z5 := HAR.out.2.2.2.2.1
              have z6 := HAR.out.2.2.2.2.2
              go_wp2_with fail
              go_quiet (fail)
              all_goals (go_wp2_with fail)
              go_roundw
              case rel => exact ⟨k + 1, 0, 0, 0, J, Lo, none, [], Q2, HLK.out, by go_num, rfl, rfl, rfl, rfl, HNX.out.below (gb_below (drewN_gb _ _)), fun i hi => absurd hi (by simp), HTT.out⟩
              case measure => have := HLK.out; simp [intOf]; omega
      | false =>
        go_wp2_with (first
          | (refine wpList_load_mid rfl 30 (.tmp 50) rfl b (off + k * 3) rfl [.slice ua m uc, .bool false, .bool ak] _ (HW.out wr HF.out.1.bel).1 Tryd.underlying30 rfl (by kernel_rfl) ?_)
          | (refine wpList_store_bk 30 rfl (.tmp 12) (.tmp 51) rfl Tryd.infoStep wr.heap.size _ _ rfl rfl HZS.out rfl rfl (step_one _ _ _ _ _) ?_; intro w2 h1 h2; have H2 : Hid (Bk 30 w2 wr.heap.size #[.slice ua m uc, .bool false, .bool ak] ∧ Fs w w2 B S most st (.slice sa sn sc) sn fo jn lo Q) := ⟨h1, HF.out.1.below (grown_below h2)⟩; have c20 : w2.cell? ⟨wr.heap.size, 0, none⟩ = some (.slice ua m uc) := h1.cell 0; have c21 : w2.cell? ⟨wr.heap.size, 1, none⟩ = some (.bool false) := h1.cell 1; clear h1 h2)
          | (go_at_call 12; go_must (refine (Calls.mono (roomy_c ua m uc ys w2 HY.out.2.2.2.1 (HW.out w2 H2.out.2.bel).2.1 (by omega)) ?_)); rintro r w3 ⟨lg, lk, rfl, z1, z2, z3⟩; have H3 : Hid (Own w2.heap.size w3 (.slice (some ⟨lg, 0, none⟩) (m + 16) lk) (m + 16) (ys ++ marks) ∧ m + 16 ≤ lk ∧ Fs w w3 B S most st (.slice sa sn sc) sn fo jn lo Q ∧ Bk 30 w3 wr.heap.size #[.slice ua m uc, .bool false, .bool ak] ∧ w2.heap.size ≤ lg) := ⟨z1, z2, H2.out.2.below z3, H2.out.1.below z3 (lt_of_block H2.out.1), (own_lt z1 lg rfl).1⟩; clear z1 z2 z3)
          | (go_at_call 13; go_must (refine (Calls.mono (feed_c Q w3 S _ most _ _ (some ⟨lg, 0, none⟩) m lk ys H3.out.2.2.1.ss (idle_rest most st) (by obtain ⟨_, _, e, z, _⟩ := H3.out.1.seg; cases e; exact z.front HY.out.2.1) HY.out.1 (by have := H3.out.2.1; omega) (fun _ b' o' s' e z => by cases e; have := HQ0.out.2 _ z; have := H3.out.2.2.2.2; have := lt_of_block H2.out.1; omega) (HW.out w3 H3.out.2.2.1.bel).2.2 HQ0.out.1 hm (by omega) (by obtain ⟨T, t1, t2, t3⟩ := HT1.out; have := fseen_small most false _ st (Nat.le_refl _); omega) (by obtain ⟨T, t1, t2, t3⟩ := HT1.out; have := fseen_small most false _ st (Nat.le_refl _); omega)) ?_)); intro r w4 hcl; go_loud (obtain ⟨ga, gc, gn, LG, Q2, rfl, hfd, hgr⟩ := md_feed H3.out.2.2.1 hcl; have H4 : Hid (Fd w w4 B S most st ys (.slice sa sn sc) sn (.slice ga gn gc) gn LG fo jn lo Q2 ∧ Bk 30 w4 wr.heap.size #[.slice ua m uc, .bool false, .bool ak] ∧ Own w2.heap.size w4 (.slice (some ⟨lg, 0, none⟩) (m + 16) lk) (m + 16) (ys ++ marks)) := ⟨hfd, Bk.gr H3.out.2.2.2.1 hgr (fun z => by have := HQ0.out.2 _ z; omega), own_gr H3.out.1 hgr (fun k' e z => by have e' : lg = k' := Option.some.inj e; have := HQ0.out.2 _ z; have := H3.out.2.2.2.2; have := lt_of_block H2.out.1; omega)⟩; have c40 : w4.cell? ⟨wr.heap.size, 0, none⟩ = some (.slice ua m uc) := H4.out.2.1.cell 0; clear hcl hfd hgr))
          | (go_at_call 14; go_must (refine (Calls.mono (kept_c lg m lk ys ua uc w4 (by obtain ⟨_, _, e, z, _⟩ := H4.out.2.2.seg; cases e; exact z) H3.out.2.1 (HW.out w4 H4.out.1.bel).2.1 HY.out.1 (by omega)) ?_)); rintro r w5 ⟨rfl, hb5⟩; have H5 : Hid (Fd w w5 B S most st ys (.slice sa sn sc) sn (.slice ga gn gc) gn LG fo jn lo Q2 ∧ Bk 30 w5 wr.heap.size #[.slice ua m uc, .bool false, .bool ak]) := ⟨H4.out.1.below hb5, H4.out.2.1.below hb5 (lt_of_block H4.out.2.1)⟩; have c50 : w5.cell? ⟨wr.heap.size, 0, none⟩ = some (.slice ua m uc) := H5.out.2.cell 0; clear hb5)
          | (at_builtin; go_must (refine wpList_append_apart _ rfl (.tmp 67) (.tmp 69) rfl B sn (.slice sa sn sc) st rfl H5.out.1.own ua m uc ys rfl HY.out.2.2.2.1 (HW.out w5 H5.out.1.bel).2.1 (by omega) H5.out.1.sz ?_); intro v' w6 y1 y2 y3; obtain ⟨sm, hsm⟩ : ∃ sm, sm = sn + m := ⟨_, rfl⟩; obtain ⟨sb, sd, rn, J, Lo, ev, hmd⟩ := md_app hsm H5.out.1 y1 y2 (fun k' e => y3.imp (fun q => by rw [← q]; exact e) (fun q => by rw [q] at e; cases e; exact Nat.le_refl _)); obtain ⟨st2, hst2⟩ : ∃ st2, st2 = st ++ ys := ⟨_, rfl⟩; rw [← hst2] at hmd; have HM : Hid (Md w w6 B S most false st2 (.slice sb sm sd) sm (.slice ga gn gc) gn LG fo jn lo rn J Lo Q2) := hmd; have HP6 : Hid (Bk 30 w6 wr.heap.size #[.slice ua m uc, .bool false, .bool ak]) := H5.out.2.grew y2 (fun e => by have := (own_lt HF.out.1.own _ e).2; omega); have c61 : w6.cell? ⟨wr.heap.size, 1, none⟩ = some (.bool false) := HP6.out.cell 1; have HB2 : Hid (Bytes st2) := (by rw [hst2]; exact bytes_append HF.out.2.1 HY.out.1); have HT2 : Hid (∃ T, jn ≤ T ∧ lo ≤ T ∧ T + st2.length + stsW (X.drop (k + 1)) ≤ 1048576) := (by obtain ⟨T, t1, t2, t3⟩ := HT1.out; rw [hst2, List.length_append, HY.out.2.1]; exact ⟨T, t1, t2, by omega⟩); subst ev; clear y1 y2 y3 hmd hst2 hsm)
          | (go_at_call 15; go_must (refine (Calls.mono (HSR.out w6 false sb sm sd st2 HM.out.own HB2.out (by obtain ⟨T, t1, t2, t3⟩ := HT2.out; have := own_ln HM.out.own; omega)) ?_)); rintro r w7 ⟨fa, fc, cn, LS, pS, jS, lS, rfl, z1, z2⟩; go_loud ( have H7 : Hid (LS.length = cn ∧ StA most false st2 w6 w7 (.slice fa cn fc) LS pS jS lS) := ⟨z1, z2⟩; clear z1 z2; have HML : Hid (cn = fo + gn ∧ cn = (fseen most false st2).frames.length ∧ pS + rn = sm ∧ J = jn + jS ∧ Lo = lo + lS ∧ st2.length = sm ∧ jS ≤ st2.length ∧ lS ≤ st2.length ∧ cn ≤ st2.length ∧ sm ≤ 1048576 ∧ jn ≤ 1048576 ∧ lo ≤ 1048576) := (by have q := md_len HM.out H7.out.2; rw [H7.out.1] at q; obtain ⟨T, t1, t2, t3⟩ := HT2.out; show _ ∧ _; omega); have q1 : IntKind.i64.wrap ((cn : Int) - (fo : Int)) = (gn : Int) := (by have := HML.out; rw [IntWalk.i64_in _ ⟨by omega, by omega⟩]; omega); have q2 : wrap64 ((cn : Int) - (fo : Int)) = (gn : Int) := (by have := HML.out; rw [IntWalk.wrap64_in _ ⟨by omega, by omega⟩]; omega); have HZ7 : Hid _ := sb_new w7))
          | (refine wpList_store_bk 38 rfl (.tmp 15) (.tmp 75) rfl Tryd.infoSeen w7.heap.size _ _ rfl rfl HZ7.out rfl rfl (seen_one _ _ _ _ _ _) ?_; intro w8 h1 h2; have H8 : Hid (Sb w8 w7.heap.size (.slice fa cn fc) pS jS lS ∧ Below w7.heap.size w7 w8) := ⟨h1, grown_below h2⟩; have s0 := H8.out.1.cells.1; clear h1 h2))
        obtain ⟨P, hP⟩ : ∃ P, P = wr.heap.size := ⟨_, rfl⟩
        rw [← hP] at HP6 ⊢
        obtain ⟨R, hR⟩ : ∃ R, R = w7.heap.size := ⟨_, rfl⟩
        rw [← hR]
        have b68 : Below w6.heap.size w6 w8 := by
          have z := H7.out.2.bel
          exact z.trans (H8.out.2.mono z.size)
        have HM8 : Hid (Md w w8 B S most false st2 (.slice sb sm sd) sm (.slice ga gn gc) gn LG fo jn lo rn J Lo Q2) := HM.out.gb (gb_of b68)
        have HBK : Hid (∀ W, w8.grownBy W none → Bk 30 W P #[.slice ua m uc, .bool false, .bool ak] ∧ Sb W R (.slice fa cn fc) pS jS lS) := fun W hg => by
          have z := H8.out.1
          rw [← hR] at z
          exact ⟨(HP6.out.below b68 (lt_of_block HP6.out)).grew hg (by simp), Bk.grew z hg (by simp)⟩
        have HLS : Hid (∀ W, w8.grownBy W none → GrL (fun k => w6.heap.size + 2 ≤ k) W (.slice fa cn fc) LS) := fun W hg => (H7.out.2.mem.gr (Gr.ofB (G := fun _ => False) H8.out.2) (fun _ _ z => z)).gr (Gr.of (G := fun _ => False) hg (by simp)) (fun _ _ z => z)
        have HSA : Hid (StA most false st2 w6 w7 (.slice fa cn fc) LS pS jS lS ∧ LS.length = cn) := ⟨H7.out.2, H7.out.1⟩
        have HAR : Hid (IntKind.i64.wrap ((sm : Int) - (pS : Int)) = (rn : Int) ∧ wrap64 ((sm : Int) - (pS : Int)) = (rn : Int) ∧ IntKind.i64.wrap ((jn : Int) + (jS : Int)) = (J : Int) ∧ wrap64 ((jn : Int) + (jS : Int)) = (J : Int) ∧ IntKind.i64.wrap ((lo : Int) + (lS : Int)) = (Lo : Int) ∧ wrap64 ((lo : Int) + (lS : Int)) = (Lo : Int)) := by
          have := HML.out
          refine ⟨?_, ?_, ?_, ?_, ?_, ?_⟩
          · rw [IntWalk.i64_in _ ⟨by omega, by omega⟩]; omega
          · rw [IntWalk.wrap64_in _ ⟨by omega, by omega⟩]; omega
          · rw [IntWalk.i64_in _ ⟨by omega, by omega⟩]; omega
          · rw [IntWalk.wrap64_in _ ⟨by omega, by omega⟩]; omega
          · rw [IntWalk.i64_in _ ⟨by omega, by omega⟩]; omega
          · rw [IntWalk.wrap64_in _ ⟨by omega, by omega⟩]; omega
        have HFC : Hid (cn = (fseen most false st2).frames.length) := HML.out.2.1
        have HTT : Hid (∃ T, jn ≤ T ∧ lo ≤ T ∧ T + st2.length + stsW (X.drop (k + 1)) ≤ 1048576) := by
          have := HML.out
          exact HT2.out
        have hcn : cn ≤ 1048576 := by have := HML.out; omega
        have hgc : fo + gn = cn := by have := HML.out; omega
        have HGC : Hid (fo + gn = cn ∧ cn ≤ 1048576) := ⟨hgc, hcn⟩
        have hgb : gn ≤ 1048576 := by omega
        clear hgc H7 HZ7 H8 b68 hR HM HP6 s0 q1 q2 HML HT2 hP HZS c20 c21 c61 c40 c50 H2 H3 H4 H5
        go_loopw [16] (fun iv wr => ∃ ix : Nat, ix ≤ gn ∧ iv = .int .i64 (ix : Int) ∧ Hid (w8.grownBy wr none)) (fun iv _ => gn - (intOf iv).toNat)
        case atStart => exact ⟨0, Nat.zero_le _, rfl, World.grownBy.refl _ _⟩
        case round =>
          obtain ⟨ix, hi, rfl, HG⟩ := hrel
          have r0 : wr.cell? ⟨R, 0, none⟩ = some (.slice fa cn fc) := (HBK.out wr HG.out).2.cells.1
          by_cases hil : ix < gn
          · have hci : (ix : Int) < (gn : Int) := by omega
            obtain ⟨f, f2, hf, hf2, e1, e2, hby⟩ := md_same HM8.out HSA.out.1 HB2.out hil
            obtain ⟨g, gc', va, vc, v1, hu, hs, hr, hgl⟩ := (HM8.out.gb HG.out).rd.at ix f hf
            obtain ⟨g2, gc2', vb, vd, v2, hu2, hs2, hr2, hgl2⟩ := (HLS.out wr HG.out).at (fo + ix) f2 hf2
            rw [e1, e2] at hr2
            rw [e2] at hs2
            have v3 : ga = some ⟨g, 0, none⟩ := by injection v1
            have v4 : fa = some ⟨g2, 0, none⟩ := by injection v2
            obtain ⟨t, ht'⟩ : ∃ t, t = f.t := ⟨_, rfl⟩
            obtain ⟨c, hc'⟩ : ∃ c, c = f.ys.length := ⟨_, rfl⟩
            rw [← ht', ← hc'] at hr hr2
            rw [← hc'] at hs hs2
            obtain ⟨fi, hfi⟩ : ∃ fi, fi = fo + ix := ⟨_, rfl⟩
            rw [← hfi] at hr2
            have HRF : Hid (∀ W, wr.grownBy W none → W.rangeAt g (ix * 2) [.int .i64 t, .slice va c vc] ∧ W.cell? ⟨R, 0, none⟩ = some (.slice (some ⟨g2, 0, none⟩) cn fc) ∧ W.rangeAt g2 (fi * 2) [.int .i64 t, .slice vb c vd] ∧ Calls Tryd.prog 16 #[.agg #[.int .i64 t, .slice va c vc], .agg #[.int .i64 t, .slice vb c vd]] W fun r w' => r = .returned (.bool true) ∧ W.grownBy w' none) := fun W hg => by
              refine ⟨range_gbO hr hg hgl, by rw [← v4]; exact (HBK.out W (gb_trans HG.out hg)).2.cells.1, range_gbO hr2 hg hgl2, ?_⟩
              exact (lsame_c t va vb c vc c vd f.ys W (hs.below (gb_below hg)) (hs2.below (gb_below hg)) hby).mono (fun r w' ⟨z1, z2⟩ => ⟨z1, gb_of z2⟩)
            have HLT : Hid (ix + 1 ≤ gn ∧ fo + gn = cn ∧ cn ≤ 1048576 ∧ fi = fo + ix) := ⟨hil, HGC.out.1, HGC.out.2, hfi⟩
            subst v3
            subst v4
            clear hfi hf hf2 e1 e2 hby hu hs hr hgl hu2 hs2 hr2 hgl2 ht' hc' v1 v2 r0
            go_wp2_with fail
            refine wp_region_lastR (fun a b => World.grownBy a b none) (fun _ _ _ h k => gb_trans h k) ⟨rfl, rfl, rfl, Nat.le_refl _, fun _ _ _ => rfl⟩ 12 rfl (by kernel_rfl) [90, 91, 92, 93, 94, 95, 96, 97, 98, 99, 100, 101, 102] [[], [], [0, 1], [2], [], [4], [], [], [6, 7], [5, 8], [9], [3, 10], [11]] (by kernel_rfl) (by kernel_rfl) [fun u W => u = .slice (some ⟨g, 0, none⟩) gn gc, fun u W => u = .int .i64 (ix : Int), fun u W => u = .pointer (some ⟨g, ix * 2, none⟩), fun u W => u = .agg #[.int .i64 t, .slice va c vc], fun u W => u = .pointer (some ⟨R, 0, none⟩), fun u W => u = .slice (some ⟨g2, 0, none⟩) cn fc, fun u W => u = .int .i64 (fo : Int), fun u W => u = .int .i64 (ix : Int), fun u W => u = .int .i64 (fi : Int), fun u W => u = .pointer (some ⟨g2, fi * 2, none⟩), fun u W => u = .agg #[.int .i64 t, .slice vb c vd], fun u W => u = .bool true] ?stable ?step ?last
            case stable =>
              intro i v W W' h hg
              match i, h with
              | 0, h => exact h
              | 1, h => exact h
              | 2, h => exact h
              | 3, h => exact h
              | 4, h => exact h
              | 5, h => exact h
              | 6, h => exact h
              | 7, h => exact h
              | 8, h => exact h
              | 9, h => exact h
              | 10, h => exact h
              | 11, h => exact h
              | i + 12, h => exact trivial
            case step =>
              intro fs W A hA hg i o hin ho hu K hK
              match i, hin, ho, hu, hK with
              | 0, hin, ho, hu, hK =>
                cases ho
                have e13 : A.eval (.tmp 13) = .slice (some ⟨g, 0, none⟩) gn gc := ev_out hA 13 rfl
                exact ph_move _ rfl rfl (.slice (some ⟨g, 0, none⟩) gn gc) e13 (hK _ _ (gb_rr W _) rfl)
              | 1, hin, ho, hu, hK =>
                cases ho
                have e16 : A.eval (.tmp 16) = .int .i64 (ix : Int) := ev_out hA 16 rfl
                exact ph_move _ rfl rfl (.int .i64 (ix : Int)) e16 (hK _ _ (gb_rr W _) rfl)
              | 2, hin, ho, hu, hK =>
                cases ho
                have e90 : A.eval (.tmp 90) = .slice (some ⟨g, 0, none⟩) gn gc := (ev_in hA 90 0 rfl rfl rfl).trans (show fs 0 = .slice (some ⟨g, 0, none⟩) gn gc from hu 0 (by decide))
                have e91 : A.eval (.tmp 91) = .int .i64 (ix : Int) := (ev_in hA 91 1 rfl rfl rfl).trans (show fs 1 = .int .i64 (ix : Int) from hu 1 (by decide))
                have q8 : ¬ ((gn : Int) ≤ (ix : Int)) := by have := HLT.out; omega
                have q9 : (ix : Int) < (gn : Int) := by have := HLT.out; omega
                refine ph_sem rfl rfl (r := .ok (.value (.pointer (some ⟨g, ix * 2, none⟩))) W) ?_ (hK _ _ (gb_rr W _) rfl)
                have eC : ∀ c, A.eval (.const c) = c := fun _ => rfl; have eF : ∀ g, A.eval (.func g) = .func (.func g) #[] #[] := fun _ => rfl; generalize A.eval = ρ at *
                clear hA hu hg hK hin
                go_simp
              | 3, hin, ho, hu, hK =>
                cases ho
                have e92 : A.eval (.tmp 92) = .pointer (some ⟨g, ix * 2, none⟩) := (ev_in hA 92 2 rfl rfl rfl).trans (show fs 2 = .pointer (some ⟨g, ix * 2, none⟩) from hu 2 (by decide))
                exact ph_load rfl 42 _ rfl Tryd.underlying42 rfl g (ix * 2) [.int .i64 t, .slice va c vc] (by kernel_rfl) e92 ((HRF.out W hg).1) (hK _ _ (gb_rr W _) rfl)
              | 4, hin, ho, hu, hK =>
                cases ho
                have e15 : A.eval (.tmp 15) = .pointer (some ⟨R, 0, none⟩) := ev_out hA 15 rfl
                exact ph_field _ _ _ rfl rfl _ (.pointer (some ⟨R, 0, none⟩)) e15 (by kernel_rfl) (hK _ _ (gb_rr W _) rfl)
              | 5, hin, ho, hu, hK =>
                cases ho
                have e94 : A.eval (.tmp 94) = .pointer (some ⟨R, 0, none⟩) := (ev_in hA 94 4 rfl rfl rfl).trans (show fs 4 = .pointer (some ⟨R, 0, none⟩) from hu 4 (by decide))
                have hc : W.cell? ⟨R, 0, none⟩ = some (.slice (some ⟨g2, 0, none⟩) cn fc) := (HRF.out W hg).2.1
                refine ph_sem rfl rfl (r := .ok (.value (.slice (some ⟨g2, 0, none⟩) cn fc)) W) ?_ (hK _ _ (gb_rr W _) rfl)
                have eC : ∀ c, A.eval (.const c) = c := fun _ => rfl; have eF : ∀ g, A.eval (.func g) = .func (.func g) #[] #[] := fun _ => rfl; generalize A.eval = ρ at *
                clear hA hu hg
                go_simp
              | 6, hin, ho, hu, hK =>
                cases ho
                have e8 : A.eval (.tmp 8) = .int .i64 (fo : Int) := ev_out hA 8 rfl
                exact ph_move _ rfl rfl (.int .i64 (fo : Int)) e8 (hK _ _ (gb_rr W _) rfl)
              | 7, hin, ho, hu, hK =>
                cases ho
                have e16 : A.eval (.tmp 16) = .int .i64 (ix : Int) := ev_out hA 16 rfl
                exact ph_move _ rfl rfl (.int .i64 (ix : Int)) e16 (hK _ _ (gb_rr W _) rfl)
              | 8, hin, ho, hu, hK =>
                cases ho
                have e96 : A.eval (.tmp 96) = .int .i64 (fo : Int) := (ev_in hA 96 6 rfl rfl rfl).trans (show fs 6 = .int .i64 (fo : Int) from hu 6 (by decide))
                have e97 : A.eval (.tmp 97) = .int .i64 (ix : Int) := (ev_in hA 97 7 rfl rfl rfl).trans (show fs 7 = .int .i64 (ix : Int) from hu 7 (by decide))
                have z3 : IntKind.i64.wrap ((fo : Int) + (ix : Int)) = (fi : Int) := by have := HLT.out; rw [IntWalk.i64_in _ ⟨by omega, by omega⟩]; omega
                have z4 : wrap64 ((fo : Int) + (ix : Int)) = (fi : Int) := by have := HLT.out; rw [IntWalk.wrap64_in _ ⟨by omega, by omega⟩]; omega
                refine ph_sem rfl rfl (r := .ok (.value (.int .i64 (fi : Int))) W) ?_ (hK _ _ (gb_rr W _) rfl)
                have eC : ∀ c, A.eval (.const c) = c := fun _ => rfl; have eF : ∀ g, A.eval (.func g) = .func (.func g) #[] #[] := fun _ => rfl; generalize A.eval = ρ at *
                clear hA hu hg hK hin
                go_simp
              | 9, hin, ho, hu, hK =>
                cases ho
                have e95 : A.eval (.tmp 95) = .slice (some ⟨g2, 0, none⟩) cn fc := (ev_in hA 95 5 rfl rfl rfl).trans (show fs 5 = .slice (some ⟨g2, 0, none⟩) cn fc from hu 5 (by decide))
                have e98 : A.eval (.tmp 98) = .int .i64 (fi : Int) := (ev_in hA 98 8 rfl rfl rfl).trans (show fs 8 = .int .i64 (fi : Int) from hu 8 (by decide))
                have hfc : fi < cn := by have := HLT.out; omega
                have q8 : ¬ ((cn : Int) ≤ (fi : Int)) := by omega
                have q9 : (fi : Int) < (cn : Int) := by omega
                refine ph_sem rfl rfl (r := .ok (.value (.pointer (some ⟨g2, fi * 2, none⟩))) W) ?_ (hK _ _ (gb_rr W _) rfl)
                have eC : ∀ c, A.eval (.const c) = c := fun _ => rfl; have eF : ∀ g, A.eval (.func g) = .func (.func g) #[] #[] := fun _ => rfl; generalize A.eval = ρ at *
                clear hA hu hg hK hin
                go_simp
              | 10, hin, ho, hu, hK =>
                cases ho
                have e99 : A.eval (.tmp 99) = .pointer (some ⟨g2, fi * 2, none⟩) := (ev_in hA 99 9 rfl rfl rfl).trans (show fs 9 = .pointer (some ⟨g2, fi * 2, none⟩) from hu 9 (by decide))
                exact ph_load rfl 43 _ rfl Tryd.underlying43 rfl g2 (fi * 2) [.int .i64 t, .slice vb c vd] (by kernel_rfl) e99 ((HRF.out W hg).2.2.1) (hK _ _ (gb_rr W _) rfl)
              | 11, hin, ho, hu, hK =>
                cases ho
                have e93 : A.eval (.tmp 93) = .agg #[.int .i64 t, .slice va c vc] := (ev_in hA 93 3 rfl rfl rfl).trans (show fs 3 = .agg #[.int .i64 t, .slice va c vc] from hu 3 (by decide))
                have e100 : A.eval (.tmp 100) = .agg #[.int .i64 t, .slice vb c vd] := (ev_in hA 100 10 rfl rfl rfl).trans (show fs 10 = .agg #[.int .i64 t, .slice vb c vd] from hu 10 (by decide))
                refine ph_fn 16 _ _ rfl rfl #[.agg #[.int .i64 t, .slice va c vc], .agg #[.int .i64 t, .slice vb c vd]] (by simp [e93, e100]) (by kernel_rfl) ?_
                refine (Calls.mono (HRF.out W hg).2.2.2 ?_)
                rintro e W' ⟨rfl, hq⟩
                exact ⟨_, rfl, hK _ _ hq rfl⟩
              | i + 12, hin, ho, hu, hK => omega
            case last =>
              intro fs W A hA hg hu o ho K hK
              cases ho
              have e101 : A.eval (.tmp 101) = .bool true := (ev_in hA 101 11 rfl rfl rfl).trans (show fs 11 = .bool true from hu 11 (by decide))
              have HW : Hid (w8.grownBy W none) := gb_trans HG.out hg
              refine ph_sem rfl rfl (r := .ok (.value (.bool false)) W) ?_ (hK _ _ ?_)
              · have eC : ∀ c, A.eval (.const c) = c := fun _ => rfl
                generalize A.eval = ρ at *
                clear hA hu hg hK
                go_simp
              have hA2 := hA.trans (putAll_lit [(.slice (some ⟨g, 0, none⟩) gn gc), (.int .i64 (ix : Int)), (.pointer (some ⟨g, ix * 2, none⟩)), (.agg #[.int .i64 t, .slice va c vc]), (.pointer (some ⟨R, 0, none⟩)), (.slice (some ⟨g2, 0, none⟩) cn fc), (.int .i64 (fo : Int)), (.int .i64 (ix : Int)), (.int .i64 (fi : Int)), (.pointer (some ⟨g2, fi * 2, none⟩)), (.agg #[.int .i64 t, .slice vb c vd]), (.bool true), (fs 12)] (by
                intro j hj
                match j, hj with
                | 0, _ => exact hu 0 (by decide)
                | 1, _ => exact hu 1 (by decide)
                | 2, _ => exact hu 2 (by decide)
                | 3, _ => exact hu 3 (by decide)
                | 4, _ => exact hu 4 (by decide)
                | 5, _ => exact hu 5 (by decide)
                | 6, _ => exact hu 6 (by decide)
                | 7, _ => exact hu 7 (by decide)
                | 8, _ => exact hu 8 (by decide)
                | 9, _ => exact hu 9 (by decide)
                | 10, _ => exact hu 10 (by decide)
                | 11, _ => exact hu 11 (by decide)
                | 12, _ => rfl
                | j + 13, hj => exact absurd hj (by simp)))
              clear hu hA
              subst hA2
              simp only [putAll, putL, List.mem_cons, List.not_mem_nil, List.idxOf_cons, Nat.reduceEqDiff, Nat.reduceBEq, Nat.reduceAdd, or_false, or_true, reduceIte, cond_true, cond_false, List.getD_cons_zero, List.getD_cons_succ, BEq.rfl]
              clear e101 hg
              go_wp2_with fail
              go_roundw
              case rel => exact ⟨ix + 1, HLT.out.1, by go_num, HW.out⟩
              case measure => have := HLT.out; simp [intOf]; omega
          · have hci : ¬ ((ix : Int) < (gn : Int)) := by omega
            have HAS : Hid (∀ W, wr.grownBy W none → W.cell? ⟨P, 2, none⟩ = some (.bool ak) ∧ Sb W R (.slice fa cn fc) pS jS lS ∧ (Calls Tryd.prog 17 #[.pointer (some ⟨S, 0, none⟩)] W fun r w' => r = .returned (.int .i64 (rn : Int)) ∧ W.grownBy w' none) ∧ (Calls Tryd.prog 18 #[.pointer (some ⟨S, 0, none⟩)] W fun r w' => r = .returned (.int .i64 (J : Int)) ∧ W.grownBy w' none) ∧ (Calls Tryd.prog 19 #[.pointer (some ⟨S, 0, none⟩)] W fun r w' => r = .returned (.int .i64 (Lo : Int)) ∧ W.grownBy w' none)) := fun W hg => by
              have hgW := gb_trans HG.out hg
              have hMW := HM8.out.gb hgW
              exact ⟨(HBK.out W hgW).1.cell 2, (HBK.out W hgW).2, by have := ss_waits hMW.ss (by decide); rw [← hMW.rn] at this; exact this, ss_junk hMW.ss, ss_lost hMW.ss⟩
            go_wp2_with fail
            cases ak with
            | true =>
              refine wp_region_lastR (fun a b => World.grownBy a b none) (fun _ _ _ h k => gb_trans h k) ⟨rfl, rfl, rfl, Nat.le_refl _, fun _ _ _ => rfl⟩ 29 rfl (by kernel_rfl) [106, 107, 108, 109, 110, 111, 112, 113, 114, 115, 116, 117, 118, 119, 120, 121, 122, 123, 124, 125, 126, 127, 128, 129, 130, 131, 132, 133, 134, 135] [[], [0], [1], [2], [3, 2], [2], [5, 2], [2], [7, 2], [6, 8, 2], [4, 9, 2], [10, 2], [11], [12, 11], [11], [11], [15, 11], [14, 16, 11], [13, 17, 11], [11, 18, 2], [19, 2], [20], [21, 20], [20], [20], [24, 20], [23, 25, 20], [22, 26, 20], [20, 27, 2], [2, 28]] (by kernel_rfl) (by kernel_rfl) [fun u W => u = .pointer (some ⟨P, 2, none⟩), fun u W => u = .bool true, fun u W => u = .bool true, fun u W => u = .pointer (some ⟨S, 0, none⟩), fun u W => u = .int .i64 (rn : Int), fun u W => u = .slice sb sm sd, fun u W => u = .int .i64 (sm : Int), fun u W => u = .pointer (some ⟨R, 1, none⟩), fun u W => u = .int .i64 (pS : Int), fun u W => u = .int .i64 (rn : Int), fun u W => u = .bool false, fun u W => u = .bool false, fun u W => u = .pointer (some ⟨S, 0, none⟩), fun u W => u = .int .i64 (J : Int), fun u W => u = .int .i64 (jn : Int), fun u W => u = .pointer (some ⟨R, 2, none⟩), fun u W => u = .int .i64 (jS : Int), fun u W => u = .int .i64 (J : Int), fun u W => u = .bool false, fun u W => u = .bool false, fun u W => u = .bool false, fun u W => u = .pointer (some ⟨S, 0, none⟩), fun u W => u = .int .i64 (Lo : Int), fun u W => u = .int .i64 (lo : Int), fun u W => u = .pointer (some ⟨R, 3, none⟩), fun u W => u = .int .i64 (lS : Int), fun u W => u = .int .i64 (Lo : Int), fun u W => u = .bool false, fun u W => u = .bool false] ?stable ?step ?last
              case stable =>
                intro i v W W' h hg
                match i, h with
                | 0, h => exact h
                | 1, h => exact h
                | 2, h => exact h
                | 3, h => exact h
                | 4, h => exact h
                | 5, h => exact h
                | 6, h => exact h
                | 7, h => exact h
                | 8, h => exact h
                | 9, h => exact h
                | 10, h => exact h
                | 11, h => exact h
                | 12, h => exact h
                | 13, h => exact h
                | 14, h => exact h
                | 15, h => exact h
                | 16, h => exact h
                | 17, h => exact h
                | 18, h => exact h
                | 19, h => exact h
                | 20, h => exact h
                | 21, h => exact h
                | 22, h => exact h
                | 23, h => exact h
                | 24, h => exact h
                | 25, h => exact h
                | 26, h => exact h
                | 27, h => exact h
                | 28, h => exact h
                | i + 29, h => exact trivial
              case step =>
                intro fs W A hA hg i o hin ho hu K hK
                match i, hin, ho, hu, hK with
                | 0, hin, ho, hu, hK =>
                  cases ho
                  have e12 : A.eval (.tmp 12) = .pointer (some ⟨P, 0, none⟩) := ev_out hA 12 rfl
                  exact ph_field _ _ _ rfl rfl _ (.pointer (some ⟨P, 2, none⟩)) e12 (by kernel_rfl) (hK _ _ (gb_rr W _) rfl)
                | 1, hin, ho, hu, hK =>
                  cases ho
                  have e106 : A.eval (.tmp 106) = .pointer (some ⟨P, 2, none⟩) := (ev_in hA 106 0 rfl rfl rfl).trans (show fs 0 = .pointer (some ⟨P, 2, none⟩) from hu 0 (by decide))
                  have hc : W.cell? ⟨P, 2, none⟩ = some (.bool true) := (HAS.out W hg).1
                  refine ph_sem rfl rfl (r := .ok (.value (.bool true)) W) ?_ (hK _ _ (gb_rr W _) rfl)
                  have eC : ∀ c, A.eval (.const c) = c := fun _ => rfl; have eF : ∀ g, A.eval (.func g) = .func (.func g) #[] #[] := fun _ => rfl; generalize A.eval = ρ at *
                  clear hA hu hg
                  go_simp
                | 2, hin, ho, hu, hK =>
                  cases ho
                  have e107 : A.eval (.tmp 107) = .bool true := (ev_in hA 107 1 rfl rfl rfl).trans (show fs 1 = .bool true from hu 1 (by decide))
                  exact ph_move _ rfl rfl (.bool true) e107 (hK _ _ (gb_rr W _) rfl)
                | 3, hin, ho, hu, hK =>
                  cases ho
                  have e5 : A.eval (.tmp 5) = .pointer (some ⟨S, 0, none⟩) := ev_out hA 5 rfl
                  have e108 : A.eval (.tmp 108) = .bool true := (ev_in hA 108 2 rfl rfl rfl).trans (show fs 2 = .bool true from hu 2 (by decide))
                  exact ph_move _ rfl (wanted_in hA 2 true rfl 108 rfl rfl e108) (.pointer (some ⟨S, 0, none⟩)) e5 (hK _ _ (gb_rr W _) rfl)
                | 4, hin, ho, hu, hK =>
                  cases ho
                  have e109 : A.eval (.tmp 109) = .pointer (some ⟨S, 0, none⟩) := (ev_in hA 109 3 rfl rfl rfl).trans (show fs 3 = .pointer (some ⟨S, 0, none⟩) from hu 3 (by decide))
                  have e108 : A.eval (.tmp 108) = .bool true := (ev_in hA 108 2 rfl rfl rfl).trans (show fs 2 = .bool true from hu 2 (by decide))
                  refine ph_fn 17 _ _ rfl (wanted_in hA 2 true rfl 108 rfl rfl e108) #[.pointer (some ⟨S, 0, none⟩)] (by simp [e109]) (by kernel_rfl) ?_
                  refine (Calls.mono (HAS.out W hg).2.2.1 ?_)
                  rintro e W' ⟨rfl, hq⟩
                  exact ⟨_, rfl, hK _ _ hq rfl⟩
                | 5, hin, ho, hu, hK =>
                  cases ho
                  have e7 : A.eval (.tmp 7) = .slice sb sm sd := ev_out hA 7 rfl
                  have e108 : A.eval (.tmp 108) = .bool true := (ev_in hA 108 2 rfl rfl rfl).trans (show fs 2 = .bool true from hu 2 (by decide))
                  exact ph_move _ rfl (wanted_in hA 2 true rfl 108 rfl rfl e108) (.slice sb sm sd) e7 (hK _ _ (gb_rr W _) rfl)
                | 6, hin, ho, hu, hK =>
                  cases ho
                  have e111 : A.eval (.tmp 111) = .slice sb sm sd := (ev_in hA 111 5 rfl rfl rfl).trans (show fs 5 = .slice sb sm sd from hu 5 (by decide))
                  have e108 : A.eval (.tmp 108) = .bool true := (ev_in hA 108 2 rfl rfl rfl).trans (show fs 2 = .bool true from hu 2 (by decide))
                  refine ph_sem rfl (wanted_in hA 2 true rfl 108 rfl rfl e108) (r := .ok (.value (.int .i64 (sm : Int))) W) ?_ (hK _ _ (gb_rr W _) rfl)
                  have eC : ∀ c, A.eval (.const c) = c := fun _ => rfl; have eF : ∀ g, A.eval (.func g) = .func (.func g) #[] #[] := fun _ => rfl; generalize A.eval = ρ at *
                  clear hA hu hg hK hin
                  go_simp
                | 7, hin, ho, hu, hK =>
                  cases ho
                  have e15 : A.eval (.tmp 15) = .pointer (some ⟨R, 0, none⟩) := ev_out hA 15 rfl
                  have e108 : A.eval (.tmp 108) = .bool true := (ev_in hA 108 2 rfl rfl rfl).trans (show fs 2 = .bool true from hu 2 (by decide))
                  exact ph_field _ _ _ rfl (wanted_in hA 2 true rfl 108 rfl rfl e108) _ (.pointer (some ⟨R, 1, none⟩)) e15 (by kernel_rfl) (hK _ _ (gb_rr W _) rfl)
                | 8, hin, ho, hu, hK =>
                  cases ho
                  have e113 : A.eval (.tmp 113) = .pointer (some ⟨R, 1, none⟩) := (ev_in hA 113 7 rfl rfl rfl).trans (show fs 7 = .pointer (some ⟨R, 1, none⟩) from hu 7 (by decide))
                  have e108 : A.eval (.tmp 108) = .bool true := (ev_in hA 108 2 rfl rfl rfl).trans (show fs 2 = .bool true from hu 2 (by decide))
                  have hc : W.cell? ⟨R, 1, none⟩ = some (.int .i64 (pS : Int)) := (HAS.out W hg).2.1.cells.2.1
                  refine ph_sem rfl (wanted_in hA 2 true rfl 108 rfl rfl e108) (r := .ok (.value (.int .i64 (pS : Int))) W) ?_ (hK _ _ (gb_rr W _) rfl)
                  have eC : ∀ c, A.eval (.const c) = c := fun _ => rfl; have eF : ∀ g, A.eval (.func g) = .func (.func g) #[] #[] := fun _ => rfl; generalize A.eval = ρ at *
                  clear hA hu hg
                  go_simp
                | 9, hin, ho, hu, hK =>
                  cases ho
                  have e112 : A.eval (.tmp 112) = .int .i64 (sm : Int) := (ev_in hA 112 6 rfl rfl rfl).trans (show fs 6 = .int .i64 (sm : Int) from hu 6 (by decide))
                  have e114 : A.eval (.tmp 114) = .int .i64 (pS : Int) := (ev_in hA 114 8 rfl rfl rfl).trans (show fs 8 = .int .i64 (pS : Int) from hu 8 (by decide))
                  have e108 : A.eval (.tmp 108) = .bool true := (ev_in hA 108 2 rfl rfl rfl).trans (show fs 2 = .bool true from hu 2 (by decide))
                  have z3 := HAR.out.1
                  have z4 := HAR.out.2.1
                  refine ph_sem rfl (wanted_in hA 2 true rfl 108 rfl rfl e108) (r := .ok (.value (.int .i64 (rn : Int))) W) ?_ (hK _ _ (gb_rr W _) rfl)
                  have eC : ∀ c, A.eval (.const c) = c := fun _ => rfl; have eF : ∀ g, A.eval (.func g) = .func (.func g) #[] #[] := fun _ => rfl; generalize A.eval = ρ at *
                  clear hA hu hg hK hin
                  go_simp
                | 10, hin, ho, hu, hK =>
                  cases ho
                  have e110 : A.eval (.tmp 110) = .int .i64 (rn : Int) := (ev_in hA 110 4 rfl rfl rfl).trans (show fs 4 = .int .i64 (rn : Int) from hu 4 (by decide))
                  have e115 : A.eval (.tmp 115) = .int .i64 (rn : Int) := (ev_in hA 115 9 rfl rfl rfl).trans (show fs 9 = .int .i64 (rn : Int) from hu 9 (by decide))
                  have e108 : A.eval (.tmp 108) = .bool true := (ev_in hA 108 2 rfl rfl rfl).trans (show fs 2 = .bool true from hu 2 (by decide))
                  refine ph_sem rfl (wanted_in hA 2 true rfl 108 rfl rfl e108) (r := .ok (.value (.bool false)) W) ?_ (hK _ _ (gb_rr W _) rfl)
                  have eC : ∀ c, A.eval (.const c) = c := fun _ => rfl; have eF : ∀ g, A.eval (.func g) = .func (.func g) #[] #[] := fun _ => rfl; generalize A.eval = ρ at *
                  clear hA hu hg hK hin
                  go_simp
                | 11, hin, ho, hu, hK =>
                  cases ho
                  have e116 : A.eval (.tmp 116) = .bool false := (ev_in hA 116 10 rfl rfl rfl).trans (show fs 10 = .bool false from hu 10 (by decide))
                  have e108 : A.eval (.tmp 108) = .bool true := (ev_in hA 108 2 rfl rfl rfl).trans (show fs 2 = .bool true from hu 2 (by decide))
                  exact ph_move _ rfl (wanted_in hA 2 true rfl 108 rfl rfl e108) (.bool false) e116 (hK _ _ (gb_rr W _) rfl)
                | 12, hin, ho, hu, hK =>
                  cases ho
                  have e5 : A.eval (.tmp 5) = .pointer (some ⟨S, 0, none⟩) := ev_out hA 5 rfl
                  have e117 : A.eval (.tmp 117) = .bool false := (ev_in hA 117 11 rfl rfl rfl).trans (show fs 11 = .bool false from hu 11 (by decide))
                  exact ph_move _ rfl (wanted_in hA 11 false rfl 117 rfl rfl e117) (.pointer (some ⟨S, 0, none⟩)) e5 (hK _ _ (gb_rr W _) rfl)
                | 13, hin, ho, hu, hK =>
                  cases ho
                  have e118 : A.eval (.tmp 118) = .pointer (some ⟨S, 0, none⟩) := (ev_in hA 118 12 rfl rfl rfl).trans (show fs 12 = .pointer (some ⟨S, 0, none⟩) from hu 12 (by decide))
                  have e117 : A.eval (.tmp 117) = .bool false := (ev_in hA 117 11 rfl rfl rfl).trans (show fs 11 = .bool false from hu 11 (by decide))
                  refine ph_fn 18 _ _ rfl (wanted_in hA 11 false rfl 117 rfl rfl e117) #[.pointer (some ⟨S, 0, none⟩)] (by simp [e118]) (by kernel_rfl) ?_
                  refine (Calls.mono (HAS.out W hg).2.2.2.1 ?_)
                  rintro e W' ⟨rfl, hq⟩
                  exact ⟨_, rfl, hK _ _ hq rfl⟩
                | 14, hin, ho, hu, hK =>
                  cases ho
                  have e9 : A.eval (.tmp 9) = .int .i64 (jn : Int) := ev_out hA 9 rfl
                  have e117 : A.eval (.tmp 117) = .bool false := (ev_in hA 117 11 rfl rfl rfl).trans (show fs 11 = .bool false from hu 11 (by decide))
                  exact ph_move _ rfl (wanted_in hA 11 false rfl 117 rfl rfl e117) (.int .i64 (jn : Int)) e9 (hK _ _ (gb_rr W _) rfl)
                | 15, hin, ho, hu, hK =>
                  cases ho
                  have e15 : A.eval (.tmp 15) = .pointer (some ⟨R, 0, none⟩) := ev_out hA 15 rfl
                  have e117 : A.eval (.tmp 117) = .bool false := (ev_in hA 117 11 rfl rfl rfl).trans (show fs 11 = .bool false from hu 11 (by decide))
                  exact ph_field _ _ _ rfl (wanted_in hA 11 false rfl 117 rfl rfl e117) _ (.pointer (some ⟨R, 2, none⟩)) e15 (by kernel_rfl) (hK _ _ (gb_rr W _) rfl)
                | 16, hin, ho, hu, hK =>
                  cases ho
                  have e121 : A.eval (.tmp 121) = .pointer (some ⟨R, 2, none⟩) := (ev_in hA 121 15 rfl rfl rfl).trans (show fs 15 = .pointer (some ⟨R, 2, none⟩) from hu 15 (by decide))
                  have e117 : A.eval (.tmp 117) = .bool false := (ev_in hA 117 11 rfl rfl rfl).trans (show fs 11 = .bool false from hu 11 (by decide))
                  have hc : W.cell? ⟨R, 2, none⟩ = some (.int .i64 (jS : Int)) := (HAS.out W hg).2.1.cells.2.2.1
                  refine ph_sem rfl (wanted_in hA 11 false rfl 117 rfl rfl e117) (r := .ok (.value (.int .i64 (jS : Int))) W) ?_ (hK _ _ (gb_rr W _) rfl)
                  have eC : ∀ c, A.eval (.const c) = c := fun _ => rfl; have eF : ∀ g, A.eval (.func g) = .func (.func g) #[] #[] := fun _ => rfl; generalize A.eval = ρ at *
                  clear hA hu hg
                  go_simp
                | 17, hin, ho, hu, hK =>
                  cases ho
                  have e120 : A.eval (.tmp 120) = .int .i64 (jn : Int) := (ev_in hA 120 14 rfl rfl rfl).trans (show fs 14 = .int .i64 (jn : Int) from hu 14 (by decide))
                  have e122 : A.eval (.tmp 122) = .int .i64 (jS : Int) := (ev_in hA 122 16 rfl rfl rfl).trans (show fs 16 = .int .i64 (jS : Int) from hu 16 (by decide))
                  have e117 : A.eval (.tmp 117) = .bool false := (ev_in hA 117 11 rfl rfl rfl).trans (show fs 11 = .bool false from hu 11 (by decide))
                  have z3 := HAR.out.2.2.1
                  have z4 := HAR.out.2.2.2.1
                  refine ph_sem rfl (wanted_in hA 11 false rfl 117 rfl rfl e117) (r := .ok (.value (.int .i64 (J : Int))) W) ?_ (hK _ _ (gb_rr W _) rfl)
                  have eC : ∀ c, A.eval (.const c) = c := fun _ => rfl; have eF : ∀ g, A.eval (.func g) = .func (.func g) #[] #[] := fun _ => rfl; generalize A.eval = ρ at *
                  clear hA hu hg hK hin
                  go_simp
                | 18, hin, ho, hu, hK =>
                  cases ho
                  have e119 : A.eval (.tmp 119) = .int .i64 (J : Int) := (ev_in hA 119 13 rfl rfl rfl).trans (show fs 13 = .int .i64 (J : Int) from hu 13 (by decide))
                  have e123 : A.eval (.tmp 123) = .int .i64 (J : Int) := (ev_in hA 123 17 rfl rfl rfl).trans (show fs 17 = .int .i64 (J : Int) from hu 17 (by decide))
                  have e117 : A.eval (.tmp 117) = .bool false := (ev_in hA 117 11 rfl rfl rfl).trans (show fs 11 = .bool false from hu 11 (by decide))
                  refine ph_sem rfl (wanted_in hA 11 false rfl 117 rfl rfl e117) (r := .ok (.value (.bool false)) W) ?_ (hK _ _ (gb_rr W _) rfl)
                  have eC : ∀ c, A.eval (.const c) = c := fun _ => rfl; have eF : ∀ g, A.eval (.func g) = .func (.func g) #[] #[] := fun _ => rfl; generalize A.eval = ρ at *
                  clear hA hu hg hK hin
                  go_simp
                | 19, hin, ho, hu, hK =>
                  cases ho
                  have e117 : A.eval (.tmp 117) = .bool false := (ev_in hA 117 11 rfl rfl rfl).trans (show fs 11 = .bool false from hu 11 (by decide))
                  have e124 : A.eval (.tmp 124) = .bool false := (ev_in hA 124 18 rfl rfl rfl).trans (show fs 18 = .bool false from hu 18 (by decide))
                  have e108 : A.eval (.tmp 108) = .bool true := (ev_in hA 108 2 rfl rfl rfl).trans (show fs 2 = .bool true from hu 2 (by decide))
                  exact ph_pick _ _ _ rfl (wanted_in hA 2 true rfl 108 rfl rfl e108) false (.bool true) (.bool false) e117 rfl e124 (hK _ _ (gb_rr W _) rfl)
                | 20, hin, ho, hu, hK =>
                  cases ho
                  have e125 : A.eval (.tmp 125) = .bool false := (ev_in hA 125 19 rfl rfl rfl).trans (show fs 19 = .bool false from hu 19 (by decide))
                  have e108 : A.eval (.tmp 108) = .bool true := (ev_in hA 108 2 rfl rfl rfl).trans (show fs 2 = .bool true from hu 2 (by decide))
                  exact ph_move _ rfl (wanted_in hA 2 true rfl 108 rfl rfl e108) (.bool false) e125 (hK _ _ (gb_rr W _) rfl)
                | 21, hin, ho, hu, hK =>
                  cases ho
                  have e5 : A.eval (.tmp 5) = .pointer (some ⟨S, 0, none⟩) := ev_out hA 5 rfl
                  have e126 : A.eval (.tmp 126) = .bool false := (ev_in hA 126 20 rfl rfl rfl).trans (show fs 20 = .bool false from hu 20 (by decide))
                  exact ph_move _ rfl (wanted_in hA 20 false rfl 126 rfl rfl e126) (.pointer (some ⟨S, 0, none⟩)) e5 (hK _ _ (gb_rr W _) rfl)
                | 22, hin, ho, hu, hK =>
                  cases ho
                  have e127 : A.eval (.tmp 127) = .pointer (some ⟨S, 0, none⟩) := (ev_in hA 127 21 rfl rfl rfl).trans (show fs 21 = .pointer (some ⟨S, 0, none⟩) from hu 21 (by decide))
                  have e126 : A.eval (.tmp 126) = .bool false := (ev_in hA 126 20 rfl rfl rfl).trans (show fs 20 = .bool false from hu 20 (by decide))
                  refine ph_fn 19 _ _ rfl (wanted_in hA 20 false rfl 126 rfl rfl e126) #[.pointer (some ⟨S, 0, none⟩)] (by simp [e127]) (by kernel_rfl) ?_
                  refine (Calls.mono (HAS.out W hg).2.2.2.2 ?_)
                  rintro e W' ⟨rfl, hq⟩
                  exact ⟨_, rfl, hK _ _ hq rfl⟩
                | 23, hin, ho, hu, hK =>
                  cases ho
                  have e10 : A.eval (.tmp 10) = .int .i64 (lo : Int) := ev_out hA 10 rfl
                  have e126 : A.eval (.tmp 126) = .bool false := (ev_in hA 126 20 rfl rfl rfl).trans (show fs 20 = .bool false from hu 20 (by decide))
                  exact ph_move _ rfl (wanted_in hA 20 false rfl 126 rfl rfl e126) (.int .i64 (lo : Int)) e10 (hK _ _ (gb_rr W _) rfl)
                | 24, hin, ho, hu, hK =>
                  cases ho
                  have e15 : A.eval (.tmp 15) = .pointer (some ⟨R, 0, none⟩) := ev_out hA 15 rfl
                  have e126 : A.eval (.tmp 126) = .bool false := (ev_in hA 126 20 rfl rfl rfl).trans (show fs 20 = .bool false from hu 20 (by decide))
                  exact ph_field _ _ _ rfl (wanted_in hA 20 false rfl 126 rfl rfl e126) _ (.pointer (some ⟨R, 3, none⟩)) e15 (by kernel_rfl) (hK _ _ (gb_rr W _) rfl)
                | 25, hin, ho, hu, hK =>
                  cases ho
                  have e130 : A.eval (.tmp 130) = .pointer (some ⟨R, 3, none⟩) := (ev_in hA 130 24 rfl rfl rfl).trans (show fs 24 = .pointer (some ⟨R, 3, none⟩) from hu 24 (by decide))
                  have e126 : A.eval (.tmp 126) = .bool false := (ev_in hA 126 20 rfl rfl rfl).trans (show fs 20 = .bool false from hu 20 (by decide))
                  have hc : W.cell? ⟨R, 3, none⟩ = some (.int .i64 (lS : Int)) := (HAS.out W hg).2.1.cells.2.2.2
                  refine ph_sem rfl (wanted_in hA 20 false rfl 126 rfl rfl e126) (r := .ok (.value (.int .i64 (lS : Int))) W) ?_ (hK _ _ (gb_rr W _) rfl)
                  have eC : ∀ c, A.eval (.const c) = c := fun _ => rfl; have eF : ∀ g, A.eval (.func g) = .func (.func g) #[] #[] := fun _ => rfl; generalize A.eval = ρ at *
                  clear hA hu hg
                  go_simp
                | 26, hin, ho, hu, hK =>
                  cases ho
                  have e129 : A.eval (.tmp 129) = .int .i64 (lo : Int) := (ev_in hA 129 23 rfl rfl rfl).trans (show fs 23 = .int .i64 (lo : Int) from hu 23 (by decide))
                  have e131 : A.eval (.tmp 131) = .int .i64 (lS : Int) := (ev_in hA 131 25 rfl rfl rfl).trans (show fs 25 = .int .i64 (lS : Int) from hu 25 (by decide))
                  have e126 : A.eval (.tmp 126) = .bool false := (ev_in hA 126 20 rfl rfl rfl).trans (show fs 20 = .bool false from hu 20 (by decide))
                  have z3 := HAR.out.2.2.2.2.1
                  have z4 := HAR.out.2.2.2.2.2
                  refine ph_sem rfl (wanted_in hA 20 false rfl 126 rfl rfl e126) (r := .ok (.value (.int .i64 (Lo : Int))) W) ?_ (hK _ _ (gb_rr W _) rfl)
                  have eC : ∀ c, A.eval (.const c) = c := fun _ => rfl; have eF : ∀ g, A.eval (.func g) = .func (.func g) #[] #[] := fun _ => rfl; generalize A.eval = ρ at *
                  clear hA hu hg hK hin
                  go_simp
                | 27, hin, ho, hu, hK =>
                  cases ho
                  have e128 : A.eval (.tmp 128) = .int .i64 (Lo : Int) := (ev_in hA 128 22 rfl rfl rfl).trans (show fs 22 = .int .i64 (Lo : Int) from hu 22 (by decide))
                  have e132 : A.eval (.tmp 132) = .int .i64 (Lo : Int) := (ev_in hA 132 26 rfl rfl rfl).trans (show fs 26 = .int .i64 (Lo : Int) from hu 26 (by decide))
                  have e126 : A.eval (.tmp 126) = .bool false := (ev_in hA 126 20 rfl rfl rfl).trans (show fs 20 = .bool false from hu 20 (by decide))
                  refine ph_sem rfl (wanted_in hA 20 false rfl 126 rfl rfl e126) (r := .ok (.value (.bool false)) W) ?_ (hK _ _ (gb_rr W _) rfl)
                  have eC : ∀ c, A.eval (.const c) = c := fun _ => rfl; have eF : ∀ g, A.eval (.func g) = .func (.func g) #[] #[] := fun _ => rfl; generalize A.eval = ρ at *
                  clear hA hu hg hK hin
                  go_simp
                | 28, hin, ho, hu, hK =>
                  cases ho
                  have e126 : A.eval (.tmp 126) = .bool false := (ev_in hA 126 20 rfl rfl rfl).trans (show fs 20 = .bool false from hu 20 (by decide))
                  have e133 : A.eval (.tmp 133) = .bool false := (ev_in hA 133 27 rfl rfl rfl).trans (show fs 27 = .bool false from hu 27 (by decide))
                  have e108 : A.eval (.tmp 108) = .bool true := (ev_in hA 108 2 rfl rfl rfl).trans (show fs 2 = .bool true from hu 2 (by decide))
                  exact ph_pick _ _ _ rfl (wanted_in hA 2 true rfl 108 rfl rfl e108) false (.bool true) (.bool false) e126 rfl e133 (hK _ _ (gb_rr W _) rfl)
                | i + 29, hin, ho, hu, hK => omega
              case last =>
                intro fs W A hA hg hu o ho K hK
                cases ho
                have e108 : A.eval (.tmp 108) = .bool true := (ev_in hA 108 2 rfl rfl rfl).trans (show fs 2 = .bool true from hu 2 (by decide))
                have e134 : A.eval (.tmp 134) = .bool false := (ev_in hA 134 28 rfl rfl rfl).trans (show fs 28 = .bool false from hu 28 (by decide))
                have HW : Hid (w8.grownBy W none) := gb_trans HG.out hg
                refine ph_sem rfl rfl (r := .ok (.value (.bool false)) W) ?_ (hK _ _ ?_)
                · have eC : ∀ c, A.eval (.const c) = c := fun _ => rfl
                  generalize A.eval = ρ at *
                  clear hA hu hg hK
                  go_simp
                have hA2 := hA.trans (putAll_lit [(.pointer (some ⟨P, 2, none⟩)), (.bool true), (.bool true), (.pointer (some ⟨S, 0, none⟩)), (.int .i64 (rn : Int)), (.slice sb sm sd), (.int .i64 (sm : Int)), (.pointer (some ⟨R, 1, none⟩)), (.int .i64 (pS : Int)), (.int .i64 (rn : Int)), (.bool false), (.bool false), (.pointer (some ⟨S, 0, none⟩)), (.int .i64 (J : Int)), (.int .i64 (jn : Int)), (.pointer (some ⟨R, 2, none⟩)), (.int .i64 (jS : Int)), (.int .i64 (J : Int)), (.bool false), (.bool false), (.bool false), (.pointer (some ⟨S, 0, none⟩)), (.int .i64 (Lo : Int)), (.int .i64 (lo : Int)), (.pointer (some ⟨R, 3, none⟩)), (.int .i64 (lS : Int)), (.int .i64 (Lo : Int)), (.bool false), (.bool false), (fs 29)] (by
                  intro j hj
                  match j, hj with
                  | 0, _ => exact hu 0 (by decide)
                  | 1, _ => exact hu 1 (by decide)
                  | 2, _ => exact hu 2 (by decide)
                  | 3, _ => exact hu 3 (by decide)
                  | 4, _ => exact hu 4 (by decide)
                  | 5, _ => exact hu 5 (by decide)
                  | 6, _ => exact hu 6 (by decide)
                  | 7, _ => exact hu 7 (by decide)
                  | 8, _ => exact hu 8 (by decide)
                  | 9, _ => exact hu 9 (by decide)
                  | 10, _ => exact hu 10 (by decide)
                  | 11, _ => exact hu 11 (by decide)
                  | 12, _ => exact hu 12 (by decide)
                  | 13, _ => exact hu 13 (by decide)
                  | 14, _ => exact hu 14 (by decide)
                  | 15, _ => exact hu 15 (by decide)
                  | 16, _ => exact hu 16 (by decide)
                  | 17, _ => exact hu 17 (by decide)
                  | 18, _ => exact hu 18 (by decide)
                  | 19, _ => exact hu 19 (by decide)
                  | 20, _ => exact hu 20 (by decide)
                  | 21, _ => exact hu 21 (by decide)
                  | 22, _ => exact hu 22 (by decide)
                  | 23, _ => exact hu 23 (by decide)
                  | 24, _ => exact hu 24 (by decide)
                  | 25, _ => exact hu 25 (by decide)
                  | 26, _ => exact hu 26 (by decide)
                  | 27, _ => exact hu 27 (by decide)
                  | 28, _ => exact hu 28 (by decide)
                  | 29, _ => rfl
                  | j + 30, hj => exact absurd hj (by simp)))
                clear hu hA
                subst hA2
                simp only [putAll, putL, List.mem_cons, List.not_mem_nil, List.idxOf_cons, Nat.reduceEqDiff, Nat.reduceBEq, Nat.reduceAdd, or_false, or_true, reduceIte, cond_true, cond_false, List.getD_cons_zero, List.getD_cons_succ, BEq.rfl]
                clear e108 e134 hg
                have m1 := (HBK.out W HW.out).1.cell 1
                have HNX : Hid (Fs w W B S most st2 (.slice sb sm sd) sm cn jn lo Q2) := fs_next (HM8.out.gb HW.out) HFC.out
                simp at m1
                go_wp2_with fail
                go_roundw
                case rel => exact ⟨k + 1, sm, sd, cn, jn, lo, sb, st2, Q2, HLK.out, by go_num, rfl, rfl, rfl, rfl, HNX.out, HB2.out, HTT.out⟩
                case measure => have := HLK.out; simp [intOf]; omega
            | false =>
              have p2 := (HAS.out wr (World.grownBy.refl _ _)).1
              go_quiet (fail)
              obtain ⟨Wq, hWq⟩ : ∃ Wq, Wq = wr.drewN nq := ⟨_, rfl⟩
              rw [← hWq]
              have HW : Hid (w8.grownBy Wq none) := by rw [hWq]; exact gb_trans HG.out (drewN_gb wr nq)
              clear hWq
              have m1 := (HBK.out Wq HW.out).1.cell 1
              have HNX : Hid (Fs w Wq B S most st2 (.slice sb sm sd) sm cn jn lo Q2) := fs_next (HM8.out.gb HW.out) HFC.out
              simp at m1
              go_wp2_with fail
              go_roundw
              case rel => exact ⟨k + 1, sm, sd, cn, jn, lo, sb, st2, Q2, HLK.out, by go_num, rfl, rfl, rfl, rfl, HNX.out, HB2.out, HTT.out⟩
              case measure => have := HLK.out; simp [intOf]; omega
    · have hci : ¬ ((k : Int) < (n : Int)) := by omega
      have HB : Hid (Below w.heap.size w wr) := by rw [← HBW.out]; exact HF.out.1.bel
      go_wp2_with fail
      go_ret
      exact ⟨rfl, HB.out⟩

theorem bulk_len {H : Type} (l : List (DataW H)) : l.length ≤ Rows.uptoBulkAll l := by
  induction l with
  | nil => simp
  | cons d r ih =>
    have : 1 ≤ Rows.uptoBulk d := by
      cases d with
      | lit x => cases x <;> simp [Rows.uptoBulk]
      | _ => simp [Rows.uptoBulk]
    simp only [Rows.uptoBulkAll, List.length_cons]; omega
theorem bulk_mem {H : Type} {d : DataW H} {l : List (DataW H)} (h : d ∈ l) : Rows.uptoBulk d ≤ Rows.uptoBulkAll l := by
  induction l with
  | nil => cases h
  | cons x r ih =>
    simp only [Rows.uptoBulkAll]
    rcases List.mem_cons.1 h with rfl | h
    · omega
    · have := ih h; omega
theorem bulk_slice {H : Type} {ds : List (DataW H)} {d : DataW H} {l r : List (DataW H)} (hk : Rows.uptoSmall H ds = true) (hd : d ∈ ds) (e : d = .slice l r) : l.length + r.length ≤ 1048576 := by
  have h0 : Rows.uptoBulkAll ds ≤ 1048576 := of_decide_eq_true hk
  have h1 := bulk_mem hd
  have h3 := bulk_len l
  have h4 := bulk_len r
  rw [e] at h1
  simp only [Rows.uptoBulk] at h1
  omega

theorem gTab : Tryd.prog.globalNamed "hawser/crc.halves" = some 0 := by kernel_rfl
theorem gTabType : (Tryd.prog.globals[0]?).map (·.type) = some 106 := by kernel_rfl
theorem cellsT : Tryd.prog.cellsOf 106 = 16 := by kernel_rfl
theorem cellsE : Tryd.prog.cellsOf 64 = 1 := by kernel_rfl
/-- What the row's list gives: the table's cells. -/
theorem table {W : World} (h : laidMetH Tryd.prog Rows.frameSplitsUptoRow.laid W) : Lib.TabIs Tryd.prog W "hawser/crc.halves" .u32 tabl :=
  Lib.tabIs_of_head (rest := []) gTab gTabType Tryd.underlying106 Tryd.underlying64 cellsE cellsT h
theorem tab_of {W : World} (h : laidMetH Tryd.prog Rows.frameSplitsUptoRow.laid W) : Tab W := fun i hi => (table h).cell gTab i (show i < tabl.length from hi)
theorem laid_met (os : Os) : laidMet Tryd.prog Rows.frameSplitsUptoRow.laid (({ World.holding Tryd.prog os ⟨#[], #[], []⟩ with heap := (World.holding Tryd.prog os ⟨#[], #[], []⟩).heap.modify 0 fun | .cells _ t frozen => .cells (tabl.map fun z => Value.int .u32 z).toArray t frozen | o => o } : World).forCall (fun _ _ => 0) ⟨#[], #[.int .i64 0, .slice none 0 0], []⟩).memory :=
  laidMet_of_run' 8 (by kernel_rfl) (by kernel_rfl)
theorem reads (os : Os) {H : Type} (enc : TypeId × Value → H) : ∃ places, DataW.whole enc Tryd.prog (({ World.holding Tryd.prog os ⟨#[], #[], []⟩ with heap := (World.holding Tryd.prog os ⟨#[], #[], []⟩).heap.modify 0 fun | .cells _ t frozen => .cells (tabl.map fun z => Value.int .u32 z).toArray t frozen | o => o } : World).forCall (fun _ _ => 0) ⟨#[], #[.int .i64 0, .slice none 0 0], []⟩).memory Tryd.f3.params.toList Rows.frameSplitsSpec.vars false (#[.int .i64 0, .slice none 0 0] : Array Value).toList 8 = some ([.lit (.int .i64 0), .nil], [], places) :=
  ⟨[], by kernel_rfl⟩

set_option maxRecDepth 100000 in
theorem lifted (os : Os) (started : os.Started) (H : Type) (enc : TypeId × Value → H) (F : Stop.Interp) :
    ReturnsInHanded {} Tryd.checked os 3 .any ((Rows.OpenSpec.upto Rows.frameSplitsSpec).preRow enc Tryd.prog Tryd.f3 Rows.frameSplitsUptoRow.domain false Rows.frameSplitsUptoRow.laid) (((Rows.OpenSpec.upto Rows.frameSplitsSpec).at F).post enc Tryd.prog Tryd.f3 false true false false) := by
  obtain ⟨places, hx⟩ := reads os enc
  refine returnsInHanded_of_row (C := Tryd.checked) (s := Rows.OpenSpec.upto Rows.frameSplitsSpec) own started (by kernel_rfl) Tryd.func3
    (witness_row_at (enc := enc) (C := Tryd.checked) false ({ World.holding Tryd.prog os ⟨#[], #[], []⟩ with heap := (World.holding Tryd.prog os ⟨#[], #[], []⟩).heap.modify 0 fun | .cells _ t frozen => .cells (tabl.map fun z => Value.int .u32 z).toArray t frozen | o => o } : World) #[.int .i64 0, .slice none 0 0] rfl (by kernel_rfl) (by kernel_rfl) (by kernel_rfl)
      (OpenSpec.preRow_of_cond 8 hx (by kernel_rfl) (fun k hk => by cases hk; kernel_rfl) (by kernel_rfl) (laid_met os))) ?_
  intro W base args ds gs before hval0 hW _ hcond0 hsz0 hL _ _
  have hk : Rows.uptoSmall H (ds ++ gs) = true := hcond0 _ rfl
  have hval : ∀ (j : Nat) t v, Tryd.f3.params[j]? = some t → args[j]? = some v → Value.okWide Tryd.prog W .any base t v := hval0
  have hW' := hW
  obtain ⟨p, q, hA0, hV, rfl, hfz, hnd⟩ := hW
  have hA : DataW.TrodAll enc Tryd.prog W 0 (fun _ => true) true Tryd.f3.params.toList args.toList ds p := hA0
  rw [Tryd.params3] at hA hval
  obtain ⟨v0, vs0, d0, ds0, p0, q0, hargs, rfl, rfl, h0, r0⟩ := trodAll_cons hA
  obtain ⟨v1, vs1, d1, ds1, p1, q1, rfl, rfl, rfl, h1, r1⟩ := trodAll_cons r0
  obtain ⟨rfl, rfl, rfl⟩ := trodAll_nil r1
  obtain rfl : args = #[v0, v1] := by cases args; simp_all
  obtain ⟨rfl, rfl⟩ := trodVars_none hV
  obtain ⟨a0, rfl, rfl, rfl, w0⟩ := open_int Tryd.underlying3 (hval 0 3 v0 rfl rfl) h0
  have k1 := h1
  have lt1 : ∀ x ∈ p1, x.block < W.heap.size := by obtain ⟨m, hm⟩ := k1; exact DataW.trod_lt m _ _ _ hm
  obtain ⟨a1, n1, cap1, X1, rfl, x1, y1⟩ : ∃ a n cap X, v1 = .slice a n cap ∧ Sts W a n X ∧ stsW X ≤ 1048576 := by
    obtain ⟨sa, sl, sc, hv⟩ := okWide_slice Tryd.underlying22 (hval 1 22 v1 rfl rfl)
    have hAll : Rows.uptoBulkAll _ ≤ 1048576 := of_decide_eq_true hk
    exact sts_open sa sl sc hv h1 (Nat.le_trans (bulk_mem (show d1 ∈ _ by simp)) hAll)
  clear hA0 hval0
  simp only [List.append_nil] at hW'
  refine (walk a0 a1 n1 cap1 X1 W w0 x1 y1 (tab_of hL)).mono fun e W' ⟨he, bel⟩ => ?_
  subst he
  exact ⟨_, rfl, _, _, _, [], _, [], hW', trodAll_mk1 (shut_bool Tryd.underlying4 _), (trodAll_cons_mk (shut_int Tryd.underlying3 w0) (trodAll_cons_mk (Below.trod laidOut (by kernel_rfl) (of_decide_eq_true (by kernel_rfl)) k1 bel lt1) trodAll_mk0)), rfl, bel.frame _, fun h => by cases h⟩

theorem over : Rows.frameSplitsUptoRow.holds Tryd.pinned (Rows.OpenSpec.upto Rows.frameSplitsSpec) :=
  OpenClaim.holds_of_cond 3 Tryd.f3 rfl rfl rfl rfl rfl rfl rfl ⟨rfl, rfl, rfl, rfl, rfl⟩ rfl rfl rfl rfl rfl (by kernel_rfl) Tryd.func3 (by kernel_rfl)
    (of_decide_eq_true (by kernel_rfl)) (by unfold Func.isWrapper; first | (rw [if_pos (by decide +kernel)]; kernel_rfl) | (rw [if_neg (by decide +kernel)]; exact ⟨rfl, rfl⟩))
    (fun os started H enc _ F => by rw [OpenClaim.pre_eq_preRow]; exact lifted os started H enc F)

/-- No parameter wants a stand-in; the program's own looks are off. -/
theorem plain (f : FuncId) (fn : Func) (hf : Tryd.pinned.checked.prog.funcNamed "hawser/hawserlaw04.FrameSplits" = some f) (hfn : Tryd.pinned.checked.prog.funcs[f]? = some fn) :
    false = Tryd.pinned.checked.prog.looks [] ∧ ∀ (j : Nat) t, fn.params[j]? = some t → Tryd.pinned.checked.prog.wantsStandIn t = false := by
  obtain rfl : f = 3 := Option.some.inj ((show Tryd.prog.funcNamed "hawser/hawserlaw04.FrameSplits" = some 3 by kernel_rfl).symm.trans hf) |>.symm
  obtain rfl : fn = Tryd.f3 := (Option.some.inj (Tryd.func3.symm.trans hfn)).symm
  refine ⟨by kernel_rfl, fun j t ht => ?_⟩
  rw [Tryd.params3] at ht
  have hm : t ∈ [3, 22] := by simpa using Array.mem_of_getElem? ht
  have hall : (([3, 22] : List TypeId).all fun u => !Tryd.prog.wantsStandIn u) = true := by kernel_rfl
  exact (show Tryd.prog.wantsStandIn t = false by simpa using List.all_eq_true.1 hall t hm)
theorem card : Rows.FrameSplitsUptoCardSaid :=
  Claim7.holds_tied_plain_at .later [] _ _ _ _ over (fun _ h => by cases h) (by kernel_rfl) (fun _ h => by cases h) frameSplitsUpto_row_tie rfl ⟨rfl, rfl⟩ (by kernel_rfl) rfl plain (by kernel_rfl)

end Go.Proofs.YtegbgmihcokblaaDoor.frameSplits
namespace Go.Proofs.YtegbgmihcokblaaDoor
theorem frameSplits_holds : Rows.FrameSplitsUptoCardSaid := frameSplits.card
#print axioms frameSplits_holds
end Go.Proofs.YtegbgmihcokblaaDoor
