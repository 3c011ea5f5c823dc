/-
  What the document's Encode answers of a state: its image, or the error. Condition: none but that its rows can be read.
-/
import Derived.Test.YtlmjgjimmbadeaaDoorIGf
import Derived.Test.YtlmjgjimmbadeaaDoorIJw
import Derived.Test.YtlmjgjimmbadeaaDoorFb
import Derived.Test.YtlmjgjimmbadeaaDoorCrC
import Derived.Test.YtlmjgjimmbadeaaDoorTSk
namespace Go.Proofs.YtlmjgjimmbadeaaDoor
open Go.RowKit
set_option linter.unusedVariables false

theorem hid_drE (W : World) : Hid (W.grownBy W.drew none) := ⟨rfl, rfl, rfl, Nat.le_refl _, fun _ _ _ => rfl⟩
theorem body_bytesE (seq : Int) (n : Nat) (X : List Rwi) (k : Nat) : Bytes (bodyTo seq n X k) := by
  apply bytes_mem
  intro z hz
  unfold bodyTo at hz
  rcases List.mem_append.1 hz with q | q
  · have : ∀ z ∈ mark4, 0 ≤ z ∧ z < 256 := by decide
    exact this z q
  · rcases List.mem_append.1 q with q | q
    · unfold numB at q
      obtain ⟨v, _, hv⟩ := List.mem_flatMap.1 q
      exact enc_bytes _ z hv
    · exact rows_mem X k z q
theorem xwr_c0 {w w' : World} {g : Nat} {v : Value} {e : Int} (h : Xwr w g v e) (hg : w.grownBy w' none) : w'.cell? ⟨g, 0, none⟩ = some v := ((gbb hg).cell (p := ⟨g, 0, none⟩) (lt_of_block h)).trans h.c0
/-- The writer's life along the rows. -/
structure EW (w W : World) (g : Nat) (seq : Int) (a : Option Addr) (n cap : Nat) (X : List Rwi) (k : Nat) : Prop where
  ex : ∃ v F, XW (w.heap.size + 1) W g v (bodyTo seq n X k) 0 F
  bk : Bk 24 W w.heap.size #[.int .i64 seq, .slice a n cap]
  rows : Rws W a n X
  bel : Below w.heap.size w W
  lt : w.heap.size < g
theorem EW.new {w W W' g seq a n cap X k} (h : EW w W g seq a n cap X k) (hg : W.grownBy W' none) : EW w W' g seq a n cap X k := by
  obtain ⟨v, F, hx⟩ := h.ex
  exact ⟨⟨v, F, hx.new hg⟩, h.bk.grew hg (by simp), h.rows.below (gbb hg), h.bel.trans ((gbb hg).mono h.bel.size), h.lt⟩
theorem ew_start {w w2 : World} {va : Option Addr} {vc : Nat} {seq : Int} {a : Option Addr} {n cap : Nat} {X : List Rwi} (h : Own (w.heap.size + 1) w2 (.slice va (4 + (numB [seq, (n : Int)]).length) vc) (4 + (numB [seq, (n : Int)]).length) (mark4 ++ numB [seq, (n : Int)])) (hb : Bk 24 w2 w.heap.size #[.int .i64 seq, .slice a n cap]) (hg : w.grownBy w2 none) (hr : Rws w2 a n X) :
    EW w (w2.alloc (.cells #[.slice va (4 + (numB [seq, (n : Int)]).length) vc, .int .i64 0] 83)) w2.heap.size seq a n cap X 0 := by
  have hal := gal w2 (.cells #[.slice va (4 + (numB [seq, (n : Int)]).length) vc, .int .i64 0] 83)
  have eb : bodyTo seq n X 0 = mark4 ++ numB [seq, (n : Int)] := by simp [bodyTo, rowsB]
  have el : (bodyTo seq n X 0).length = 4 + (numB [seq, (n : Int)]).length := by rw [eb, List.length_append]; rfl
  refine ⟨⟨_, _, heap_new w2 _, ?_, rfl, fun e => ?_, body_bytesE seq n X 0, Nat.le_trans (lt_of_block hb) hal.size⟩, hb.grew hal (by simp), hr.below (gbb hal), gbb (gb_trans hg hal), lt_of_block hb⟩
  · rw [el, eb]; exact h.below (gbb hal)
  · have := (h.lo _ e).2; omega
theorem ew_row {w W : World} {g : Nat} {seq : Int} {a : Option Addr} {n cap : Nat} {X : List Rwi} {k : Nat} (h : EW w W g seq a n cap X k) (kk vv : ByteArray) (nn : Int) (hB : bodyTo seq n X (k + 1) = bodyTo seq n X k ++ Rwi.bytes ⟨kk, vv, nn⟩) (hl : (bodyTo seq n X k).length ≤ 268435456) (hwe : wre kk vv nn = 0) (h1 : kk.size ≤ 1024) (h2 : vv.size ≤ 65536) (h3 : nn ≤ 9223372036854775807) (h4 : -9223372036854775808 ≤ nn) (hrl : ∀ b o s, a = some ⟨b, o, s⟩ → n = 0 ∨ b < w.heap.size) :
    Calls Tryd.prog 35 #[.pointer (some ⟨g, 0, none⟩), .agg #[.string kk, .string vv, .int .i64 nn]] W fun r w' => r = .returned (.tuple #[]) ∧ EW w w' g seq a n cap X (k + 1) := by
  obtain ⟨v, F, hx⟩ := h.ex
  have q := xwrow_c (w.heap.size + 1) g v (bodyTo seq n X k) 0 kk vv nn F W hx (by omega) (by omega) h3 h4 (by omega)
  have e1 : ferr 0 (wre kk vv nn) = 0 := by unfold ferr; rw [if_pos rfl, hwe]
  have e2 : wadd 0 (bodyTo seq n X k) (rowB kk vv nn) = bodyTo seq n X (k + 1) := by rw [hB]; exact if_pos rfl
  rw [e1, e2] at q
  refine q.mono ?_
  rintro r w' ⟨q1, v', F', q2, q3, q4⟩
  have hF : ∀ j, (j = g ∨ F = some j) → w.heap.size + 1 ≤ j := fun j hj => by
    rcases hj with rfl | hj
    · exact h.lt
    · have := (hx.own.lo j (by rw [hx.fb]; exact hj)).1; omega
  have hbel : Below w.heap.size w w' := Gr.below h.bel q3 (fun j hj => by have := hF j hj; omega) h.bel.size
  have hbW : Below w.heap.size W w' := ⟨q3.os, q3.tape, q3.output, q3.size, fun j hj => q3.block j (Nat.lt_of_lt_of_le hj h.bel.size) (fun z => by have := hF j z; omega)⟩
  refine ⟨q1, ⟨⟨v', F', q2⟩, (q3.block w.heap.size (lt_of_block h.bk) (fun z => by have := hF _ z; omega)).trans h.bk, rws_gr h.rows hbW hrl q3.size, hbel, h.lt⟩⟩
theorem ew_end {w wr y2 y3 : World} {va : Option Addr} {m vc g6 cp : Nat} {xs zs : List Int} (k1 : y3.ownsRow (w.heap.size + 1) 5 1 (.slice (some ⟨g6, 0, none⟩) (m + 4) cp) (m + 4) (xs.map (Value.int .u8) ++ zs.map (Value.int .u8))) (k2 : y2.grownBy y3 (Value.slice va m vc).ownBlock) (h1 : wr.grownBy y2 none) (h2 : Below w.heap.size w wr) (h3 : Own (w.heap.size + 1) y2 (.slice va m vc) m xs) :
    Seg .u8 y3 (some ⟨g6, 0, none⟩) (m + 4) (xs ++ zs) ∧ w.grownBy y3 none := by
  have ho : Own (w.heap.size + 1) y3 (.slice (some ⟨g6, 0, none⟩) (m + 4) cp) (m + 4) (xs ++ zs) := by unfold Own; rw [List.map_append]; exact k1
  obtain ⟨a', c', e, hs, _⟩ := ho.seg
  cases e
  have c1 : Below w.heap.size w y2 := h2.grown h1 h2.size (fun k hk => by cases hk)
  exact ⟨hs, bgb (c1.grown k2 c1.size (fun k hk => by have := (h3.lo k hk).1; omega))⟩
set_option maxRecDepth 20000 in
set_option maxHeartbeats 4000000 in
theorem jencode_c (seq : Int) (a : Option Addr) (n cap : Nat) (X : List Rwi) (w : World) (h : Rws w a n X) (hnm : n ≤ 9223372036854775807) :
    Calls Tryd.prog 10 #[.agg #[.int .i64 seq, .slice a n cap]] w fun r w' => ∃ va vc, r = .returned (.tuple #[.slice va (iB seq n X).length vc, .int .i64 (sE seq n X)]) ∧ Seg .u8 w' va (iB seq n X).length (iB seq n X) ∧ w.grownBy w' none := by
  obtain ⟨W0, hW0⟩ : ∃ W0, W0 = w.alloc (.cells #[.int .i64 seq, .slice a n cap] 24) := ⟨_, rfl⟩
  have HB0 : Hid (Bk 24 W0 w.heap.size #[.int .i64 seq, .slice a n cap] ∧ w.grownBy W0 none ∧ Rws W0 a n X) := by
    have hb := blk_new w 24 #[.int .i64 seq, .slice a n cap]
    rw [← hW0] at hb
    exact ⟨hb.1, hb.2, h.below (gbb hb.2)⟩
  obtain ⟨E, hE⟩ : ∃ E, E = sE seq n X := ⟨_, rfl⟩
  have HJ : Hid (∀ W, W0.grownBy W none → Calls Tryd.prog 29 #[.agg #[.int .i64 seq, .slice a n cap]] W fun r w' => r = .returned (.int .i64 E) ∧ W.grownBy w' none) := fun W hg => by
    rw [hE]
    exact jcheck_c seq a n cap X W (HB0.out.2.2.below (gbb hg)) hnm
  have hlt0 : ∀ b o s, a = some ⟨b, o, s⟩ → n = 0 ∨ b < w.heap.size := rws_lt h
  have HRL : Hid (∀ b o s, a = some ⟨b, o, s⟩ → n = 0 ∨ b < w.heap.size) := hlt0
  by_cases hE0 : E = 0
  · subst hE0
    obtain ⟨hn, hs0, hs1, hok, htz⟩ := sE_ok hE.symm
    have hiB : iB seq n X = img seq n X := if_pos hE.symm
    have HHD : Hid (∀ W, Calls Tryd.prog 34 #[.agg #[.int .i64 seq, .slice a n cap]] W fun r w' => ∃ v, r = .returned v ∧ Own W.heap.size w' v (4 + (numB [seq, (n : Int)]).length) (mark4 ++ numB [seq, (n : Int)]) ∧ Below W.heap.size W w') := fun W => jhead_c seq a n cap W hs0 (by omega) hn
    have HXX : Hid (okTo X seq n = true ∧ tz seq n X n ≤ 268435456 ∧ iB seq n X = img seq n X) := ⟨hok, htz, hiB⟩
    rw [hiB, ← hE]
    have hbl : (bodyTo seq n X n).length + 4 = tz seq n X n := body_len seq n X n
    have himl : (img seq n X).length = (bodyTo seq n X n).length + 4 := by rw [img_len, ← hbl]
    have HIM : Hid (img seq n X = bodyTo seq n X n ++ Cr.by4 (Cr.sum (bodyTo seq n X n)) ∧ (img seq n X).length = (bodyTo seq n X n).length + 4) := ⟨rfl, himl⟩
    clear h hE hok htz hiB hbl himl hlt0
    go_enter Tryd.func10, Tryd.ntmps10
    go_wp2_with (first
      | ((fail_if_success (have z := G0)); have G0 : Hid True := trivial; rw [← hW0]; clear hW0)
      | ((fail_if_success (have z := H1)); refine wpList_load_bk 24 rfl (.tmp 1) rfl Tryd.underlying24 rfl infoState w.heap.size _ rfl HB0.out.1 rfl ?_)
      | (go_at_call 29; go_must (refine (Calls.mono (HJ.out _ (grf _)) ?_)); rintro r w1 ⟨rfl, q⟩; have H1 : Hid (Bk 24 w1 w.heap.size #[.int .i64 seq, .slice a n cap] ∧ w.grownBy w1 none ∧ Rws w1 a n X) := ⟨HB0.out.1.grew q (by simp), gb_trans HB0.out.2.1 q, HB0.out.2.2.below (gbb q)⟩; clear q)
      | ((fail_if_success (have z := H2)); have z := H1; clear z; refine wpList_load_bk 24 rfl (.tmp 1) rfl Tryd.underlying24 rfl infoState w.heap.size _ rfl H1.out.1 rfl ?_)
      | (go_at_call 34; go_must (refine (Calls.mono (HHD.out _) ?_)); rintro r w2 ⟨v, rfl, q1, q2⟩; obtain ⟨va, vc, rfl, q3, q4, q5⟩ := q1.seg; have H2 : Hid (Own (w.heap.size + 1) w2 (.slice va (4 + (numB [seq, (n : Int)]).length) vc) (4 + (numB [seq, (n : Int)]).length) (mark4 ++ numB [seq, (n : Int)]) ∧ Bk 24 w2 w.heap.size #[.int .i64 seq, .slice a n cap] ∧ w.grownBy w2 none ∧ Rws w2 a n X) := ⟨q1.base (lt_of_block H1.out.1), H1.out.1.grew (bgb q2) (by simp), gb_trans H1.out.2.1 (bgb q2), H1.out.2.2.below q2⟩; have H3 : Hid (EW w (w2.alloc (.cells #[.slice va (4 + (numB [seq, (n : Int)]).length) vc, .int .i64 0] 83)) w2.heap.size seq a n cap X 0) := ew_start H2.out.1 H2.out.2.1 H2.out.2.2.1 H2.out.2.2.2; have d1 : (w2.alloc (.cells #[.slice va (4 + (numB [seq, (n : Int)]).length) vc, .int .i64 0] 83)).cell? ⟨w.heap.size, 1, none⟩ = some (.slice a n cap) := H3.out.bk.cell 1; clear q1 q2 q3 q4 q5))
    obtain ⟨g, hg0⟩ : ∃ g, g = w2.heap.size := ⟨_, rfl⟩
    rw [← hg0] at H3 ⊢
    clear H2 H1 hg0 d1
    go_loopw [20] (fun i wr => ∃ k : Nat, k ≤ n ∧ i = .int .i64 k ∧ Hid (EW w wr g seq a n cap X k)) (fun i _ => n - (intOf i).toNat)
    case atStart => exact ⟨0, Nat.zero_le _, rfl, H3⟩
    case round =>
      obtain ⟨k, hk, rfl, hr⟩ := hrel
      clear H3
      by_cases hlt : k < n
      · have hi1 : (k : Int) < n := by omega
        rcases hr.out.rows.2 with z | ⟨b, off, rfl, hbl, hcl⟩
        · omega
        obtain ⟨u, hu⟩ : ∃ u, u = rAt X k := ⟨_, rfl⟩
        have HRG : Hid (wr.rangeAt b (off + k * 3) u.cells) := by rw [hu]; exact hcl k hlt
        have hfw := okTo_at HXX.out.1 hlt
        rw [← hu] at hfw
        have hbd := fw_bd hfw
        have hwe := fw_wre hfw
        have HBM : Hid (bodyTo seq n X (k + 1) = bodyTo seq n X k ++ u.bytes ∧ (bodyTo seq n X k).length ≤ 268435456) := ⟨by rw [hu]; exact body_more seq n X k, by have := body_len seq n X k; have := tz_mono seq n X (show k ≤ n by omega); have := HXX.out.2.1; omega⟩
        clear hu hcl hbl hfw
        obtain ⟨kk, vv, nn⟩ := u
        simp only at hbd hwe
        have HBK : Hid (Bk 48 (wr.alloc (.cells #[.string kk, .string vv, .int .i64 nn] 48)) wr.heap.size #[.string kk, .string vv, .int .i64 nn]) := (blk_new wr 48 _).1
        have HRO : Hid (Calls Tryd.prog 35 #[.pointer (some ⟨g, 0, none⟩), .agg #[.string kk, .string vv, .int .i64 nn]] (wr.alloc (.cells #[.string kk, .string vv, .int .i64 nn] 48)) fun r w' => r = .returned (.tuple #[]) ∧ EW w w' g seq (some ⟨b, off, none⟩) n cap X (k + 1)) := ew_row (hr.out.new (gal wr _)) kk vv nn HBM.out.1 (by have := HBM.out.2; omega) hwe (by omega) (by omega) (by omega) (by omega) HRL.out
        clear hbd hwe HBM
        go_wp2_with (first
          | ((fail_if_success (have z := A1)); refine wpList_load_mid rfl 48 (.tmp 22) rfl b (off + k * 3) (by first | rfl | simp) [.string kk, .string vv, .int .i64 nn] _ HRG.out Tryd.underlying48 rfl (by kernel_rfl) ?_)
          | ((fail_if_success (have z := A1)); refine wpList_load_bk 48 rfl (.tmp 7) rfl Tryd.underlying48 rfl infoRwI wr.heap.size _ rfl HBK.out rfl ?_)
          | ((fail_if_success (have z := A1)); go_at_call 35; go_must (refine (Calls.mono HRO.out ?_)); rintro r x1 ⟨rfl, q⟩; have A1 : Hid (EW w x1 g seq (some ⟨b, off, none⟩) n cap X (k + 1)) := q; clear q))
        go_roundw
        case rel => exact ⟨k + 1, by omega, by go_num, A1⟩
        case measure => simp [intOf]; omega
      · obtain rfl : k = n := by omega
        have hge : ¬ (k : Int) < k := by omega
        obtain ⟨v, F, hxw⟩ := hr.out.ex
        obtain ⟨va, vc, hv, hsg, hvn, hvc⟩ := hxw.own.seg
        subst hv
        obtain ⟨xs, hxs⟩ : ∃ xs, xs = bodyTo seq k X k := ⟨_, rfl⟩
        obtain ⟨m, hm⟩ : ∃ m, m = xs.length := ⟨_, rfl⟩
        obtain ⟨T, hT⟩ : ∃ T, T = Cr.sum xs := ⟨_, rfl⟩
        have HIM2 : Hid (img seq k X = xs ++ Cr.by4 T ∧ (img seq k X).length = m + 4) := ⟨by rw [HIM.out.1, hT, hxs], by rw [HIM.out.2, hm, hxs]⟩
        rw [← hxs] at hxw hsg hvc
        rw [← hm] at hsg hvc
        have hmb : m ≤ 268435456 := by rw [hm, hxs]; have := body_len seq k X k; have := HXX.out.2.1; omega
        have HXB : Hid (Bytes xs) := by rw [hxs]; exact body_bytesE seq k X k
        have HOW : Hid (Own (w.heap.size + 1) wr (.slice va m vc) m xs ∧ Xwr wr g (.slice va m vc) 0 ∧ Below w.heap.size w wr ∧ w.heap.size + 1 ≤ wr.heap.size) := by
          have q := hxw.own
          have q2 := hxw.blk
          rw [← hm] at q q2
          exact ⟨q, q2, hr.out.bel, hxw.base⟩
        have HRD : Hid (wr.grownBy wr.drew none) := hid_drE wr
        have HSU : Hid (∀ W, wr.grownBy W none → Calls Tryd.prog 37 #[.slice va m vc] W fun r w' => r = .returned (.int .u32 (Cr.W T)) ∧ w' = W) := fun W hg => by
          rw [hT]
          exact Cr.rsum_c va m vc xs W (hsg.grew hg (by simp)) HXB.out (by omega)
        have HWO : Hid (∀ W, wr.grownBy W none → Calls Tryd.prog 36 #[.int .u32 (Cr.W T)] W fun e w' => ∃ g5, e = .returned (.slice (some ⟨g5, 0, none⟩) 4 4) ∧ Seg .u8 w' (some ⟨g5, 0, none⟩) 4 (Cr.by4 T) ∧ wr.grownBy w' none) := fun W hg => (jword_c T W).mono fun r w' ⟨g5, q1, q2, q3⟩ => ⟨g5, q1, q2, gb_trans hg q3⟩
        have c0 : wr.drew.cell? ⟨g, 0, none⟩ = some (.slice va m vc) := HOW.out.2.1.c0
        obtain ⟨i0, hi, hz0, hz1, hz2⟩ := info_parts Tryd.infoU8
        have HI : Hid (Tryd.prog.info? 5 = some i0 ∧ i0.zero = some (.int .u8 0) ∧ i0.size = 1 ∧ i0.bytes = 1) := ⟨hi, hz0, hz1, hz2⟩
        have HML : Hid (xs.length = m) := hm.symm
        clear hxw hsg hvn hvc hr hxs hm hT hi hz0 hz1 hz2 HIM
        go_wp2_with fail
        go_region_law (first
          | (have z := A2; clear z; refine step_append_lies _ rfl (.tmp 31) (.tmp 37) 27 rfl (w.heap.size + 1) 5 i0 (.int .u8 0) 1 1 Tryd.underlying27 HI.out.1 HI.out.2.1 HI.out.2.2.1 HI.out.2.2.2 rfl (by decide) (.slice va m vc) m (xs.map (Value.int .u8)) rfl A2.out.2.2.1 ⟨g5, 0, none⟩ 4 4 ((Cr.by4 T).map (Value.int .u8)) rfl rfl (seg_news' A2.out.1 _ rfl) (by intro u hu; obtain ⟨z, _, rfl⟩ := List.mem_map.1 hu; rfl) (by decide) (by unfold maxLen; omega) (by omega) A2.out.2.2.2 _ rfl ?_; intro g6 cp y3 k1 k2 k3 k4; have A3 : Hid (Seg .u8 y3 (some ⟨g6, 0, none⟩) (m + 4) (xs ++ Cr.by4 T) ∧ w.grownBy y3 none) := (ew_end k1 k2 A2.out.2.1 HOW.out.2.2.1 A2.out.2.2.1); clear k1 k2 k3 k4)
          | (go_simp; go_at_call 37; refine (Calls.mono (HSU.out _ HRD.out) ?_); rintro r y1 ⟨rfl, hq⟩; subst hq)
          | (go_simp; go_at_call 36; refine (Calls.mono (HWO.out _ HRD.out) ?_); rintro r y2 ⟨g5, rfl, q1, q2⟩; have A2 : Hid (Seg .u8 y2 (some ⟨g5, 0, none⟩) 4 (Cr.by4 T) ∧ wr.grownBy y2 none ∧ Own (w.heap.size + 1) y2 (.slice va m vc) m xs ∧ w.heap.size + 1 ≤ y2.heap.size) := ⟨q1, q2, HOW.out.1.below (gbb q2), Nat.le_trans HOW.out.2.2.2 q2.size⟩; have c0b : y2.cell? ⟨g, 0, none⟩ = some (.slice va m vc) := xwr_c0 HOW.out.2.1 q2; clear q1 q2))
        all_goals
          go_wp2_with fail
          go_ret2
          rw [HIM2.out.2, HIM2.out.1]
          exact ⟨_, _, rfl, A3.out.1, A3.out.2⟩
  · have hEb : (E != 0) = true := by simp [hE0]
    have hiB : iB seq n X = [] := if_neg (by rw [← hE]; exact hE0)
    rw [hiB, ← hE]
    clear h hE hE0 hlt0 hiB
    go_enter Tryd.func10, Tryd.ntmps10
    go_wp2_with (first
      | ((fail_if_success (have z := G0)); have G0 : Hid True := trivial; rw [← hW0]; clear hW0)
      | ((fail_if_success (have z := H1)); refine wpList_load_bk 24 rfl (.tmp 1) rfl Tryd.underlying24 rfl infoState w.heap.size _ rfl HB0.out.1 rfl ?_)
      | (go_at_call 29; go_must (refine (Calls.mono (HJ.out _ (grf _)) ?_)); rintro r w1 ⟨rfl, q⟩; have H1 : Hid (w.grownBy w1 none) := gb_trans HB0.out.2.1 q; clear q))
    go_ret2
    exact ⟨none, 0, rfl, ⟨rfl, .inl rfl⟩, H1.out⟩
end Go.Proofs.YtlmjgjimmbadeaaDoor
