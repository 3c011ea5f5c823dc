/-
  The law's walk: a frame of which bits are turned is not found, nor another in its place. Condition: the body and the turned places can be read; the table of package crc lies in memory.
-/
import Derived.Test.YtbfbehjldloeoaaDoorWSd
import Derived.Test.YtbfbehjldloeoaaDoorFEn
import Derived.Test.YtbfbehjldloeoaaDoorFDc
import Derived.Test.YtbfbehjldloeoaaDoorFAk
import Derived.Sort.AtCall
namespace Go.Proofs.YtbfbehjldloeoaaDoor
open Go.RowKit
set_option linter.unusedVariables false

theorem sameW_c (a b : Option Addr) (la ca lb cb : Nat) (xs ys : List Int) (w : World) (h1 : Seg .u8 w a la xs) (h2 : Seg .u8 w b lb ys) (hx : Bytes xs) (hy : Bytes ys) :
    Calls Tryd.prog 11 #[.slice a la ca, .slice b lb cb] w fun r w' => r = .returned (.bool (decide (xs = ys))) ∧ w' = w := by
  have HE : Hid (((strOfNums xs).toList == (strOfNums ys).toList) = decide (xs = ys)) := str_eq hx hy
  have r1 := seg_string (P := Tryd.prog) 22 9 5 ca h1 Tryd.underlying22 Tryd.underlying5 Tryd.underlying9
  have r2 := seg_string (P := Tryd.prog) 22 9 5 cb h2 Tryd.underlying22 Tryd.underlying5 Tryd.underlying9
  clear h1 h2 hx hy
  obtain ⟨b, hb⟩ : ∃ b, b = decide (xs = ys) := ⟨_, rfl⟩
  rw [← hb] at HE ⊢
  have hq := HE.out
  clear hb
  go_enter Tryd.func11, Tryd.ntmps11
  go_wp2
  go_ret
  first
    | exact ⟨rfl, rfl⟩
    | exact ⟨by rw [hq], rfl⟩
theorem cutB_block {g cg k b' o' : Nat} {s' : Option Nat} (h : cutB (some ⟨g, 0, none⟩) cg k = some ⟨b', o', s'⟩) : g = b' := by
  unfold cutB at h
  split at h
  · cases h; rfl
  · simp only [Option.map_some, Go.WideShapes.add_plain] at h
    cases h; rfl
theorem fAll_own (t : Int) (body : List Int) (ht : 1 ≤ t) (ht' : t ≤ 255) (hl : body.length ≤ 1048576) : fAll 1048576 (fenc t body) = [(t, body)] := by
  have h := fseen_found 1048576 false t body [] ht ht' hl hl
  rw [List.append_nil, fseen_nil] at h
  unfold fAll
  rw [h]
  rfl
theorem Tryd.infoTurn : (Tryd.prog.info? 26).map (·.size) = some 3 := by kernel_rfl
theorem fr_one (T : Int) (a : Option Addr) (n c : Nat) : #[Value.int .i64 T, .slice a n c].all (·.oneCell') = true := by simp [Value.oneCell']
theorem stored_belowW {w w2 : World} {o : Obj} (h : (w.alloc o).grownBy w2 (some w.heap.size)) : Below w.heap.size w w2 :=
  ((Below.refl _ _).alloc (Nat.le_refl _) _).grown h (by simp) (fun k hk => by cases hk; exact Nat.le_refl _)
set_option maxRecDepth 20000 in
set_option maxHeartbeats 8000000 in
theorem spoilt_w (K0 : Int) (a : Option Addr) (len cap : Nat) (xs : List Int) (T0 : Int) (v : Wd) (am : Option Addr) (lm cm : Nat) (zm : List Int) (w : World) (hs : Seg .u8 w a len xs) (hx : Bytes xs) (hnz : a = none → cap = 0) (hlen : len ≤ 9223372036854775807) (hK0 : -9223372036854775808 ≤ K0 ∧ K0 ≤ 9223372036854775807) (hT0 : -9223372036854775808 ≤ T0 ∧ T0 ≤ 9223372036854775807) (hm : Seg .i64 w am lm zm) (hz : ∀ i, i < lm → -9223372036854775808 ≤ zm[i]?.getD 0 ∧ zm[i]?.getD 0 ≤ 9223372036854775807) (hlm : lm ≤ 9223372036854775807) (ht : Tab w) :
    Calls Tryd.prog 3 #[.int .i64 K0, .slice a len cap, .agg #[.int .i64 T0, .int .u32 (W v), .slice am lm cm]] w fun e w' => e = .returned (.bool true) ∧ Below w.heap.size w w' := by
  have HP1 : Hid (∀ Wx, Calls Tryd.prog 4 #[.int .i64 K0, .int .i64 255] Wx fun r w' => ∃ F : Nat, F < 255 ∧ r = .returned (.int .i64 (F : Int)) ∧ w' = Wx) := fun Wx => put_c K0 255 Wx hK0 (by decide) (by decide)
  obtain ⟨N0, hN0⟩ : ∃ N0, N0 = w.heap.size := ⟨_, rfl⟩
  obtain ⟨W0, hW0⟩ : ∃ W0, W0 = w.alloc (.cells #[.int .i64 T0, .int .u32 (W v), .slice am lm cm] 26) := ⟨_, rfl⟩
  have HB0 : Hid (Bk 26 W0 N0 #[.int .i64 T0, .int .u32 (W v), .slice am lm cm] ∧ Below w.heap.size w W0 ∧ W0.heap.size = N0 + 1 ∧ N0 = w.heap.size) := by rw [hW0, hN0]; exact ⟨heap_new w _, (Below.refl _ _).alloc (Nat.le_refl _) _, by simp, rfl⟩
  by_cases hbig : 1048576 < len
  · have hb1 : (1048576 : Int) < (len : Int) := by omega
    clear hs hx hm hz
    go_enter Tryd.func3, Tryd.ntmps3
    go_wp2_with (go_at_call 4; rw [← hW0, ← hN0]; clear hW0 hN0; go_must (refine (Calls.mono (HP1.out _) ?_)); rintro r w1 ⟨F, hF, rfl, hq⟩; obtain rfl := hq.symm; clear hq)
    go_ret
    exact ⟨rfl, HB0.out.2.1⟩
  have hb1 : ¬ ((1048576 : Int) < (len : Int)) := by omega
  have hl : len ≤ 1048576 := by omega
  obtain ⟨n, hn⟩ : ∃ n, n = len + 14 := ⟨_, rfl⟩
  have hnI : (len : Int) + 14 = (n : Int) := by omega
  have hnb : n ≤ 1048590 := by omega
  have HN : Hid (n = len + 14 ∧ xs.length = len ∧ Bytes xs ∧ len ≤ 1048576) := ⟨hn, hs.1, hx, hl⟩
  have HIN : Hid (∀ Wx, Below w.heap.size w Wx → Seg .u8 Wx a len xs ∧ Tab Wx ∧ Seg .i64 Wx am lm zm) := fun Wx hb => ⟨hs.below hb, ht.below hb, hm.below hb⟩
  have HEN : Hid (∀ (T : Int) (Wx : World), 1 ≤ T → T ≤ 255 → Below w.heap.size w Wx → Calls Tryd.prog 5 #[.agg #[.int .i64 T, .slice a len cap]] Wx fun e w' => ∃ gb cb, e = .returned (.tuple #[.slice (some ⟨gb, 0, none⟩) n cb, .int .i64 0]) ∧ Own Wx.heap.size w' (.slice (some ⟨gb, 0, none⟩) n cb) n (fenc T xs) ∧ n ≤ cb ∧ Below Wx.heap.size Wx w') := fun T Wx t1 t2 hb => by
    obtain ⟨h1, h2, h3, h4⟩ := HN.out
    have q : fee T len = 0 := by unfold fee; rw [if_neg (by omega), if_neg (by omega)]
    have q2 : feb T xs = fenc T xs := by unfold feb; rw [h2, q]; rfl
    refine (encode_c T a len cap xs Wx hnz (HIN.out Wx hb).1 h3 (by omega) (HIN.out Wx hb).2.1).mono ?_
    rintro e w' ⟨v', q1, k1, k2⟩
    rw [q2, fenc_length, h2, ← h1] at k1
    obtain ⟨gb, cb, rfl, _, k3⟩ := k1.form (by omega)
    rw [q] at q1
    exact ⟨gb, cb, q1, k1, k3, k2⟩
  have HTU : Hid (∀ Wx gb cb bs, Below w.heap.size w Wx → Seg .u8 Wx (some ⟨gb, 0, none⟩) n bs → Bytes bs → Calls Tryd.prog 6 #[.slice (some ⟨gb, 0, none⟩) n cb, .agg #[.int .i64 T0, .int .u32 (W v), .slice am lm cm]] Wx fun r w' => ∃ g cg ys, r = .returned (.slice (some ⟨g, 0, none⟩) n cg) ∧ Tn w' Wx.heap.size g n cg ys ∧ Tells bs ys ∧ Below Wx.heap.size Wx w') := fun Wx gb cb bs hb h1 h2 => turned_c (some ⟨gb, 0, none⟩) n cb bs T0 v am lm cm zm Wx h1 h2 (by omega) (by omega) hT0 (HIN.out Wx hb).2.2 hz hlm
  have HPT : Hid (∀ Wx, Calls Tryd.prog 4 #[.int .i64 T0, .int .i64 ((n : Int) + 1)] Wx fun r w' => ∃ k : Nat, k ≤ n ∧ r = .returned (.int .i64 (k : Int)) ∧ w' = Wx) := fun Wx => by
    have q := put_c T0 (n + 1) Wx hT0 (by omega) (by omega)
    rw [show ((n + 1 : Nat) : Int) = (n : Int) + 1 from by omega] at q
    exact q.mono fun r w' ⟨F, h1, h2, h3⟩ => ⟨F, by omega, h2, h3⟩
  have HNW : Hid (∀ Wx, Calls Tryd.prog 7 #[.int .i64 1048576] Wx (NewAns Wx 1048576)) := fun Wx => new_c 1048576 (by decide) (by decide) Wx
  have hlI : (len : Int) ≤ 1048576 := by omega
  clear hs hx hm hz hn hK0 hT0 hnz ht
  go_enter Tryd.func3, Tryd.ntmps3
  go_wp2_with (first
    | (go_at_call_of 4 (Value.int .i64 K0); rw [← hW0, ← hN0]; clear hW0 hN0; go_must (refine (Calls.mono (HP1.out _) ?_)); rintro r w1 ⟨F, hF, rfl, hq⟩; obtain rfl := hq.symm; clear hq; obtain ⟨T, hT⟩ : ∃ T : Int, (F : Int) + 1 = T := ⟨_, rfl⟩; have HT : Hid (1 ≤ T ∧ T ≤ 255) := ⟨by omega, by omega⟩; have HZ : Hid _ := fr_new W0)
    | (refine wpList_store_bk 29 rfl (.tmp 7) (.tmp 24) rfl Tryd.infoFrame W0.heap.size _ #[.int .i64 T, .slice a len cap] rfl rfl HZ.out.1 rfl rfl (fr_one _ _ _ _) ?_; intro w2 h1 h2; have H2 : Hid (Bk 29 w2 W0.heap.size #[.int .i64 T, .slice a len cap] ∧ Below W0.heap.size W0 w2 ∧ Below w.heap.size w w2 ∧ Bk 26 w2 N0 #[.int .i64 T0, .int .u32 (W v), .slice am lm cm]) := (by have b := stored_belowW h2; exact ⟨h1, b, HB0.out.2.1.trans (b.mono HB0.out.2.1.size), HB0.out.1.below b (lt_of_block HB0.out.1)⟩); clear h1 h2)
    | (refine wpList_load_bk 29 rfl (.tmp 7) rfl Tryd.underlying29 rfl Tryd.infoFrame W0.heap.size _ rfl H2.out.1 rfl ?_)
    | (go_at_call 5; go_must (refine (Calls.mono (HEN.out T w2 HT.out.1 HT.out.2 H2.out.2.2.1) ?_)); rintro r w3 ⟨gb, cb, rfl, z1, z2, z3⟩; have H3 : Hid (Own w2.heap.size w3 (.slice (some ⟨gb, 0, none⟩) n cb) n (fenc T xs) ∧ n ≤ cb ∧ Below w.heap.size w w3 ∧ Bk 26 w3 N0 #[.int .i64 T0, .int .u32 (W v), .slice am lm cm]) := ⟨z1, z2, H2.out.2.2.1.trans (z3.mono H2.out.2.2.1.size), H2.out.2.2.2.below z3 (lt_of_block H2.out.2.2.2)⟩; clear z1 z2 z3)
    | (refine wpList_load_bk 26 rfl (.tmp 5) rfl Tryd.underlying26 rfl Tryd.infoTurn N0 _ rfl H3.out.2.2.2 rfl ?_)
    | (go_at_call 6; go_must (refine (Calls.mono (HTU.out w3 gb cb (fenc T xs) H3.out.2.2.1 (by obtain ⟨_, _, e, z, _⟩ := H3.out.1.seg; cases e; exact z) (fenc_bytes (by have := HT.out; omega) (by have := HT.out; omega) HN.out.2.2.1)) ?_)); rintro r w4 ⟨g, cg, cs, rfl, z1, z2, z3⟩; have H4 : Hid (Tn w4 w3.heap.size g n cg cs ∧ Tells (fenc T xs) cs ∧ Below w.heap.size w w4 ∧ Own w2.heap.size w4 (.slice (some ⟨gb, 0, none⟩) n cb) n (fenc T xs) ∧ Bk 26 w4 N0 #[.int .i64 T0, .int .u32 (W v), .slice am lm cm]) := ⟨z1, z2, H3.out.2.2.1.trans (z3.mono H3.out.2.2.1.size), H3.out.1.below z3, H3.out.2.2.2.below z3 (lt_of_block H3.out.2.2.2)⟩; clear z1 z2 z3)
    | (go_at_call 7; go_must (refine (Calls.mono (HNW.out w4) ?_)); rintro r w5 ⟨S, T5, rfl, h1, h2, h3, h4, h5⟩; have H5 : Hid (SS (fun k => w4.heap.size ≤ k ∧ k < w5.heap.size) w5 S 2097180 [] 1048576 0 0 (.slice none 0 0) [] ∧ Below w4.heap.size w4 w5) := ⟨((ss_new h1 h2 h3 h4).mono (Nat.zero_le _)).weak (fun k hk z => ⟨z, hk⟩), h5⟩; have c0 : w5.cell? ⟨N0, 0, none⟩ = some (.int .i64 T0) := (H4.out.2.2.2.2.below h5 (lt_of_block H4.out.2.2.2.2)).cell 0; clear h1 h2 h3 h4 h5)
    | (go_at_call 4; go_must (refine (Calls.mono (HPT.out _) ?_)); rintro r w6 ⟨k, hk, rfl, hq⟩; obtain rfl := hq.symm; clear hq))
  have HCS : Hid (∀ Wx, Below w4.heap.size w4 Wx → Tn Wx w3.heap.size g n cg cs ∧ Tab Wx ∧ Seg .u8 Wx (some ⟨gb, 0, none⟩) n (fenc T xs) ∧ Seg .u8 Wx a len xs ∧ Below w.heap.size w Wx) := fun Wx hb => by
    have b := H4.out.2.2.1.trans (hb.mono H4.out.2.2.1.size)
    obtain ⟨_, _, e, z, _⟩ := H4.out.2.2.2.1.seg
    cases e
    exact ⟨H4.out.1.gb (gb_of hb), (HIN.out Wx b).2.1, z.below hb, (HIN.out Wx b).1, b⟩
  have HCB : Hid (Bytes cs ∧ cs.length = n ∧ n ≤ cg ∧ g < w4.heap.size ∧ 0 < w4.heap.size) := ⟨H4.out.2.1.2.1, H4.out.1.len, H4.out.1.le, H4.out.1.lt, by have := (HIN.out w4 H4.out.2.2.1).2.1.pos; have := H4.out.2.2.1.size; omega⟩
  have HF1 : Hid (∀ Wx, w5.grownBy Wx none → Calls Tryd.prog 8 #[(.pointer (some ⟨S, 0, none⟩)), (.slice (some ⟨g, 0, none⟩) k cg)] Wx fun r W' => ∃ v, r = .returned v ∧ Sp1 w4 S (cs.take k) v W') := fun Wx hg => by
    have hb : Below w4.heap.size w4 Wx := H5.out.2.trans ((gb_below hg).mono H5.out.2.size)
    obtain ⟨q1, q2, q3, q4, q5⟩ := HCB.out
    have hgs := hg.size
    refine (feed_c (fun k => w4.heap.size ≤ k ∧ k < w5.heap.size) Wx S [] 1048576 0 0 (some ⟨g, 0, none⟩) k cg (cs.take k) (H5.out.1.gb hg) (idle_nil _) (seg_headB (HCS.out Wx hb).1.seg hk) (q1.take _) (by omega) (fun _ b' o' s' e z => by cases e; omega) (HCS.out Wx hb).2.1 (fun z => by omega) (by decide) (by omega) (by omega) (by omega)).mono ?_
    intro r W' hc
    exact sp_first (fun k z => ⟨z.1, by omega⟩) hb hc
  have HF2 : Hid (∀ Wx v, Sp1 w4 S (cs.take k) v Wx → Calls Tryd.prog 8 #[(.pointer (some ⟨S, 0, none⟩)), (.slice (cutB (some ⟨g, 0, none⟩) cg k) (n - k) (cg - k))] Wx fun r W' => ∃ v2, r = .returned v2 ∧ Sp2 w4 S (cs.take k) (cs.drop k) v v2 W') := fun Wx v hv => by
    obtain ⟨fa, cn, fc, L, Q, F, rfl, hl', hA⟩ := hv
    obtain ⟨a1, a2, a3, a4, a5, a6, a7⟩ := hA
    obtain ⟨q1, q2, q3, q4, q5⟩ := HCB.out
    have f1 := frames_le 1048576 false (cs.take k)
    have f2 := lost_leS 1048576 false _ (cs.take k) (Nat.le_refl _)
    rw [List.length_take] at f1 f2
    have hsg := seg_cutB (HCS.out Wx a7).1.seg k n hk (Nat.le_refl _) q3
    rw [List.take_of_length_le (by omega)] at hsg
    refine (feed_c Q Wx S _ 1048576 _ _ (cutB (some ⟨g, 0, none⟩) cg k) (n - k) (cg - k) (cs.drop k) a2 (idle_rest _ _) hsg (q1.drop _) (by omega) (fun _ b' o' s' e z => by
      have e2 : g = b' := cutB_block e
      have := (a4 _ z).1; omega) (HCS.out Wx a7).2.1 (fun z => by have := (a4 0 z).1; omega) (by decide) (by omega) (by omega) (by omega)).mono ?_
    intro r W' hc
    exact sp_second hl' ⟨a1, a2, a3, a4, a5, a6, a7⟩ hc
  have hs1 := slice_bh (some ⟨g, 0, none⟩) n cg k (by have := HCB.out; omega)
  have hs2 := slice_bl (some ⟨g, 0, none⟩) n cg k hk
  replace hs1 : Hid _ := hs1
  replace hs2 : Hid _ := hs2
  have HKN : Hid (k ≤ n ∧ n ≤ 1048590) := ⟨hk, hnb⟩
  have HTL : Hid (Tells (fenc T xs) cs) := H4.out.2.1
  have HGD : Hid (w5.grownBy w5.drew none) := ⟨rfl, rfl, rfl, Nat.le_refl _, fun _ _ _ => rfl⟩
  clear H2 H3 H4 H5 HP1 HEN HTU HPT HNW HZ c0 hF hT
  refine wp_region_free rfl (by kernel_rfl) [59, 60, 61, 62, 63, 64, 65, 66, 67, 68, 69, 13] [[], [], [], [1, 2], [0, 3], [], [], [], [6, 7], [5, 8, 4], [4, 9], [10]] (by kernel_rfl) (SpIv (.pointer (some ⟨S, 0, none⟩)) (.slice (some ⟨g, 0, none⟩) n cg) (.int .i64 (k : Int)) (.slice (some ⟨g, 0, none⟩) k cg) (.slice (cutB (some ⟨g, 0, none⟩) cg k) (n - k) (cg - k)) (fun Wx => w5.grownBy Wx none) (Sp1 w4 S (cs.take k)) (Sp2 w4 S (cs.take k) (cs.drop k)) (Sp1 w4 S cs)) ?h0 ?step ?fin
  case h0 =>
    intro f
    exact ⟨(fun h => by cases h), (fun h => by cases h), (fun h => by cases h), (fun h => by cases h), (fun h => by cases h), (fun h => by cases h), (fun h => by cases h), (fun h => by cases h), .inl ⟨rfl, rfl, rfl, rfl, HGD.out⟩⟩
  case step =>
    intro q f W A hA hI i o ho hq hu K hK
    obtain ⟨h0, h1, h2, h3, h5, h6, h7, h8, hst⟩ := hI
    match i, ho, hq, hu, hK with
    | 0, ho, hq, hu, hK =>
      cases ho
      have e11 : A.eval (.tmp 11) = (.pointer (some ⟨S, 0, none⟩)) := ev_out hA 11 rfl
      exact ph_move _ rfl rfl (.pointer (some ⟨S, 0, none⟩)) e11 (hK _ _ ⟨fun _ => rfl, h1, h2, h3, h5, h6, h7, h8, spst_pure hst 0 _ (by decide) (by decide) (by decide) (by decide)⟩)
    | 1, ho, hq, hu, hK =>
      cases ho
      have e10 : A.eval (.tmp 10) = (.slice (some ⟨g, 0, none⟩) n cg) := ev_out hA 10 rfl
      exact ph_move _ rfl rfl (.slice (some ⟨g, 0, none⟩) n cg) e10 (hK _ _ ⟨h0, fun _ => rfl, h2, h3, h5, h6, h7, h8, spst_pure hst 1 _ (by decide) (by decide) (by decide) (by decide)⟩)
    | 2, ho, hq, hu, hK =>
      cases ho
      have e12 : A.eval (.tmp 12) = (.int .i64 (k : Int)) := ev_out hA 12 rfl
      exact ph_move _ rfl rfl (.int .i64 (k : Int)) e12 (hK _ _ ⟨h0, h1, fun _ => rfl, h3, h5, h6, h7, h8, spst_pure hst 2 _ (by decide) (by decide) (by decide) (by decide)⟩)
    | 3, ho, hq, hu, hK =>
      cases ho
      have e60 : A.eval (.tmp 60) = (.slice (some ⟨g, 0, none⟩) n cg) := (ev_in hA 60 1 rfl rfl rfl).trans (h1 (hu 1 (by decide)))
      have e61 : A.eval (.tmp 61) = (.int .i64 (k : Int)) := (ev_in hA 61 2 rfl rfl rfl).trans (h2 (hu 2 (by decide)))
      have hsl := hs1.out W
      refine ph_sem rfl rfl (r := .ok (.value (.slice (some ⟨g, 0, none⟩) k cg)) W) ?_ (hK _ _ ⟨h0, h1, h2, fun _ => rfl, h5, h6, h7, h8, spst_pure hst 3 _ (by decide) (by decide) (by decide) (by decide)⟩)
      have eC : ∀ c, A.eval (.const c) = c := fun _ => rfl; generalize A.eval = ρ at *
      clear hA hu hK hst h0 h1 h2 h3 h5 h6 h7 h8
      go_simp
    | 4, ho, hq, hu, hK =>
      cases ho
      have e59 : A.eval (.tmp 59) = (.pointer (some ⟨S, 0, none⟩)) := (ev_in hA 59 0 rfl rfl rfl).trans (h0 (hu 0 (by decide)))
      have e62 : A.eval (.tmp 62) = (.slice (some ⟨g, 0, none⟩) k cg) := (ev_in hA 62 3 rfl rfl rfl).trans (h3 (hu 3 (by decide)))
      rcases hst with ⟨_, q9, q10, q11, z⟩ | ⟨z, _⟩ | ⟨z, _⟩ | ⟨z, _⟩
      · refine ph_fn 8 _ _ rfl rfl #[(.pointer (some ⟨S, 0, none⟩)), (.slice (some ⟨g, 0, none⟩) k cg)] (by simp [e59, e62]) (by kernel_rfl) ?_
        refine (Calls.mono (HF1.out W z) ?_)
        rintro e W' ⟨v1, rfl, hv⟩
        exact ⟨_, rfl, hK _ _ ⟨h0, h1, h2, h3, h5, h6, h7, h8, .inr (.inl ⟨rfl, q9, q10, q11, hv⟩)⟩⟩
      · rw [hq] at z; cases z
      · rw [hq] at z; cases z
      · rw [hq] at z; cases z
    | 5, ho, hq, hu, hK =>
      cases ho
      have e11 : A.eval (.tmp 11) = (.pointer (some ⟨S, 0, none⟩)) := ev_out hA 11 rfl
      exact ph_move _ rfl rfl (.pointer (some ⟨S, 0, none⟩)) e11 (hK _ _ ⟨h0, h1, h2, h3, fun _ => rfl, h6, h7, h8, spst_pure hst 5 _ (by decide) (by decide) (by decide) (by decide)⟩)
    | 6, ho, hq, hu, hK =>
      cases ho
      have e10 : A.eval (.tmp 10) = (.slice (some ⟨g, 0, none⟩) n cg) := ev_out hA 10 rfl
      exact ph_move _ rfl rfl (.slice (some ⟨g, 0, none⟩) n cg) e10 (hK _ _ ⟨h0, h1, h2, h3, h5, fun _ => rfl, h7, h8, spst_pure hst 6 _ (by decide) (by decide) (by decide) (by decide)⟩)
    | 7, ho, hq, hu, hK =>
      cases ho
      have e12 : A.eval (.tmp 12) = (.int .i64 (k : Int)) := ev_out hA 12 rfl
      exact ph_move _ rfl rfl (.int .i64 (k : Int)) e12 (hK _ _ ⟨h0, h1, h2, h3, h5, h6, fun _ => rfl, h8, spst_pure hst 7 _ (by decide) (by decide) (by decide) (by decide)⟩)
    | 8, ho, hq, hu, hK =>
      cases ho
      have e65 : A.eval (.tmp 65) = (.slice (some ⟨g, 0, none⟩) n cg) := (ev_in hA 65 6 rfl rfl rfl).trans (h6 (hu 6 (by decide)))
      have e66 : A.eval (.tmp 66) = (.int .i64 (k : Int)) := (ev_in hA 66 7 rfl rfl rfl).trans (h7 (hu 7 (by decide)))
      have hsl := hs2.out W
      refine ph_sem rfl rfl (r := .ok (.value (.slice (cutB (some ⟨g, 0, none⟩) cg k) (n - k) (cg - k))) W) ?_ (hK _ _ ⟨h0, h1, h2, h3, h5, h6, h7, fun _ => rfl, spst_pure hst 8 _ (by decide) (by decide) (by decide) (by decide)⟩)
      have eC : ∀ c, A.eval (.const c) = c := fun _ => rfl; generalize A.eval = ρ at *
      clear hA hu hK hst h0 h1 h2 h3 h5 h6 h7 h8
      go_simp
    | 9, ho, hq, hu, hK =>
      cases ho
      have e64 : A.eval (.tmp 64) = (.pointer (some ⟨S, 0, none⟩)) := (ev_in hA 64 5 rfl rfl rfl).trans (h5 (hu 5 (by decide)))
      have e67 : A.eval (.tmp 67) = (.slice (cutB (some ⟨g, 0, none⟩) cg k) (n - k) (cg - k)) := (ev_in hA 67 8 rfl rfl rfl).trans (h8 (hu 8 (by decide)))
      have u4 : q 4 = true := hu 4 (by decide)
      rcases hst with ⟨z, _⟩ | ⟨q4, _, q10, q11, z⟩ | ⟨_, z, _⟩ | ⟨_, z, _⟩
      · rw [u4] at z; cases z
      · refine ph_fn 8 _ _ rfl rfl #[(.pointer (some ⟨S, 0, none⟩)), (.slice (cutB (some ⟨g, 0, none⟩) cg k) (n - k) (cg - k))] (by simp [e64, e67]) (by kernel_rfl) ?_
        refine (Calls.mono (HF2.out W (f 4) z) ?_)
        rintro e W' ⟨v1, rfl, hv⟩
        exact ⟨_, rfl, hK _ _ ⟨h0, h1, h2, h3, h5, h6, h7, h8, .inr (.inr (.inl ⟨q4, rfl, q10, q11, hv⟩))⟩⟩
      · rw [hq] at z; cases z
      · rw [hq] at z; cases z
    | 10, ho, hq, hu, hK =>
      cases ho
      have u9 : q 9 = true := hu 9 (by decide)
      rcases hst with ⟨_, z, _⟩ | ⟨_, z, _⟩ | ⟨q4, q9, _, q11, z⟩ | ⟨_, _, z, _⟩
      · rw [u9] at z; cases z
      · rw [u9] at z; cases z
      · obtain ⟨w0, fa, cn, fc, L, Q, F, fb, cm', fd, L2, Q2, F2, e4, hl', hA1, e9, hl2, hB⟩ := z
        have e63 : A.eval (.tmp 63) = .slice fa cn fc := (ev_in hA 63 4 rfl rfl rfl).trans e4
        have e68 : A.eval (.tmp 68) = .slice fb cm' fd := (ev_in hA 68 9 rfl rfl rfl).trans e9
        obtain ⟨k1, k2, k3⟩ := sp_apart hl' hl2 hA1 hB (by have := HKN.out; have := HCB.out.2.1; rw [List.length_take, List.length_drop]; omega)
        refine step_catF rfl (.tmp 63) (.tmp 68) rfl F F2 _ _ L L2 e63 e68 k1 hB.fr k2 k3 ?_
        intro fe ff W' y1 y2
        have hc := sp_cat hl' hA1 hB y1 y2
        rw [List.take_append_drop] at hc
        exact hK _ _ ⟨h0, h1, h2, h3, h5, h6, h7, h8, .inr (.inr (.inr ⟨q4, q9, rfl, (fun h => by have h' : q 11 = true := h; rw [q11] at h'; cases h'), hc⟩))⟩
      · rw [hq] at z; cases z
    | 11, ho, hq, hu, hK =>
      cases ho
      have u10 : q 10 = true := hu 10 (by decide)
      rcases hst with ⟨_, _, z, _⟩ | ⟨_, _, z, _⟩ | ⟨_, _, z, _⟩ | ⟨q4, q9, q10, _, z⟩
      · rw [u10] at z; cases z
      · rw [u10] at z; cases z
      · rw [u10] at z; cases z
      · have e69 : A.eval (.tmp 69) = f 10 := ev_in hA 69 10 rfl rfl rfl
        exact ph_assign _ rfl rfl (f 10) e69 (hK _ _ ⟨h0, h1, h2, h3, h5, h6, h7, h8, .inr (.inr (.inr ⟨q4, q9, q10, fun _ => rfl, z⟩))⟩)
    | i + 12, ho, hq, hu, hK => simp at ho
  case fin =>
    intro q f W6 A hA hI hall
    obtain ⟨h0, h1, h2, h3, h5, h6, h7, h8, hst⟩ := hI
    rcases hst with ⟨_, z, _⟩ | ⟨_, z, _⟩ | ⟨_, _, z, _⟩ | ⟨_, _, _, e11, z⟩
    · rw [hall 9 (by decide)] at z; cases z
    · rw [hall 9 (by decide)] at z; cases z
    · rw [hall 10 (by decide)] at z; cases z
    obtain ⟨fa, cn, fc, L, Q, F, e10, hl', hA3⟩ := z
    have hA2 := hA.trans (putAll_lit [(.pointer (some ⟨S, 0, none⟩)), (.slice (some ⟨g, 0, none⟩) n cg), (.int .i64 (k : Int)), (.slice (some ⟨g, 0, none⟩) k cg), (f 4), (.pointer (some ⟨S, 0, none⟩)), (.slice (some ⟨g, 0, none⟩) n cg), (.int .i64 (k : Int)), (.slice (cutB (some ⟨g, 0, none⟩) cg k) (n - k) (cg - k)), (f 9), (.slice fa cn fc), (.slice fa cn fc)] (by
      intro j hj
      match j, hj with
      | 0, _ => exact h0 (hall 0 (by decide))
      | 1, _ => exact h1 (hall 1 (by decide))
      | 2, _ => exact h2 (hall 2 (by decide))
      | 3, _ => exact h3 (hall 3 (by decide))
      | 4, _ => rfl
      | 5, _ => exact h5 (hall 5 (by decide))
      | 6, _ => exact h6 (hall 6 (by decide))
      | 7, _ => exact h7 (hall 7 (by decide))
      | 8, _ => exact h8 (hall 8 (by decide))
      | 9, _ => rfl
      | 10, _ => exact e10
      | 11, _ => exact (e11 (hall 11 (by decide))).trans e10
      | j + 12, hj => exact absurd hj (by simp)))
    have HA3 : Hid (AllI 1048576 w4 S cs W6 (.slice fa cn fc) L Q F ∧ L.length = cn) := ⟨hA3, hl'⟩
    obtain ⟨f4, hf4⟩ : ∃ f4, f4 = f 4 := ⟨_, rfl⟩
    obtain ⟨f9, hf9⟩ : ∃ f9, f9 = f 9 := ⟨_, rfl⟩
    rw [← hf4, ← hf9] at hA2
    clear hA h0 h1 h2 h3 h5 h6 h7 h8 hall e11 e10 hA3 hl' hf4 hf9 HF1 HF2 hs1 hs2 HGD
    subst hA2
    simp only [putAll, putL, List.mem_cons, List.not_mem_nil, List.idxOf_cons, Nat.reduceEqDiff, Nat.reduceBEq, Nat.reduceAdd, or_false, or_true, reduceIte, cond_true, cond_false, List.getD_cons_zero, List.getD_cons_succ, BEq.rfl]
    have HED : Hid (Calls Tryd.prog 9 #[.pointer (some ⟨S, 0, none⟩)] W6 fun r w' => CallA Q W6 S 0 [] 1048576 ((fseen 1048576 false cs).junk + (fseen 1048576 true (fseen 1048576 false cs).rest).junk) ((fseen 1048576 false cs).lost + (fseen 1048576 true (fseen 1048576 false cs).rest).lost) (fseen 1048576 true (fseen 1048576 false cs).rest).frames r w') := by
      obtain ⟨a1, a2, a3, a4, a5, a6, a7⟩ := HA3.out.1
      have f1 := frames_le 1048576 false cs
      have f2 := lost_leS 1048576 false _ cs (Nat.le_refl _)
      have hc := HCB.out
      exact end_c Q W6 S 2097180 _ 1048576 _ _ a2 (HCS.out W6 a7).2.1 (fun z => by have := (a4 0 z).1; omega) (by decide) (by decide) (by omega) (by omega)
    have HCT : Hid (∀ (w7 : World) (fb : Option Addr) (fd : Nat) (L6 : List FrM) (Q6 F6 : Nat → Prop), L6.map FrM.fr = (fseen 1048576 true (fseen 1048576 false cs).rest).frames → FrL F6 w7 (.slice fb L6.length fd) L6 → (∀ k, F6 k → (Q k ∨ W6.heap.size ≤ k) ∧ k < w7.heap.size) → Gr Q W6 w7 → FrL F w7 (.slice fa cn fc) L ∧ FrL F6 w7 (.slice fb L6.length fd) L6 ∧ (∀ k, F6 k → ¬ F k) ∧ (L.length + L6.length) * 32 ≤ 140737488355328 ∧ Below w4.heap.size w4 w7 ∧ (∀ k, (Value.slice fa cn fc).ownBlock = some k → w4.heap.size ≤ k) ∧ (L ++ L6).map FrM.fr = fAll 1048576 cs ∧ w4.heap.size ≤ w7.heap.size) := fun w7 fb fd L6 Q6 F6 z1 z3 z5 z7 => by
      obtain ⟨a1, a2, a3, a4, a5, a6, a7⟩ := HA3.out.1
      have hs7 := z7.size
      have hs4 := a7.size
      refine ⟨a3.gr z7 (fun k hk => a6 k hk), z3, fun k hk z => ?_, ?_, Gr.below a7 z7 (fun k z => (a4 k z).1) hs4, fun k e => (a5 k (a3.fv k e)).1, by rw [List.map_append, a1, z1]; rfl, by omega⟩
      · rcases (z5 k hk).1 with q | q
        · exact a6 k z q
        · have := (a5 k z).2; omega
      · have e1 := congrArg List.length a1
        have e2 := congrArg List.length z1
        rw [List.length_map] at e1 e2
        have f1 := frames_le 1048576 false cs
        have f2 := frames_le 1048576 true (fseen 1048576 false cs).rest
        have hc := HCB.out
        have hk := HKN.out
        omega
    have HDC : Hid (∀ W', Below w4.heap.size w4 W' → Calls Tryd.prog 10 #[.slice (some ⟨g, 0, none⟩) n cg] W' fun e w' => ∃ u, e = .returned (.tuple #[.agg #[.int .i64 (ftp cs), u], .int .i64 ((fnn cs : Nat) : Int), .int .i64 ((fdec cs : Nat) : Int)]) ∧ Below W'.heap.size W' w') := fun W' hb => by
      refine (decode_c (some ⟨g, 0, none⟩) n cg cs W' HCB.out.2.2.1 (HCS.out W' hb).1.seg HCB.out.1 (by have := HKN.out; omega) (HCS.out W' hb).2.1).mono ?_
      rintro e w' ⟨u, q1, _, q3⟩
      exact ⟨u, q1, q3⟩
    have HFB : Hid (Bytes (fenc T xs)) := fenc_bytes (by have := HT.out; omega) (by have := HT.out; omega) HN.out.2.2.1
    have HSB : Hid (∀ W', Below w4.heap.size w4 W' → Calls Tryd.prog 11 #[.slice (some ⟨gb, 0, none⟩) n cb, .slice (some ⟨g, 0, none⟩) n cg] W' fun r w' => r = .returned (.bool (decide (fenc T xs = cs))) ∧ w' = W') := fun W' hb => sameW_c (some ⟨gb, 0, none⟩) (some ⟨g, 0, none⟩) n cb n cg (fenc T xs) cs W' (HCS.out W' hb).2.2.1 (HCS.out W' hb).1.seg HFB.out HCB.out.1
    by_cases heq : fenc T xs = cs
    · have HAL : Hid (fAll 1048576 cs = [(T, xs)] ∧ fdec cs = 0) := by
        have h2 := HN.out
        have h3 := fdec_fenc T xs [] HT.out.1 HT.out.2 (by omega)
        rw [List.append_nil] at h3
        rw [← heq]
        exact ⟨fAll_own T xs HT.out.1 HT.out.2 (by omega), h3.2.2.2 1048576 (by omega)⟩
      have HSY : Hid (∀ W', Below w4.heap.size w4 W' → Calls Tryd.prog 11 #[.slice (some ⟨gb, 0, none⟩) n cb, .slice (some ⟨g, 0, none⟩) n cg] W' fun r w' => r = .returned (.bool true) ∧ w' = W') := fun W' hb => by
        have := HSB.out W' hb
        rw [decide_eq_true heq] at this
        exact this
      clear heq HSB
      go_wp2_with (first
        | (go_at_call 9; go_must (refine (Calls.mono HED.out ?_)); rintro r w7 ⟨fb, fd, L6, Q6, F6, rfl, z1, z2, z3, z4, z5, z6, z7⟩; have H7 : Hid _ := HCT.out w7 fb fd L6 Q6 F6 z1 z3 z5 z7; clear z1 z2 z3 z4 z5 z6 z7)
        | (at_builtin; go_must (refine wpList_catF rfl (.tmp 70) (.tmp 72) rfl F F6 _ _ L L6 rfl rfl H7.out.1 H7.out.2.1 H7.out.2.2.1 H7.out.2.2.2.1 ?_); intro fe ff w8 y1 y2; have hmp := H7.out.2.2.2.2.2.2.1; rw [HAL.out.1] at hmp; obtain ⟨f, hf⟩ : ∃ f, L ++ L6 = [f] := (by have hl1 := congrArg List.length hmp; rw [List.length_map] at hl1; exact List.length_eq_one_iff.1 hl1); rw [hf] at y1 hmp ⊢; have hrd := y1.rd; obtain ⟨gl, gc', ua, uc, e1, hu, hs', hr, hgl⟩ := hrd.at 0 f rfl; have hfr : f.fr = (T, xs) := (by simpa using hmp); have ht1 : f.t = T := congrArg Prod.fst hfr; have hy1 : f.ys = xs := congrArg Prod.snd hfr; rw [ht1, hy1, HN.out.2.1] at hr; rw [hy1, HN.out.2.1] at hs'; have e3 : fe = some ⟨gl, 0, none⟩ := (by injection e1); have H8 : Hid (Below w4.heap.size w4 w8 ∧ w8.rangeAt gl 0 [.int .i64 T, .slice ua len uc] ∧ Seg .u8 w8 ua len xs ∧ gl < w8.heap.size) := ⟨H7.out.2.2.2.2.1.grown y2 H7.out.2.2.2.2.2.2.2 (fun k hk => H7.out.2.2.2.2.2.1 k hk), (by have := hr; rw [Nat.zero_mul] at this; exact this), hs', hgl⟩; subst e3; clear y1 y2 hmp hf hrd e1 hu hs' hr hgl hfr ht1 hy1)
        | (go_at_call 10; go_must (refine (Calls.mono (HDC.out w8 H8.out.1) ?_)); rintro r w9 ⟨u9, rfl, hb9⟩; rw [HAL.out.2]; have H9 : Hid (Below w4.heap.size w4 w9 ∧ Seg .u8 w9 ua len xs) := ⟨H8.out.1.trans (hb9.mono H8.out.1.size), H8.out.2.2.1.below hb9⟩; have d0 : w9.cell? ⟨gl, 0, none⟩ = some (.int .i64 T) := (hb9.cell (p := ⟨gl, 0, none⟩) H8.out.2.2.2).trans (H8.out.2.1 0 _ rfl); have d1 : w9.cell? ⟨gl, 1, none⟩ = some (.slice ua len uc) := (hb9.cell (p := ⟨gl, 1, none⟩) H8.out.2.2.2).trans (H8.out.2.1 1 _ rfl); clear hb9)
        | (go_at_call_of 11 (Value.slice (some ⟨gb, 0, none⟩) n cb); go_must (refine (Calls.mono (HSY.out w9 H9.out.1) ?_)); rintro r wa ⟨rfl, hq⟩; obtain rfl := hq.symm; clear hq)
        | (go_at_call 11; go_must (refine (Calls.mono (sameW_c ua a len uc len cap xs xs w9 H9.out.2 (HCS.out w9 H9.out.1).2.2.2.1 HN.out.2.2.1 HN.out.2.2.1) ?_)); rintro r wa ⟨rfl, hq⟩; rw [show decide (xs = xs) = true from by simp]; obtain rfl := hq.symm; clear hq))
      go_ret
      exact ⟨by first | rfl | simp, (HCS.out w9 H9.out.1).2.2.2.2⟩
    · have hmt : fmeet 1048576 cs ≠ 0 := spoilt_none HT.out.1 HT.out.2 (by have := HN.out; omega) HTL.out (fun e => heq e.symm) 1048576
      have HSY : Hid (∀ W', Below w4.heap.size w4 W' → Calls Tryd.prog 11 #[.slice (some ⟨gb, 0, none⟩) n cb, .slice (some ⟨g, 0, none⟩) n cg] W' fun r w' => r = .returned (.bool false) ∧ w' = W') := fun W' hb => by
        have := HSB.out W' hb
        rw [decide_eq_false heq] at this
        exact this
      have HSM : Hid (∀ f : Int × List Int, f ∈ fAll 1048576 cs → f.2.length < len) := fun f hf => by
        have h1 := fbytes_mem hf
        have hc := HCB.out
        have h2 := fAll_less 1048576 cs (fun e => by rw [e] at hc; have := HN.out; have := hc.2.1; simp at this; omega) hmt
        have h3 := HN.out
        omega
      have hE : (((fdec cs : Nat) : Int) == 0) = false := by simp only [beq_eq_false_iff_ne]; intro z; exact hmt (by unfold fdec at z; omega)
      obtain ⟨ed, hed⟩ : ∃ ed : Int, ed = ((fdec cs : Nat) : Int) := ⟨_, rfl⟩
      rw [← hed] at hE
      have HDE : Hid (((fdec cs : Nat) : Int) = ed) := hed.symm
      clear heq HSB hmt hed
      go_wp2_with (first
        | (go_at_call 9; go_must (refine (Calls.mono HED.out ?_)); rintro r w7 ⟨fb, fd, L6, Q6, F6, rfl, z1, z2, z3, z4, z5, z6, z7⟩; have H7 : Hid _ := HCT.out w7 fb fd L6 Q6 F6 z1 z3 z5 z7; clear z1 z2 z3 z4 z5 z6 z7)
        | (at_builtin; go_must (refine wpList_catF rfl (.tmp 70) (.tmp 72) rfl F F6 _ _ L L6 rfl rfl H7.out.1 H7.out.2.1 H7.out.2.2.1 H7.out.2.2.2.1 ?_); intro fe ff w8 y1 y2; have hmp := H7.out.2.2.2.2.2.2.1; have hrd := y1.rd; have hb8 := H7.out.2.2.2.2.1.grown y2 H7.out.2.2.2.2.2.2.2 (fun k hk => H7.out.2.2.2.2.2.1 k hk); have hn8 : (L ++ L6).length ≤ 4398046511104 := (by have := H7.out.2.2.2.1; rw [List.length_append]; omega); generalize L ++ L6 = L7 at *; obtain ⟨n7, hn7⟩ : ∃ n7, n7 = L7.length := ⟨_, rfl⟩; rw [← hn7] at hrd hn8 ⊢; have H8 : Hid (Below w4.heap.size w4 w8 ∧ RdL w8 (.slice fe n7 ff) L7 ∧ L7.map FrM.fr = fAll 1048576 cs ∧ n7 = L7.length) := ⟨hb8, hrd, hmp, hn7⟩; clear y1 y2 hmp hrd hb8 hn7)
        | (go_at_call 10; go_must (refine (Calls.mono (HDC.out w8 H8.out.1) ?_)); rintro r w9 ⟨u9, rfl, hb9⟩; rw [HDE.out]; have H9 : Hid (Below w4.heap.size w4 w9 ∧ w8.grownBy w9 none) := ⟨H8.out.1.trans (hb9.mono H8.out.1.size), gb_of hb9⟩; clear hb9)
        | (go_at_call 11; go_must (refine (Calls.mono (HSY.out w9 H9.out.1) ?_)); rintro r wa ⟨rfl, hq⟩; obtain rfl := hq.symm; clear hq))
      go_loopw [108] (fun iv wr => ∃ i : Nat, i ≤ n7 ∧ iv = .int .i64 (i : Int) ∧ Hid (w8.grownBy wr none)) (fun iv _ => n7 - (intOf iv).toNat)
      case atStart => exact ⟨0, Nat.zero_le _, rfl, H9.out.2⟩
      case round =>
        obtain ⟨i, hi, rfl, HG⟩ := hrel
        by_cases hil : i < n7
        · have hci : (i : Int) < (n7 : Int) := by omega
          obtain ⟨f, hf⟩ : ∃ f, L7[i]? = some f := ⟨_, List.getElem?_eq_getElem (show i < L7.length by have := H8.out.2.2.2; omega)⟩
          have hfl : f.ys.length < len := HSM.out f.fr (by rw [← H8.out.2.2.1]; exact List.mem_map.2 ⟨f, List.mem_of_getElem? hf, rfl⟩)
          obtain ⟨gl, gc', ua, uc, e1, hu, hs', hr, hgl⟩ := H8.out.2.1.at i f hf
          obtain ⟨m, hm'⟩ : ∃ m, m = f.ys.length := ⟨_, rfl⟩
          obtain ⟨t, ht'⟩ : ∃ t, t = f.t := ⟨_, rfl⟩
          rw [← hm', ← ht'] at hr
          rw [← hm'] at hfl
          have e3 : fe = some ⟨gl, 0, none⟩ := by injection e1
          have HRR : Hid (wr.rangeAt gl (i * 2) [.int .i64 t, .slice ua m uc]) := range_gbO hr HG.out hgl
          have HZ9 : Hid _ := fr_new wr
          have HLT : Hid (i + 1 ≤ n7) := hil
          subst e3
          have q1 : ((m : Int) == (len : Int)) = false := by simp; omega
          have q2 : ¬ ((len : Int) < (m : Int)) := by omega
          have q3 : ¬ ((m : Int) = (len : Int)) := by omega
          have hmb : m ≤ 1048576 := by omega
          clear hf hu hs' hr hgl hm' ht' e1 hfl
          by_cases hTt : t = T
          · subst hTt
            go_wp2_with (first
              | (refine wpList_load_mid rfl 29 (.tmp 110) rfl gl (i * 2) rfl [.int .i64 t, .slice ua m uc] _ HRR.out Tryd.underlying29 rfl (by kernel_rfl) ?_)
              | (refine wpList_store_bk 29 rfl (.tmp 15) (.tmp 111) rfl Tryd.infoFrame wr.heap.size _ _ rfl rfl HZ9.out.1 rfl rfl (fr_one _ _ _ _) ?_; intro wb h1 h2; have HB : Hid (wr.grownBy wb none) := gb_of (stored_belowW h2); have d0 : wb.cell? ⟨wr.heap.size, 0, none⟩ = some (.int .i64 t) := h1.cell 0; have d1 : wb.cell? ⟨wr.heap.size, 1, none⟩ = some (.slice ua m uc) := h1.cell 1; clear h1 h2))
            go_roundw
            case rel => exact ⟨i + 1, HLT.out, by go_num, gb_trans HG.out HB.out⟩
            case measure => have := HLT.out; simp [intOf]; omega
          · have q4 : (t == T) = false := by simp [hTt]
            go_wp2_with (first
              | (refine wpList_load_mid rfl 29 (.tmp 110) rfl gl (i * 2) rfl [.int .i64 t, .slice ua m uc] _ HRR.out Tryd.underlying29 rfl (by kernel_rfl) ?_)
              | (refine wpList_store_bk 29 rfl (.tmp 15) (.tmp 111) rfl Tryd.infoFrame wr.heap.size _ _ rfl rfl HZ9.out.1 rfl rfl (fr_one _ _ _ _) ?_; intro wb h1 h2; have HB : Hid (wr.grownBy wb none) := gb_of (stored_belowW h2); have d0 : wb.cell? ⟨wr.heap.size, 0, none⟩ = some (.int .i64 t) := h1.cell 0; have d1 : wb.cell? ⟨wr.heap.size, 1, none⟩ = some (.slice ua m uc) := h1.cell 1; clear h1 h2))
            go_roundw
            case rel => exact ⟨i + 1, HLT.out, by go_num, gb_trans HG.out HB.out⟩
            case measure => have := HLT.out; simp [intOf]; omega
        · have hci : ¬ ((i : Int) < (n7 : Int)) := by omega
          have HBE : Hid (Below w.heap.size w wr) := (HCS.out wr (H8.out.1.trans ((gb_below HG.out).mono H8.out.1.size))).2.2.2.2
          go_wp2_with fail
          go_ret
          exact ⟨by first | rfl | exact congrArg (fun b => Ending.returned (Value.bool b)) (show (!(ed == 0)) = true by rw [hE]; rfl) | exact congrArg (fun b => Ending.returned (Value.bool b)) (show (ed != 0) = true by unfold bne; rw [hE]; rfl), HBE.out⟩
end Go.Proofs.YtbfbehjldloeoaaDoor
