/-
  The law's walk of ImageEncodes. Condition: the states' rows can be read, and the first one's take at most 2^47 - 4096 bytes; the table of package crc lies in memory.
-/
import Derived.Test.YtlmjgjimmbadeaaDoorIEg
import Derived.Test.YtlmjgjimmbadeaaDoorIEm
import Derived.Test.YtlmjgjimmbadeaaDoorIDk
import Derived.Test.YtlmjgjimmbadeaaDoorILv
import Derived.Test.YtlmjgjimmbadeaaDoorSme
import Derived.Test.YtlmjgjimmbadeaaDoorOwD
namespace Go.Proofs.YtlmjgjimmbadeaaDoor
open Go.RowKit
set_option linter.unusedVariables false

theorem iB_len (seq : Int) (n : Nat) (X : List Rwi) : sN seq n X = (((iB seq n X).length : Nat) : Int) := by
  unfold sN iB
  split
  · rw [img_len]
  · rfl
theorem iB_bytes (seq : Int) (n : Nat) (X : List Rwi) : Bytes (iB seq n X) := by
  unfold iB
  split
  · unfold img
    refine bytes_mem fun z hz => ?_
    rcases List.mem_append.1 hz with q | q
    · exact mem_bytes (body_bytesE seq n X n) z q
    · exact Cr.by4_bytes _ z q
  · exact fun i hi => by simp at hi
theorem iB_small (seq : Int) (n : Nat) (X : List Rwi) : (iB seq n X).length ≤ 268435456 := by
  unfold iB
  split
  · rename_i h; rw [img_len]; exact (sE_ok h).2.2.2.2
  · simp
/-- What is known along the way. -/
structure EX (w W : World) (P6 g cp : Nat) (seq : Int) (a : Option Addr) (n cap : Nat) (X : List Rwi) (seq2 : Int) (a2 : Option Addr) (n2 cap2 : Nat) (X2 : List Rwi) : Prop where
  b0 : Bk 24 W w.heap.size #[.int .i64 seq, .slice a n cap]
  b1 : Bk 24 W (w.heap.size + 1) #[.int .i64 seq2, .slice a2 n2 cap2]
  b6 : Bk 24 W P6 #[.int .i64 seq, .slice (some ⟨g, 0, none⟩) n cp]
  r0 : Rws W a n X
  r1 : Rws W a2 n2 X2
  rw : Rws W (some ⟨g, 0, none⟩) (n + 2) (X ++ [rSp, rRo])
  gr : w.grownBy W none
theorem EX.new {w W W' P6 g cp seq a n cap X seq2 a2 n2 cap2 X2} (h : EX w W P6 g cp seq a n cap X seq2 a2 n2 cap2 X2) (hg : W.grownBy W' none) : EX w W' P6 g cp seq a n cap X seq2 a2 n2 cap2 X2 :=
  ⟨h.b0.grew hg (by simp), h.b1.grew hg (by simp), h.b6.grew hg (by simp), h.r0.below (gbb hg), h.r1.below (gbb hg), h.rw.below (gbb hg), gb_trans h.gr hg⟩
/-- Bytes that Encode answered: where they lie. -/
structure EB (W : World) (lo hi : Nat) (va : Option Addr) (vc L : Nat) (xs : List Int) : Prop where
  own : Own lo W (.slice va L vc) L xs
  hi : ∀ b, (Value.slice va L vc).ownBlock = some b → b < hi
theorem EB.new {W W' lo hi va vc L xs} (h : EB W lo hi va vc L xs) (hg : W.grownBy W' none) : EB W' lo hi va vc L xs := ⟨h.own.below (gbb hg), h.hi⟩
theorem EB.seg {W lo hi va vc L xs} (h : EB W lo hi va vc L xs) : Seg .u8 W va L xs := by
  obtain ⟨a', c', e, hs, _⟩ := h.own.seg
  cases e
  exact hs
theorem own_end {w w2 w3 w6 w7 w8 W : World} {va ca na : Option Addr} {vc cc nc L M : Nat} {xs ys : List Int} (hg : w.grownBy W none) (h1 : EB W w2.heap.size w3.heap.size va vc L xs) (h2 : EB W w6.heap.size w7.heap.size ca cc M ys) (h3 : EB W w8.heap.size W.heap.size na nc L xs) (k1 : w3.heap.size ≤ w6.heap.size) (k2 : w7.heap.size ≤ w8.heap.size) (k0 : w.heap.size ≤ w2.heap.size) (hL : L ≤ 268435456) (hM : M ≤ 268435456) (q1 : w2.heap.size ≤ w6.heap.size) (q2 : w6.heap.size ≤ w8.heap.size) (q3 : w2.heap.size ≤ W.heap.size) :
    Calls Tryd.prog 16 #[.slice (some ⟨W.heap.size, 0, none⟩) 3 3] (W.alloc (.cells #[.slice va L vc, .slice ca M cc, .slice na L nc] 27)) fun r w' => r = .returned (.bool true) ∧ Below w.heap.size w w' := by
  have o1 := h1.own
  have o2 := h2.own.base q1
  have o3 := h3.own.base (Nat.le_trans q1 q2)
  have k := own3_c w2.heap.size W _ _ _ L M L xs ys xs o1 o2 o3 (fun g e1 e2 => by have := h1.hi g e1; have := (h2.own.lo g e2).1; omega) (fun g e1 e2 => by have := h1.hi g e1; have := (h3.own.lo g e2).1; omega) (fun g e1 e2 => by have := h2.hi g e1; have := (h3.own.lo g e2).1; omega) (by omega) (by omega) (by omega) q3
  refine k.mono ?_
  rintro r w' ⟨rfl, g1⟩
  refine ⟨rfl, Gr.below (gbb hg) g1 (fun b hb => ?_) hg.size⟩
  rcases hb with e | e | e
  · have := (o1.lo b e).1; omega
  · have := (o2.lo b e).1; omega
  · have := (o3.lo b e).1; omega
set_option maxRecDepth 20000 in
set_option maxHeartbeats 4000000 in
theorem encodes_w (seq : Int) (a : Option Addr) (n cap : Nat) (X : List Rwi) (seq2 : Int) (a2 : Option Addr) (n2 cap2 : Nat) (X2 : List Rwi) (w : World) (h : Rws w a n X) (hlc : n ≤ cap) (hnz : a = none → cap = 0) (hcb : cap * 40 ≤ 140737488351232) (h2 : Rws w a2 n2 X2) (hn2 : n2 ≤ 9223372036854775807) (ht : Cr.Tab w) :
    Calls Tryd.prog 3 #[.agg #[.int .i64 seq, .slice a n cap], .agg #[.int .i64 seq2, .slice a2 n2 cap2]] w fun e w' => e = .returned (.bool true) ∧ Below w.heap.size w w' := by
  obtain ⟨W0, hW0⟩ : ∃ W0, W0 = (w.alloc (.cells #[.int .i64 seq, .slice a n cap] 24)).alloc (.cells #[.int .i64 seq2, .slice a2 n2 cap2] 24) := ⟨_, rfl⟩
  have HB0 : Hid (Bk 24 W0 w.heap.size #[.int .i64 seq, .slice a n cap] ∧ Bk 24 W0 (w.heap.size + 1) #[.int .i64 seq2, .slice a2 n2 cap2] ∧ w.grownBy W0 none ∧ Rws W0 a n X ∧ Rws W0 a2 n2 X2) := by
    rw [hW0]
    have h1 := blk_new w 24 #[.int .i64 seq, .slice a n cap]
    have h3 := blk_new (w.alloc (.cells #[.int .i64 seq, .slice a n cap] 24)) 24 #[.int .i64 seq2, .slice a2 n2 cap2]
    rw [World.size_alloc] at h3
    have hg := gb_trans h1.2 h3.2
    exact ⟨h1.1.grew h3.2 (by simp), h3.1, hg, h.below (gbb hg), h2.below (gbb hg)⟩
  have hnm : n ≤ 9223372036854775807 := by omega
  obtain ⟨E, hE⟩ : ∃ E, E = sE seq n X := ⟨_, rfl⟩
  obtain ⟨xs, hxs⟩ : ∃ xs, xs = iB seq n X := ⟨_, rfl⟩
  obtain ⟨L, hL⟩ : ∃ L, L = xs.length := ⟨_, rfl⟩
  obtain ⟨E2, hE2⟩ : ∃ E, E = sE seq2 n2 X2 := ⟨_, rfl⟩
  obtain ⟨ys, hys⟩ : ∃ ys, ys = iB seq2 n2 X2 := ⟨_, rfl⟩
  obtain ⟨M, hM⟩ : ∃ M, M = ys.length := ⟨_, rfl⟩
  have HSM : Hid (Bytes xs ∧ L ≤ 268435456 ∧ Bytes ys ∧ M ≤ 268435456) := ⟨by rw [hxs]; exact iB_bytes _ _ _, by rw [hL, hxs]; exact iB_small _ _ _, by rw [hys]; exact iB_bytes _ _ _, by rw [hM, hys]; exact iB_small _ _ _⟩
  have HLE : Hid (Calls Tryd.prog 9 #[.agg #[.int .i64 seq, .slice a n cap]] W0 fun r w' => ∃ g cp, r = .returned (.tuple #[.slice (some ⟨g, 0, none⟩) (n + 2) cp, .agg #[.int .i64 seq, .slice (some ⟨g, 0, none⟩) n cp]]) ∧ Rws w' (some ⟨g, 0, none⟩) (n + 2) (X ++ [rSp, rRo]) ∧ W0.grownBy w' none) := by
    refine (lendS_c seq a n cap X W0 HB0.out.2.2.2.1 hnz hlc hcb).mono ?_
    rintro r w' ⟨g, cp, rfl, _, q⟩
    exact ⟨g, cp, rfl, q.whole h.1, q.2⟩
  have HJ1 : Hid (∀ W, Rws W a n X → Calls Tryd.prog 10 #[.agg #[.int .i64 seq, .slice a n cap]] W fun r w' => ∃ va vc, r = .returned (.tuple #[.slice va L vc, .int .i64 E]) ∧ Seg .u8 w' va L xs ∧ W.grownBy w' none) := fun W hr => by
    have k := jencode_c seq a n cap X W hr hnm
    rw [← hxs, ← hL, ← hE] at k
    exact k
  have HJ2 : Hid (∀ W, Rws W a2 n2 X2 → Calls Tryd.prog 10 #[.agg #[.int .i64 seq2, .slice a2 n2 cap2]] W fun r w' => ∃ va vc, r = .returned (.tuple #[.slice va M vc, .int .i64 E2]) ∧ Seg .u8 w' va M ys ∧ W.grownBy w' none) := fun W hr => by
    have k := jencode_c seq2 a2 n2 cap2 X2 W hr hn2
    rw [← hys, ← hM, ← hE2] at k
    exact k
  have HI1 : Hid (∀ g cp W, Rws W (some ⟨g, 0, none⟩) (n + 2) (X ++ [rSp, rRo]) → Cr.Tab W → Calls Tryd.prog 11 #[.agg #[.int .i64 seq, .slice (some ⟨g, 0, none⟩) n cp]] W fun r w' => ∃ va vc, r = .returned (.tuple #[.slice va L vc, .int .i64 E]) ∧ EB w' W.heap.size w'.heap.size va vc L xs ∧ W.grownBy w' none) := fun g cp W hr hT => by
    have k := iencode_c seq (some ⟨g, 0, none⟩) n cp X W (rws_firstI hr h.1) hT
    rw [← hxs, ← hL, ← hE] at k
    refine k.mono ?_
    rintro r w' ⟨va, vc, rfl, k1, k2⟩
    exact ⟨va, vc, rfl, ⟨k1, fun b hb => (k1.lo b hb).2⟩, below_gbI k2⟩
  have HI2 : Hid (∀ W, Rws W a2 n2 X2 → Cr.Tab W → Calls Tryd.prog 11 #[.agg #[.int .i64 seq2, .slice a2 n2 cap2]] W fun r w' => ∃ va vc, r = .returned (.tuple #[.slice va M vc, .int .i64 E2]) ∧ EB w' W.heap.size w'.heap.size va vc M ys ∧ W.grownBy w' none) := fun W hr hT => by
    have k := iencode_c seq2 a2 n2 cap2 X2 W hr hT
    rw [← hys, ← hM, ← hE2] at k
    refine k.mono ?_
    rintro r w' ⟨va, vc, rfl, k1, k2⟩
    exact ⟨va, vc, rfl, ⟨k1, fun b hb => (k1.lo b hb).2⟩, below_gbI k2⟩
  have HSZ : Hid (∀ g cp W, Rws W (some ⟨g, 0, none⟩) (n + 2) (X ++ [rSp, rRo]) → Calls Tryd.prog 12 #[.agg #[.int .i64 seq, .slice (some ⟨g, 0, none⟩) n cp]] W fun r w' => r = .returned (.tuple #[.int .i64 (L : Int), .int .i64 E]) ∧ W.grownBy w' none) := fun g cp W hr => by
    have k := isize_c seq (some ⟨g, 0, none⟩) n cp X W (rws_firstI hr h.1)
    rw [iB_len, ← hxs, ← hL, ← hE] at k
    exact k
  have HCK : Hid (∀ g cp W, Rws W (some ⟨g, 0, none⟩) (n + 2) (X ++ [rSp, rRo]) → Calls Tryd.prog 13 #[.agg #[.int .i64 seq, .slice (some ⟨g, 0, none⟩) n cp]] W fun r w' => r = .returned (.int .i64 E) ∧ W.grownBy w' none) := fun g cp W hr => by
    have k := icheck_c seq (some ⟨g, 0, none⟩) n cp X W (rws_firstI hr h.1)
    rw [← hE] at k
    exact k
  have HKE : Hid (∀ g cp W, Rws W a n X → Rws W (some ⟨g, 0, none⟩) (n + 2) (X ++ [rSp, rRo]) → Calls Tryd.prog 15 #[.slice (some ⟨g, 0, none⟩) (n + 2) cp, .agg #[.int .i64 seq, .slice a n cap]] W fun r w' => r = .returned (.bool true) ∧ W.grownBy w' none) := fun g cp W h1 h3 => keptS_c seq a n cap X g cp W h1 hnz hlc hcb h3
  have HS1 : Hid (∀ va vc wa wc W, Seg .u8 W va L xs → Seg .u8 W wa L xs → Calls Tryd.prog 14 #[.slice va L vc, .slice wa L wc] W fun e w' => e = .returned (.bool true) ∧ w' = W) := fun va vc wa wc W q1 q2 => by
    have k := same_c va wa L vc L wc xs xs W q1 q2 HSM.out.1 HSM.out.1
    rw [show decide (xs = xs) = true from by simp] at k
    exact k
  have HS2 : Hid (∀ va vc wa wc W, Seg .u8 W va M ys → Seg .u8 W wa M ys → Calls Tryd.prog 14 #[.slice va M vc, .slice wa M wc] W fun e w' => e = .returned (.bool true) ∧ w' = W) := fun va vc wa wc W q1 q2 => by
    have k := same_c va wa M vc M wc ys ys W q1 q2 HSM.out.2.2.1 HSM.out.2.2.1
    rw [show decide (ys = ys) = true from by simp] at k
    exact k
  have HTB : Hid (∀ W, w.grownBy W none → Cr.Tab W) := fun W hg => ht.below (gbb hg)
  have HLV : Hid (∀ W, Cr.Tab W → Calls Tryd.prog 17 #[] W fun r w' => r = .returned (.bool true) ∧ W.grownBy w' none) := fun W h => lives_c W h
  have HTW : Hid (Cr.Tab w) := ht
  have hEE : (E != E) = false := by simp
  have hLL : ((L : Int) != (L : Int)) = false := by simp
  clear h h2 hnz hlc hcb hn2 hnm ht hE hxs hL hE2 hys hM
  go_enter Tryd.func3, Tryd.ntmps3
  go_wp2_with (first
    | ((fail_if_success (have z := G0)); have G0 : Hid True := trivial; rw [← hW0]; clear hW0)
    | ((fail_if_success (have z := H1)); refine wpList_load_bk 24 rfl (.tmp 2) rfl Tryd.underlying24 rfl infoState w.heap.size _ rfl HB0.out.1 rfl ?_)
    | ((fail_if_success (have z := H1)); go_at_call 9; go_must (refine (Calls.mono HLE.out ?_)); rintro r w1 ⟨g, cp, rfl, q1, q2⟩; have hb := blk_new w1 24 #[.int .i64 seq, .slice (some ⟨g, 0, none⟩) n cp]; have H1 : Hid (∀ W, W = w1.alloc (.cells #[.int .i64 seq, .slice (some ⟨g, 0, none⟩) n cp] 24) → EX w W w1.heap.size g cp seq a n cap X seq2 a2 n2 cap2 X2) := (fun W e => by subst e; have hg := gb_trans q2 hb.2; exact ⟨HB0.out.1.grew hg (by simp), HB0.out.2.1.grew hg (by simp), hb.1, HB0.out.2.2.2.1.below (gbb hg), HB0.out.2.2.2.2.below (gbb hg), q1.below (gbb hb.2), gb_trans HB0.out.2.2.1 hg⟩); clear q1 q2 hb)
    | ((fail_if_success (have z := H2)); have z := H1; clear z; refine wpList_load_bk 24 rfl (.tmp 2) rfl Tryd.underlying24 rfl infoState w.heap.size _ rfl (H1.out _ rfl).b0 rfl ?_)
    | ((fail_if_success (have z := H2)); have z := H1; clear z; go_at_call 10; go_must (refine (Calls.mono (HJ1.out _ (H1.out _ rfl).r0) ?_)); rintro r w2 ⟨wa, wc, rfl, q1, q2⟩; have H2 : Hid (EX w w2 w1.heap.size g cp seq a n cap X seq2 a2 n2 cap2 X2 ∧ Seg .u8 w2 wa L xs) := ⟨(H1.out _ rfl).new q2, q1⟩; clear q1 q2)
    | ((fail_if_success (have z := H3)); have z := H2; clear z; refine wpList_load_bk 24 rfl (.tmp 6) rfl Tryd.underlying24 rfl infoState w1.heap.size _ rfl H2.out.1.b6 rfl ?_)
    | ((fail_if_success (have z := H3)); have z := H2; clear z; go_at_call 11; go_must (refine (Calls.mono (HI1.out g cp _ H2.out.1.rw (HTB.out _ H2.out.1.gr)) ?_)); rintro r w3 ⟨va, vc, rfl, q1, q2⟩; have HGS : Hid (w2.heap.size ≤ w3.heap.size) := q2.size; have H3 : Hid (EX w w3 w1.heap.size g cp seq a n cap X seq2 a2 n2 cap2 X2 ∧ Seg .u8 w3 wa L xs ∧ EB w3 w2.heap.size w3.heap.size va vc L xs) := ⟨H2.out.1.new q2, H2.out.2.grew q2 (by simp), q1⟩; clear q1 q2)
    | ((fail_if_success (have z := H4)); have z := H3; clear z; refine wpList_load_bk 24 rfl (.tmp 6) rfl Tryd.underlying24 rfl infoState w1.heap.size _ rfl H3.out.1.b6 rfl ?_)
    | ((fail_if_success (have z := H4)); have z := H3; clear z; go_at_call 12; go_must (refine (Calls.mono (HSZ.out g cp _ H3.out.1.rw) ?_)); rintro r w4 ⟨rfl, q2⟩; have H4 : Hid (EX w w4 w1.heap.size g cp seq a n cap X seq2 a2 n2 cap2 X2 ∧ Seg .u8 w4 wa L xs ∧ EB w4 w2.heap.size w3.heap.size va vc L xs ∧ w3.heap.size ≤ w4.heap.size) := ⟨H3.out.1.new q2, H3.out.2.1.grew q2 (by simp), H3.out.2.2.new q2, q2.size⟩; clear q2)
    | ((fail_if_success (have z := H5)); have z := H4; clear z; refine wpList_load_bkG 24 rfl (.tmp 6) rfl Tryd.underlying24 rfl infoState w1.heap.size _ rfl H4.out.1.b6 rfl ?_)
    | ((fail_if_success (have z := H5)); have z := H4; clear z; go_at_call 13; go_must (refine (Calls.mono (HCK.out g cp _ H4.out.1.rw) ?_)); rintro r w5 ⟨rfl, q2⟩; have H5 : Hid (EX w w5 w1.heap.size g cp seq a n cap X seq2 a2 n2 cap2 X2 ∧ Seg .u8 w5 wa L xs ∧ EB w5 w2.heap.size w3.heap.size va vc L xs ∧ w3.heap.size ≤ w5.heap.size) := ⟨H4.out.1.new q2, H4.out.2.1.grew q2 (by simp), H4.out.2.2.1.new q2, Nat.le_trans H4.out.2.2.2 q2.size⟩; clear q2)
    | ((fail_if_success (have z := H6)); have z := H5; clear z; go_at_call 14; go_must (refine (Calls.mono (HS1.out va vc wa wc _ H5.out.2.2.1.seg H5.out.2.1) ?_)); rintro r wq ⟨rfl, hq⟩; obtain rfl := hq.symm)
    | ((fail_if_success (have z := H6)); have z := H5; clear z; refine wpList_load_bkG 24 rfl (.tmp 2) rfl Tryd.underlying24 rfl infoState w.heap.size _ rfl H5.out.1.b0 rfl ?_)
    | ((fail_if_success (have z := H6)); have z := H5; clear z; go_at_call 15; go_must (refine (Calls.mono (HKE.out g cp _ H5.out.1.r0 H5.out.1.rw) ?_)); rintro r w6 ⟨rfl, q2⟩; have H6 : Hid (EX w w6 w1.heap.size g cp seq a n cap X seq2 a2 n2 cap2 X2 ∧ Seg .u8 w6 wa L xs ∧ EB w6 w2.heap.size w3.heap.size va vc L xs ∧ w3.heap.size ≤ w6.heap.size) := ⟨H5.out.1.new q2, H5.out.2.1.grew q2 (by simp), H5.out.2.2.1.new q2, Nat.le_trans H5.out.2.2.2 q2.size⟩; clear q2)
    | ((fail_if_success (have z := H7)); have z := H6; clear z; refine wpList_load_bk 24 rfl (.tmp 3) rfl Tryd.underlying24 rfl infoState (w.heap.size + 1) _ rfl H6.out.1.b1 rfl ?_)
    | ((fail_if_success (have z := H7)); have z := H6; clear z; go_at_call 11; go_must (refine (Calls.mono (HI2.out _ H6.out.1.r1 (HTB.out _ H6.out.1.gr)) ?_)); rintro r w7 ⟨ca, cc, rfl, q1, q2⟩; have HG7 : Hid (w6.heap.size ≤ w7.heap.size) := q2.size; have H7 : Hid (EX w w7 w1.heap.size g cp seq a n cap X seq2 a2 n2 cap2 X2 ∧ Seg .u8 w7 wa L xs ∧ EB w7 w2.heap.size w3.heap.size va vc L xs ∧ EB w7 w6.heap.size w7.heap.size ca cc M ys ∧ w3.heap.size ≤ w6.heap.size) := ⟨H6.out.1.new q2, H6.out.2.1.grew q2 (by simp), H6.out.2.2.1.new q2, q1, H6.out.2.2.2⟩; clear q1 q2)
    | ((fail_if_success (have z := H8)); have z := H7; clear z; refine wpList_load_bk 24 rfl (.tmp 3) rfl Tryd.underlying24 rfl infoState (w.heap.size + 1) _ rfl H7.out.1.b1 rfl ?_)
    | ((fail_if_success (have z := H8)); have z := H7; clear z; go_at_call 10; go_must (refine (Calls.mono (HJ2.out _ H7.out.1.r1) ?_)); rintro r w8 ⟨da, dc, rfl, q1, q2⟩; have H8 : Hid (EX w w8 w1.heap.size g cp seq a n cap X seq2 a2 n2 cap2 X2 ∧ Seg .u8 w8 wa L xs ∧ EB w8 w2.heap.size w3.heap.size va vc L xs ∧ EB w8 w6.heap.size w7.heap.size ca cc M ys ∧ Seg .u8 w8 da M ys ∧ w7.heap.size ≤ w8.heap.size) := ⟨H7.out.1.new q2, H7.out.2.1.grew q2 (by simp), H7.out.2.2.1.new q2, H7.out.2.2.2.1.new q2, q1, q2.size⟩; clear q1 q2)
    | ((fail_if_success (have z := H9)); have z := H8; clear z; refine wpList_load_bk 24 rfl (.tmp 6) rfl Tryd.underlying24 rfl infoState w1.heap.size _ rfl H8.out.1.b6 rfl ?_)
    | ((fail_if_success (have z := H9)); have z := H8; clear z; go_at_call 11; go_must (refine (Calls.mono (HI1.out g cp _ H8.out.1.rw (HTB.out _ H8.out.1.gr)) ?_)); rintro r w9 ⟨na, nc, rfl, q1, q2⟩; have H9 : Hid (EX w w9 w1.heap.size g cp seq a n cap X seq2 a2 n2 cap2 X2 ∧ Seg .u8 w9 wa L xs ∧ EB w9 w2.heap.size w3.heap.size va vc L xs ∧ EB w9 w6.heap.size w7.heap.size ca cc M ys ∧ Seg .u8 w9 da M ys ∧ EB w9 w8.heap.size w9.heap.size na nc L xs) := ⟨H8.out.1.new q2, H8.out.2.1.grew q2 (by simp), H8.out.2.2.1.new q2, H8.out.2.2.2.1.new q2, H8.out.2.2.2.2.1.grew q2 (by simp), q1⟩; have HOW : Hid (Calls Tryd.prog 16 #[.slice (some ⟨w9.heap.size, 0, none⟩) 3 3] (w9.alloc (.cells #[.slice va L vc, .slice ca M cc, .slice na L nc] 27)) fun r w' => r = .returned (.bool true) ∧ Below w.heap.size w w') := (own_end H9.out.1.gr H9.out.2.2.1 H9.out.2.2.2.1 H9.out.2.2.2.2.2 H7.out.2.2.2.2 H8.out.2.2.2.2.2 H2.out.1.gr.size HSM.out.2.1 HSM.out.2.2.2 (Nat.le_trans HGS.out H7.out.2.2.2.2) (Nat.le_trans HG7.out H8.out.2.2.2.2.2) (Nat.le_trans HGS.out (Nat.le_trans H7.out.2.2.2.2 (Nat.le_trans HG7.out (Nat.le_trans H8.out.2.2.2.2.2 q2.size))))); clear q1 q2)
    | (have z := H9; clear z; go_at_call_of 14 (Value.slice ca M cc); go_must (refine (Calls.mono (HS2.out ca cc da dc _ H9.out.2.2.2.1.seg H9.out.2.2.2.2.1) ?_)); rintro r wq ⟨rfl, hq⟩; obtain rfl := hq.symm)
    | (have z := H9; clear z; go_at_call_of 14 (Value.slice na L nc); go_must (refine (Calls.mono (HS1.out na nc wa wc _ H9.out.2.2.2.2.2.seg H9.out.2.1) ?_)); rintro r wq ⟨rfl, hq⟩; obtain rfl := hq.symm)
    | (have z := H9; clear z; go_at_call 16; go_must (refine (Calls.mono HOW.out ?_)); rintro r y1 ⟨rfl, q⟩; have B1 : Hid (Below w.heap.size w y1) := q; clear q)
    | (have z := B1; clear z; go_at_call 17; go_must (refine (Calls.mono (HLV.out _ (HTW.out.below B1.out)) ?_)); rintro r y2 ⟨rfl, q⟩; have B2 : Hid (Below w.heap.size w y2) := B1.out.trans ((gbb q).mono B1.out.size); clear q))
  go_ret
  exact ⟨rfl, B2.out⟩
end Go.Proofs.YtlmjgjimmbadeaaDoor
