/-
  Proved: for every state, hawserlaw09.ImageBack answers true: a state that may be comes back of its image, whose size and beginning are told rightly; one that may not be is refused by the document, too. No condition but the form's own reach (the card ties the table of package crc to the program's text).
-/
import Derived.Test.YtlmjgjimmbadeaaDoorRows
import Derived.Test.YtlmjgjimmbadeaaDoorCards
import Derived.Test.YtlmjgjimmbadeaaDoorTie
import Derived.Test.YtlmjgjimmbadeaaDoorIDk
import Derived.Test.YtlmjgjimmbadeaaDoorIGf
import Derived.Test.YtlmjgjimmbadeaaDoorIGs
import Derived.Test.YtlmjgjimmbadeaaDoorIRo
import Derived.Test.YtlmjgjimmbadeaaDoorIPg
import Derived.Test.YtlmjgjimmbadeaaDoorCrA
import Derived.WalkKit
import Derived.ProofKit
import Derived.OpenShut
import Derived.ShutString
import Derived.ChangeOld
import Derived.Below
import Derived.Lib.SmallJoins
import Derived.JoinedCond
import Derived.Deep.DeepHandedRow
import Derived.Lib.LaidTab
namespace Go.Proofs.YtlmjgjimmbadeaaDoor.imageBack
open Go.ChangeShapes Go.WideShapes Go.ChangeAt Go.RowKit
set_option linter.unusedVariables false

theorem own : ownKnob Tryd.prog.godebug = none := by kernel_rfl
theorem laidOut : laidOutB Tryd.prog = true := by kernel_rfl

set_option maxRecDepth 20000 in
set_option maxHeartbeats 2000000 in
theorem walk (seq : Int) (a : Option Addr) (n cap : Nat) (X : List Rwi) (w : World) (h : Rws w a n X) (hlc : n ≤ cap) (hcm : cap ≤ maxLen) (hnz : a = none → cap = 0) (ht : Cr.Tab w) :
    Calls Tryd.prog 6 #[.agg #[.int .i64 seq, .slice a n cap]] w fun e w' => e = .returned (.bool true) ∧ Below w.heap.size w w' := by
  have HB0 : Hid (Bk 24 (w.alloc (.cells #[.int .i64 seq, .slice a n cap] 24)) w.heap.size #[.int .i64 seq, .slice a n cap] ∧ w.grownBy (w.alloc (.cells #[.int .i64 seq, .slice a n cap] 24)) none) := blk_new w _ _
  obtain ⟨W0, hW0⟩ : ∃ W0, W0 = w.alloc (.cells #[.int .i64 seq, .slice a n cap] 24) := ⟨_, rfl⟩
  rw [← hW0] at HB0
  obtain ⟨E, hE⟩ : ∃ E, E = sE seq n X := ⟨_, rfl⟩
  have HCK : Hid (∀ W, w.grownBy W none → Calls Tryd.prog 13 #[.agg #[.int .i64 seq, .slice a n cap]] W fun r w' => r = .returned (.int .i64 E) ∧ W.grownBy w' none) := fun W hg => by
    rw [hE]
    exact icheck_c seq a n cap X W (h.below (gbb hg))
  by_cases hE0 : E = 0
  · subst hE0
    have hX : X.length = n := h.1
    have hd := img_dok hE.symm hX
    have hpk := img_pk hE.symm hX
    have hrm := img_rm hE.symm hX
    have hiB : iB seq n X = img seq n X := if_pos hE.symm
    have hL := img_len seq n X
    have hsN : sN seq n X = ((tz seq n X n : Nat) : Int) := if_pos hE.symm
    have hnb : n ≤ 1048576 := (sE_ok hE.symm).1
    have hbx : Bytes (img seq n X) := by
      unfold img
      have hb := body_bytes seq n X n (fun j hj => okTo_at (sE_ok hE.symm).2.2.2.1 hj)
      refine bytes_mem fun z hz => ?_
      rcases List.mem_append.1 hz with q | q
      · exact mem_bytes hb z q
      · exact Cr.by4_bytes _ z q
    obtain ⟨xs, hxs⟩ : ∃ xs, xs = img seq n X := ⟨_, rfl⟩
    obtain ⟨L, hLL⟩ : ∃ L, L = xs.length := ⟨_, rfl⟩
    have hLt : tz seq n X n = L := by rw [hLL, hxs, hL]
    rw [← hxs] at hd hpk hrm hiB hbx
    rw [hLt] at hsN
    have hLb : L ≤ 268435456 ∧ 10 ≤ L := ⟨by rw [hLL]; exact hd.1, by rw [hLL]; exact hd.2.1⟩
    have HEN : Hid (∀ W, w.grownBy W none → Calls Tryd.prog 11 #[.agg #[.int .i64 seq, .slice a n cap]] W fun r w' => ∃ va vc, r = .returned (.tuple #[.slice va L vc, .int .i64 0]) ∧ Seg .u8 w' va L xs ∧ L ≤ vc ∧ (va = none → vc = 0) ∧ W.grownBy w' none) := fun W hg => by
      have k := iencode_c seq a n cap X W (h.below (gbb hg)) (ht.below (gbb hg))
      rw [hiB, ← hE, ← hLL] at k
      refine k.mono ?_
      rintro r w' ⟨va, vc, rfl, k1, k2⟩
      obtain ⟨a', c', e, k3, k4, k5⟩ := k1.seg
      cases e
      exact ⟨va, vc, rfl, k3, k5, k4, below_gbI k2⟩
    have HSZ : Hid (∀ W, w.grownBy W none → Calls Tryd.prog 12 #[.agg #[.int .i64 seq, .slice a n cap]] W fun r w' => r = .returned (.tuple #[.int .i64 (L : Int), .int .i64 0]) ∧ W.grownBy w' none) := fun W hg => by
      have k := isize_c seq a n cap X W (h.below (gbb hg))
      rw [hsN, ← hE] at k
      exact k
    have HDE : Hid (∀ va vc W, Seg .u8 W va L xs → L ≤ vc → (va = none → vc = 0) → w.grownBy W none → Calls Tryd.prog 19 #[.slice va L vc] W fun r w' => ∃ b, r = .returned (.tuple #[.agg #[.int .i64 seq, .slice (some ⟨b, 0, none⟩) n n], .int .i64 0]) ∧ Rws w' (some ⟨b, 0, none⟩) n X ∧ W.grownBy w' none) := fun va vc W q1 q2 q3 q4 => by
      refine (idec_c va L vc xs W q1 hbx (by omega) q2 q3 (ht.below (gbb q4))).mono ?_
      rintro r w' ⟨⟨b, n', seq', X', p1, p2, p3, p4⟩ | ⟨e, p1, p2⟩, p5⟩
      · obtain ⟨rfl, rfl⟩ := dok_uniq hbx hd p2
        have : n' = n := by rw [← p3.1, hX]
        subst this
        exact ⟨b, p1, p3, below_gbI p5⟩
      · exact absurd hd ((dno_not p2).2 seq X)
    have HPK : Hid (∀ va vc W, Seg .u8 W va L xs → L ≤ vc → (va = none → vc = 0) → Calls Tryd.prog 30 #[.slice va L vc] W fun r w' => r = .returned (.tuple #[.int .i64 seq, .int .i64 (n : Int), .int .i64 0]) ∧ W.grownBy w' none) := fun va vc W q1 q2 q3 => by
      have k := peek_c va L vc xs W q1 hbx (by omega) q2 q3
      rw [hpk] at k
      exact k
    have HRM : Hid (∀ va vc W, Seg .u8 W va L xs → L ≤ vc → (va = none → vc = 0) → Calls Tryd.prog 31 #[.slice va L vc] W fun r w' => r = .returned (.int .i64 (n : Int)) ∧ W.grownBy w' none) := fun va vc W q1 q2 q3 => by
      have k := room_c va L vc xs W q1 hbx (by omega) q2 q3
      rw [hrm] at k
      exact k
    have HSM : Hid (∀ b W, w.grownBy W none → Rws W (some ⟨b, 0, none⟩) n X → Calls Tryd.prog 21 #[.agg #[.int .i64 seq, .slice a n cap], .agg #[.int .i64 seq, .slice (some ⟨b, 0, none⟩) n n]] W fun r w' => r = .returned (.bool true) ∧ W.grownBy w' none) := fun b W hg hr => lsame_c seq a (some ⟨b, 0, none⟩) cap n n X W (h.below (gbb hg)) hr (by omega)
    have hL10 : ¬ (L : Int) < 10 := by omega
    clear h ht hnz hE hd hpk hrm hiB hL hsN hbx hxs hLL hLt hX hlc hcm
    go_enter Tryd.func6, Tryd.ntmps6
    go_wp2_with (first
      | ((fail_if_success (have z := H0)); have H0 : Hid True := trivial; rw [← hW0]; clear hW0)
      | ((fail_if_success (have z := H1)); refine wpList_load_bk 24 rfl (.tmp 1) rfl Tryd.underlying24 rfl infoState w.heap.size _ rfl HB0.out.1 rfl ?_)
      | ((fail_if_success (have z := H1)); go_at_call 13; go_must (refine (Calls.mono (HCK.out _ HB0.out.2) ?_)); rintro r w1 ⟨rfl, q⟩; have H1 : Hid (Bk 24 w1 w.heap.size #[.int .i64 seq, .slice a n cap] ∧ w.grownBy w1 none) := ⟨HB0.out.1.grew q (by simp), gb_trans HB0.out.2 q⟩; clear q)
      | ((fail_if_success (have z := H2)); have z := H1; clear z; refine wpList_load_bk 24 rfl (.tmp 1) rfl Tryd.underlying24 rfl infoState w.heap.size _ rfl H1.out.1 rfl ?_)
      | ((fail_if_success (have z := H2)); go_at_call 11; go_must (refine (Calls.mono (HEN.out _ H1.out.2) ?_)); rintro r w2 ⟨va, vc, rfl, q1, q2, q3, q4⟩; have H2 : Hid (Bk 24 w2 w.heap.size #[.int .i64 seq, .slice a n cap] ∧ w.grownBy w2 none ∧ Seg .u8 w2 va L xs ∧ L ≤ vc ∧ (va = none → vc = 0)) := ⟨H1.out.1.grew q4 (by simp), gb_trans H1.out.2 q4, q1, q2, q3⟩; clear q1 q2 q3 q4)
      | ((fail_if_success (have z := H3)); have z := H2; clear z; refine wpList_load_bk 24 rfl (.tmp 1) rfl Tryd.underlying24 rfl infoState w.heap.size _ rfl H2.out.1 rfl ?_)
      | ((fail_if_success (have z := H3)); go_at_call 12; go_must (refine (Calls.mono (HSZ.out _ H2.out.2.1) ?_)); rintro r w3 ⟨rfl, q4⟩; have H3 : Hid (Bk 24 w3 w.heap.size #[.int .i64 seq, .slice a n cap] ∧ w.grownBy w3 none ∧ Seg .u8 w3 va L xs) := ⟨H2.out.1.grew q4 (by simp), gb_trans H2.out.2.1 q4, H2.out.2.2.1.grew q4 (by simp)⟩; clear q4)
      | ((fail_if_success (have z := H4)); go_at_call 19; go_must (refine (Calls.mono (HDE.out va vc _ H3.out.2.2 H2.out.2.2.2.1 H2.out.2.2.2.2 H3.out.2.1) ?_)); rintro r w4 ⟨b, rfl, q1, q4⟩; have hb4 := blk_new w4 24 #[.int .i64 seq, .slice (some ⟨b, 0, none⟩) n n]; obtain ⟨P, hP⟩ : ∃ P, P = w4.heap.size := ⟨_, rfl⟩; have H4 : Hid (∀ W, W = w4.alloc (.cells #[.int .i64 seq, .slice (some ⟨b, 0, none⟩) n n] 24) → Bk 24 W w.heap.size #[.int .i64 seq, .slice a n cap] ∧ w.grownBy W none ∧ Seg .u8 W va L xs ∧ Bk 24 W w4.heap.size #[.int .i64 seq, .slice (some ⟨b, 0, none⟩) n n] ∧ Rws W (some ⟨b, 0, none⟩) n X) := (fun W e => by subst e; exact ⟨(H3.out.1.grew q4 (by simp)).grew hb4.2 (by simp), gb_trans H3.out.2.1 (gb_trans q4 hb4.2), (H3.out.2.2.grew q4 (by simp)).grew hb4.2 (by simp), hb4.1, q1.below (gbb hb4.2)⟩); clear q1 q4 hb4 hP)
      | ((fail_if_success (have z := H5)); have z := H4; clear z; go_at_call 30; go_must (refine (Calls.mono (HPK.out va vc _ (H4.out _ rfl).2.2.1 H2.out.2.2.2.1 H2.out.2.2.2.2) ?_)); rintro r w5 ⟨rfl, q4⟩; have H5 : Hid (Bk 24 w5 w.heap.size #[.int .i64 seq, .slice a n cap] ∧ w.grownBy w5 none ∧ Seg .u8 w5 va L xs ∧ Bk 24 w5 w4.heap.size #[.int .i64 seq, .slice (some ⟨b, 0, none⟩) n n] ∧ Rws w5 (some ⟨b, 0, none⟩) n X) := ⟨(H4.out _ rfl).1.grew q4 (by simp), gb_trans (H4.out _ rfl).2.1 q4, (H4.out _ rfl).2.2.1.grew q4 (by simp), (H4.out _ rfl).2.2.2.1.grew q4 (by simp), (H4.out _ rfl).2.2.2.2.below (gbb q4)⟩; clear q4)
      | ((fail_if_success (have z := H6)); have z := H5; clear z; refine wpList_load_bkG 24 rfl (.tmp 1) rfl Tryd.underlying24 rfl infoState w.heap.size _ rfl H5.out.1 rfl ?_)
      | ((fail_if_success (have z := H6)); have z := H5; clear z; refine wpList_load_bkG 24 rfl (.tmp 7) rfl Tryd.underlying24 rfl infoState w4.heap.size _ rfl H5.out.2.2.2.1 rfl ?_)
      | ((fail_if_success (have z := H6)); go_at_call 21; go_must (refine (Calls.mono (HSM.out b _ H5.out.2.1 H5.out.2.2.2.2) ?_)); rintro r w6 ⟨rfl, q4⟩; have k6 := H5.out.1.grew q4 (by simp); have H6 : Hid (w.grownBy w6 none ∧ Seg .u8 w6 va L xs) := ⟨gb_trans H5.out.2.1 q4, H5.out.2.2.1.grew q4 (by simp)⟩; have c0 : w6.cell? ⟨w.heap.size, 0, none⟩ = some (.int .i64 seq) := k6.cell 0; have c1 : w6.cell? ⟨w.heap.size, 1, none⟩ = some (.slice a n cap) := k6.cell 1; clear q4 k6)
      | (go_at_call 31; go_must (refine (Calls.mono (HRM.out va vc _ H6.out.2 H2.out.2.2.2.1 H2.out.2.2.2.2) ?_)); rintro r w7 ⟨rfl, q4⟩; have H7 : Hid (w.grownBy w7 none) := gb_trans H6.out.1 q4; clear q4))
    go_ret
    exact ⟨rfl, gbb H7.out⟩
  · have hEb : (E != 0) = true := by simp [hE0]
    have HJ : Hid (∀ W, w.grownBy W none → Calls Tryd.prog 29 #[.agg #[.int .i64 seq, .slice a n cap]] W fun r w' => r = .returned (.int .i64 E) ∧ W.grownBy w' none) := fun W hg => by
      rw [hE]
      exact jcheck_c seq a n cap X W (h.below (gbb hg)) (by unfold maxLen at hcm; omega)
    clear h ht hnz hE hE0 hlc hcm
    go_enter Tryd.func6, Tryd.ntmps6
    go_wp2_with (first
      | ((fail_if_success (have z := H0)); have H0 : Hid True := trivial; rw [← hW0]; clear hW0)
      | ((fail_if_success (have z := H1)); refine wpList_load_bk 24 rfl (.tmp 1) rfl Tryd.underlying24 rfl infoState w.heap.size _ rfl HB0.out.1 rfl ?_)
      | ((fail_if_success (have z := H1)); go_at_call 13; go_must (refine (Calls.mono (HCK.out _ HB0.out.2) ?_)); rintro r w1 ⟨rfl, q⟩; have H1 : Hid (Bk 24 w1 w.heap.size #[.int .i64 seq, .slice a n cap] ∧ w.grownBy w1 none) := ⟨HB0.out.1.grew q (by simp), gb_trans HB0.out.2 q⟩; clear q)
      | ((fail_if_success (have z := H2)); have z := H1; clear z; refine wpList_load_bk 24 rfl (.tmp 1) rfl Tryd.underlying24 rfl infoState w.heap.size _ rfl H1.out.1 rfl ?_)
      | (go_at_call 29; go_must (refine (Calls.mono (HJ.out _ H1.out.2) ?_)); rintro r w2 ⟨rfl, q4⟩; have H2 : Hid (w.grownBy w2 none) := gb_trans H1.out.2 q4; clear q4))
    go_ret
    exact ⟨by first | rfl | exact congrArg (fun b => Ending.returned (Value.bool b)) hEb, gbb H2.out⟩

theorem gTab : Tryd.prog.globalNamed "hawser/crc.halves" = some 0 := by kernel_rfl
theorem gTabType : (Tryd.prog.globals[0]?).map (·.type) = some 150 := by kernel_rfl
theorem cellsT : Tryd.prog.cellsOf 150 = 16 := by kernel_rfl
theorem cellsE : Tryd.prog.cellsOf 72 = 1 := by kernel_rfl
/-- What the row's list gives: the table's cells. -/
theorem table {W : World} (h : laidMetH Tryd.prog Rows.imageBackRow.laid W) : Lib.TabIs Tryd.prog W "hawser/crc.halves" .u32 Cr.tabl :=
  Lib.tabIs_of_head (rest := []) gTab gTabType Tryd.underlying150 Tryd.underlying72 cellsE cellsT h
theorem tab_of {W : World} (h : laidMetH Tryd.prog Rows.imageBackRow.laid W) : Cr.Tab W := fun i hi => (table h).cell gTab i (show i < Cr.tabl.length from hi)
theorem laid_met (os : Os) : laidMet Tryd.prog Rows.imageBackRow.laid (({ World.holding Tryd.prog os ⟨#[], #[], []⟩ with heap := (World.holding Tryd.prog os ⟨#[], #[], []⟩).heap.modify 0 fun | .cells _ t frozen => .cells (Cr.tabl.map fun z => Value.int .u32 z).toArray t frozen | o => o } : World).forCall (fun _ _ => 0) ⟨#[], #[.agg #[.int .i64 0, .slice none 0 0]], []⟩).memory :=
  laidMet_of_run' 8 (by kernel_rfl) (by kernel_rfl)
theorem reads (os : Os) {H : Type} (enc : TypeId × Value → H) : ∃ places, DataW.whole enc Tryd.prog (({ World.holding Tryd.prog os ⟨#[], #[], []⟩ with heap := (World.holding Tryd.prog os ⟨#[], #[], []⟩).heap.modify 0 fun | .cells _ t frozen => .cells (Cr.tabl.map fun z => Value.int .u32 z).toArray t frozen | o => o } : World).forCall (fun _ _ => 0) ⟨#[], #[.agg #[.int .i64 0, .slice none 0 0]], []⟩).memory Tryd.f6.params.toList Rows.imageBackSpec.vars false (#[.agg #[.int .i64 0, .slice none 0 0]] : Array Value).toList 8 = some ([.agg [.lit (.int .i64 0), .nil]], [], places) :=
  ⟨[], by kernel_rfl⟩

set_option maxRecDepth 100000 in
theorem lifted (os : Os) (started : os.Started) (H : Type) (enc : TypeId × Value → H) (F : Stop.Interp) :
    ReturnsInHanded {} Tryd.checked os 6 .any ((OpenSpec.ofChange Rows.imageBackSpec).preRow enc Tryd.prog Tryd.f6 Rows.imageBackRow.domain false Rows.imageBackRow.laid) (((OpenSpec.ofChange Rows.imageBackSpec).at F).post enc Tryd.prog Tryd.f6 false true false false) := by
  obtain ⟨places, hx⟩ := reads os enc
  refine returnsInHanded_of_row (C := Tryd.checked) (s := OpenSpec.ofChange Rows.imageBackSpec) own started (by kernel_rfl) Tryd.func6
    (witness_row_at (enc := enc) (C := Tryd.checked) false ({ World.holding Tryd.prog os ⟨#[], #[], []⟩ with heap := (World.holding Tryd.prog os ⟨#[], #[], []⟩).heap.modify 0 fun | .cells _ t frozen => .cells (Cr.tabl.map fun z => Value.int .u32 z).toArray t frozen | o => o } : World) #[.agg #[.int .i64 0, .slice none 0 0]] rfl (by kernel_rfl) (by kernel_rfl) (by kernel_rfl)
      (OpenSpec.preRow_of_cond 8 hx (by kernel_rfl) (fun k hk => by cases hk) (by kernel_rfl) (laid_met os))) ?_
  intro W base args ds gs before hval0 hW _ hcond0 hsz0 hL _ _
  have hval : ∀ (j : Nat) t v, Tryd.f6.params[j]? = some t → args[j]? = some v → Value.okWide Tryd.prog W .any base t v := hval0
  have hW' := hW
  obtain ⟨p, q, hA0, hV, rfl, hfz, hnd⟩ := hW
  have hA : DataW.TrodAll enc Tryd.prog W 0 (fun _ => true) true Tryd.f6.params.toList args.toList ds p := hA0
  rw [Tryd.params6] at hA hval
  obtain ⟨v0, vs0, d0, ds0, p0, q0, hargs, rfl, rfl, h0, r0⟩ := trodAll_cons hA
  obtain ⟨rfl, rfl, rfl⟩ := trodAll_nil r0
  obtain rfl : args = #[v0] := by cases args; simp_all
  obtain ⟨rfl, rfl⟩ := trodVars_none hV
  have k0 := h0
  have lt0 : ∀ x ∈ p0, x.block < W.heap.size := by obtain ⟨m, hm⟩ := k0; exact DataW.trod_lt m _ _ _ hm
  obtain ⟨c00, c10, y00, y10, m0, rfl, hd0, hp0, hy00, hy10⟩ := Go.Joins.open_agg2 Tryd.underlying24 (by kernel_rfl) (by kernel_rfl) (hval 0 24 v0 rfl rfl) h0
  obtain ⟨S0, eS0, _, wS0⟩ := DataW.trod_int Tryd.underlying3 hy00
  simp at eS0
  subst eS0
  obtain ⟨a0, n0, cap0, X0, rfl, x0, lc0, cm0, nz0⟩ := rows_openI hy10
  clear hA0 hval0
  simp only [List.append_nil] at hW'
  refine (walk S0 a0 n0 cap0 X0 W x0 lc0 cm0 nz0 (tab_of hL)).mono fun e W' ⟨he, bel⟩ => ?_
  subst he
  exact ⟨_, rfl, _, _, _, [], _, [], hW', trodAll_mk1 (shut_bool Tryd.underlying4 _), (trodAll_cons_mk (Below.trod laidOut (by kernel_rfl) (of_decide_eq_true (by kernel_rfl)) k0 bel lt0) trodAll_mk0), rfl, bel.frame _, fun h => by cases h⟩

theorem over : Rows.imageBackRow.holds Tryd.pinned (OpenSpec.ofChange Rows.imageBackSpec) :=
  OpenClaim.holds_of_cond 6 Tryd.f6 rfl rfl rfl rfl rfl rfl rfl ⟨rfl, rfl, rfl, rfl, rfl⟩ rfl rfl rfl rfl rfl (by kernel_rfl) Tryd.func6 (by kernel_rfl)
    (of_decide_eq_true (by kernel_rfl)) (by unfold Func.isWrapper; first | (rw [if_pos (by decide +kernel)]; kernel_rfl) | (rw [if_neg (by decide +kernel)]; exact ⟨rfl, rfl⟩))
    (fun os started H enc _ F => by rw [OpenClaim.pre_eq_preRow]; exact lifted os started H enc F)

/-- No parameter wants a stand-in; the program's own looks are off. -/
theorem plain (f : FuncId) (fn : Func) (hf : Tryd.pinned.checked.prog.funcNamed "hawser/hawserlaw09.ImageBack" = some f) (hfn : Tryd.pinned.checked.prog.funcs[f]? = some fn) :
    false = Tryd.pinned.checked.prog.looks [] ∧ ∀ (j : Nat) t, fn.params[j]? = some t → Tryd.pinned.checked.prog.wantsStandIn t = false := by
  obtain rfl : f = 6 := Option.some.inj ((show Tryd.prog.funcNamed "hawser/hawserlaw09.ImageBack" = some 6 by kernel_rfl).symm.trans hf) |>.symm
  obtain rfl : fn = Tryd.f6 := (Option.some.inj (Tryd.func6.symm.trans hfn)).symm
  refine ⟨by kernel_rfl, fun j t ht => ?_⟩
  rw [Tryd.params6] at ht
  have hm : t ∈ [24] := by simpa using Array.mem_of_getElem? ht
  have hall : (([24] : List TypeId).all fun u => !Tryd.prog.wantsStandIn u) = true := by kernel_rfl
  exact (show Tryd.prog.wantsStandIn t = false by simpa using List.all_eq_true.1 hall t hm)
theorem card : Rows.ImageBackCardSaid :=
  Claim7.holds_tied_plain_at .later [] _ _ _ _ over (fun _ h => by cases h) (by kernel_rfl) (fun _ h => by cases h) imageBack_row_tie rfl ⟨rfl, rfl⟩ (by kernel_rfl) rfl plain (by kernel_rfl)

end Go.Proofs.YtlmjgjimmbadeaaDoor.imageBack
namespace Go.Proofs.YtlmjgjimmbadeaaDoor
theorem imageBack_holds : Rows.ImageBackCardSaid := imageBack.card
#print axioms imageBack_holds
end Go.Proofs.YtlmjgjimmbadeaaDoor
