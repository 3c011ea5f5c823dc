/-
  Proved: for all things that are done with a disk, every number, and all that is done behind it, hawserlaw12.DiskSynced answers true: what was synced lasts behind any crash; what comes behind it is kept from its beginning. Condition: the input is of bulk at most 1048576.
-/
import Derived.Test.YteoohgjoffpmkaaRows
import Derived.Test.YteoohgjoffpmkaaKPq
import Derived.WalkKit
import Derived.ProofKit
import Derived.OpenShut
import Derived.ShutString
import Derived.ChangeOld
import Derived.Below
import Derived.Lib.SmallJoins
import Derived.JoinedCond
namespace Go.Proofs.Yteoohgjoffpmkaa.diskSynced
open Go.ChangeShapes Go.WideShapes Go.ChangeAt Go.RowKit
set_option linter.unusedVariables false

theorem own : ownKnob Try.prog.godebug = none := by kernel_rfl
theorem laidOut : laidOutB Try.prog = true := by kernel_rfl

set_option maxRecDepth 20000 in
set_option maxHeartbeats 8000000 in
theorem walk (a : Option Addr) (n cap : Nat) (X : List Dop) (keep : Int) (a2 : Option Addr) (n2 cap2 : Nat) (X2 : List Dop) (w : World) (hX : DOps w a n X) (hw : dopsW X ≤ 1048576) (hk : (Lit.int .i64 keep).wf = true) (hX2 : DOps w a2 n2 X2) (hw2 : dopsW X2 ≤ 1048576) :
    Calls Try.prog 5 #[.slice a n cap, .int .i64 keep, .slice a2 n2 cap2] w fun e w' => e = .returned (.bool true) ∧ Below w.heap.size w w' := by
  obtain ⟨hs1, hs2⟩ := dops_sm hX hw
  obtain ⟨hs3, hs4⟩ := dops_sm hX2 hw2
  obtain ⟨hk1, hk2⟩ := wf_bounds hk
  have HX : Hid (DOps w a n X ∧ (∀ o ∈ X, o.sm) ∧ n ≤ 1048576) := ⟨hX, hs1, hs2⟩
  have HX2 : Hid (DOps w a2 n2 X2 ∧ (∀ o ∈ X2, o.sm) ∧ n2 ≤ 1048576) := ⟨hX2, hs3, hs4⟩
  have HK : Hid (-9223372036854775808 ≤ keep ∧ keep ≤ 9223372036854775807) := ⟨hk1, hk2⟩
  have HW : Hid _ := sy_works 5000 w (by decide) (by decide)
  clear hX hw hX2 hw2 hs1 hs2 hs3 hs4 hk1 hk2 hk
  go_enter Try.func5, Try.ntmps5
  go_wp2_with (first
    | ((fail_if_success (have z := H0)); go_at_call 14; go_must (refine (Calls.mono (HW.out) ?_)); go_must (rintro r w0 ⟨g, rfl, k1⟩); go_must (have H0 : Hid (Sy w g 2 [] (dkW 5000) w0) := k1; clear k1))
    | ((fail_if_success (have z := H1)); have zz := H0; clear zz; go_at_call 15; go_must (refine (Calls.mono (sy_play cap H0.out HX.out.1 HX.out.2.1 (by have := HX.out.2.2; omega) (by decide)) ?_)); go_must (rintro r w1 ⟨rfl, D1, _, k1⟩); go_must (have H1 : Hid (Sy w g 2097152 [] D1 w1) := k1.more (by have := HX.out.2.2; omega); clear k1))
    | ((fail_if_success (have z := H2)); have zz := H1; clear zz; go_at_call 16; go_must (refine (Calls.mono (sy_start H1.out) ?_)); go_must (rintro r w2 ⟨rfl, k1⟩); go_must (have H2 : Hid (Sy w g 2097152 [] { D1 with down := false } w2) := k1; clear k1))
    | ((fail_if_success (have z := H3)); have zz := H2; clear zz; go_at_call 17; go_must (refine (Calls.mono (sy_fail H2.out) ?_)); go_must (rintro r w3 ⟨rfl, k1⟩); go_must (obtain ⟨D3, hD3⟩ : ∃ D3, D3 = faD { D1 with down := false } 0 := ⟨_, rfl⟩; rw [← hD3] at k1; have H3 : Hid (Sy w g 2097152 [] D3 w3 ∧ syR D3 = (0, { D3 with acts := D3.acts + 1, last := D3.seen, steps := [] }) ∧ D3.down = false ∧ D3.fail = 0) := ⟨k1, sync_plain (by rw [hD3]; rfl) (by rw [hD3]; rfl), by rw [hD3]; rfl, by rw [hD3]; rfl⟩; clear k1 hD3))
    | ((fail_if_success (have z := H4)); have zz := H3; clear zz; go_at_call 18; go_must (refine (Calls.mono (sy_sync H3.out.1 (by decide)) ?_)); go_must (rintro r w4 ⟨hr, k1⟩); go_must (obtain ⟨D4, hD4⟩ : ∃ D4 : Dk, D4 = { D3 with acts := D3.acts + 1, last := D3.seen, steps := [] } := ⟨_, rfl⟩; rw [H3.out.2.1, ← hD4] at k1; rw [H3.out.2.1] at hr; obtain rfl : r = .returned (.int .i64 0) := hr; have H4 : Hid (Sy w g 2097153 [] D4 w4 ∧ D4.last = D4.seen ∧ D4.steps = [] ∧ D4.down = false ∧ D4.fail = 0) := ⟨k1, by rw [hD4], by rw [hD4], by rw [hD4]; exact H3.out.2.2.1, by rw [hD4]; exact H3.out.2.2.2⟩; clear k1 hD4))
    | ((fail_if_success (have z := H5)); have zz := H4; clear zz; go_at_call 19; go_must (refine (Calls.mono (sy_pending H4.out.1) ?_)); go_must (rintro r w5 ⟨hr, hq⟩); go_must (rw [H4.out.2.2.1] at hr; obtain rfl : r = .returned (.int .i64 0) := hr; obtain rfl := hq.symm; have H5 : Hid True := trivial; clear hq))
    | ((fail_if_success (have z := H6)); have zz := H5; clear zz; go_at_call 20; go_must (refine (Calls.mono (sy_files H4.out.1) ?_)); go_must (rintro r w6 ⟨a6, n6, c6, L6, rfl, k1, k2⟩); go_must (have H6 : Hid (Sy w g 2097153 [(.slice a6 n6 c6, L6)] D4 w6 ∧ Lst D4.seen (L6.map FiM.p)) := ⟨k2, k1⟩; clear k1 k2))
    | ((fail_if_success (have z := H7)); have zz := H6; clear zz; go_at_call 22; go_must (refine (Calls.mono (sy_left keep H6.out.1 HK.out.1 HK.out.2 (by decide)) ?_)); go_must (rintro r w7 ⟨a7, n7, c7, L7, rfl, k1, k2⟩); go_must (rw [H4.out.2.2.1, left_none, H4.out.2.1] at k1; have H7 : Hid (Sy w g 2097153 [(.slice a7 n7 c7, L7), (.slice a6 n6 c6, L6)] D4 w7 ∧ L7.map FiM.p = L6.map FiM.p) := ⟨k2, k1.uniq H6.out.2⟩; clear k1 k2))
    | ((fail_if_success (have z := H8)); have zz := H7; clear zz; go_at_call 21; go_must (refine (Calls.mono (sy_equal (A := L7) (B := L6) H7.out.1 (by simp) (by simp)) ?_)); go_must (rintro r w8 ⟨hr, k1⟩); go_must (rw [decide_eq_true H7.out.2] at hr; subst hr; have H8 : Hid (Sy w g 2097153 [(.slice a6 n6 c6, L6)] D4 w8) := k1.less (by simp); clear k1))
    | ((fail_if_success (have z := H9)); have zz := H8; clear zz; go_at_call 22; go_must (refine (Calls.mono (sy_left 0 H8.out (by decide) (by decide) (by decide)) ?_)); go_must (rintro r w9 ⟨a9, n9, c9, L9, rfl, k1, k2⟩); go_must (rw [H4.out.2.2.1, left_none, H4.out.2.1] at k1; have H9 : Hid (Sy w g 2097153 [(.slice a9 n9 c9, L9), (.slice a6 n6 c6, L6)] D4 w9 ∧ L9.map FiM.p = L6.map FiM.p) := ⟨k2, k1.uniq H6.out.2⟩; clear k1 k2))
    | ((fail_if_success (have z := H10)); have zz := H9; clear zz; go_at_call 21; go_must (refine (Calls.mono (sy_equal (A := L9) (B := L6) H9.out.1 (by simp) (by simp)) ?_)); go_must (rintro r w10 ⟨hr, k1⟩); go_must (rw [decide_eq_true H9.out.2] at hr; subst hr; have H10 : Hid (Sy w g 2097153 [(.slice a6 n6 c6, L6)] D4 w10) := k1.less (by simp); clear k1))
    | ((fail_if_success (have z := H11)); have zz := H10; clear zz; go_at_call 23; go_must (refine (Calls.mono (sy_only cap2 H10.out HX2.out.1 HX2.out.2.1 (by have := HX2.out.2.2; omega) (by decide)) ?_)); go_must (rintro r w11 ⟨b11, m11, c11, Y, rfl, k1, k2, k3⟩); go_must (have H11 : Hid ((∀ o ∈ Y, o.few) ∧ Calls Try.prog 15 #[.pointer (some ⟨g, 0, none⟩), .slice b11 m11 c11] w11 fun r w2 => r = .returned (.tuple #[]) ∧ ∃ D', PlR D4 Y D' ∧ Sy w g (2097153 + 60) [(.slice a6 n6 c6, L6)] D' w2) := ⟨k1, k3⟩; clear k1 k2 k3))
    | ((fail_if_success (have z := H12)); have zz := H11; clear zz; go_at_call 15; go_must (refine (Calls.mono (H11.out.2) ?_)); go_must (rintro r w12 ⟨rfl, D5, k1, k2⟩); go_must (have H12 : Hid (Sy w g 2097213 [(.slice a6 n6 c6, L6)] D5 w12 ∧ D5.last = D4.last ∧ D5.down = false ∧ D5.fail = 0) := ⟨k2, (play_plain H11.out.1 H4.out.2.2.2.2 k1).1, (play_plain H11.out.1 H4.out.2.2.2.2 k1).2.1.trans H4.out.2.2.2.1, (play_plain H11.out.1 H4.out.2.2.2.2 k1).2.2.1⟩; clear k1 k2))
    | ((fail_if_success (have z := H13)); have zz := H12; clear zz; go_at_call 22; go_must (refine (Calls.mono (sy_left 0 H12.out.1 (by decide) (by decide) (by decide)) ?_)); go_must (rintro r w13 ⟨a13, n13, c13, L13, rfl, k1, k2⟩); go_must (rw [show ((0 : Int)).toNat = 0 from rfl, left_zero, H12.out.2.1, H4.out.2.1] at k1; have H13 : Hid (Sy w g 2097213 [(.slice a13 n13 c13, L13), (.slice a6 n6 c6, L6)] D5 w13 ∧ L13.map FiM.p = L6.map FiM.p) := ⟨k2, k1.uniq H6.out.2⟩; clear k1 k2))
    | ((fail_if_success (have z := H14)); have zz := H13; clear zz; go_at_call 21; go_must (refine (Calls.mono (sy_equal (A := L13) (B := L6) H13.out.1 (by simp) (by simp)) ?_)); go_must (rintro r w14 ⟨hr, k1⟩); go_must (rw [decide_eq_true H13.out.2] at hr; subst hr; have H14 : Hid (Sy w g 2097213 [] D5 w14) := k1.less (by simp); clear k1))
    | ((fail_if_success (have z := H15)); have zz := H14; clear zz; go_at_call 19; go_must (refine (Calls.mono (sy_pending H14.out) ?_)); go_must (rintro r w15 ⟨rfl, hq⟩); go_must (obtain rfl := hq.symm; have H15 : Hid True := trivial; clear hq))
    | ((fail_if_success (have z := H16)); have zz := H15; clear zz; go_at_call 22; go_must (refine (Calls.mono (sy_left _ H14.out (by omega) (by have := sy_cnt H14.out; omega) (by decide)) ?_)); go_must (rintro r w16 ⟨a16, n16, c16, L16, rfl, k1, k2⟩); go_must (rw [Int.toNat_natCast, left_all H14.out.ok _ (Nat.le_refl _)] at k1; have H16 : Hid (Sy w g 2097213 [(.slice a16 n16 c16, L16)] D5 w16 ∧ Lst D5.seen (L16.map FiM.p)) := ⟨k2, k1⟩; clear k1 k2))
    | ((fail_if_success (have z := H17)); have zz := H16; clear zz; go_at_call 20; go_must (refine (Calls.mono (sy_files H16.out.1) ?_)); go_must (rintro r w17 ⟨a17, n17, c17, L17, rfl, k1, k2⟩); go_must (have H17 : Hid (Sy w g 2097213 [(.slice a17 n17 c17, L17), (.slice a16 n16 c16, L16)] D5 w17 ∧ L16.map FiM.p = L17.map FiM.p) := ⟨k2, H16.out.2.uniq k1⟩; clear k1 k2))
    | ((fail_if_success (have z := H18)); have zz := H17; clear zz; go_at_call 21; go_must (refine (Calls.mono (sy_equal (A := L16) (B := L17) H17.out.1 (by simp) (by simp)) ?_)); go_must (rintro r w18 ⟨hr, k1⟩); go_must (rw [decide_eq_true H17.out.2] at hr; subst hr; have H18 : Hid (Sy w g 2097213 [] D5 w18) := k1.less (by simp); clear k1))
    | ((fail_if_success (have z := H19)); have zz := H18; clear zz; go_at_call 22; go_must (refine (Calls.mono (sy_left keep H18.out HK.out.1 HK.out.2 (by decide)) ?_)); go_must (rintro r w19 ⟨a19, n19, c19, L19, rfl, k1, k2⟩); go_must (have H19 : Hid (Sy w g 2097213 [(.slice a19 n19 c19, L19)] D5 w19 ∧ Lst (sfirst D5.last D5.steps keep.toNat) (L19.map FiM.p)) := ⟨k2, k1⟩; clear k1 k2))
    | ((fail_if_success (have z := H20)); have zz := H19; clear zz; go_at_call 24; go_must (refine (Calls.mono (sy_crash keep H19.out.1 HK.out.1 HK.out.2 (by decide)) ?_)); go_must (rintro r w20 ⟨rfl, D6, k1, k2⟩); go_must (have H20 : Hid (Sy w g 2097214 [(.slice a19 n19 c19, L19)] D6 w20 ∧ D6.seen = sfirst D5.last D5.steps keep.toNat ∧ D6.steps = [] ∧ D6.fail = 0 ∧ D6.down = true) := ⟨k2, crash_plain H12.out.2.2.1 k1⟩; clear k1 k2))
    | ((fail_if_success (have z := H21)); have zz := H20; clear zz; go_at_call 25; go_must (refine (Calls.mono (sy_down H20.out.1) ?_)); go_must (rintro r w21 ⟨hr, hq⟩); go_must (rw [H20.out.2.2.2.2] at hr; subst hr; obtain rfl := hq.symm; have H21 : Hid True := trivial; clear hq))
    | ((fail_if_success (have z := H22)); have zz := H21; clear zz; go_at_call 20; go_must (refine (Calls.mono (sy_files H20.out.1) ?_)); go_must (rintro r w22 ⟨a22, n22, c22, L22, rfl, k1, k2⟩); go_must (rw [H20.out.2.1] at k1; have H22 : Hid (Sy w g 2097214 [(.slice a22 n22 c22, L22), (.slice a19 n19 c19, L19)] D6 w22 ∧ L22.map FiM.p = L19.map FiM.p) := ⟨k2, k1.uniq H19.out.2⟩; clear k1 k2))
    | ((fail_if_success (have z := H23)); have zz := H22; clear zz; go_at_call 21; go_must (refine (Calls.mono (sy_equal (A := L22) (B := L19) H22.out.1 (by simp) (by simp)) ?_)); go_must (rintro r w23 ⟨hr, k1⟩); go_must (rw [decide_eq_true H22.out.2] at hr; subst hr; have H23 : Hid (Sy w g 2097214 [(.slice a19 n19 c19, L19)] D6 w23) := k1.less (by simp); clear k1))
    | ((fail_if_success (have z := H24)); have zz := H23; clear zz; go_at_call 19; go_must (refine (Calls.mono (sy_pending H23.out) ?_)); go_must (rintro r w24 ⟨hr, hq⟩); go_must (rw [H20.out.2.2.1] at hr; obtain rfl : r = .returned (.int .i64 0) := hr; obtain rfl := hq.symm; have H24 : Hid True := trivial; clear hq))
    | ((fail_if_success (have z := H25)); have zz := H24; clear zz; go_at_call 16; go_must (refine (Calls.mono (sy_start H23.out) ?_)); go_must (rintro r w25 ⟨rfl, k1⟩); go_must (obtain ⟨D7, hD7⟩ : ∃ D7, D7 = { D6 with down := false } := ⟨_, rfl⟩; rw [← hD7] at k1; have H25 : Hid (Sy w g 2097214 [(.slice a19 n19 c19, L19)] D7 w25 ∧ D7.seen = D6.seen ∧ D7.down = false ∧ D7.fail = 0) := ⟨k1, by rw [hD7], by rw [hD7], by rw [hD7]; exact H20.out.2.2.2.1⟩; clear k1 hD7))
    | ((fail_if_success (have z := H26)); have zz := H25; clear zz; go_at_call 25; go_must (refine (Calls.mono (sy_down H25.out.1) ?_)); go_must (rintro r w26 ⟨hr, hq⟩); go_must (rw [H25.out.2.2.1] at hr; subst hr; obtain rfl := hq.symm; have H26 : Hid True := trivial; clear hq))
    | ((fail_if_success (have z := H27)); have zz := H26; clear zz; go_at_call 20; go_must (refine (Calls.mono (sy_files H25.out.1) ?_)); go_must (rintro r w27 ⟨a27, n27, c27, L27, rfl, k1, k2⟩); go_must (rw [H25.out.2.1, H20.out.2.1] at k1; have H27 : Hid (Sy w g 2097214 [(.slice a27 n27 c27, L27), (.slice a19 n19 c19, L19)] D7 w27 ∧ L27.map FiM.p = L19.map FiM.p) := ⟨k2, k1.uniq H19.out.2⟩; clear k1 k2))
    | ((fail_if_success (have z := H28)); have zz := H27; clear zz; go_at_call 21; go_must (refine (Calls.mono (sy_equal (A := L27) (B := L19) H27.out.1 (by simp) (by simp)) ?_)); go_must (rintro r w28 ⟨hr, k1⟩); go_must (rw [decide_eq_true H27.out.2] at hr; subst hr; have H28 : Hid (Sy w g 2097214 [] D7 w28) := k1.less (by simp); clear k1))
    | ((fail_if_success (have z := H29)); have zz := H28; clear zz; go_at_call 18; go_must (refine (Calls.mono (sy_sync H28.out (by decide)) ?_)); go_must (rintro r w29 ⟨hr, k1⟩); go_must (rw [sync_plain H25.out.2.2.1 H25.out.2.2.2] at hr; obtain rfl : r = .returned (.int .i64 0) := hr; have H29 : Hid (Below w.heap.size w w29) := k1.bel; clear k1)))
  go_ret
  exact ⟨rfl, H29.out⟩

theorem bulk_len {H : Type} (l : List (DataW H)) : l.length ≤ Rows.uptoBulkAll l := by
  induction l with
  | nil => simp
  | cons d r ih =>
    have : 1 ≤ Rows.uptoBulk d := by
      cases d with
      | lit x => cases x <;> simp [Rows.uptoBulk]
      | _ => simp [Rows.uptoBulk]
    simp only [Rows.uptoBulkAll, List.length_cons]; omega
theorem bulk_mem {H : Type} {d : DataW H} {l : List (DataW H)} (h : d ∈ l) : Rows.uptoBulk d ≤ Rows.uptoBulkAll l := by
  induction l with
  | nil => cases h
  | cons x r ih =>
    simp only [Rows.uptoBulkAll]
    rcases List.mem_cons.1 h with rfl | h
    · omega
    · have := ih h; omega
theorem bulk_slice {H : Type} {ds : List (DataW H)} {d : DataW H} {l r : List (DataW H)} (hk : Rows.uptoSmall H ds = true) (hd : d ∈ ds) (e : d = .slice l r) : l.length + r.length ≤ 1048576 := by
  have h0 : Rows.uptoBulkAll ds ≤ 1048576 := of_decide_eq_true hk
  have h1 := bulk_mem hd
  have h3 := bulk_len l
  have h4 := bulk_len r
  rw [e] at h1
  simp only [Rows.uptoBulk] at h1
  omega

set_option maxRecDepth 100000 in
theorem lifted (os : Os) (started : os.Started) (H : Type) (enc : TypeId × Value → H) (F : Stop.Interp) :
    ReturnsInHanded {} Try.checked os 5 .any ((Rows.OpenSpec.upto Rows.diskSyncedSpec).pre6 enc Try.prog Try.f5 Rows.diskSyncedUptoRow.domain false) (((Rows.OpenSpec.upto Rows.diskSyncedSpec).at F).post enc Try.prog Try.f5 false true false false) := by
  refine returnsInHanded_of_cond (C := Try.checked) (s := Rows.OpenSpec.upto Rows.diskSyncedSpec) (k := Rows.uptoSmall) rfl own started (by kernel_rfl) Try.func5
    (OpenSpec.witness (enc := enc) (C := Try.checked) (s := Rows.OpenSpec.upto Rows.diskSyncedSpec) (k := Rows.uptoSmall) rfl false ⟨#[], #[.slice none 0 0, .int .i64 0, .slice none 0 0], []⟩ 8 (by kernel_rfl) (by kernel_rfl) (by kernel_rfl)
      (x := ([.nil, .lit (.int .i64 0), .nil], [], [])) (by kernel_rfl) rfl (by kernel_rfl)) ?_
  intro W base args ds gs before hval0 hW hcnd hk _
  have hval : ∀ (j : Nat) t v, Try.f5.params[j]? = some t → args[j]? = some v → Value.okWide Try.prog W .any base t v := hval0
  have hW' := hW
  obtain ⟨p, q, hA0, hV, rfl, hfz, hnd⟩ := hW
  have hA : DataW.TrodAll enc Try.prog W 0 (fun _ => true) true Try.f5.params.toList args.toList ds p := hA0
  rw [Try.params5] at hA hval
  obtain ⟨v0, vs0, d0, ds0, p0, q0, hargs, rfl, rfl, h0, r0⟩ := trodAll_cons hA
  obtain ⟨v1, vs1, d1, ds1, p1, q1, rfl, rfl, rfl, h1, r1⟩ := trodAll_cons r0
  obtain ⟨v2, vs2, d2, ds2, p2, q2, rfl, rfl, rfl, h2, r2⟩ := trodAll_cons r1
  obtain ⟨rfl, rfl, rfl⟩ := trodAll_nil r2
  obtain rfl : args = #[v0, v1, v2] := by cases args; simp_all
  obtain ⟨rfl, rfl⟩ := trodVars_none hV
  have k0 := h0
  have lt0 : ∀ x ∈ p0, x.block < W.heap.size := by obtain ⟨m, hm⟩ := k0; exact DataW.trod_lt m _ _ _ hm
  obtain ⟨a0, n0, cap0, X0, rfl, x0, y0⟩ : ∃ a n cap X, v0 = .slice a n cap ∧ DOps W a n X ∧ dopsW X ≤ 1048576 := by
    obtain ⟨sa, sl, sc, hv⟩ := okWide_slice Try.underlying23 (hval 0 23 v0 rfl rfl)
    obtain ⟨a, n, cap, X, h1, h2, h3, h4, h5, h6⟩ := dops_open sa sl sc hv h0
    have hAll : Rows.uptoBulkAll _ ≤ 1048576 := of_decide_eq_true hk
    exact ⟨a, n, cap, X, h1, h2, Nat.le_trans h6 (Nat.le_trans (bulk_mem (show d0 ∈ _ by simp)) hAll)⟩
  obtain ⟨a1, rfl, rfl, rfl, w1⟩ := open_int Try.underlying3 (hval 1 3 v1 rfl rfl) h1
  have k2 := h2
  have lt2 : ∀ x ∈ p2, x.block < W.heap.size := by obtain ⟨m, hm⟩ := k2; exact DataW.trod_lt m _ _ _ hm
  obtain ⟨a2, n2, cap2, X2, rfl, x2, y2⟩ : ∃ a n cap X, v2 = .slice a n cap ∧ DOps W a n X ∧ dopsW X ≤ 1048576 := by
    obtain ⟨sa, sl, sc, hv⟩ := okWide_slice Try.underlying23 (hval 2 23 v2 rfl rfl)
    obtain ⟨a, n, cap, X, h1, h2, h3, h4, h5, h6⟩ := dops_open sa sl sc hv h2
    have hAll : Rows.uptoBulkAll _ ≤ 1048576 := of_decide_eq_true hk
    exact ⟨a, n, cap, X, h1, h2, Nat.le_trans h6 (Nat.le_trans (bulk_mem (show d2 ∈ _ by simp)) hAll)⟩
  clear hA0 hval0
  refine (walk a0 n0 cap0 X0 a1 a2 n2 cap2 X2 W x0 y0 w1 x2 y2).mono fun e W' ⟨he, bel⟩ => ?_
  subst he
  exact ⟨_, rfl, _, _, _, [], _, [], hW', trodAll_mk1 (shut_bool Try.underlying4 _), (trodAll_cons_mk (Below.trod laidOut (by kernel_rfl) (of_decide_eq_true (by kernel_rfl)) k0 bel lt0) (trodAll_cons_mk (shut_int Try.underlying3 w1) (trodAll_cons_mk (Below.trod laidOut (by kernel_rfl) (of_decide_eq_true (by kernel_rfl)) k2 bel lt2) trodAll_mk0))), rfl, bel.frame _, fun h => by cases h⟩

theorem over : Rows.diskSyncedUptoRow.holds Try.pinned (Rows.OpenSpec.upto Rows.diskSyncedSpec) :=
  OpenClaim.holds_of_cond 5 Try.f5 rfl rfl rfl rfl rfl rfl rfl ⟨rfl, rfl, rfl, rfl, rfl⟩ rfl rfl rfl rfl rfl (by kernel_rfl) Try.func5 (by kernel_rfl)
    (of_decide_eq_true (by kernel_rfl)) (by unfold Func.isWrapper; first | (rw [if_pos (by decide +kernel)]; kernel_rfl) | (rw [if_neg (by decide +kernel)]; exact ⟨rfl, rfl⟩))
    (fun os started H enc _ F => lifted os started H enc F)

end Go.Proofs.Yteoohgjoffpmkaa.diskSynced
namespace Go.Proofs.Yteoohgjoffpmkaa
theorem diskSynced_holds : Rows.DiskSyncedUptoSaid := diskSynced.over
#print axioms diskSynced_holds
end Go.Proofs.Yteoohgjoffpmkaa
