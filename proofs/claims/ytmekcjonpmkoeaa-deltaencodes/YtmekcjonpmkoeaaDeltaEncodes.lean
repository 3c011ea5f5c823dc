/-
  Proved: for every update, hawserlaw08.DeltaEncodes answers true: Encode answers the document's bytes and error. No condition.
-/
import Derived.Test.YtmekcjonpmkoeaaRows
import Derived.Test.YtmekcjonpmkoeaaDEg
import Derived.WalkKit
import Derived.ProofKit
import Derived.OpenShut
import Derived.ShutString
import Derived.ChangeOld
import Derived.Below
import Derived.Lib.SmallJoins
import Derived.JoinedCond
namespace Go.Proofs.Ytmekcjonpmkoeaa.deltaEncodes
open Go.ChangeShapes Go.WideShapes Go.ChangeAt Go.RowKit
set_option linter.unusedVariables false

theorem own : ownKnob Try.prog.godebug = none := by kernel_rfl
theorem laidOut : laidOutB Try.prog = true := by kernel_rfl

end Go.Proofs.Ytmekcjonpmkoeaa.deltaEncodes
namespace Go.Proofs.Ytmekcjonpmkoeaa.Dl
open Go.RowKit
set_option linter.unusedVariables false
theorem lit_e : updE 1 1 1 2 { data := #[97] } .empty 0 = 0 := by decide +kernel
theorem lit_z : updZ 1 1 1 2 { data := #[97] } .empty 0 = [1, 1, 1, 2, 1, 97] := by
  unfold updZ
  rw [if_pos lit_e]
  unfold updB updA
  have e1 : enc 1 = [1] := enc_small (by omega)
  have e2 : enc 2 = [2] := enc_small (by omega)
  have z : ByteArray.size { data := #[97] } = 1 := rfl
  simp [e1, e2, z, sb]
theorem lit_s : strOfNums [1, 1, 1, 2, 1, 97] = { data := #[1, 1, 1, 2, 1, 97] } := by decide +kernel
theorem str_of {W : World} {va : Option Addr} {L vc : Nat} {Z : List Int} {B : Nat} (h : Own B W (.slice va L vc) L Z) : (convert 44 9 (.slice va L vc)).run Try.prog W = .ok (.string (strOfNums Z)) W := by
  obtain ⟨a, c, e, hs, _, _⟩ := h.seg
  cases e
  exact seg_string (P := Try.prog) 44 9 5 vc hs Try.underlying44 Try.underlying5 Try.underlying9
set_option maxRecDepth 20000 in
set_option maxHeartbeats 2000000 in
theorem encodes_walk (u : Upd) (w : World) (ok : u.ok) : Calls Try.prog 5 #[.agg u.cells.toArray] w fun e w' => e = .returned (.bool true) ∧ Below w.heap.size w w' := by
  clear ok
  obtain ⟨q, c, n, k, key, val, ver⟩ := u
  show Calls Try.prog 5 #[.agg #[.int .i64 q, .int .i64 c, .int .i64 n, .int .i64 k, .string key, .string val, .int .i64 ver]] w _
  obtain ⟨Z, hZ⟩ : ∃ Z, Z = updZ q c n k key val ver := ⟨_, rfl⟩
  obtain ⟨L, hL⟩ : ∃ L, L = Z.length := ⟨_, rfl⟩
  obtain ⟨E, hE⟩ : ∃ E, E = updE q c n k key val ver := ⟨_, rfl⟩
  have HP : Hid (∀ W, Calls Try.prog 18 #[.agg #[.int .i64 q, .int .i64 c, .int .i64 n, .int .i64 k, .string key, .string val, .int .i64 ver]] W fun r w' => ∃ va vc, r = .returned (.tuple #[.slice va L vc, .int .i64 E]) ∧ Own W.heap.size w' (.slice va L vc) L Z ∧ Below W.heap.size W w') := fun W => by
    have := encode_c q c n k key val ver W
    unfold EA at this
    rw [← hZ, ← hL, ← hE] at this
    exact this
  have HG : Hid (∀ W, Calls Try.prog 19 #[.agg #[.int .i64 q, .int .i64 c, .int .i64 n, .int .i64 k, .string key, .string val, .int .i64 ver]] W fun r w' => ∃ va vc, r = .returned (.tuple #[.slice va L vc, .int .i64 E]) ∧ Own W.heap.size w' (.slice va L vc) L Z ∧ Below W.heap.size W w') := fun W => by
    have := gencode_c q c n k key val ver W
    unfold EA at this
    rw [← hZ, ← hL, ← hE] at this
    exact this
  have HX : Hid (∀ W, Calls Try.prog 18 #[.agg #[.int .i64 1, .int .i64 1, .int .i64 1, .int .i64 2, .string { data := #[97] }, .string .empty, .int .i64 0]] W fun r w' => ∃ va vc, r = .returned (.tuple #[.slice va 6 vc, .int .i64 0]) ∧ Own W.heap.size w' (.slice va 6 vc) 6 [1, 1, 1, 2, 1, 97] ∧ Below W.heap.size W w') := fun W => by
    have := encode_c 1 1 1 2 { data := #[97] } .empty 0 W
    unfold EA at this
    rw [lit_z, lit_e] at this
    exact this
  have HL : Hid (∀ W, Calls Try.prog 17 #[.agg #[.int .i64 q, .int .i64 c, .int .i64 n, .int .i64 k, .string key, .string val, .int .i64 ver]] W fun r w' => r = .returned (.agg #[.int .i64 q, .int .i64 c, .int .i64 n, .int .i64 k, .string key, .string val, .int .i64 ver]) ∧ W.grownBy w' none) := plain_c q c n k key val ver
  have HM : Hid (∀ (x : Int) W, Calls Try.prog 9 #[.int .i64 x] W fun r w' => r = .returned (.int .i64 x) ∧ w' = W) := fun x W => by
    go_enter Try.func9, Try.ntmps9
    go_wp2
    go_ret
    exact ⟨rfl, rfl⟩
  have hss := lit_s
  clear hZ hL hE
  have H0 : Hid (Bk 33 (w.alloc (.cells #[.int .i64 q, .int .i64 c, .int .i64 n, .int .i64 k, .string key, .string val, .int .i64 ver] 33)) w.heap.size #[.int .i64 q, .int .i64 c, .int .i64 n, .int .i64 k, .string key, .string val, .int .i64 ver] ∧ w.grownBy (w.alloc (.cells #[.int .i64 q, .int .i64 c, .int .i64 n, .int .i64 k, .string key, .string val, .int .i64 ver] 33)) none) := blk_new w _ _
  go_enter Try.func5, Try.ntmps5
  go_wp2_with (first
    | ((fail_if_success (have z := H1)); refine wpList_load_bk 33 rfl (.tmp 1) rfl Try.underlying33 rfl infoUpd w.heap.size _ rfl H0.out.1 rfl ?_)
    | (have z := H1; clear z; (fail_if_success (have z := H2)); refine wpList_load_bk 33 rfl (.tmp 1) rfl Try.underlying33 rfl infoUpd w.heap.size _ rfl H1.out.1 rfl ?_)
    | ((fail_if_success (have z := H1)); go_at_call 18; go_must (refine (Calls.mono (HP.out _) ?_)); rintro r w1 ⟨va, vc, rfl, h1, h2⟩; have H1 : Hid (Bk 33 w1 w.heap.size #[.int .i64 q, .int .i64 c, .int .i64 n, .int .i64 k, .string key, .string val, .int .i64 ver] ∧ Own w.heap.size w1 (.slice va L vc) L Z ∧ w.grownBy w1 none) := ⟨H0.out.1.grew (below_gb h2) (by simp), own_low h1 H0.out.2.size, gb_trans H0.out.2 (below_gb h2)⟩; clear h1 h2)
    | (go_at_call 17; go_must (refine (Calls.mono (HL.out _) ?_)); rintro r w2 ⟨rfl, h2⟩; have H2 : Hid (Own w.heap.size w2 (.slice va L vc) L Z ∧ w.grownBy w2 none) := ⟨own_keep H1.out.2.1 h2, gb_trans H1.out.2.2 h2⟩; clear h2)
    | (go_at_call 19; go_must (refine (Calls.mono (HG.out _) ?_)); rintro r w3 ⟨vb, vd, rfl, h1, h2⟩; have H3 : Hid (Own w.heap.size w3 (.slice va L vc) L Z ∧ Own w.heap.size w3 (.slice vb L vd) L Z ∧ w.grownBy w3 none) := ⟨own_below H2.out.1 h2, own_low h1 H2.out.2.size, gb_trans H2.out.2 (below_gb h2)⟩; clear h1 h2)
    | (have z := H3; clear z; (fail_if_success (have z := H4)); go_at_call 18; go_must (refine (Calls.mono (HX.out _) ?_)); rintro r w4 ⟨ve, vf, rfl, h1, h2⟩; have H4 : Hid (w.grownBy w4 none) := gb_trans H3.out.2.2 (below_gb h2); have s1 := str_of (own_below H3.out.1 h2); have s2 := str_of (own_below H3.out.2.1 h2); have s3 := str_of h1; rw [hss] at s3; generalize strOfNums Z = S at s1 s2; clear h1 h2)
    | (go_at_call 9; go_must (refine (Calls.mono (HM.out _ _) ?_)); rintro e wq ⟨rfl, hq⟩; obtain rfl := hq.symm))
  go_ret
  exact ⟨rfl, gb_below H4.out⟩
end Go.Proofs.Ytmekcjonpmkoeaa.Dl
namespace Go.Proofs.Ytmekcjonpmkoeaa.deltaEncodes
open Go.ChangeShapes Go.WideShapes Go.ChangeAt Go.RowKit
set_option linter.unusedVariables false
theorem walk (u : Dl.Upd) (w : World) (ok : u.ok) : Calls Try.prog 5 #[.agg u.cells.toArray] w fun e w' => e = .returned (.bool true) ∧ Below w.heap.size w w' := Dl.encodes_walk u w ok

set_option maxRecDepth 100000 in
theorem lifted (os : Os) (started : os.Started) (H : Type) (enc : TypeId × Value → H) :
    ReturnsInHanded {} Try.checked os 5 .any (Rows.deltaEncodesSpec.pre6 enc Try.prog Try.f5 Rows.deltaEncodesRow.domain false) (Rows.deltaEncodesSpec.post enc Try.prog Try.f5 false true false false) := by
  refine returnsInHanded_of_change (C := Try.checked) own started (by kernel_rfl) Try.func5
    (ChangeSpec.witness6 (enc := enc) (C := Try.checked) false ⟨#[], #[.agg #[.int .i64 0, .int .i64 0, .int .i64 0, .int .i64 0, .string .empty, .string .empty, .int .i64 0]], []⟩ 8 (by kernel_rfl) (by kernel_rfl) (by kernel_rfl) (by kernel_rfl)) ?_
  intro W base args ds gs before hval0 hW hcnd _
  have hval : ∀ (j : Nat) t v, Try.f5.params[j]? = some t → args[j]? = some v → Value.okWide Try.prog W .any base t v := hval0
  have hW' := hW
  obtain ⟨p, q, hA0, hV, rfl, hfz, hnd⟩ := hW
  have hA : DataW.TrodAll enc Try.prog W 0 (fun _ => true) true Try.f5.params.toList args.toList ds p := hA0
  rw [Try.params5] at hA hval
  obtain ⟨v0, vs0, d0, ds0, p0, q0, hargs, rfl, rfl, h0, r0⟩ := trodAll_cons hA
  obtain ⟨rfl, rfl, rfl⟩ := trodAll_nil r0
  obtain rfl : args = #[v0] := by cases args; simp_all
  obtain ⟨rfl, rfl⟩ := trodVars_none hV
  have k0 := h0
  have lt0 : ∀ x ∈ p0, x.block < W.heap.size := by obtain ⟨m, hm⟩ := k0; exact DataW.trod_lt m _ _ _ hm
  obtain ⟨u0, rfl, ok0⟩ := Dl.upd_came (hval 0 33 v0 rfl rfl) h0
  clear hA0 hval0
  refine (walk u0 W ok0).mono fun e W' ⟨he, bel⟩ => ?_
  subst he
  exact ⟨_, rfl, _, _, _, [], _, [], hW', trodAll_mk1 (shut_bool Try.underlying4 _), (trodAll_cons_mk (Below.trod laidOut (by kernel_rfl) (of_decide_eq_true (by kernel_rfl)) k0 bel lt0) trodAll_mk0), rfl, bel.frame _, fun h => by cases h⟩

theorem over : Rows.deltaEncodesRow.holds Try.pinned (OpenSpec.ofChange Rows.deltaEncodesSpec) :=
  OpenClaim.holds_of_wide 5 Try.f5 rfl rfl rfl rfl rfl rfl rfl ⟨rfl, rfl, rfl, rfl, rfl⟩ rfl rfl rfl rfl rfl (by kernel_rfl) Try.func5 (by kernel_rfl)
    (of_decide_eq_true (by kernel_rfl)) (by unfold Func.isWrapper; first | (rw [if_pos (by decide +kernel)]; kernel_rfl) | (rw [if_neg (by decide +kernel)]; exact ⟨rfl, rfl⟩))
    (fun os started H enc _ => lifted os started H enc)

end Go.Proofs.Ytmekcjonpmkoeaa.deltaEncodes
namespace Go.Proofs.Ytmekcjonpmkoeaa
theorem deltaEncodes_holds : Rows.DeltaEncodesSaid := deltaEncodes.over
#print axioms deltaEncodes_holds
end Go.Proofs.Ytmekcjonpmkoeaa
