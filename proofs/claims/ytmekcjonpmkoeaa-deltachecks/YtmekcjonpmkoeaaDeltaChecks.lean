/-
  Proved: for every update, hawserlaw08.DeltaChecks answers true: Check and CheckUpdate are the document's. No condition.
-/
import Derived.Test.YtmekcjonpmkoeaaRows
import Derived.Test.YtmekcjonpmkoeaaDCu
import Derived.Test.YtmekcjonpmkoeaaDOp
import Derived.WalkKit
import Derived.ProofKit
import Derived.OpenShut
import Derived.ShutString
import Derived.ChangeOld
import Derived.Below
import Derived.Lib.SmallJoins
import Derived.JoinedCond
namespace Go.Proofs.Ytmekcjonpmkoeaa.deltaChecks
open Go.ChangeShapes Go.WideShapes Go.ChangeAt Go.RowKit
set_option linter.unusedVariables false

theorem own : ownKnob Try.prog.godebug = none := by kernel_rfl
theorem laidOut : laidOutB Try.prog = true := by kernel_rfl

open Dl
set_option maxRecDepth 20000 in
set_option maxHeartbeats 1000000 in
theorem walk (u : Upd) (w : World) (ok : u.ok) : Calls Try.prog 4 #[.agg u.cells.toArray] w fun e w' => e = .returned (.bool true) ∧ Below w.heap.size w w' := by
  clear ok
  obtain ⟨q, c, n, k, key, val, ver⟩ := u
  show Calls Try.prog 4 #[.agg #[.int .i64 q, .int .i64 c, .int .i64 n, .int .i64 k, .string key, .string val, .int .i64 ver]] w _
  have HX : Hid (∀ W, Calls Try.prog 12 #[.agg #[.int .i64 k, .string key, .string val, .int .i64 ver]] W fun r w' => r = .returned (.int .i64 (opE k key val ver)) ∧ W.grownBy w' none) := check_c k key val ver
  have HG : Hid (∀ W, Calls Try.prog 13 #[.agg #[.int .i64 k, .string key, .string val, .int .i64 ver]] W fun r w' => r = .returned (.int .i64 (opE k key val ver)) ∧ W.grownBy w' none) := gcheck_c k key val ver
  have HP : Hid (∀ W, Calls Try.prog 14 #[.agg #[.int .i64 k, .string key, .string val, .int .i64 ver]] W fun r w' => r = .returned (.agg #[.int .i64 k, .string key, .string val, .int .i64 ver]) ∧ W.grownBy w' none) := plainOp_c k key val ver
  have HU : Hid (∀ W, Calls Try.prog 15 #[.agg #[.int .i64 q, .int .i64 c, .int .i64 n, .int .i64 k, .string key, .string val, .int .i64 ver]] W fun r w' => r = .returned (.int .i64 (updE q c n k key val ver)) ∧ W.grownBy w' none) := checku_c q c n k key val ver
  have HV : Hid (∀ W, Calls Try.prog 16 #[.agg #[.int .i64 q, .int .i64 c, .int .i64 n, .int .i64 k, .string key, .string val, .int .i64 ver]] W fun r w' => r = .returned (.int .i64 (updE q c n k key val ver)) ∧ W.grownBy w' none) := gchecku_c q c n k key val ver
  have HL : Hid (∀ W, Calls Try.prog 17 #[.agg #[.int .i64 q, .int .i64 c, .int .i64 n, .int .i64 k, .string key, .string val, .int .i64 ver]] W fun r w' => r = .returned (.agg #[.int .i64 q, .int .i64 c, .int .i64 n, .int .i64 k, .string key, .string val, .int .i64 ver]) ∧ W.grownBy w' none) := plain_c q c n k key val ver
  have HM : Hid (∀ (x : Int) W, Calls Try.prog 9 #[.int .i64 x] W fun r w' => r = .returned (.int .i64 x) ∧ w' = W) := fun x W => by
    go_enter Try.func9, Try.ntmps9
    go_wp2
    go_ret
    exact ⟨rfl, rfl⟩
  generalize opE k key val ver = E at *
  generalize updE q c n k key val ver = F at *
  have HN : Hid (w.grownBy (w.alloc (.cells #[.int .i64 q, .int .i64 c, .int .i64 n, .int .i64 k, .string key, .string val, .int .i64 ver] 33)) none) := gb_alloc _ _
  have HN2 : Hid (Bk 33 (w.alloc (.cells #[.int .i64 q, .int .i64 c, .int .i64 n, .int .i64 k, .string key, .string val, .int .i64 ver] 33)) w.heap.size #[.int .i64 q, .int .i64 c, .int .i64 n, .int .i64 k, .string key, .string val, .int .i64 ver]) := (blk_new w _ _).1
  go_enter Try.func4, Try.ntmps4
  go_wp2_with fail
  generalize hW1 : World.alloc w _ = w1 at *
  clear hW1
  obtain ⟨N, hN⟩ : ∃ N, N = w.heap.size := ⟨_, rfl⟩
  rw [← hN] at HN2 ⊢
  clear hN
  have r1 : ∀ p, (loadVar 30 ⟨N, 3, none⟩).run Try.prog (gw w1 p) = .ok (.agg #[.int .i64 k, .string key, .string val, .int .i64 ver]) (gw w1 p) := fun p => by
    have := run_loadVar_mid (P := Try.prog) (gw w1 p) N 3 30 [.int .i64 k, .string key, .string val, .int .i64 ver] _ (upd_op (bk_gw HN2.out p)) Try.underlying30 rfl (by kernel_rfl)
    simpa using this
  have r2 : ∀ p, (loadVar 33 ⟨N, 0, none⟩).run Try.prog (gw w1 p) = .ok (.agg #[.int .i64 q, .int .i64 c, .int .i64 n, .int .i64 k, .string key, .string val, .int .i64 ver]) (gw w1 p) := fun p => bk_load Try.underlying33 rfl infoUpd (bk_gw HN2.out p) rfl
  refine wp_region_gb (by kernel_rfl) (by kernel_rfl) ?_
  repeat (first
    | (refine wpQuiet_loadv rfl 30 _ rfl ⟨N, 3, none⟩ _ rfl (fun w hw => by obtain ⟨p, rfl⟩ := hw; exact r1 p) ?_)
    | (refine wpQuiet_loadv rfl 33 _ rfl ⟨N, 0, none⟩ _ rfl (fun w hw => by obtain ⟨p, rfl⟩ := hw; exact r2 p) ?_)
    | quiet_step (first
    | (go_at_call 12; exact calls_gb (HX.out _))
    | (go_at_call 13; exact calls_gb (HG.out _))
    | (go_at_call 14; exact calls_gb (HP.out _))
    | (go_at_call 15; exact calls_gb (HU.out _))
    | (go_at_call 16; exact calls_gb (HV.out _))
    | (go_at_call 17; exact calls_gb (HL.out _))
    | (go_at_call 9; exact calls_gw (HM.out _ _))))
  refine wpQuiet_nil ?_
  intro _ hw'
  obtain ⟨pq, rfl⟩ := hw'
  go_wp2
  go_ret
  exact ⟨rfl, gb_below (gb_trans HN.out (gw_gb _ _))⟩

set_option maxRecDepth 100000 in
theorem lifted (os : Os) (started : os.Started) (H : Type) (enc : TypeId × Value → H) :
    ReturnsInHanded {} Try.checked os 4 .any (Rows.deltaChecksSpec.pre6 enc Try.prog Try.f4 Rows.deltaChecksRow.domain false) (Rows.deltaChecksSpec.post enc Try.prog Try.f4 false true false false) := by
  refine returnsInHanded_of_change (C := Try.checked) own started (by kernel_rfl) Try.func4
    (ChangeSpec.witness6 (enc := enc) (C := Try.checked) false ⟨#[], #[.agg #[.int .i64 0, .int .i64 0, .int .i64 0, .int .i64 0, .string .empty, .string .empty, .int .i64 0]], []⟩ 8 (by kernel_rfl) (by kernel_rfl) (by kernel_rfl) (by kernel_rfl)) ?_
  intro W base args ds gs before hval0 hW hcnd _
  have hval : ∀ (j : Nat) t v, Try.f4.params[j]? = some t → args[j]? = some v → Value.okWide Try.prog W .any base t v := hval0
  have hW' := hW
  obtain ⟨p, q, hA0, hV, rfl, hfz, hnd⟩ := hW
  have hA : DataW.TrodAll enc Try.prog W 0 (fun _ => true) true Try.f4.params.toList args.toList ds p := hA0
  rw [Try.params4] at hA hval
  obtain ⟨v0, vs0, d0, ds0, p0, q0, hargs, rfl, rfl, h0, r0⟩ := trodAll_cons hA
  obtain ⟨rfl, rfl, rfl⟩ := trodAll_nil r0
  obtain rfl : args = #[v0] := by cases args; simp_all
  obtain ⟨rfl, rfl⟩ := trodVars_none hV
  have k0 := h0
  have lt0 : ∀ x ∈ p0, x.block < W.heap.size := by obtain ⟨m, hm⟩ := k0; exact DataW.trod_lt m _ _ _ hm
  obtain ⟨u0, rfl, ok0⟩ := Dl.upd_came (hval 0 33 v0 rfl rfl) h0
  clear hA0 hval0
  refine (walk u0 W ok0).mono fun e W' ⟨he, bel⟩ => ?_
  subst he
  exact ⟨_, rfl, _, _, _, [], _, [], hW', trodAll_mk1 (shut_bool Try.underlying4 _), (trodAll_cons_mk (Below.trod laidOut (by kernel_rfl) (of_decide_eq_true (by kernel_rfl)) k0 bel lt0) trodAll_mk0), rfl, bel.frame _, fun h => by cases h⟩

theorem over : Rows.deltaChecksRow.holds Try.pinned (OpenSpec.ofChange Rows.deltaChecksSpec) :=
  OpenClaim.holds_of_wide 4 Try.f4 rfl rfl rfl rfl rfl rfl rfl ⟨rfl, rfl, rfl, rfl, rfl⟩ rfl rfl rfl rfl rfl (by kernel_rfl) Try.func4 (by kernel_rfl)
    (of_decide_eq_true (by kernel_rfl)) (by unfold Func.isWrapper; first | (rw [if_pos (by decide +kernel)]; kernel_rfl) | (rw [if_neg (by decide +kernel)]; exact ⟨rfl, rfl⟩))
    (fun os started H enc _ => lifted os started H enc)

end Go.Proofs.Ytmekcjonpmkoeaa.deltaChecks
namespace Go.Proofs.Ytmekcjonpmkoeaa
theorem deltaChecks_holds : Rows.DeltaChecksSaid := deltaChecks.over
#print axioms deltaChecks_holds
end Go.Proofs.Ytmekcjonpmkoeaa
