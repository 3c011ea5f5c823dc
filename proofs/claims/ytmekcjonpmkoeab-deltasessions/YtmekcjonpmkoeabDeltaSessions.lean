/-
  Proved: for every number, hawserlaw08.DeltaSessions answers true: Session is the document's. No condition.
-/
import Derived.Test.YtmekcjonpmkoeabRows
import Derived.Test.YtmekcjonpmkoeabDSg
import Derived.WalkKit
import Derived.ProofKit
import Derived.OpenShut
import Derived.ShutString
import Derived.ChangeOld
import Derived.Below
import Derived.Lib.SmallJoins
import Derived.JoinedCond
namespace Go.Proofs.Ytmekcjonpmkoeab.deltaSessions
open Go.ChangeShapes Go.WideShapes Go.ChangeAt Go.RowKit
set_option linter.unusedVariables false

theorem own : ownKnob Try.prog.godebug = none := by kernel_rfl
theorem laidOut : laidOutB Try.prog = true := by kernel_rfl

open Dl
theorem ses1 : sesT 1 = { data := #[0, 115, 1] } ∧ sesE 1 = 0 := by decide +kernel
set_option maxRecDepth 20000 in
set_option maxHeartbeats 1000000 in
theorem walk (c : Int) (w : World) (hc : (Lit.int .i64 c).wf = true) : Calls Try.prog 3 #[.int .i64 c] w fun e w' => e = .returned (.bool true) ∧ Below w.heap.size w w' := by
  clear hc
  have HS : Hid (∀ W, Calls Try.prog 7 #[.int .i64 c] W fun r w' => r = .returned (.tuple #[.string (sesT c), .int .i64 (sesE c)]) ∧ W.grownBy w' none) := session_c c
  have HG : Hid (∀ W, Calls Try.prog 8 #[.int .i64 c] W fun r w' => r = .returned (.tuple #[.string (sesT c), .int .i64 (sesE c)]) ∧ W.grownBy w' none) := gsession_c c
  have H1 : Hid (∀ W, Calls Try.prog 7 #[.int .i64 1] W fun r w' => r = .returned (.tuple #[.string { data := #[0, 115, 1] }, .int .i64 0]) ∧ W.grownBy w' none) := fun W => by
    have := session_c 1 W
    rw [ses1.1, ses1.2] at this
    exact this
  have HM : Hid (∀ (x : Int) W, Calls Try.prog 9 #[.int .i64 x] W fun r w' => r = .returned (.int .i64 x) ∧ w' = W) := fun x W => by
    go_enter Try.func9, Try.ntmps9
    go_wp2
    go_ret
    exact ⟨rfl, rfl⟩
  generalize sesT c = T at *
  generalize sesE c = E at *
  go_enter Try.func3, Try.ntmps3
  go_wp2_with (first
    | ((fail_if_success (have z := J1)); go_at_call 7; refine (Calls.mono (HS.out _) ?_); rintro e w1 ⟨rfl, h1⟩; have J1 : Hid (w.grownBy w1 none) := h1; clear h1)
    | (go_at_call 8; refine (Calls.mono (HG.out _) ?_); rintro e w2 ⟨rfl, h2⟩; have J2 : Hid (w.grownBy w2 none) := gb_trans J1.out h2; clear h2)
    | (have z := J2; clear z; go_at_call 7; refine (Calls.mono (H1.out _) ?_); rintro e w3 ⟨rfl, h3⟩; have J3 : Hid (w.grownBy w3 none) := gb_trans J2.out h3; clear h3)
    | (go_at_call 9; refine (Calls.mono (HM.out _ _) ?_); rintro e wq ⟨rfl, hq⟩; obtain rfl := hq.symm))
  go_ret
  exact ⟨rfl, gb_below J3.out⟩

set_option maxRecDepth 100000 in
theorem lifted (os : Os) (started : os.Started) (H : Type) (enc : TypeId × Value → H) :
    ReturnsInHanded {} Try.checked os 3 .any (Rows.deltaSessionsSpec.pre6 enc Try.prog Try.f3 Rows.deltaSessionsRow.domain false) (Rows.deltaSessionsSpec.post enc Try.prog Try.f3 false true false false) := by
  refine returnsInHanded_of_change (C := Try.checked) own started (by kernel_rfl) Try.func3
    (ChangeSpec.witness6 (enc := enc) (C := Try.checked) false ⟨#[], #[.int .i64 0], []⟩ 8 (by kernel_rfl) (by kernel_rfl) (by kernel_rfl) (by kernel_rfl)) ?_
  intro W base args ds gs before hval0 hW hcnd _
  have hval : ∀ (j : Nat) t v, Try.f3.params[j]? = some t → args[j]? = some v → Value.okWide Try.prog W .any base t v := hval0
  have hW' := hW
  obtain ⟨p, q, hA0, hV, rfl, hfz, hnd⟩ := hW
  have hA : DataW.TrodAll enc Try.prog W 0 (fun _ => true) true Try.f3.params.toList args.toList ds p := hA0
  rw [Try.params3] at hA hval
  obtain ⟨v0, vs0, d0, ds0, p0, q0, hargs, rfl, rfl, h0, r0⟩ := trodAll_cons hA
  obtain ⟨rfl, rfl, rfl⟩ := trodAll_nil r0
  obtain rfl : args = #[v0] := by cases args; simp_all
  obtain ⟨rfl, rfl⟩ := trodVars_none hV
  obtain ⟨a0, rfl, rfl, rfl, w0⟩ := open_int Try.underlying3 (hval 0 3 v0 rfl rfl) h0
  clear hA0 hval0
  refine (walk a0 W w0).mono fun e W' ⟨he, bel⟩ => ?_
  subst he
  exact ⟨_, rfl, _, _, _, [], _, [], hW', trodAll_mk1 (shut_bool Try.underlying4 _), (trodAll_cons_mk (shut_int Try.underlying3 w0) trodAll_mk0), rfl, bel.frame _, fun h => by cases h⟩

theorem over : Rows.deltaSessionsRow.holds Try.pinned (OpenSpec.ofChange Rows.deltaSessionsSpec) :=
  OpenClaim.holds_of_wide 3 Try.f3 rfl rfl rfl rfl rfl rfl rfl ⟨rfl, rfl, rfl, rfl, rfl⟩ rfl rfl rfl rfl rfl (by kernel_rfl) Try.func3 (by kernel_rfl)
    (of_decide_eq_true (by kernel_rfl)) (by unfold Func.isWrapper; first | (rw [if_pos (by decide +kernel)]; kernel_rfl) | (rw [if_neg (by decide +kernel)]; exact ⟨rfl, rfl⟩))
    (fun os started H enc _ => lifted os started H enc)

end Go.Proofs.Ytmekcjonpmkoeab.deltaSessions
namespace Go.Proofs.Ytmekcjonpmkoeab
theorem deltaSessions_holds : Rows.DeltaSessionsSaid := deltaSessions.over
#print axioms deltaSessions_holds
end Go.Proofs.Ytmekcjonpmkoeab
