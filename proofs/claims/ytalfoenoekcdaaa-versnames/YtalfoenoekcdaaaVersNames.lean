/-
  Proved: hawserlaw14.VersNames answers true: the errors have their numbers; Commit beyond both ends is refused. No condition.
-/
import Derived.Test.YtalfoenoekcdaaaRows
import Derived.Test.YtalfoenoekcdaaaVNw
import Derived.WalkKit
import Derived.ProofKit
import Derived.OpenShut
import Derived.ShutString
import Derived.ChangeOld
import Derived.Below
import Derived.Lib.SmallJoins
import Derived.JoinedCond
namespace Go.Proofs.Ytalfoenoekcdaaa.versNames
open Go.ChangeShapes Go.WideShapes Go.ChangeAt Go.RowKit
set_option linter.unusedVariables false

theorem own : ownKnob Try.prog.godebug = none := by kernel_rfl
theorem laidOut : laidOutB Try.prog = true := by kernel_rfl

set_option maxRecDepth 20000 in
set_option maxHeartbeats 1000000 in
theorem walk (w : World) : Calls Try.prog 3 #[] w fun e w' => e = .returned (.bool true) ∧ Below w.heap.size w w' := by
  have HD : Hid _ := dnew_c w
  have HN : Hid (∀ W s, StN W s → _) := fun W s h => vnew_c s W h
  have HU : Hid (∀ W b, BkN W b → _) := fun W b h => commit_up b W h
  have HL : Hid (∀ W b, BkN W b → _) := fun W b h => commit_down b W h
  have HNU : Hid (∀ e W, Calls Try.prog 8 #[.int .i64 e] W fun r w' => r = .returned (.int .i64 e) ∧ w' = W) := fun e W => num_c e W
  go_enter Try.func3, Try.ntmps3
  go_wp2_with (first
    | (go_at_call 8; go_must (refine (Calls.mono (HNU.out _ _) ?_)); rintro r wq ⟨rfl, hq⟩; obtain rfl := hq.symm; clear hq)
    | (go_at_call 7; go_must (refine (Calls.mono HD.out ?_)); rintro r w1 ⟨s, rfl, k1, k2⟩; have H1 : Hid (StN w1 s ∧ Below w.heap.size w w1) := ⟨k1, k2⟩; clear k1 k2)
    | (go_at_call 6; go_must (refine (Calls.mono (HN.out _ _ H1.out.1) ?_)); rintro r w2 ⟨b, rfl, k1, k2⟩; have H2 : Hid (BkN w2 b ∧ Below w.heap.size w w2) := ⟨k1, H1.out.2.trans (k2.mono H1.out.2.size)⟩; clear k1 k2)
    | ((fail_if_success (have z := H3)); go_at_call 9; go_must (refine (Calls.mono (HU.out _ _ H2.out.1) ?_)); rintro r wq ⟨rfl, hq⟩; obtain rfl := hq.symm; clear hq; have H3 : Hid True := trivial)
    | (have zz := H3; clear zz; go_at_call 9; go_must (refine (Calls.mono (HL.out _ _ H2.out.1) ?_)); rintro r wq ⟨rfl, hq⟩; obtain rfl := hq.symm; clear hq))
  go_ret
  exact ⟨rfl, H2.out.2⟩

set_option maxRecDepth 100000 in
theorem lifted (os : Os) (started : os.Started) (H : Type) (enc : TypeId × Value → H) :
    ReturnsInHanded {} Try.checked os 3 .any (Rows.versNamesSpec.pre6 enc Try.prog Try.f3 Rows.versNamesRow.domain false) (Rows.versNamesSpec.post enc Try.prog Try.f3 false true false false) := by
  refine returnsInHanded_of_change (C := Try.checked) own started (by kernel_rfl) Try.func3
    (ChangeSpec.witness6 (enc := enc) (C := Try.checked) false ⟨#[], #[], []⟩ 8 (by kernel_rfl) (by kernel_rfl) (by kernel_rfl) (by kernel_rfl)) ?_
  intro W base args ds gs before hval0 hW hcnd _
  have hval : ∀ (j : Nat) t v, Try.f3.params[j]? = some t → args[j]? = some v → Value.okWide Try.prog W .any base t v := hval0
  have hW' := hW
  obtain ⟨p, q, hA0, hV, rfl, hfz, hnd⟩ := hW
  have hA : DataW.TrodAll enc Try.prog W 0 (fun _ => true) true Try.f3.params.toList args.toList ds p := hA0
  rw [Try.params3] at hA hval
  obtain ⟨hargs, rfl, rfl⟩ := trodAll_nil hA
  obtain rfl : args = #[] := by cases args; simp_all
  obtain ⟨rfl, rfl⟩ := trodVars_none hV
  clear hA0 hval0
  refine (walk  W ).mono fun e W' ⟨he, bel⟩ => ?_
  subst he
  exact ⟨_, rfl, _, _, _, [], _, [], hW', trodAll_mk1 (shut_bool Try.underlying4 _), trodAll_mk0, rfl, bel.frame _, fun h => by cases h⟩

theorem over : Rows.versNamesRow.holds Try.pinned (OpenSpec.ofChange Rows.versNamesSpec) :=
  OpenClaim.holds_of_wide 3 Try.f3 rfl rfl rfl rfl rfl rfl rfl ⟨rfl, rfl, rfl, rfl, rfl⟩ rfl rfl rfl rfl rfl (by kernel_rfl) Try.func3 (by kernel_rfl)
    (of_decide_eq_true (by kernel_rfl)) (by unfold Func.isWrapper; first | (rw [if_pos (by decide +kernel)]; kernel_rfl) | (rw [if_neg (by decide +kernel)]; exact ⟨rfl, rfl⟩))
    (fun os started H enc _ => lifted os started H enc)

end Go.Proofs.Ytalfoenoekcdaaa.versNames
namespace Go.Proofs.Ytalfoenoekcdaaa
theorem versNames_holds : Rows.VersNamesSaid := versNames.over
#print axioms versNames_holds
end Go.Proofs.Ytalfoenoekcdaaa
