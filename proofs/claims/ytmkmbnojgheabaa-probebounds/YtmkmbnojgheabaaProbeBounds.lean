/-
  Proved: for all numbers depth and unlike, hawserlaw11.ProbeBounds answers true: probe.Bound is the document's bound, and of depth 2 and 256 buckets it is 273. No condition.
-/
import Derived.Test.YtmkmbnojgheabaaRows
import Derived.Test.YtmkmbnojgheabaaQBo
import Derived.WalkKit
import Derived.ProofKit
import Derived.OpenShut
import Derived.ShutString
import Derived.ChangeOld
import Derived.Below
import Derived.Lib.SmallJoins
import Derived.JoinedCond
namespace Go.Proofs.Ytmkmbnojgheabaa.probeBounds
open Go.ChangeShapes Go.WideShapes Go.ChangeAt Go.RowKit
set_option linter.unusedVariables false

theorem own : ownKnob Try.prog.godebug = none := by kernel_rfl
theorem laidOut : laidOutB Try.prog = true := by kernel_rfl

theorem b2 : bN 2 256 = 273 := by decide
theorem e2 : bE 2 256 = 0 := by decide
set_option maxRecDepth 20000 in
theorem walk (d u : Int) (w : World) (hd : (Lit.int .i64 d).wf = true) (hu : (Lit.int .i64 u).wf = true) :
    Calls Try.prog 3 #[.int .i64 d, .int .i64 u] w fun e w' => e = .returned (.bool true) ∧ Below w.heap.size w w' := by
  have HQ : Hid (∀ w, Calls Try.prog 4 #[.int .i64 d, .int .i64 u] w fun r w' => r = .returned (.tuple #[.int .i64 (bN d u), .int .i64 (bE d u)]) ∧ w' = w) := fun w => qbound_c d u w
  have HZ : Hid (∀ w, Calls Try.prog 5 #[.int .i64 d, .int .i64 u] w fun r w' => r = .returned (.tuple #[.int .i64 (bN d u), .int .i64 (bE d u)]) ∧ w' = w) := fun w => zbound_c d u w
  have HK : Hid (∀ w, Calls Try.prog 4 #[.int .i64 2, .int .i64 256] w fun r w' => r = .returned (.tuple #[.int .i64 273, .int .i64 0]) ∧ w' = w) := fun w => by
    have k := qbound_c 2 256 w
    rw [b2, e2] at k
    exact k
  clear hd hu
  generalize bN d u = N at HQ HZ
  generalize bE d u = E at HQ HZ
  go_enter Try.func3, Try.ntmps3
  go_wp2_with (first
    | ((fail_if_success (have z := H1)); go_at_call 4; go_must (refine (Calls.mono (HQ.out _) ?_)); rintro r w1 ⟨rfl, hq⟩; obtain rfl := hq.symm; have H1 : Hid True := trivial)
    | (go_at_call 5; go_must (refine (Calls.mono (HZ.out _) ?_)); rintro r w1 ⟨rfl, hq⟩; obtain rfl := hq.symm)
    | (have z := H1; clear z; go_at_call 4; go_must (refine (Calls.mono (HK.out _) ?_)); rintro r w1 ⟨rfl, hq⟩; obtain rfl := hq.symm))
  go_ret
  exact ⟨rfl, Below.refl _ _⟩

set_option maxRecDepth 100000 in
theorem lifted (os : Os) (started : os.Started) (H : Type) (enc : TypeId × Value → H) :
    ReturnsInHanded {} Try.checked os 3 .any (Rows.probeBoundsSpec.pre6 enc Try.prog Try.f3 Rows.probeBoundsRow.domain false) (Rows.probeBoundsSpec.post enc Try.prog Try.f3 false true false false) := by
  refine returnsInHanded_of_change (C := Try.checked) own started (by kernel_rfl) Try.func3
    (ChangeSpec.witness6 (enc := enc) (C := Try.checked) false ⟨#[], #[.int .i64 0, .int .i64 0], []⟩ 8 (by kernel_rfl) (by kernel_rfl) (by kernel_rfl) (by kernel_rfl)) ?_
  intro W base args ds gs before hval0 hW hcnd _
  have hval : ∀ (j : Nat) t v, Try.f3.params[j]? = some t → args[j]? = some v → Value.okWide Try.prog W .any base t v := hval0
  have hW' := hW
  obtain ⟨p, q, hA0, hV, rfl, hfz, hnd⟩ := hW
  have hA : DataW.TrodAll enc Try.prog W 0 (fun _ => true) true Try.f3.params.toList args.toList ds p := hA0
  rw [Try.params3] at hA hval
  obtain ⟨v0, vs0, d0, ds0, p0, q0, hargs, rfl, rfl, h0, r0⟩ := trodAll_cons hA
  obtain ⟨v1, vs1, d1, ds1, p1, q1, rfl, rfl, rfl, h1, r1⟩ := trodAll_cons r0
  obtain ⟨rfl, rfl, rfl⟩ := trodAll_nil r1
  obtain rfl : args = #[v0, v1] := by cases args; simp_all
  obtain ⟨rfl, rfl⟩ := trodVars_none hV
  obtain ⟨a0, rfl, rfl, rfl, w0⟩ := open_int Try.underlying3 (hval 0 3 v0 rfl rfl) h0
  obtain ⟨a1, rfl, rfl, rfl, w1⟩ := open_int Try.underlying3 (hval 1 3 v1 rfl rfl) h1
  clear hA0 hval0
  refine (walk a0 a1 W w0 w1).mono fun e W' ⟨he, bel⟩ => ?_
  subst he
  exact ⟨_, rfl, _, _, _, [], _, [], hW', trodAll_mk1 (shut_bool Try.underlying4 _), (trodAll_cons_mk (shut_int Try.underlying3 w0) (trodAll_cons_mk (shut_int Try.underlying3 w1) trodAll_mk0)), rfl, bel.frame _, fun h => by cases h⟩

theorem over : Rows.probeBoundsRow.holds Try.pinned (OpenSpec.ofChange Rows.probeBoundsSpec) :=
  OpenClaim.holds_of_wide 3 Try.f3 rfl rfl rfl rfl rfl rfl rfl ⟨rfl, rfl, rfl, rfl, rfl⟩ rfl rfl rfl rfl rfl (by kernel_rfl) Try.func3 (by kernel_rfl)
    (of_decide_eq_true (by kernel_rfl)) (by unfold Func.isWrapper; first | (rw [if_pos (by decide +kernel)]; kernel_rfl) | (rw [if_neg (by decide +kernel)]; exact ⟨rfl, rfl⟩))
    (fun os started H enc _ => lifted os started H enc)

end Go.Proofs.Ytmkmbnojgheabaa.probeBounds
namespace Go.Proofs.Ytmkmbnojgheabaa
theorem probeBounds_holds : Rows.ProbeBoundsSaid := probeBounds.over
#print axioms probeBounds_holds
end Go.Proofs.Ytmkmbnojgheabaa
