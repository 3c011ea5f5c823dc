/-
  Proved: hawserlaw12.DiskNames answers true: the errors and limits have their numbers, and on a disk of three bytes a file with a name of one letter leaves two. No condition.
-/
import Derived.Test.YtadnececnaciiaaRows
import Derived.Test.YtadnececnaciiaaKNc
import Derived.WalkKit
import Derived.ProofKit
import Derived.OpenShut
import Derived.ShutString
import Derived.ChangeOld
import Derived.Below
import Derived.Lib.SmallJoins
import Derived.JoinedCond
namespace Go.Proofs.Ytadnececnaciiaa.diskNames
open Go.ChangeShapes Go.WideShapes Go.ChangeAt Go.RowKit
set_option linter.unusedVariables false

theorem own : ownKnob Try.prog.godebug = none := by kernel_rfl
theorem laidOut : laidOutB Try.prog = true := by kernel_rfl

set_option maxRecDepth 20000 in
set_option maxHeartbeats 1000000 in
theorem walk (w : World) : Calls Try.prog 3 #[] w fun e w' => e = .returned (.bool true) ∧ Below w.heap.size w w' := by
  have HN : Hid (Calls Try.prog 10 #[.int .i64 3, .slice none 0 0] w fun r w' => ∃ g s l, r = .returned (.tuple #[.pointer (some ⟨g, 0, none⟩), .int .i64 0]) ∧ Bk 52 w' g (dcells 3 3 (some s) (some l) (.slice none 0 0) 0 0 0 false) ∧ Mp0 w' s ∧ s ≠ g ∧ w.heap.size ≤ g ∧ w.heap.size ≤ s ∧ Below w.heap.size w w') := (new0_c 3 w (by decide) (by decide)).mono fun r w' ⟨g, s, l, h1, h2, h3, h4, h5, h6, h7, h8, h9⟩ => ⟨g, s, l, h1, h2, h3, (fun e => by
    obtain ⟨c, hc⟩ := h3
    have hd : w'.heap[g]? = some _ := h2
    rw [e, hd] at hc
    cases hc), h6, h7, gbK_below h9⟩
  have HNU : Hid (∀ e W, Calls Try.prog 9 #[.int .i64 e] W fun r w' => r = .returned (.int .i64 e) ∧ w' = W) := fun e W => num_c e W
  go_enter Try.func3, Try.ntmps3
  go_wp2_with (first
    | (go_at_call 9; go_must (refine (Calls.mono (HNU.out _ _) ?_)); rintro r wq ⟨rfl, hq⟩; obtain rfl := hq.symm; clear hq)
    | ((fail_if_success (have z := H1)); go_at_call 10; go_must (refine (Calls.mono HN.out ?_)); rintro r x1 ⟨g, s, l, rfl, k1, k2, k3, k4, k5, k6⟩; have H1 : Hid (Bk 52 x1 g (dcells 3 3 (some s) (some l) (.slice none 0 0) 0 0 0 false) ∧ Mp0 x1 s ∧ s ≠ g ∧ w.heap.size ≤ g ∧ w.heap.size ≤ s ∧ Below w.heap.size w x1) := ⟨k1, k2, k3, k4, k5, k6⟩; clear k1 k2 k3 k4 k5 k6)
    | ((fail_if_success (have z := H2)); have zz := H1; clear zz; go_at_call 11; go_must (refine (Calls.mono (create_c w.heap.size g s l x1 H1.out.1 H1.out.2.1 H1.out.2.2.1 ⟨H1.out.2.2.2.1, H1.out.2.2.2.2.1, H1.out.2.2.2.2.2.size⟩) ?_)); rintro r x2 ⟨rfl, k1, st, k2⟩; have H2 : Hid (Below w.heap.size w x2 ∧ Bk 52 x2 g (dcells 3 2 (some s) (some l) st 1 1 0 false)) := ⟨H1.out.2.2.2.2.2.trans k1, k2⟩; clear k1 k2)
    | (have zz := H2; clear zz; go_at_call 12; go_must (refine (Calls.mono (free_c g 3 2 s l st 1 1 0 false _ H2.out.2) ?_)); rintro r wq ⟨rfl, hq⟩; obtain rfl := hq.symm; clear hq))
  go_ret
  exact ⟨rfl, H2.out.1⟩

set_option maxRecDepth 100000 in
theorem lifted (os : Os) (started : os.Started) (H : Type) (enc : TypeId × Value → H) :
    ReturnsInHanded {} Try.checked os 3 .any (Rows.diskNamesSpec.pre6 enc Try.prog Try.f3 Rows.diskNamesRow.domain false) (Rows.diskNamesSpec.post enc Try.prog Try.f3 false true false false) := by
  refine returnsInHanded_of_change (C := Try.checked) own started (by kernel_rfl) Try.func3
    (ChangeSpec.witness6 (enc := enc) (C := Try.checked) false ⟨#[], #[], []⟩ 8 (by kernel_rfl) (by kernel_rfl) (by kernel_rfl) (by kernel_rfl)) ?_
  intro W base args ds gs before hval0 hW hcnd _
  have hval : ∀ (j : Nat) t v, Try.f3.params[j]? = some t → args[j]? = some v → Value.okWide Try.prog W .any base t v := hval0
  have hW' := hW
  obtain ⟨p, q, hA0, hV, rfl, hfz, hnd⟩ := hW
  have hA : DataW.TrodAll enc Try.prog W 0 (fun _ => true) true Try.f3.params.toList args.toList ds p := hA0
  rw [Try.params3] at hA hval
  obtain ⟨hargs, rfl, rfl⟩ := trodAll_nil hA
  obtain rfl : args = #[] := by cases args; simp_all
  obtain ⟨rfl, rfl⟩ := trodVars_none hV
  clear hA0 hval0
  refine (walk  W ).mono fun e W' ⟨he, bel⟩ => ?_
  subst he
  exact ⟨_, rfl, _, _, _, [], _, [], hW', trodAll_mk1 (shut_bool Try.underlying4 _), trodAll_mk0, rfl, bel.frame _, fun h => by cases h⟩

theorem over : Rows.diskNamesRow.holds Try.pinned (OpenSpec.ofChange Rows.diskNamesSpec) :=
  OpenClaim.holds_of_wide 3 Try.f3 rfl rfl rfl rfl rfl rfl rfl ⟨rfl, rfl, rfl, rfl, rfl⟩ rfl rfl rfl rfl rfl (by kernel_rfl) Try.func3 (by kernel_rfl)
    (of_decide_eq_true (by kernel_rfl)) (by unfold Func.isWrapper; first | (rw [if_pos (by decide +kernel)]; kernel_rfl) | (rw [if_neg (by decide +kernel)]; exact ⟨rfl, rfl⟩))
    (fun os started H enc _ => lifted os started H enc)

end Go.Proofs.Ytadnececnaciiaa.diskNames
namespace Go.Proofs.Ytadnececnaciiaa
theorem diskNames_holds : Rows.DiskNamesSaid := diskNames.over
#print axioms diskNames_holds
end Go.Proofs.Ytadnececnaciiaa
