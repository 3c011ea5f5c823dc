/-
  Proved: hawserlaw03.PackNames answers true: the errors' numbers and the limits are the document's, and a Reader over ac 02 takes 300 up. No condition.
-/
import Derived.Test.YtjanndpcpdbcbaaRows
import Derived.Test.YtjanndpcpdbcbaaPNew
import Derived.Test.YtjanndpcpdbcbaaPUi
import Derived.WalkKit
import Derived.ProofKit
import Derived.OpenShut
import Derived.ShutString
import Derived.ChangeOld
import Derived.Below
import Derived.Lib.SmallJoins
import Derived.JoinedCond
namespace Go.Proofs.Ytjanndpcpdbcbaa.packNames
open Go.ChangeShapes Go.WideShapes Go.ChangeAt Go.RowKit
set_option linter.unusedVariables false

theorem own : ownKnob Try.prog.godebug = none := by kernel_rfl
theorem laidOut : laidOutB Try.prog = true := by kernel_rfl

theorem rd_lit : rd [172, 2] = (300, 2, 0) := by decide +kernel

set_option maxRecDepth 20000 in
set_option maxHeartbeats 400000 in
theorem walk (w : World) : Calls Try.prog 3 #[] w fun e w' => e = .returned (.bool true) ∧ Below w.heap.size w w' := by
  go_enter Try.func3, Try.ntmps3
  go_wp2_with fail
  refine (new_c _ 2 2 [172, 2] _ ?_ ?_ (by omega) (fun h => by cases h)).mono ?_
  · exact seg_new _ _ _ _ _ _ rfl rfl
  · intro i hi; match i, hi with
      | 0, _ => decide
      | 1, _ => decide
  · rintro e w1 ⟨g, a', cap', rfl, hr, hg, _, hgr⟩
    have HR : Hid (RS w1 g a' 2 cap' [172, 2] 0 0) := hr
    have HG : Hid (Below w.heap.size w w1) := ((Below.refl _ _).alloc (Nat.le_refl _) _).trans ((Below.refl _ _).grown hgr (by simp) (fun k hk => by cases hk))
    have hg2 : Hid (w.heap.size ≤ g) := by simp at hg; exact Nat.le_of_lt (by omega)
    clear hr hgr hg
    go_wp2_with fail
    refine (uint_ok g a' 2 cap' [172, 2] 0 w1 HR.out).mono ?_
    rintro e w2 ⟨rfl, _, hg3⟩
    have H3 : Hid (w1.grownBy w2 (some g)) := hg3
    have e1 : (ru [172, 2] 0).1 = 300 := by simp [ru, rd_lit]
    rw [e1]
    clear hg3 e1
    go_wp2
    go_ret
    exact ⟨rfl, HG.out.grown H3.out HG.out.size (fun k hk => by cases hk; exact hg2.out)⟩

set_option maxRecDepth 100000 in
theorem lifted (os : Os) (started : os.Started) (H : Type) (enc : TypeId × Value → H) :
    ReturnsInHanded {} Try.checked os 3 .any (Rows.packNamesSpec.pre6 enc Try.prog Try.f3 Rows.packNamesRow.domain false) (Rows.packNamesSpec.post enc Try.prog Try.f3 false true false false) := by
  refine returnsInHanded_of_change (C := Try.checked) own started (by kernel_rfl) Try.func3
    (ChangeSpec.witness6 (enc := enc) (C := Try.checked) false ⟨#[], #[], []⟩ 8 (by kernel_rfl) (by kernel_rfl) (by kernel_rfl) (by kernel_rfl)) ?_
  intro W base args ds gs before hval0 hW hcnd _
  have hval : ∀ (j : Nat) t v, Try.f3.params[j]? = some t → args[j]? = some v → Value.okWide Try.prog W .any base t v := hval0
  have hW' := hW
  obtain ⟨p, q, hA0, hV, rfl, hfz, hnd⟩ := hW
  have hA : DataW.TrodAll enc Try.prog W 0 (fun _ => true) true Try.f3.params.toList args.toList ds p := hA0
  rw [Try.params3] at hA hval
  obtain ⟨hargs, rfl, rfl⟩ := trodAll_nil hA
  obtain rfl : args = #[] := by cases args; simp_all
  obtain ⟨rfl, rfl⟩ := trodVars_none hV
  clear hA0 hval0
  refine (walk  W ).mono fun e W' ⟨he, bel⟩ => ?_
  subst he
  exact ⟨_, rfl, _, _, _, [], _, [], hW', trodAll_mk1 (shut_bool Try.underlying4 _), trodAll_mk0, rfl, bel.frame _, fun h => by cases h⟩

theorem over : Rows.packNamesRow.holds Try.pinned (OpenSpec.ofChange Rows.packNamesSpec) :=
  OpenClaim.holds_of_wide 3 Try.f3 rfl rfl rfl rfl rfl rfl rfl ⟨rfl, rfl, rfl, rfl, rfl⟩ rfl rfl rfl rfl rfl (by kernel_rfl) Try.func3 (by kernel_rfl)
    (of_decide_eq_true (by kernel_rfl)) (by unfold Func.isWrapper; first | (rw [if_pos (by decide +kernel)]; kernel_rfl) | (rw [if_neg (by decide +kernel)]; exact ⟨rfl, rfl⟩))
    (fun os started H enc _ => lifted os started H enc)

end Go.Proofs.Ytjanndpcpdbcbaa.packNames
namespace Go.Proofs.Ytjanndpcpdbcbaa
theorem packNames_holds : Rows.PackNamesSaid := packNames.over
#print axioms packNames_holds
end Go.Proofs.Ytjanndpcpdbcbaa
