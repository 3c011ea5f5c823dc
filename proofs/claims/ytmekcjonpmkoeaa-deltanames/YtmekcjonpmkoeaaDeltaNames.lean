/-
  Proved: hawserlaw08.DeltaNames answers true: the errors, kinds, codes and limits have their numbers, a new store is behind no update, and Check refuses an operation without a kind. No condition.
-/
import Derived.Test.YtmekcjonpmkoeaaRows
import Derived.Test.YtmekcjonpmkoeaaDCk
import Derived.WalkKit
import Derived.ProofKit
import Derived.OpenShut
import Derived.ShutString
import Derived.ChangeOld
import Derived.Below
import Derived.Lib.SmallJoins
import Derived.JoinedCond
namespace Go.Proofs.Ytmekcjonpmkoeaa.deltaNames
open Go.ChangeShapes Go.WideShapes Go.ChangeAt Go.RowKit
set_option linter.unusedVariables false

theorem own : ownKnob Try.prog.godebug = none := by kernel_rfl
theorem laidOut : laidOutB Try.prog = true := by kernel_rfl

open Dl
theorem op_none : opE 0 .empty .empty 0 = 80 := by decide +kernel
set_option maxRecDepth 20000 in
theorem tnew_c (w : World) : Calls Try.prog 28 #[] w fun r w' => r = .returned (.pointer (some ⟨w.heap.size, 0, none⟩)) ∧ w' = w.alloc (.cells #[.bool true, .pointer none] 95) := by
  go_enter Try.func28, Try.ntmps28
  go_wp2
  go_ret
  exact ⟨rfl, rfl⟩
theorem mine (w : World) : (w.alloc (.cells #[.bool true, .pointer none] 95)).heap.size = w.heap.size + 1 := by
  show (w.heap.push _).size = _
  rw [Array.size_push]
/-- A store that New made. -/
def New (w w' : World) : Prop := Bk 70 w' (w.heap.size + 1) #[.pointer (some ⟨w.heap.size, 0, none⟩), .int .i64 0] ∧ w.grownBy w' none
set_option maxRecDepth 20000 in
theorem dnew_c (w : World) : Calls Try.prog 10 #[] w fun r w' => r = .returned (.pointer (some ⟨w.heap.size + 1, 0, none⟩)) ∧ New w w' := by
  have HT : Hid _ := tnew_c w
  go_enter Try.func10, Try.ntmps10
  go_wp2_with (go_at_call 28; refine (Calls.mono HT.out ?_); rintro e w1 ⟨rfl, h1⟩)
  go_ret
  subst h1
  refine ⟨?_, ?_, gb_trans (gb_alloc _ _) (gb_alloc _ _)⟩
  · rfl
  · have := (blk_new (w.alloc (.cells #[.bool true, .pointer none] 95)) 70 #[.pointer (some ⟨w.heap.size, 0, none⟩), .int .i64 0]).1
    rw [mine] at this
    exact this
set_option maxRecDepth 20000 in
theorem made_c (g t : Nat) (w : World) (h : Bk 70 w g #[.pointer (some ⟨t, 0, none⟩), .int .i64 0]) : Calls Try.prog 29 #[.pointer (some ⟨g, 0, none⟩)] w fun r w' => r = .returned (.bool true) ∧ w' = w := by
  have c0 : w.cell? ⟨g, 0, none⟩ = some (.pointer (some ⟨t, 0, none⟩)) := h.cell 0
  clear h
  go_enter Try.func29, Try.ntmps29
  go_wp2
  go_ret
  exact ⟨rfl, rfl⟩
set_option maxRecDepth 20000 in
theorem seq_c (g t : Nat) (w : World) (h : Bk 70 w g #[.pointer (some ⟨t, 0, none⟩), .int .i64 0]) : Calls Try.prog 11 #[.pointer (some ⟨g, 0, none⟩)] w fun r w' => r = .returned (.int .i64 0) ∧ w' = w := by
  have c1 : w.cell? ⟨g, 1, none⟩ = some (.int .i64 0) := h.cell 1
  have HM : Hid _ := made_c g t w h
  clear h
  go_enter Try.func11, Try.ntmps11
  go_wp2_with (go_at_call 29; refine (Calls.mono HM.out ?_); rintro e wq ⟨rfl, hq⟩; obtain rfl := hq.symm)
  go_ret
  exact ⟨rfl, rfl⟩
set_option maxRecDepth 20000 in
set_option maxHeartbeats 1000000 in
theorem walk (w : World) : Calls Try.prog 3 #[] w fun e w' => e = .returned (.bool true) ∧ Below w.heap.size w w' := by
  have HM : Hid (∀ (x : Int) W, Calls Try.prog 9 #[.int .i64 x] W fun r w' => r = .returned (.int .i64 x) ∧ w' = W) := fun x W => by
    go_enter Try.func9, Try.ntmps9
    go_wp2
    go_ret
    exact ⟨rfl, rfl⟩
  have HN : Hid _ := dnew_c w
  have HB : Hid (∀ W, Calls Try.prog 12 #[.agg #[.int .i64 0, .string .empty, .string .empty, .int .i64 0]] W fun r w' => r = .returned (.int .i64 80) ∧ W.grownBy w' none) := fun W => by
    have := check_c 0 .empty .empty 0 W
    rw [op_none] at this
    exact this
  go_enter Try.func3, Try.ntmps3
  go_wp2_with (first
    | (go_at_call 9; refine (Calls.mono (HM.out _ _) ?_); rintro e wq ⟨rfl, hq⟩; obtain rfl := hq.symm)
    | (go_at_call 10; refine (Calls.mono HN.out ?_); rintro e w1 ⟨rfl, h1⟩; have H1 : Hid (New w w1) := h1; clear h1)
    | (go_at_call 11; refine (Calls.mono (seq_c _ _ _ H1.out.1) ?_); rintro e wq ⟨rfl, hq⟩; obtain rfl := hq.symm)
    | (go_at_call 12; refine (Calls.mono (HB.out _) ?_); rintro e w2 ⟨rfl, h2⟩; have H2 : Hid (w.grownBy w2 none) := gb_trans H1.out.2 h2; clear h2))
  go_ret
  exact ⟨rfl, gb_below H2.out⟩

set_option maxRecDepth 100000 in
theorem lifted (os : Os) (started : os.Started) (H : Type) (enc : TypeId × Value → H) :
    ReturnsInHanded {} Try.checked os 3 .any (Rows.deltaNamesSpec.pre6 enc Try.prog Try.f3 Rows.deltaNamesRow.domain false) (Rows.deltaNamesSpec.post enc Try.prog Try.f3 false true false false) := by
  refine returnsInHanded_of_change (C := Try.checked) own started (by kernel_rfl) Try.func3
    (ChangeSpec.witness6 (enc := enc) (C := Try.checked) false ⟨#[], #[], []⟩ 8 (by kernel_rfl) (by kernel_rfl) (by kernel_rfl) (by kernel_rfl)) ?_
  intro W base args ds gs before hval0 hW hcnd _
  have hval : ∀ (j : Nat) t v, Try.f3.params[j]? = some t → args[j]? = some v → Value.okWide Try.prog W .any base t v := hval0
  have hW' := hW
  obtain ⟨p, q, hA0, hV, rfl, hfz, hnd⟩ := hW
  have hA : DataW.TrodAll enc Try.prog W 0 (fun _ => true) true Try.f3.params.toList args.toList ds p := hA0
  rw [Try.params3] at hA hval
  obtain ⟨hargs, rfl, rfl⟩ := trodAll_nil hA
  obtain rfl : args = #[] := by cases args; simp_all
  obtain ⟨rfl, rfl⟩ := trodVars_none hV
  clear hA0 hval0
  refine (walk  W ).mono fun e W' ⟨he, bel⟩ => ?_
  subst he
  exact ⟨_, rfl, _, _, _, [], _, [], hW', trodAll_mk1 (shut_bool Try.underlying4 _), trodAll_mk0, rfl, bel.frame _, fun h => by cases h⟩

theorem over : Rows.deltaNamesRow.holds Try.pinned (OpenSpec.ofChange Rows.deltaNamesSpec) :=
  OpenClaim.holds_of_wide 3 Try.f3 rfl rfl rfl rfl rfl rfl rfl ⟨rfl, rfl, rfl, rfl, rfl⟩ rfl rfl rfl rfl rfl (by kernel_rfl) Try.func3 (by kernel_rfl)
    (of_decide_eq_true (by kernel_rfl)) (by unfold Func.isWrapper; first | (rw [if_pos (by decide +kernel)]; kernel_rfl) | (rw [if_neg (by decide +kernel)]; exact ⟨rfl, rfl⟩))
    (fun os started H enc _ => lifted os started H enc)

end Go.Proofs.Ytmekcjonpmkoeaa.deltaNames
namespace Go.Proofs.Ytmekcjonpmkoeaa
theorem deltaNames_holds : Rows.DeltaNamesSaid := deltaNames.over
#print axioms deltaNames_holds
end Go.Proofs.Ytmekcjonpmkoeaa
