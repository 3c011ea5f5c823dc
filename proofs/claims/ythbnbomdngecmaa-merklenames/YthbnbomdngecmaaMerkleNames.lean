/-
  Proved: hawserlaw10.MerkleNames answers true: the errors have their numbers, and Leaf of no rows is the chapter's digest. No condition.
-/
import Derived.Test.YthbnbomdngecmaaRows
import Derived.Test.YthbnbomdngecmaaMDg
import Derived.WalkKit
import Derived.ProofKit
import Derived.OpenShut
import Derived.ShutString
import Derived.ChangeOld
import Derived.Below
import Derived.Lib.SmallJoins
import Derived.JoinedCond
namespace Go.Proofs.Ythbnbomdngecmaa.merkleNames
open Go.ChangeShapes Go.WideShapes Go.ChangeAt Go.RowKit
set_option linter.unusedVariables false

theorem own : ownKnob Try.prog.godebug = none := by kernel_rfl
theorem laidOut : laidOutB Try.prog = true := by kernel_rfl

theorem num_c (e : Int) (w : World) : Calls Try.prog 7 #[.int .i64 e] w fun r w' => r = .returned (.int .i64 e) ∧ w' = w := by
  go_enter Try.func7, Try.ntmps7
  go_wp2
  go_ret
  exact ⟨rfl, rfl⟩
set_option maxRecDepth 20000 in
set_option maxHeartbeats 1000000 in
theorem walk (w : World) : Calls Try.prog 3 #[] w fun e w' => e = .returned (.bool true) ∧ Below w.heap.size w w' := by
  have hzd := zD
  have HL : Hid (∀ W, Calls Try.prog 8 #[.slice none 0 0] W fun e w' => e = .returned (.agg (u8s (sha [0]))) ∧ W.grownBy w' none) := fun W => leaf0_c W
  have HE : Hid ((u8s (sha [0]))[0]? = some (.int .u8 110) ∧ (u8s (sha [0]))[1]? = some (.int .u8 52) ∧ (u8s (sha [0]))[2]? = some (.int .u8 11) ∧ (u8s (sha [0]))[31]? = some (.int .u8 29)) := by
    rw [sha_zero]
    exact ⟨rfl, rfl, rfl, rfl⟩
  have HSL : Hid ((sha [0]).length = 32) := sha_len _
  obtain ⟨E, hE⟩ : ∃ E, E = sha [0] := ⟨_, rfl⟩
  rw [← hE] at HL HE HSL
  clear hE
  have HN : Hid _ := fun e W => num_c e W
  go_enter Try.func3, Try.ntmps3
  go_wp2_with (first
    | (go_at_call 7; go_must (refine (Calls.mono (HN.out _ _) ?_)); rintro r wq ⟨rfl, hq⟩; obtain rfl := hq.symm)
    | (go_at_call 8; go_must (refine (Calls.mono (HL.out _) ?_)); rintro r w1 ⟨rfl, q⟩; have H1 : Hid _ := q; clear q)
    | (refine wpList_store_bk 25 rfl (.tmp 2) (.tmp 15) rfl infoD w1.heap.size (u8s dz32) (u8s E) rfl rfl (blk_new w1 _ _).1 rfl (by rw [u8s_size]; exact HSL.out) (u8s_one _) ?_; intro w7 h1 h2; have H7 : Hid (Bk 25 w7 w1.heap.size (u8s E) ∧ w.grownBy w7 none) := ⟨h1, gb_trans H1.out (gb_new (blk_new w1 _ _).2 h2)⟩; clear h1 h2; have c0 : w7.cell? ⟨w1.heap.size, 0, none⟩ = some (.int .u8 110) := (H7.out.1.cell 0).trans HE.out.1; have c1 : w7.cell? ⟨w1.heap.size, 1, none⟩ = some (.int .u8 52) := (H7.out.1.cell 1).trans HE.out.2.1; have c2 : w7.cell? ⟨w1.heap.size, 2, none⟩ = some (.int .u8 11) := (H7.out.1.cell 2).trans HE.out.2.2.1; have c31 : w7.cell? ⟨w1.heap.size, 31, none⟩ = some (.int .u8 29) := (H7.out.1.cell 31).trans HE.out.2.2.2))
  go_ret
  exact ⟨rfl, gb_below H7.out.2⟩

set_option maxRecDepth 100000 in
theorem lifted (os : Os) (started : os.Started) (H : Type) (enc : TypeId × Value → H) :
    ReturnsInHanded {} Try.checked os 3 .any (Rows.merkleNamesSpec.pre6 enc Try.prog Try.f3 Rows.merkleNamesRow.domain false) (Rows.merkleNamesSpec.post enc Try.prog Try.f3 false true false false) := by
  refine returnsInHanded_of_change (C := Try.checked) own started (by kernel_rfl) Try.func3
    (ChangeSpec.witness6 (enc := enc) (C := Try.checked) false ⟨#[], #[], []⟩ 8 (by kernel_rfl) (by kernel_rfl) (by kernel_rfl) (by kernel_rfl)) ?_
  intro W base args ds gs before hval0 hW hcnd _
  have hval : ∀ (j : Nat) t v, Try.f3.params[j]? = some t → args[j]? = some v → Value.okWide Try.prog W .any base t v := hval0
  have hW' := hW
  obtain ⟨p, q, hA0, hV, rfl, hfz, hnd⟩ := hW
  have hA : DataW.TrodAll enc Try.prog W 0 (fun _ => true) true Try.f3.params.toList args.toList ds p := hA0
  rw [Try.params3] at hA hval
  obtain ⟨hargs, rfl, rfl⟩ := trodAll_nil hA
  obtain rfl : args = #[] := by cases args; simp_all
  obtain ⟨rfl, rfl⟩ := trodVars_none hV
  clear hA0 hval0
  refine (walk  W ).mono fun e W' ⟨he, bel⟩ => ?_
  subst he
  exact ⟨_, rfl, _, _, _, [], _, [], hW', trodAll_mk1 (shut_bool Try.underlying4 _), trodAll_mk0, rfl, bel.frame _, fun h => by cases h⟩

theorem over : Rows.merkleNamesRow.holds Try.pinned (OpenSpec.ofChange Rows.merkleNamesSpec) :=
  OpenClaim.holds_of_wide 3 Try.f3 rfl rfl rfl rfl rfl rfl rfl ⟨rfl, rfl, rfl, rfl, rfl⟩ rfl rfl rfl rfl rfl (by kernel_rfl) Try.func3 (by kernel_rfl)
    (of_decide_eq_true (by kernel_rfl)) (by unfold Func.isWrapper; first | (rw [if_pos (by decide +kernel)]; kernel_rfl) | (rw [if_neg (by decide +kernel)]; exact ⟨rfl, rfl⟩))
    (fun os started H enc _ => lifted os started H enc)

end Go.Proofs.Ythbnbomdngecmaa.merkleNames
namespace Go.Proofs.Ythbnbomdngecmaa
theorem merkleNames_holds : Rows.MerkleNamesSaid := merkleNames.over
#print axioms merkleNames_holds
end Go.Proofs.Ythbnbomdngecmaa
