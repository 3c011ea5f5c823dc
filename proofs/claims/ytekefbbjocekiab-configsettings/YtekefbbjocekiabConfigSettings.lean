/-
  Proved: for all settings, hawserlaw16.ConfigSettings answers true: Settings is the document's. No condition.
-/
import Derived.Test.YtekefbbjocekiabRows
import Derived.Test.YtekefbbjocekiabCGd
import Derived.WalkKit
import Derived.ProofKit
import Derived.OpenShut
import Derived.ShutString
import Derived.ChangeOld
import Derived.Below
import Derived.Lib.SmallJoins
import Derived.JoinedCond
namespace Go.Proofs.Ytekefbbjocekiab.configSettings
open Go.ChangeShapes Go.WideShapes Go.ChangeAt Go.RowKit
set_option linter.unusedVariables false

theorem own : ownKnob Try.prog.godebug = none := by kernel_rfl
theorem laidOut : laidOutB Try.prog = true := by kernel_rfl

/-- Settings in a block of their own. -/
def StB (w W : World) (N : Nat) (V0 V1 V2 V3 V4 : Int) : Prop := W.heap[N]? = some (.cells #[.int .i64 V0, .int .i64 V1, .int .i64 V2, .int .i64 V3, .int .i64 V4] 38 (0, 0)) ∧ Below w.heap.size w W
theorem StB.below {w W W' : World} {N : Nat} {V0 V1 V2 V3 V4 : Int} (h : StB w W N V0 V1 V2 V3 V4) (hb : Below W.heap.size W W') : StB w W' N V0 V1 V2 V3 V4 := ⟨(hb.block N (lt_of_block h.1)).trans h.1, h.2.trans (hb.mono h.2.size)⟩
theorem StB.cells {w W : World} {N : Nat} {V0 V1 V2 V3 V4 : Int} (h : StB w W N V0 V1 V2 V3 V4) : W.cell? ⟨N, 0, none⟩ = some (.int .i64 V0) ∧ W.cell? ⟨N, 1, none⟩ = some (.int .i64 V1) ∧ W.cell? ⟨N, 2, none⟩ = some (.int .i64 V2) ∧ W.cell? ⟨N, 3, none⟩ = some (.int .i64 V3) ∧ W.cell? ⟨N, 4, none⟩ = some (.int .i64 V4) :=
  ⟨cell_of_row W N 0 _ _ _ h.1, cell_of_row W N 1 _ _ _ h.1, cell_of_row W N 2 _ _ _ h.1, cell_of_row W N 3 _ _ _ h.1, cell_of_row W N 4 _ _ _ h.1⟩
set_option maxRecDepth 20000 in
set_option maxHeartbeats 4000000 in
theorem walk (V0 V1 V2 V3 V4 : Int) (w : World) :
    Calls Try.prog 4 #[.agg #[.int .i64 V0, .int .i64 V1, .int .i64 V2, .int .i64 V3, .int .i64 V4]] w fun r w' => r = .returned (.bool true) ∧ Below w.heap.size w w' := by
  have HO : Hid (∀ W, Calls Try.prog 13 #[.agg #[.int .i64 V0, .int .i64 V1, .int .i64 V2, .int .i64 V3, .int .i64 V4]] W fun r w' => r = .returned (.int .i64 (sto V0 V1 V2 V3 V4)) ∧ Below W.heap.size W w') := settings_c V0 V1 V2 V3 V4
  have HQ : Hid (∀ W, Calls Try.prog 14 #[.int .i64 V0, .int .i64 V1, .int .i64 V2, .int .i64 V3, .int .i64 V4] W fun r w' => r = .returned (.int .i64 (sto V0 V1 V2 V3 V4)) ∧ w' = W) := qsettings_c V0 V1 V2 V3 V4
  have HNU : Hid (∀ e W, Calls Try.prog 11 #[.int .i64 e] W fun r w' => r = .returned (.int .i64 e) ∧ w' = W) := fun e W => num_c e W
  have H0 : Hid (StB w (w.alloc (.cells #[.int .i64 V0, .int .i64 V1, .int .i64 V2, .int .i64 V3, .int .i64 V4] 38)) w.heap.size V0 V1 V2 V3 V4) := ⟨heap_new w _, (Below.refl _ _).alloc (Nat.le_refl _) _⟩
  go_enter Try.func4, Try.ntmps4
  go_wp2_with fail
  obtain ⟨N, hN⟩ : ∃ N, N = w.heap.size := ⟨_, rfl⟩
  generalize hW : World.alloc w _ = W1 at H0 ⊢
  clear hW
  rw [← hN] at H0 ⊢
  clear hN
  have HST : Hid (∀ W W5, Below W.heap.size W W5 → ((W.cell? ⟨N, 0, none⟩ = some (.int .i64 V0) ∧ W.cell? ⟨N, 1, none⟩ = some (.int .i64 V1) ∧ W.cell? ⟨N, 2, none⟩ = some (.int .i64 V2) ∧ W.cell? ⟨N, 3, none⟩ = some (.int .i64 V3) ∧ W.cell? ⟨N, 4, none⟩ = some (.int .i64 V4)) ∧ Hid (StB w W N V0 V1 V2 V3 V4)) → ((W5.cell? ⟨N, 0, none⟩ = some (.int .i64 V0) ∧ W5.cell? ⟨N, 1, none⟩ = some (.int .i64 V1) ∧ W5.cell? ⟨N, 2, none⟩ = some (.int .i64 V2) ∧ W5.cell? ⟨N, 3, none⟩ = some (.int .i64 V3) ∧ W5.cell? ⟨N, 4, none⟩ = some (.int .i64 V4)) ∧ Hid (StB w W5 N V0 V1 V2 V3 V4))) := fun W W5 hb h => ⟨(h.2.out.below hb).cells, h.2.out.below hb⟩
  have hS0 : (W1.cell? ⟨N, 0, none⟩ = some (.int .i64 V0) ∧ W1.cell? ⟨N, 1, none⟩ = some (.int .i64 V1) ∧ W1.cell? ⟨N, 2, none⟩ = some (.int .i64 V2) ∧ W1.cell? ⟨N, 3, none⟩ = some (.int .i64 V3) ∧ W1.cell? ⟨N, 4, none⟩ = some (.int .i64 V4)) ∧ Hid (StB w W1 N V0 V1 V2 V3 V4) := ⟨H0.out.cells, H0⟩
  have hSd : (W1.drew.cell? ⟨N, 0, none⟩ = some (.int .i64 V0) ∧ W1.drew.cell? ⟨N, 1, none⟩ = some (.int .i64 V1) ∧ W1.drew.cell? ⟨N, 2, none⟩ = some (.int .i64 V2) ∧ W1.drew.cell? ⟨N, 3, none⟩ = some (.int .i64 V3) ∧ W1.drew.cell? ⟨N, 4, none⟩ = some (.int .i64 V4)) ∧ Hid (StB w W1.drew N V0 V1 V2 V3 V4) := ⟨H0.out.cells, H0.out.1, H0.out.2.drew⟩
  go_region_held3 (fun W => (W.cell? ⟨N, 0, none⟩ = some (.int .i64 V0) ∧ W.cell? ⟨N, 1, none⟩ = some (.int .i64 V1) ∧ W.cell? ⟨N, 2, none⟩ = some (.int .i64 V2) ∧ W.cell? ⟨N, 3, none⟩ = some (.int .i64 V3) ∧ W.cell? ⟨N, 4, none⟩ = some (.int .i64 V4)) ∧ Hid (StB w W N V0 V1 V2 V3 V4)) (assumption) (first
    | (go_at_call 13; refine (Calls.mono (HO.out _) ?_); rintro r w5 ⟨rfl, hb5⟩; have hS5 := HST.out _ w5 hb5 (by assumption))
    | (go_at_call 11; refine (Calls.mono (HNU.out _ _) ?_); rintro r wq ⟨rfl, hq⟩; obtain rfl := hq.symm; clear hq)
    | (go_at_call 14; refine (Calls.mono (HQ.out _) ?_); rintro r wq ⟨rfl, hq⟩; obtain rfl := hq.symm; clear hq))
  go_wp2
  go_ret
  exact ⟨rfl, hS5.2.out.2⟩

set_option maxRecDepth 100000 in
theorem lifted (os : Os) (started : os.Started) (H : Type) (enc : TypeId × Value → H) :
    ReturnsInHanded {} Try.checked os 4 .any (Rows.configSettingsSpec.pre6 enc Try.prog Try.f4 Rows.configSettingsRow.domain false) (Rows.configSettingsSpec.post enc Try.prog Try.f4 false true false false) := by
  refine returnsInHanded_of_change (C := Try.checked) own started (by kernel_rfl) Try.func4
    (ChangeSpec.witness6 (enc := enc) (C := Try.checked) false ⟨#[], #[.agg #[.int .i64 0, .int .i64 0, .int .i64 0, .int .i64 0, .int .i64 0]], []⟩ 8 (by kernel_rfl) (by kernel_rfl) (by kernel_rfl) (by kernel_rfl)) ?_
  intro W base args ds gs before hval0 hW hcnd _
  have hval : ∀ (j : Nat) t v, Try.f4.params[j]? = some t → args[j]? = some v → Value.okWide Try.prog W .any base t v := hval0
  have hW' := hW
  obtain ⟨p, q, hA0, hV, rfl, hfz, hnd⟩ := hW
  have hA : DataW.TrodAll enc Try.prog W 0 (fun _ => true) true Try.f4.params.toList args.toList ds p := hA0
  rw [Try.params4] at hA hval
  obtain ⟨v0, vs0, d0, ds0, p0, q0, hargs, rfl, rfl, h0, r0⟩ := trodAll_cons hA
  obtain ⟨rfl, rfl, rfl⟩ := trodAll_nil r0
  obtain rfl : args = #[v0] := by cases args; simp_all
  obtain ⟨rfl, rfl⟩ := trodVars_none hV
  have k0 := h0
  have lt0 : ∀ x ∈ p0, x.block < W.heap.size := by obtain ⟨m, hm⟩ := k0; exact DataW.trod_lt m _ _ _ hm
  obtain ⟨V0, V1, V2, V3, V4, rfl⟩ := set_came (hval 0 38 v0 rfl rfl) h0
  clear hA0 hval0
  refine (walk V0 V1 V2 V3 V4 W ).mono fun e W' ⟨he, bel⟩ => ?_
  subst he
  exact ⟨_, rfl, _, _, _, [], _, [], hW', trodAll_mk1 (shut_bool Try.underlying4 _), (trodAll_cons_mk (Below.trod laidOut (by kernel_rfl) (of_decide_eq_true (by kernel_rfl)) k0 bel lt0) trodAll_mk0), rfl, bel.frame _, fun h => by cases h⟩

theorem over : Rows.configSettingsRow.holds Try.pinned (OpenSpec.ofChange Rows.configSettingsSpec) :=
  OpenClaim.holds_of_wide 4 Try.f4 rfl rfl rfl rfl rfl rfl rfl ⟨rfl, rfl, rfl, rfl, rfl⟩ rfl rfl rfl rfl rfl (by kernel_rfl) Try.func4 (by kernel_rfl)
    (of_decide_eq_true (by kernel_rfl)) (by unfold Func.isWrapper; first | (rw [if_pos (by decide +kernel)]; kernel_rfl) | (rw [if_neg (by decide +kernel)]; exact ⟨rfl, rfl⟩))
    (fun os started H enc _ => lifted os started H enc)

end Go.Proofs.Ytekefbbjocekiab.configSettings
namespace Go.Proofs.Ytekefbbjocekiab
theorem configSettings_holds : Rows.ConfigSettingsSaid := configSettings.over
#print axioms configSettings_holds
end Go.Proofs.Ytekefbbjocekiab
