/-
  Proved: for every word, size, place and mask, hawserlaw02.CrcTurns answers true: Turned is the document's, errors too. No condition.
-/
import Derived.Test.YtlfijnegmnploabRows
import Derived.Test.YtlfijnegmnploabTurnC
import Derived.Test.YtlfijnegmnploabNumC
import Derived.WalkKit
import Derived.ProofKit
import Derived.OpenShut
import Derived.ShutString
import Derived.ChangeOld
import Derived.Below
import Derived.Lib.SmallJoins
import Derived.JoinedCond
namespace Go.Proofs.Ytlfijnegmnploab.crcTurns
open Go.ChangeShapes Go.WideShapes Go.ChangeAt Go.RowKit
set_option linter.unusedVariables false

theorem own : ownKnob Try.prog.godebug = none := by kernel_rfl
theorem laidOut : laidOutB Try.prog = true := by kernel_rfl

theorem walk (c s t z : Int) (w : World) (w0 : (Lit.int .u32 c).wf = true) (w1 : (Lit.int .i64 s).wf = true) (w2 : (Lit.int .i64 t).wf = true) (w3 : (Lit.int .u8 z).wf = true) :
    Calls Try.prog 4 #[.agg #[.int .u32 c, .int .i64 s, .int .i64 t, .int .u8 z]] w fun e w' => e = .returned (.bool true) ∧ Below w.heap.size w w' := by
  have b0 := bounds_u32 w0
  have b1 := bounds_i64 w1
  have b2 := bounds_i64 w2
  have b3 := wf_u8 w3
  obtain ⟨x, rfl⟩ := W_of c b0.1 (by omega)
  have z0 := b3.1
  have z1 := b3.2
  have s1 := b1.2
  clear b0 b1 b2 b3 w0 w1 w2 w3
  by_cases hs : s < 0
  · go_enter Try.func4, Try.ntmps4
    go_wp2_with (first
      | (go_at_call 9; go_must (refine (turned_neg _ _ _ _ hs _).mono ?_); rintro e w' ⟨rfl, rfl⟩)
      | (go_at_call 10; go_must (refine (rturned_neg _ _ _ _ hs _).mono ?_); rintro e w' ⟨rfl, rfl⟩)
      | (go_at_call 8; go_must (refine (num_c _ _).mono ?_); rintro e w' ⟨rfl, rfl⟩))
    go_ret
    exact ⟨rfl, (Below.refl _ _).alloc (Nat.le_refl _) _⟩
  · have hs0 : 0 ≤ s := by omega
    by_cases ha : t < 0 ∨ s ≤ t
    · go_enter Try.func4, Try.ntmps4
      go_wp2_with (first
        | (go_at_call 9; go_must (refine (turned_out _ _ _ _ hs0 ha _).mono ?_); rintro e w' ⟨rfl, rfl⟩)
        | (go_at_call 10; go_must (refine (rturned_out _ _ _ _ hs0 ha _).mono ?_); rintro e w' ⟨rfl, rfl⟩)
        | (go_at_call 8; go_must (refine (num_c _ _).mono ?_); rintro e w' ⟨rfl, rfl⟩))
      go_ret
      exact ⟨rfl, (Below.refl _ _).alloc (Nat.le_refl _) _⟩
    · have ha0 : 0 ≤ t := by omega
      have ha1 : t < s := by omega
      clear ha
      go_enter Try.func4, Try.ntmps4
      go_wp2_with (first
        | (go_at_call 9; go_must (refine (turned_c _ _ _ _ s1 ha0 ha1 z0 z1 _).mono ?_); rintro e w' ⟨rfl, rfl⟩)
        | (go_at_call 10; go_must (refine (rturned_c _ _ _ _ s1 ha0 ha1 z0 z1 _).mono ?_); rintro e w' ⟨rfl, HB⟩)
        | (go_at_call 8; go_must (refine (num_c _ _).mono ?_); rintro e w' ⟨rfl, rfl⟩))
      go_ret
      exact ⟨rfl, ((Below.refl _ _).alloc (Nat.le_refl _) _).trans (HB.mono (by simp))⟩

set_option maxRecDepth 100000 in
theorem lifted (os : Os) (started : os.Started) (H : Type) (enc : TypeId × Value → H) :
    ReturnsInHanded {} Try.checked os 4 .any (Rows.crcTurnsSpec.pre6 enc Try.prog Try.f4 Rows.crcTurnsRow.domain false) (Rows.crcTurnsSpec.post enc Try.prog Try.f4 false true false false) := by
  refine returnsInHanded_of_change (C := Try.checked) own started (by kernel_rfl) Try.func4
    (ChangeSpec.witness6 (enc := enc) (C := Try.checked) false ⟨#[], #[.agg #[.int .u32 0, .int .i64 0, .int .i64 0, .int .u8 0]], []⟩ 8 (by kernel_rfl) (by kernel_rfl) (by kernel_rfl) (by kernel_rfl)) ?_
  intro W base args ds gs before hval0 hW hcnd _
  have hval : ∀ (j : Nat) t v, Try.f4.params[j]? = some t → args[j]? = some v → Value.okWide Try.prog W .any base t v := hval0
  have hW' := hW
  obtain ⟨p, q, hA0, hV, rfl, hfz, hnd⟩ := hW
  have hA : DataW.TrodAll enc Try.prog W 0 (fun _ => true) true Try.f4.params.toList args.toList ds p := hA0
  rw [Try.params4] at hA hval
  obtain ⟨v0, vs0, d0, ds0, p0, q0, hargs, rfl, rfl, h0, r0⟩ := trodAll_cons hA
  obtain ⟨rfl, rfl, rfl⟩ := trodAll_nil r0
  obtain rfl : args = #[v0] := by cases args; simp_all
  obtain ⟨rfl, rfl⟩ := trodVars_none hV
  have k0 := h0
  have lt0 : ∀ x ∈ p0, x.block < W.heap.size := by obtain ⟨m, hm⟩ := k0; exact DataW.trod_lt m _ _ _ hm
  obtain ⟨c0, c1, c2, c3, y0, y1, y2, y3, m, rfl, hd0, hp0, hy0, hy1, hy2, hy3⟩ := Go.Joins.open_agg4 Try.underlying31 (by kernel_rfl) (by kernel_rfl) (hval 0 31 v0 rfl rfl) h0
  obtain ⟨V0, eV0, _, wV0⟩ := DataW.trod_int Try.underlying22 hy0
  obtain ⟨V1, eV1, _, wV1⟩ := DataW.trod_int Try.underlying3 hy1
  obtain ⟨V2, eV2, _, wV2⟩ := DataW.trod_int Try.underlying3 hy2
  obtain ⟨V3, eV3, _, wV3⟩ := DataW.trod_int Try.underlying5 hy3
  simp at eV0 eV1 eV2 eV3
  subst eV0 eV1 eV2 eV3
  clear hA0 hval0
  refine (walk V0 V1 V2 V3 W wV0 wV1 wV2 wV3).mono fun e W' ⟨he, bel⟩ => ?_
  subst he
  exact ⟨_, rfl, _, _, _, [], _, [], hW', trodAll_mk1 (shut_bool Try.underlying4 _), (trodAll_cons_mk (Below.trod laidOut (by kernel_rfl) (of_decide_eq_true (by kernel_rfl)) k0 bel lt0) trodAll_mk0), rfl, bel.frame _, fun h => by cases h⟩

theorem over : Rows.crcTurnsRow.holds Try.pinned (OpenSpec.ofChange Rows.crcTurnsSpec) :=
  OpenClaim.holds_of_wide 4 Try.f4 rfl rfl rfl rfl rfl rfl rfl ⟨rfl, rfl, rfl, rfl, rfl⟩ rfl rfl rfl rfl rfl (by kernel_rfl) Try.func4 (by kernel_rfl)
    (of_decide_eq_true (by kernel_rfl)) (by unfold Func.isWrapper; first | (rw [if_pos (by decide +kernel)]; kernel_rfl) | (rw [if_neg (by decide +kernel)]; exact ⟨rfl, rfl⟩))
    (fun os started H enc _ => lifted os started H enc)

end Go.Proofs.Ytlfijnegmnploab.crcTurns
namespace Go.Proofs.Ytlfijnegmnploab
theorem crcTurns_holds : Rows.CrcTurnsSaid := crcTurns.over
#print axioms crcTurns_holds
end Go.Proofs.Ytlfijnegmnploab
