/-
  Proved: for every two texts, hawserlaw06.SpanPrefix answers true: a prefix's range begins with it and has just the texts that begin with it. No condition.
-/
import Derived.Test.YtggkkpbgnlmfeaaRows
import Derived.Test.YtggkkpbgnlmfeaaNAw
import Derived.Test.YtggkkpbgnlmfeaaNPx
import Derived.WalkKit
import Derived.ProofKit
import Derived.OpenShut
import Derived.ShutString
import Derived.ChangeOld
import Derived.Below
import Derived.Lib.SmallJoins
import Derived.JoinedCond
import Derived.SizedLaws
namespace Go.Proofs.Ytggkkpbgnlmfeaa.spanPrefix
open Go.ChangeShapes Go.WideShapes Go.ChangeAt Go.RowKit
set_option linter.unusedVariables false

theorem own : ownKnob Try.prog.godebug = none := by kernel_rfl
theorem laidOut : laidOutB Try.prog = true := by kernel_rfl

theorem run_add (s t : ByteArray) (h : s.size + t.size ≤ 9223372036854775807) (W : World) : (binOp .add 9 (.string s) (.string t)).run Try.prog W = .ok (.string (s ++ t)) W := by
  have : ¬ (((s.size + t.size : Nat) : Int) > IntKind.i64.max) := by simp [IntKind.max, IntKind.signed, IntKind.bits]; omega
  simp only [binOp, Op.stringOp, this, if_false]
  rfl
theorem cells_two (w : World) (o : Obj) (p q : ByteArray) : Cells ((w.alloc o).alloc (.cells #[.string p, .string q] 28)) (some ⟨w.heap.size + 1, 0, none⟩) (flR [(p, q)]) := by
  have := cells_lit (w.alloc o) 28 [(p, q)] #[.string p, .string q] rfl
  rwa [World.size_alloc] at this
set_option maxRecDepth 20000 in
set_option maxHeartbeats 1000000 in
theorem walk (p key : ByteArray) (w : World) (hp : p.size ≤ maxLen) (hp2 : p.size ≤ 140737488351232) (hk : key.size ≤ maxLen) (hk2 : key.size ≤ 140737488351232) : Calls Try.prog 6 #[.string p, .string key] w fun e w' => e = .returned (.bool true) ∧ Below w.heap.size w w' := by
  have HAW : Hid _ := awake_c w
  have HP : Hid _ := fun w => prefix_c p hp w
  have HHP : Hid _ := fun w => hasPrefix_c key p w hk hp
  have hadd := run_add p key (by omega)
  have HH1 : Hid (∀ (w : World) (a : Option Addr), Cells w a (flR [(p, pto p)]) → Calls Try.prog 23 #[.slice a 1 1, .string key] w fun e w' => e = .returned (.bool (pfx (bs p) (bs key))) ∧ w.grownBy w' none) := fun w a h => by
    have := lhas_c [(p, pto p)] a 1 key w h (by simp)
    rwa [prefix_has] at this
  have HH2 : Hid (∀ (w : World) (a : Option Addr), Cells w a (flR [(p, pto p)]) → Calls Try.prog 23 #[.slice a 1 1, .string (p ++ key)] w fun e w' => e = .returned (.bool true) ∧ w.grownBy w' none) := fun w a h => by
    have := lhas_c [(p, pto p)] a 1 (p ++ key) w h (by simp)
    rwa [prefix_has, bs_app, pfx_app] at this
  generalize pfx (bs p) (bs key) = b at *
  generalize pto p = q at *
  unfold rv at HP
  have hno : ¬ (9223372036854775807 : Int) < (p.size : Int) + (key.size : Int) := by omega
  have hno2 : p.size + key.size ≤ 9223372036854775807 := by omega
  clear hp hp2 hk hk2
  go_enter Try.func6, Try.ntmps6
  go_wp2_with (first
    | (go_at_call 22; go_must (refine (Calls.mono HAW.out ?_)); rintro e w1 ⟨rfl, h1⟩; have H1 : Hid _ := h1; clear h1)
    | (go_at_call 11; go_must (refine (HP.out _).mono ?_); rintro e w2 ⟨rfl, h2⟩; have H2 : Hid (w.grownBy w2 none) := gb_trans H1.out h2; have HN2 : Hid _ := blk_new w2 28 #[.string p, .string q]; have HC2 : Hid _ := cells_two w2 (.cells #[.string p, .string q] 28) p q; clear h2)
    | ((fail_if_success (have z := H3)); go_at_call 23; go_must (refine (HH1.out _ _ HC2.out).mono ?_); rintro e w3 ⟨rfl, h3⟩; have H3 : Hid (Bk 28 w3 w2.heap.size #[.string p, .string q] ∧ w.grownBy w3 none) := ⟨(HN2.out.1.grew (gb_alloc _ _) (by simp)).grew h3 (by simp), gb_trans (gb_trans (gb_trans H2.out HN2.out.2) (gb_alloc _ _)) h3⟩; have d0 := H3.out.1.cell 0; have d1 := H3.out.1.cell 1; simp only [List.getElem?_toArray, List.getElem?_cons_zero, List.getElem?_cons_succ] at d0 d1; have HC3 : Hid _ := cells_lit w3 28 [(p, q)] #[.string p, .string q] rfl; clear h3)
    | (go_at_call 24; go_must (refine (HHP.out _).mono ?_); rintro e w4 ⟨rfl, rfl⟩)
    | (have z := H3; clear z; go_at_call 23; go_must (refine (HH2.out _ _ HC3.out).mono ?_); rintro e w5 ⟨rfl, h5⟩; have H5 : Hid (w.grownBy w5 none) := gb_trans (gb_trans H3.out.2 (gb_alloc _ _)) h5; clear h5))
  go_ret
  exact ⟨rfl, gb_below H5.out⟩

set_option maxRecDepth 100000 in
theorem lifted (os : Os) (started : os.Started) (H : Type) (enc : TypeId × Value → H) :
    ReturnsInHanded {} Try.checked os 6 .any (Rows.spanPrefixSpec.pre6 enc Try.prog Try.f6 Rows.spanPrefixRow.domain false) (Rows.spanPrefixSpec.post enc Try.prog Try.f6 false true false false) := by
  refine returnsInHanded_of_change_sized (C := Try.checked) own started (by kernel_rfl) Try.func6
    (ChangeSpec.witness6 (enc := enc) (C := Try.checked) false ⟨#[], #[.string .empty, .string .empty], []⟩ 8 (by kernel_rfl) (by kernel_rfl) (by kernel_rfl) (by kernel_rfl)) ?_
  intro W base args ds gs before hval0 hW hcnd hsz0 _
  have hsz : (DataW.weightsEach Try.prog (Try.f6.params.toList ++ Rows.spanPrefixSpec.plain.varTypes Try.prog) (ds ++ gs)).all (· ≤ reachBytes) = true := hsz0
  have hval : ∀ (j : Nat) t v, Try.f6.params[j]? = some t → args[j]? = some v → Value.okWide Try.prog W .any base t v := hval0
  have hW' := hW
  obtain ⟨p, q, hA0, hV, rfl, hfz, hnd⟩ := hW
  have hA : DataW.TrodAll enc Try.prog W 0 (fun _ => true) true Try.f6.params.toList args.toList ds p := hA0
  rw [Try.params6] at hA hval hsz
  obtain ⟨v0, vs0, d0, ds0, p0, q0, hargs, rfl, rfl, h0, r0⟩ := trodAll_cons hA
  obtain ⟨v1, vs1, d1, ds1, p1, q1, rfl, rfl, rfl, h1, r1⟩ := trodAll_cons r0
  obtain ⟨rfl, rfl, rfl⟩ := trodAll_nil r1
  obtain rfl : args = #[v0, v1] := by cases args; simp_all
  obtain ⟨rfl, rfl⟩ := trodVars_none hV
  obtain ⟨s0, rfl, rfl, rfl, z0⟩ := Go.ChangeMaps.open_string Try.underlying9 (hval 0 9 v0 rfl rfl) h0
  have y0 : s0.size ≤ 140737488351232 := by have hb := sized_string hsz (j := 0) (t := 9) rfl rfl; simpa [reachBytes] using hb
  obtain ⟨s1, rfl, rfl, rfl, z1⟩ := Go.ChangeMaps.open_string Try.underlying9 (hval 1 9 v1 rfl rfl) h1
  have y1 : s1.size ≤ 140737488351232 := by have hb := sized_string hsz (j := 1) (t := 9) rfl rfl; simpa [reachBytes] using hb
  clear hA0 hval0
  refine (walk s0 s1 W z0 y0 z1 y1).mono fun e W' ⟨he, bel⟩ => ?_
  subst he
  exact ⟨_, rfl, _, _, _, [], _, [], hW', trodAll_mk1 (shut_bool Try.underlying4 _), (trodAll_cons_mk (Go.ChangeMaps.shut_string Try.underlying9 z0) (trodAll_cons_mk (Go.ChangeMaps.shut_string Try.underlying9 z1) trodAll_mk0)), rfl, bel.frame _, fun h => by cases h⟩

theorem over : Rows.spanPrefixRow.holds Try.pinned (OpenSpec.ofChange Rows.spanPrefixSpec) :=
  OpenClaim.holds_of_wide 6 Try.f6 rfl rfl rfl rfl rfl rfl rfl ⟨rfl, rfl, rfl, rfl, rfl⟩ rfl rfl rfl rfl rfl (by kernel_rfl) Try.func6 (by kernel_rfl)
    (of_decide_eq_true (by kernel_rfl)) (by unfold Func.isWrapper; first | (rw [if_pos (by decide +kernel)]; kernel_rfl) | (rw [if_neg (by decide +kernel)]; exact ⟨rfl, rfl⟩))
    (fun os started H enc _ => lifted os started H enc)

end Go.Proofs.Ytggkkpbgnlmfeaa.spanPrefix
namespace Go.Proofs.Ytggkkpbgnlmfeaa
theorem spanPrefix_holds : Rows.SpanPrefixSaid := spanPrefix.over
#print axioms spanPrefix_holds
end Go.Proofs.Ytggkkpbgnlmfeaa
