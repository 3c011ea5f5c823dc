/-
  Proved: for every depth, text and number, hawserlaw06.SpanBuckets answers true: Bucket and Of are the document's. No condition.
-/
import Derived.Test.YtggkkpbgnlmfeaaRows
import Derived.Test.YtggkkpbgnlmfeaaNBu
import Derived.Test.YtggkkpbgnlmfeaaNOf
import Derived.WalkKit
import Derived.ProofKit
import Derived.OpenShut
import Derived.ShutString
import Derived.ChangeOld
import Derived.Below
import Derived.Lib.SmallJoins
import Derived.JoinedCond
namespace Go.Proofs.Ytggkkpbgnlmfeaa.spanBuckets
open Go.ChangeShapes Go.WideShapes Go.ChangeAt Go.RowKit
set_option linter.unusedVariables false

theorem own : ownKnob Try.prog.godebug = none := by kernel_rfl
theorem laidOut : laidOutB Try.prog = true := by kernel_rfl

set_option maxRecDepth 20000 in
set_option maxHeartbeats 1000000 in
theorem walk (d : Int) (key : ByteArray) (b : Int) (w : World) (h1 : (Lit.int .i64 d).wf = true) (h2 : key.size ≤ maxLen) (h3 : (Lit.int .i64 b).wf = true) : Calls Try.prog 5 #[.int .i64 d, .string key, .int .i64 b] w fun e w' => e = .returned (.bool true) ∧ Below w.heap.size w w' := by
  have HB1 : Hid _ := fun w => bucket_c d key w
  have HB2 : Hid _ := fun w => gbucket_c d key w
  have HO1 : Hid _ := fun w => of_c d b w
  have HO2 : Hid _ := fun w => gof_c d b w
  generalize bucN d key = x1 at *
  generalize bucE d key = x2 at *
  generalize ofE d b = x3 at *
  generalize ofR d b = R at *
  obtain ⟨f, u⟩ := R
  unfold rv at *
  clear h1 h2 h3
  go_enter Try.func5, Try.ntmps5
  go_wp2_with (first
    | (go_at_call 10; go_must (refine (HB1.out _).mono ?_); rintro e w1 ⟨rfl, rfl⟩)
    | (go_at_call 19; go_must (refine (HB2.out _).mono ?_); rintro e w1 ⟨rfl, rfl⟩)
    | (go_at_call 9; go_must (refine (num_c _ _).mono ?_); rintro e w1 ⟨rfl, rfl⟩)
    | (go_at_call 20; go_must (refine (HO1.out _).mono ?_); rintro e w2 ⟨rfl, h2⟩; have H2 : Hid _ := h2; clear h2; have HN2 : Hid _ := blk_new w2 28 #[.string { data := #[] }, .string { data := #[] }])
    | (have z := HN2; clear z; refine wpList_store_bk 28 rfl (.tmp 11) (.tmp 31) rfl info28 w2.heap.size #[.string { data := #[] }, .string { data := #[] }] #[.string f, .string u] rfl rfl HN2.out.1 rfl rfl (two_one _ _) ?_; intro w3 k1 k2; have H3 : Hid (Bk 28 w3 w2.heap.size #[.string f, .string u] ∧ w2.grownBy w3 none) := ⟨k1, gb_newer HN2.out.2 k2 (Nat.le_refl _)⟩; clear k1 k2 HN2)
    | (go_at_call 21; go_must (refine (HO2.out _).mono ?_); rintro e w4 ⟨rfl, h4⟩; have H4 : Hid (Bk 28 w4 w2.heap.size #[.string f, .string u] ∧ w2.grownBy w4 none) := ⟨H3.out.1.grew h4 (by simp), gb_trans H3.out.2 h4⟩; clear h4; have HN4 : Hid _ := blk_new w4 29 #[.string { data := #[] }, .string { data := #[] }])
    | (have z := HN4; clear z; refine wpList_store_bk 29 rfl (.tmp 13) (.tmp 37) rfl info29 w4.heap.size #[.string { data := #[] }, .string { data := #[] }] #[.string f, .string u] rfl rfl HN4.out.1 rfl rfl (two_one _ _) ?_; intro w5 k1 k2; have H5 : Hid (Bk 28 w5 w2.heap.size #[.string f, .string u] ∧ Bk 29 w5 w4.heap.size #[.string f, .string u] ∧ w2.grownBy w5 none) := ⟨(H4.out.1.grew HN4.out.2 (by simp)).grew k2 (fun e => by have e1 := Option.some.inj e; have e2 := lt_of_block H4.out.1; omega), k1, gb_newer (gb_trans H4.out.2 HN4.out.2) k2 H4.out.2.size⟩; clear k1 k2 HN4; have c1 := H5.out.1.cell 0; have c2 := H5.out.1.cell 1; have c3 := H5.out.2.1.cell 0; have c4 := H5.out.2.1.cell 1; simp only [List.getElem?_toArray, List.getElem?_cons_zero, List.getElem?_cons_succ] at c1 c2 c3 c4))
  go_ret
  exact ⟨rfl, gb_below (gb_trans H2.out H5.out.2.2)⟩

set_option maxRecDepth 100000 in
theorem lifted (os : Os) (started : os.Started) (H : Type) (enc : TypeId × Value → H) :
    ReturnsInHanded {} Try.checked os 5 .any (Rows.spanBucketsSpec.pre6 enc Try.prog Try.f5 Rows.spanBucketsRow.domain false) (Rows.spanBucketsSpec.post enc Try.prog Try.f5 false true false false) := by
  refine returnsInHanded_of_change (C := Try.checked) own started (by kernel_rfl) Try.func5
    (ChangeSpec.witness6 (enc := enc) (C := Try.checked) false ⟨#[], #[.int .i64 0, .string .empty, .int .i64 0], []⟩ 8 (by kernel_rfl) (by kernel_rfl) (by kernel_rfl) (by kernel_rfl)) ?_
  intro W base args ds gs before hval0 hW hcnd _
  have hval : ∀ (j : Nat) t v, Try.f5.params[j]? = some t → args[j]? = some v → Value.okWide Try.prog W .any base t v := hval0
  have hW' := hW
  obtain ⟨p, q, hA0, hV, rfl, hfz, hnd⟩ := hW
  have hA : DataW.TrodAll enc Try.prog W 0 (fun _ => true) true Try.f5.params.toList args.toList ds p := hA0
  rw [Try.params5] at hA hval
  obtain ⟨v0, vs0, d0, ds0, p0, q0, hargs, rfl, rfl, h0, r0⟩ := trodAll_cons hA
  obtain ⟨v1, vs1, d1, ds1, p1, q1, rfl, rfl, rfl, h1, r1⟩ := trodAll_cons r0
  obtain ⟨v2, vs2, d2, ds2, p2, q2, rfl, rfl, rfl, h2, r2⟩ := trodAll_cons r1
  obtain ⟨rfl, rfl, rfl⟩ := trodAll_nil r2
  obtain rfl : args = #[v0, v1, v2] := by cases args; simp_all
  obtain ⟨rfl, rfl⟩ := trodVars_none hV
  obtain ⟨a0, rfl, rfl, rfl, w0⟩ := open_int Try.underlying3 (hval 0 3 v0 rfl rfl) h0
  obtain ⟨s1, rfl, rfl, rfl, z1⟩ := Go.ChangeMaps.open_string Try.underlying9 (hval 1 9 v1 rfl rfl) h1
  obtain ⟨a2, rfl, rfl, rfl, w2⟩ := open_int Try.underlying3 (hval 2 3 v2 rfl rfl) h2
  clear hA0 hval0
  refine (walk a0 s1 a2 W w0 z1 w2).mono fun e W' ⟨he, bel⟩ => ?_
  subst he
  exact ⟨_, rfl, _, _, _, [], _, [], hW', trodAll_mk1 (shut_bool Try.underlying4 _), (trodAll_cons_mk (shut_int Try.underlying3 w0) (trodAll_cons_mk (Go.ChangeMaps.shut_string Try.underlying9 z1) (trodAll_cons_mk (shut_int Try.underlying3 w2) trodAll_mk0))), rfl, bel.frame _, fun h => by cases h⟩

theorem over : Rows.spanBucketsRow.holds Try.pinned (OpenSpec.ofChange Rows.spanBucketsSpec) :=
  OpenClaim.holds_of_wide 5 Try.f5 rfl rfl rfl rfl rfl rfl rfl ⟨rfl, rfl, rfl, rfl, rfl⟩ rfl rfl rfl rfl rfl (by kernel_rfl) Try.func5 (by kernel_rfl)
    (of_decide_eq_true (by kernel_rfl)) (by unfold Func.isWrapper; first | (rw [if_pos (by decide +kernel)]; kernel_rfl) | (rw [if_neg (by decide +kernel)]; exact ⟨rfl, rfl⟩))
    (fun os started H enc _ => lifted os started H enc)

end Go.Proofs.Ytggkkpbgnlmfeaa.spanBuckets
namespace Go.Proofs.Ytggkkpbgnlmfeaa
theorem spanBuckets_holds : Rows.SpanBucketsSaid := spanBuckets.over
#print axioms spanBuckets_holds
end Go.Proofs.Ytggkkpbgnlmfeaa
