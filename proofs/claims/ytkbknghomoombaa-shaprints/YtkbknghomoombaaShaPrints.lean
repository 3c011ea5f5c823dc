/-
  Proved: for every array of 32 bytes, hawserlaw05.ShaPrints answers true: a digest's text is the document's, and Parse of it is the digest, OK and 0. No condition.
-/
import Derived.Test.YtkbknghomoombaaRows
import Derived.Test.YtkbknghomoombaaSPr
import Derived.Test.YtkbknghomoombaaSPa
import Derived.Test.YtkbknghomoombaaSGp
import Derived.Test.YtkbknghomoombaaSEq
import Derived.Test.YtkbknghomoombaaSOp
import Derived.WalkKit
import Derived.ProofKit
import Derived.OpenShut
import Derived.ShutString
import Derived.ChangeOld
import Derived.Below
import Derived.Lib.SmallJoins
import Derived.JoinedCond
namespace Go.Proofs.Ytkbknghomoombaa.shaPrints
open Go.ChangeShapes Go.WideShapes Go.ChangeAt Go.RowKit
set_option linter.unusedVariables false

theorem own : ownKnob Try.prog.godebug = none := by kernel_rfl
theorem laidOut : laidOutB Try.prog = true := by kernel_rfl

set_option maxRecDepth 20000 in
set_option maxHeartbeats 1000000 in
theorem walk (D : List Int) (w : World) (hl : D.length = 32) (hb : Bytes D) : Calls Try.prog 6 #[.agg (u8s D)] w fun e w' => e = .returned (.bool true) ∧ Below w.heap.size w w' := by
  have HNEW : Hid (Bk 23 (w.alloc (.cells (u8s D) 23)) w.heap.size (u8s D) ∧ w.grownBy (w.alloc (.cells (u8s D) 23)) none) := blk_new w _ _
  have hz := zD
  have heq := eqD D hb hl
  have HS : Hid ((u8s D).size = 32) := by show _ = _; rw [u8s_size]; exact hl
  have HP1 : Hid (∀ w, Calls Try.prog 9 #[.agg (u8s D)] w fun r w' => r = .returned (.string (strOfNums (ptx D))) ∧ w.grownBy w' none) := print_c D hl hb
  have HP2 : Hid (∀ w, Calls Try.prog 17 #[.agg (u8s D)] w fun r w' => r = .returned (.string (strOfNums (ptx D))) ∧ w.grownBy w' none) := gprint_c D hl hb
  have HP3 : Hid (∀ w, Calls Try.prog 16 #[.string (strOfNums (ptx D))] w fun r w' => r = .returned (.tuple #[.agg (u8s D), .int .i64 0, .int .i64 0]) ∧ w.grownBy w' none) := fun w => by
    have := parse_c (ptx D) (ptx_bytes D hb) (by rw [ptx_len, hl]; omega) w
    rw [pans_ptx D hl hb] at this
    exact this
  obtain ⟨S, hS⟩ : ∃ S, S = strOfNums (ptx D) := ⟨_, rfl⟩
  rw [← hS] at HP1 HP2 HP3
  clear hS hl hb
  obtain ⟨N, hN⟩ : ∃ N, N = w.heap.size := ⟨_, rfl⟩
  go_enter Try.func6, Try.ntmps6
  go_wp2_with (first
    | (go_at_call 9; go_must (refine (HP1.out _).mono ?_); rintro e w2 ⟨rfl, h2⟩; have H2 : Hid (Bk 23 w2 w.heap.size (u8s D) ∧ w.grownBy w2 none) := ⟨HNEW.out.1.grew h2 (by simp), gb_trans HNEW.out.2 h2⟩; clear h2)
    | (go_at_call 16; go_must (refine (HP3.out _).mono ?_); rintro e w3 ⟨rfl, h3⟩; have H3 : Hid (Bk 23 w3 w.heap.size (u8s D) ∧ w.grownBy w3 none) := ⟨H2.out.1.grew h3 (by simp), gb_trans H2.out.2 h3⟩; clear h3; have HN3 : Hid (Bk 24 (w3.alloc (.cells (u8s dz32) 24)) w3.heap.size (u8s dz32) ∧ w3.grownBy (w3.alloc (.cells (u8s dz32) 24)) none) := blk_new w3 _ _)
    | (go_at_call 17; go_must (refine (HP2.out _).mono ?_); rintro e w5 ⟨rfl, h5⟩; have H5 : Hid (Bk 23 w5 w.heap.size (u8s D) ∧ Bk 24 w5 w3.heap.size (u8s D) ∧ w.grownBy w5 none) := ⟨H4.out.1.grew h5 (by simp), H4.out.2.1.grew h5 (by simp), gb_trans H4.out.2.2 h5⟩; clear h5)
    | (refine wpList_store_bk 24 rfl (.tmp 4) (.tmp 12) rfl infoD w3.heap.size (u8s dz32) (u8s D) rfl rfl HN3.out.1 rfl HS.out (u8s_one _) ?_; intro w4 h1 h2; have H4 : Hid (Bk 23 w4 w.heap.size (u8s D) ∧ Bk 24 w4 w3.heap.size (u8s D) ∧ w.grownBy w4 none) := ⟨(H3.out.1.grew HN3.out.2 (by simp)).grew h2 (fun e => by have e1 := Option.some.inj e; have e2 := lt_of_block H3.out.1; omega), h1, gb_newer (gb_trans H3.out.2 HN3.out.2) h2 H3.out.2.size⟩; clear h1 h2)
    | (refine wpList_load_bk 23 rfl (.tmp 1) rfl Try.underlying23 rfl info32 w.heap.size (u8s D) rfl H4.out.1 HS.out ?_)
    | (refine wpList_load_bk 23 rfl (.tmp 1) rfl Try.underlying23 rfl info32 w.heap.size (u8s D) rfl HNEW.out.1 HS.out ?_)
    | (refine wpList_load_bkG 24 rfl (.tmp 4) rfl Try.underlying24 rfl infoD w3.heap.size (u8s D) rfl H5.out.2.1 HS.out ?_)
    | (refine wpList_load_bkG 23 rfl (.tmp 1) rfl Try.underlying23 rfl info32 w.heap.size (u8s D) rfl H5.out.1 HS.out ?_))
  go_ret
  exact ⟨rfl, gb_below H5.out.2.2⟩

set_option maxRecDepth 100000 in
theorem lifted (os : Os) (started : os.Started) (H : Type) (enc : TypeId × Value → H) :
    ReturnsInHanded {} Try.checked os 6 .any (Rows.shaPrintsSpec.pre6 enc Try.prog Try.f6 Rows.shaPrintsRow.domain false) (Rows.shaPrintsSpec.post enc Try.prog Try.f6 false true false false) := by
  refine returnsInHanded_of_change (C := Try.checked) own started (by kernel_rfl) Try.func6
    (ChangeSpec.witness6 (enc := enc) (C := Try.checked) false ⟨#[], #[.agg #[.int .u8 0, .int .u8 0, .int .u8 0, .int .u8 0, .int .u8 0, .int .u8 0, .int .u8 0, .int .u8 0, .int .u8 0, .int .u8 0, .int .u8 0, .int .u8 0, .int .u8 0, .int .u8 0, .int .u8 0, .int .u8 0, .int .u8 0, .int .u8 0, .int .u8 0, .int .u8 0, .int .u8 0, .int .u8 0, .int .u8 0, .int .u8 0, .int .u8 0, .int .u8 0, .int .u8 0, .int .u8 0, .int .u8 0, .int .u8 0, .int .u8 0, .int .u8 0]], []⟩ 8 (by kernel_rfl) (by kernel_rfl) (by kernel_rfl) (by kernel_rfl)) ?_
  intro W base args ds gs before hval0 hW hcnd _
  have hval : ∀ (j : Nat) t v, Try.f6.params[j]? = some t → args[j]? = some v → Value.okWide Try.prog W .any base t v := hval0
  have hW' := hW
  obtain ⟨p, q, hA0, hV, rfl, hfz, hnd⟩ := hW
  have hA : DataW.TrodAll enc Try.prog W 0 (fun _ => true) true Try.f6.params.toList args.toList ds p := hA0
  rw [Try.params6] at hA hval
  obtain ⟨v0, vs0, d0, ds0, p0, q0, hargs, rfl, rfl, h0, r0⟩ := trodAll_cons hA
  obtain ⟨rfl, rfl, rfl⟩ := trodAll_nil r0
  obtain rfl : args = #[v0] := by cases args; simp_all
  obtain ⟨rfl, rfl⟩ := trodVars_none hV
  have k0 := h0
  have lt0 : ∀ x ∈ p0, x.block < W.heap.size := by obtain ⟨m, hm⟩ := k0; exact DataW.trod_lt m _ _ _ hm
  obtain ⟨cs0, rfl, hsz0⟩ : ∃ cs, v0 = .agg cs ∧ cs.size = Try.prog.cellsOf 23 := by
    have hv := hval 0 23 v0 rfl rfl
    unfold Value.okWide at hv
    rw [Try.underlying23] at hv
    obtain ⟨cs, h1, h2, _⟩ := hv
    exact ⟨cs, h1, h2⟩
  obtain ⟨D0, hD0, l0, b0⟩ := dig_open cs0 rfl (hsz0.trans (show Try.prog.cellsOf 23 = 32 from by kernel_rfl)) h0
  obtain rfl : cs0 = u8s D0 := by injection hD0
  clear hA0 hval0
  refine (walk D0 W l0 b0).mono fun e W' ⟨he, bel⟩ => ?_
  subst he
  exact ⟨_, rfl, _, _, _, [], _, [], hW', trodAll_mk1 (shut_bool Try.underlying4 _), (trodAll_cons_mk (Below.trod laidOut (by kernel_rfl) (of_decide_eq_true (by kernel_rfl)) k0 bel lt0) trodAll_mk0), rfl, bel.frame _, fun h => by cases h⟩

theorem over : Rows.shaPrintsRow.holds Try.pinned (OpenSpec.ofChange Rows.shaPrintsSpec) :=
  OpenClaim.holds_of_wide 6 Try.f6 rfl rfl rfl rfl rfl rfl rfl ⟨rfl, rfl, rfl, rfl, rfl⟩ rfl rfl rfl rfl rfl (by kernel_rfl) Try.func6 (by kernel_rfl)
    (of_decide_eq_true (by kernel_rfl)) (by unfold Func.isWrapper; first | (rw [if_pos (by decide +kernel)]; kernel_rfl) | (rw [if_neg (by decide +kernel)]; exact ⟨rfl, rfl⟩))
    (fun os started H enc _ => lifted os started H enc)

end Go.Proofs.Ytkbknghomoombaa.shaPrints
namespace Go.Proofs.Ytkbknghomoombaa
theorem shaPrints_holds : Rows.ShaPrintsSaid := shaPrints.over
#print axioms shaPrints_holds
end Go.Proofs.Ytkbknghomoombaa
