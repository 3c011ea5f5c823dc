/-
  Proved: for every text, hawserlaw05.ShaParses answers true: Parse is the document's, and Print of what it takes is the text. No condition.
-/
import Derived.Test.YtkbknghomoombaaRows
import Derived.Test.YtkbknghomoombaaSPr
import Derived.Test.YtkbknghomoombaaSPa
import Derived.Test.YtkbknghomoombaaSGp
import Derived.Test.YtkbknghomoombaaSGq
import Derived.Test.YtkbknghomoombaaSEq
import Derived.Test.YtkbknghomoombaaSOp
import Derived.Test.YtkbknghomoombaaSBa
import Derived.WalkKit
import Derived.ProofKit
import Derived.OpenShut
import Derived.ShutString
import Derived.ChangeOld
import Derived.Below
import Derived.Lib.SmallJoins
import Derived.JoinedCond
namespace Go.Proofs.Ytkbknghomoombaa.shaParses
open Go.ChangeShapes Go.WideShapes Go.ChangeAt Go.RowKit
set_option linter.unusedVariables false

theorem own : ownKnob Try.prog.godebug = none := by kernel_rfl
theorem laidOut : laidOutB Try.prog = true := by kernel_rfl

set_option maxRecDepth 20000 in
set_option maxHeartbeats 1000000 in
theorem walk (s : ByteArray) (w : World) (hs : s.size ≤ maxLen) : Calls Try.prog 7 #[.string s] w fun e w' => e = .returned (.bool true) ∧ Below w.heap.size w w' := by
  obtain ⟨ts, rfl, hb, hlen⟩ := str_of s
  have hm : ts.length ≤ 9223372036854775807 := by rw [hlen]; unfold maxLen at hs; omega
  obtain ⟨hl, hd⟩ := pans_len ts
  have HPa : Hid (∀ w, Calls Try.prog 16 #[.string (strOfNums ts)] w fun r w' => r = .returned (.tuple #[.agg (u8s (pans ts).1), .int .i64 (pans ts).2.1, .int .i64 ((pans ts).2.2 : Int)]) ∧ w.grownBy w' none) := parse_c ts hb hm
  have HGa : Hid (∀ w, Calls Try.prog 18 #[.string (strOfNums ts)] w fun r w' => r = .returned (.tuple #[.agg (u8s (pans ts).1), .int .i64 (pans ts).2.1, .int .i64 ((pans ts).2.2 : Int)]) ∧ w.grownBy w' none) := gparse_c ts hb hm
  have HBa : Hid (∀ w, Calls Try.prog 16 #[.string { data := #[66, 97] }] w fun r w' => r = .returned (.tuple #[.agg (u8s dz32), .int .i64 50, .int .i64 0]) ∧ w.grownBy w' none) := fun w => by
    have := parse_c [66, 97] (bytes_of_mem (fun z hz => by simp at hz; omega)) (by simp) w
    rw [pans_ba, str_ba] at this
    exact this
  have HPr : Hid (∀ w, Calls Try.prog 9 #[.agg (u8s (pans ts).1)] w fun r w' => r = .returned (.string (strOfNums (ptx (pans ts).1))) ∧ w.grownBy w' none) := print_c _ hl hd
  have heq := eqD (pans ts).1 hd hl
  have hz1 := zD
  have hz2 := zA
  have hE := pans_err ts
  have HS : Hid ((u8s (pans ts).1).size = 32) := by show _ = _; rw [u8s_size]; exact hl
  generalize (pans ts).1 = D at *
  generalize (pans ts).2.1 = E at *
  generalize (pans ts).2.2 = a at *
  rcases hE with rfl | ⟨rfl, hpt⟩
  · clear hl hd hb hm hlen hs HPr
    generalize strOfNums ts = S at *
    go_enter Try.func7, Try.ntmps7
    go_wp2_with (first
      | ((fail_if_success (have z := H4)); go_at_call 16; go_must (refine (HPa.out _).mono ?_); rintro e w1 ⟨rfl, h1⟩; have H1 : Hid (w.grownBy w1 none) := h1; clear h1; have HN1 : Hid (Bk 24 (w1.alloc (.cells (u8s dz32) 24)) w1.heap.size (u8s dz32) ∧ w1.grownBy (w1.alloc (.cells (u8s dz32) 24)) none) := blk_new w1 _ _)
      | (go_at_call 18; go_must (refine (HGa.out _).mono ?_); rintro e w3 ⟨rfl, h3⟩; have H3 : Hid (Bk 24 w3 w1.heap.size (u8s D) ∧ w.grownBy w3 none) := ⟨H2.out.1.grew h3 (by simp), gb_trans H2.out.2 h3⟩; clear h3; have HN3 : Hid (Bk 23 (w3.alloc (.cells (u8s dz32) 23)) w3.heap.size (u8s dz32) ∧ w3.grownBy (w3.alloc (.cells (u8s dz32) 23)) none) := blk_new w3 _ _)
      | (have z := H4; clear z; go_at_call 16; go_must (refine (HBa.out _).mono ?_); rintro e w6 ⟨rfl, h6⟩; have H6 : Hid (w.grownBy w6 none) := gb_trans H4.out.2.2 h6; clear h6)
      | (refine wpList_store_bk 24 rfl (.tmp 3) (.tmp 12) rfl infoD w1.heap.size (u8s dz32) (u8s D) rfl rfl HN1.out.1 rfl HS.out (u8s_one _) ?_; intro w2 h1 h2; have H2 : Hid (Bk 24 w2 w1.heap.size (u8s D) ∧ w.grownBy w2 none) := ⟨h1, gb_newer (gb_trans H1.out HN1.out.2) h2 H1.out.size⟩; clear h1 h2)
      | (refine wpList_store_bk 23 rfl (.tmp 6) (.tmp 18) rfl info32 w3.heap.size (u8s dz32) (u8s D) rfl rfl HN3.out.1 rfl HS.out (u8s_one _) ?_; intro w4 h1 h2; have H4 : Hid (Bk 24 w4 w1.heap.size (u8s D) ∧ Bk 23 w4 w3.heap.size (u8s D) ∧ w.grownBy w4 none) := ⟨(H3.out.1.grew HN3.out.2 (by simp)).grew h2 (fun e => by have e1 := Option.some.inj e; have e2 := lt_of_block H3.out.1; omega), h1, gb_newer (gb_trans H3.out.2 HN3.out.2) h2 H3.out.2.size⟩; clear h1 h2)
      | (refine wpList_load_bk 24 rfl (.tmp 3) rfl Try.underlying24 rfl infoD w1.heap.size (u8s D) rfl H4.out.1 HS.out ?_)
      | (refine wpList_load_bk 23 rfl (.tmp 6) rfl Try.underlying23 rfl info32 w3.heap.size (u8s D) rfl H4.out.2.1 HS.out ?_))
    go_ret
    exact ⟨rfl, gb_below H6.out⟩
  · rw [hpt] at HPr
    clear hl hd hb hm hlen hs hpt
    generalize strOfNums ts = S at *
    go_enter Try.func7, Try.ntmps7
    go_wp2_with (first
      | ((fail_if_success (have z := H4)); go_at_call 16; go_must (refine (HPa.out _).mono ?_); rintro e w1 ⟨rfl, h1⟩; have H1 : Hid (w.grownBy w1 none) := h1; clear h1; have HN1 : Hid (Bk 24 (w1.alloc (.cells (u8s dz32) 24)) w1.heap.size (u8s dz32) ∧ w1.grownBy (w1.alloc (.cells (u8s dz32) 24)) none) := blk_new w1 _ _)
      | (go_at_call 18; go_must (refine (HGa.out _).mono ?_); rintro e w3 ⟨rfl, h3⟩; have H3 : Hid (Bk 24 w3 w1.heap.size (u8s D) ∧ w.grownBy w3 none) := ⟨H2.out.1.grew h3 (by simp), gb_trans H2.out.2 h3⟩; clear h3; have HN3 : Hid (Bk 23 (w3.alloc (.cells (u8s dz32) 23)) w3.heap.size (u8s dz32) ∧ w3.grownBy (w3.alloc (.cells (u8s dz32) 23)) none) := blk_new w3 _ _)
      | (go_at_call 9; go_must (refine (HPr.out _).mono ?_); rintro e w5 ⟨rfl, h5⟩; have H5 : Hid (w.grownBy w5 none) := gb_trans H4.out.2.2 h5; clear h5)
      | (have z := H5; clear z; go_at_call 16; go_must (refine (HBa.out _).mono ?_); rintro e w6 ⟨rfl, h6⟩; have H6 : Hid (w.grownBy w6 none) := gb_trans H5.out h6; clear h6)
      | (refine wpList_store_bk 24 rfl (.tmp 3) (.tmp 12) rfl infoD w1.heap.size (u8s dz32) (u8s D) rfl rfl HN1.out.1 rfl HS.out (u8s_one _) ?_; intro w2 h1 h2; have H2 : Hid (Bk 24 w2 w1.heap.size (u8s D) ∧ w.grownBy w2 none) := ⟨h1, gb_newer (gb_trans H1.out HN1.out.2) h2 H1.out.size⟩; clear h1 h2)
      | (refine wpList_store_bk 23 rfl (.tmp 6) (.tmp 18) rfl info32 w3.heap.size (u8s dz32) (u8s D) rfl rfl HN3.out.1 rfl HS.out (u8s_one _) ?_; intro w4 h1 h2; have H4 : Hid (Bk 24 w4 w1.heap.size (u8s D) ∧ Bk 23 w4 w3.heap.size (u8s D) ∧ w.grownBy w4 none) := ⟨(H3.out.1.grew HN3.out.2 (by simp)).grew h2 (fun e => by have e1 := Option.some.inj e; have e2 := lt_of_block H3.out.1; omega), h1, gb_newer (gb_trans H3.out.2 HN3.out.2) h2 H3.out.2.size⟩; clear h1 h2)
      | (refine wpList_load_bk 24 rfl (.tmp 3) rfl Try.underlying24 rfl infoD w1.heap.size (u8s D) rfl H4.out.1 HS.out ?_)
      | (refine wpList_load_bkG 24 rfl (.tmp 3) rfl Try.underlying24 rfl infoD w1.heap.size (u8s D) rfl H4.out.1 HS.out ?_)
      | (refine wpList_load_bk 23 rfl (.tmp 6) rfl Try.underlying23 rfl info32 w3.heap.size (u8s D) rfl H4.out.2.1 HS.out ?_))
    go_ret
    exact ⟨rfl, gb_below H6.out⟩

set_option maxRecDepth 100000 in
theorem lifted (os : Os) (started : os.Started) (H : Type) (enc : TypeId × Value → H) :
    ReturnsInHanded {} Try.checked os 7 .any (Rows.shaParsesSpec.pre6 enc Try.prog Try.f7 Rows.shaParsesRow.domain false) (Rows.shaParsesSpec.post enc Try.prog Try.f7 false true false false) := by
  refine returnsInHanded_of_change (C := Try.checked) own started (by kernel_rfl) Try.func7
    (ChangeSpec.witness6 (enc := enc) (C := Try.checked) false ⟨#[], #[.string .empty], []⟩ 8 (by kernel_rfl) (by kernel_rfl) (by kernel_rfl) (by kernel_rfl)) ?_
  intro W base args ds gs before hval0 hW hcnd _
  have hval : ∀ (j : Nat) t v, Try.f7.params[j]? = some t → args[j]? = some v → Value.okWide Try.prog W .any base t v := hval0
  have hW' := hW
  obtain ⟨p, q, hA0, hV, rfl, hfz, hnd⟩ := hW
  have hA : DataW.TrodAll enc Try.prog W 0 (fun _ => true) true Try.f7.params.toList args.toList ds p := hA0
  rw [Try.params7] at hA hval
  obtain ⟨v0, vs0, d0, ds0, p0, q0, hargs, rfl, rfl, h0, r0⟩ := trodAll_cons hA
  obtain ⟨rfl, rfl, rfl⟩ := trodAll_nil r0
  obtain rfl : args = #[v0] := by cases args; simp_all
  obtain ⟨rfl, rfl⟩ := trodVars_none hV
  obtain ⟨s0, rfl, rfl, rfl, z0⟩ := Go.ChangeMaps.open_string Try.underlying9 (hval 0 9 v0 rfl rfl) h0
  clear hA0 hval0
  refine (walk s0 W z0).mono fun e W' ⟨he, bel⟩ => ?_
  subst he
  exact ⟨_, rfl, _, _, _, [], _, [], hW', trodAll_mk1 (shut_bool Try.underlying4 _), (trodAll_cons_mk (Go.ChangeMaps.shut_string Try.underlying9 z0) trodAll_mk0), rfl, bel.frame _, fun h => by cases h⟩

theorem over : Rows.shaParsesRow.holds Try.pinned (OpenSpec.ofChange Rows.shaParsesSpec) :=
  OpenClaim.holds_of_wide 7 Try.f7 rfl rfl rfl rfl rfl rfl rfl ⟨rfl, rfl, rfl, rfl, rfl⟩ rfl rfl rfl rfl rfl (by kernel_rfl) Try.func7 (by kernel_rfl)
    (of_decide_eq_true (by kernel_rfl)) (by unfold Func.isWrapper; first | (rw [if_pos (by decide +kernel)]; kernel_rfl) | (rw [if_neg (by decide +kernel)]; exact ⟨rfl, rfl⟩))
    (fun os started H enc _ => lifted os started H enc)

end Go.Proofs.Ytkbknghomoombaa.shaParses
namespace Go.Proofs.Ytkbknghomoombaa
theorem shaParses_holds : Rows.ShaParsesSaid := shaParses.over
#print axioms shaParses_holds
end Go.Proofs.Ytkbknghomoombaa
