/-
  Proved: for every range and text, hawserlaw06.SpanOne answers true: Check, Has, Empty and Prefix are the document's. No condition.
-/
import Derived.Test.YtggkkpbgnlmfeaaRows
import Derived.Test.YtggkkpbgnlmfeaaNBu
import Derived.Test.YtggkkpbgnlmfeaaNHa
import Derived.Test.YtggkkpbgnlmfeaaNPr
import Derived.WalkKit
import Derived.ProofKit
import Derived.OpenShut
import Derived.ShutString
import Derived.ChangeOld
import Derived.Below
import Derived.Lib.SmallJoins
import Derived.JoinedCond
namespace Go.Proofs.Ytggkkpbgnlmfeaa.spanOne
open Go.ChangeShapes Go.WideShapes Go.ChangeAt Go.RowKit
set_option linter.unusedVariables false

theorem own : ownKnob Try.prog.godebug = none := by kernel_rfl
theorem laidOut : laidOutB Try.prog = true := by kernel_rfl

theorem two_new (w : World) (T U : TypeId) (cs es : Array Value) : Bk T ((w.alloc (.cells cs T)).alloc (.cells es U)) w.heap.size cs ∧ Bk U ((w.alloc (.cells cs T)).alloc (.cells es U)) (w.heap.size + 1) es ∧ w.grownBy ((w.alloc (.cells cs T)).alloc (.cells es U)) none := by
  refine ⟨(Below.heap_alloc _ _ _ (by simp)).trans (heap_new w _), ?_, gb_trans (gb_alloc _ _) (gb_alloc _ _)⟩
  have := heap_new (w.alloc (.cells cs T)) (.cells es U)
  rw [World.size_alloc] at this
  exact this
set_option maxRecDepth 20000 in
set_option maxHeartbeats 1000000 in
theorem walk (f u key : ByteArray) (w : World) (hf : f.size ≤ maxLen) (hu : u.size ≤ maxLen) (hk : key.size ≤ maxLen) : Calls Try.prog 4 #[.agg #[.string f, .string u], .string key] w fun e w' => e = .returned (.bool true) ∧ Below w.heap.size w w' := by
  have HP1 : Hid _ := fun w => prefix_c key hk w
  have HP2 : Hid _ := fun w => gprefix_c key hk w
  generalize pto key = q at *
  clear hf hu hk
  have HN2 : Hid (Bk 28 ((w.alloc (.cells #[.string f, .string u] 28)).alloc (.cells #[.string { data := #[] }, .string { data := #[] }] 29)) w.heap.size #[.string f, .string u] ∧ Bk 29 ((w.alloc (.cells #[.string f, .string u] 28)).alloc (.cells #[.string { data := #[] }, .string { data := #[] }] 29)) (w.heap.size + 1) #[.string { data := #[] }, .string { data := #[] }] ∧ w.grownBy ((w.alloc (.cells #[.string f, .string u] 28)).alloc (.cells #[.string { data := #[] }, .string { data := #[] }] 29)) none) := two_new w _ _ _ _
  go_enter Try.func4, Try.ntmps4
  go_wp2_with (first
    | ((fail_if_success (have z := H2)); refine wpList_store_bk 29 rfl (.tmp 5) (.tmp 12) rfl info29 (w.heap.size + 1) #[.string { data := #[] }, .string { data := #[] }] #[.string f, .string u] rfl rfl HN2.out.2.1 rfl rfl (two_one _ _) ?_; intro w2 h1 h2; have H2 : Hid (Bk 28 w2 w.heap.size #[.string f, .string u] ∧ Bk 29 w2 (w.heap.size + 1) #[.string f, .string u] ∧ w.grownBy w2 none) := ⟨HN2.out.1.grew h2 (by simp), h1, gb_newer HN2.out.2.2 h2 (by omega)⟩; clear h1 h2)
    | (go_at_call 11; go_must (refine (HP1.out _).mono ?_); rintro e w3 ⟨rfl, h3⟩; have H3 : Hid _ := h3; clear h3)
    | (go_at_call 12; go_must (refine (HP2.out _).mono ?_); rintro e w4 ⟨rfl, h4⟩; have H4 : Hid (Bk 28 w4 w.heap.size #[.string f, .string u] ∧ Bk 29 w4 (w.heap.size + 1) #[.string f, .string u] ∧ w.grownBy w4 none) := ⟨(H2.out.1.grew H3.out (by simp)).grew h4 (by simp), (H2.out.2.1.grew H3.out (by simp)).grew h4 (by simp), gb_trans (gb_trans H2.out.2.2 H3.out) h4⟩; have HN4 : Hid _ := two_new w4 28 29 #[.string { data := #[] }, .string { data := #[] }] #[.string { data := #[] }, .string { data := #[] }]; clear h4)
    | (have z := H4; clear z; (fail_if_success (have z := H5)); refine wpList_store_bk 28 rfl (.tmp 6) (.tmp 14) rfl info28 w4.heap.size #[.string { data := #[] }, .string { data := #[] }] #[.string key, .string q] rfl rfl HN4.out.1 rfl rfl (two_one _ _) ?_; intro w5 h1 h2; have H5 : Hid (Bk 28 w5 w4.heap.size #[.string key, .string q] ∧ Bk 29 w5 (w4.heap.size + 1) #[.string { data := #[] }, .string { data := #[] }] ∧ w4.grownBy w5 none) := ⟨h1, HN4.out.2.1.grew h2 (by simp), gb_newer HN4.out.2.2 h2 (by omega)⟩; clear h1 h2)
    | (have z := H5; clear z; refine wpList_store_bk 29 rfl (.tmp 7) (.tmp 16) rfl info29 (w4.heap.size + 1) #[.string { data := #[] }, .string { data := #[] }] #[.string key, .string q] rfl rfl H5.out.2.1 rfl rfl (two_one _ _) ?_; intro w6 h1 h2; have H6 : Hid (Bk 28 w6 w4.heap.size #[.string key, .string q] ∧ Bk 29 w6 (w4.heap.size + 1) #[.string key, .string q] ∧ w4.grownBy w6 none) := ⟨H5.out.1.grew h2 (by simp), h1, gb_newer H5.out.2.2 h2 (by omega)⟩; clear h1 h2))
  have c1 : ∀ p, (gw w6 p).cell? ⟨w.heap.size, 0, none⟩ = some (.string f) := fun p => (bk_gw (H4.out.1.grew H6.out.2.2 (by simp)) p).cell 0
  have c2 : ∀ p, (gw w6 p).cell? ⟨w.heap.size, 1, none⟩ = some (.string u) := fun p => (bk_gw (H4.out.1.grew H6.out.2.2 (by simp)) p).cell 1
  have c3 : ∀ p, (gw w6 p).cell? ⟨w.heap.size + 1, 0, none⟩ = some (.string f) := fun p => (bk_gw (H4.out.2.1.grew H6.out.2.2 (by simp)) p).cell 0
  have c4 : ∀ p, (gw w6 p).cell? ⟨w.heap.size + 1, 1, none⟩ = some (.string u) := fun p => (bk_gw (H4.out.2.1.grew H6.out.2.2 (by simp)) p).cell 1
  have d1 : ∀ p, (gw w6 p).cell? ⟨w4.heap.size, 0, none⟩ = some (.string key) := fun p => (bk_gw H6.out.1 p).cell 0
  have d2 : ∀ p, (gw w6 p).cell? ⟨w4.heap.size, 1, none⟩ = some (.string q) := fun p => (bk_gw H6.out.1 p).cell 1
  have d3 : ∀ p, (gw w6 p).cell? ⟨w4.heap.size + 1, 0, none⟩ = some (.string key) := fun p => (bk_gw H6.out.2.1 p).cell 0
  have d4 : ∀ p, (gw w6 p).cell? ⟨w4.heap.size + 1, 1, none⟩ = some (.string q) := fun p => (bk_gw H6.out.2.1 p).cell 1
  refine wp_region_gb (by kernel_rfl) (by kernel_rfl) ?_
  repeat (quiet_step (first
    | (go_at_call 13; exact calls_gw (check_c key _))
    | (go_at_call 14; exact calls_gw (gcheck_c key _))
    | (go_at_call 9; exact calls_gw (num_c _ _))
    | (go_at_call 15; exact calls_gb (has_c (f, u) key _))
    | (go_at_call 16; exact calls_gb (ghas_c (f, u) key _))
    | (go_at_call 17; exact calls_gb (empty_c (f, u) _))
    | (go_at_call 18; exact calls_gb (gempty_c (f, u) _))))
  refine wpQuiet_nil ?_
  intro _ hw'
  obtain ⟨pq, rfl⟩ := hw'
  go_wp2
  go_ret
  exact ⟨rfl, gb_below (gb_trans (gb_trans H4.out.2.2 H6.out.2.2) (gw_gb _ _))⟩

set_option maxRecDepth 100000 in
theorem lifted (os : Os) (started : os.Started) (H : Type) (enc : TypeId × Value → H) :
    ReturnsInHanded {} Try.checked os 4 .any (Rows.spanOneSpec.pre6 enc Try.prog Try.f4 Rows.spanOneRow.domain false) (Rows.spanOneSpec.post enc Try.prog Try.f4 false true false false) := by
  refine returnsInHanded_of_change (C := Try.checked) own started (by kernel_rfl) Try.func4
    (ChangeSpec.witness6 (enc := enc) (C := Try.checked) false ⟨#[], #[.agg #[.string .empty, .string .empty], .string .empty], []⟩ 8 (by kernel_rfl) (by kernel_rfl) (by kernel_rfl) (by kernel_rfl)) ?_
  intro W base args ds gs before hval0 hW hcnd _
  have hval : ∀ (j : Nat) t v, Try.f4.params[j]? = some t → args[j]? = some v → Value.okWide Try.prog W .any base t v := hval0
  have hW' := hW
  obtain ⟨p, q, hA0, hV, rfl, hfz, hnd⟩ := hW
  have hA : DataW.TrodAll enc Try.prog W 0 (fun _ => true) true Try.f4.params.toList args.toList ds p := hA0
  rw [Try.params4] at hA hval
  obtain ⟨v0, vs0, d0, ds0, p0, q0, hargs, rfl, rfl, h0, r0⟩ := trodAll_cons hA
  obtain ⟨v1, vs1, d1, ds1, p1, q1, rfl, rfl, rfl, h1, r1⟩ := trodAll_cons r0
  obtain ⟨rfl, rfl, rfl⟩ := trodAll_nil r1
  obtain rfl : args = #[v0, v1] := by cases args; simp_all
  obtain ⟨rfl, rfl⟩ := trodVars_none hV
  have k0 := h0
  have lt0 : ∀ x ∈ p0, x.block < W.heap.size := by obtain ⟨m, hm⟩ := k0; exact DataW.trod_lt m _ _ _ hm
  obtain ⟨c00, c10, y00, y10, m0, rfl, hd0, hp0, hy00, hy10⟩ := Go.Joins.open_agg2 Try.underlying28 (by kernel_rfl) (by kernel_rfl) (hval 0 28 v0 rfl rfl) h0
  obtain ⟨s00, e00, _, z00⟩ := DataW.trod_string Try.underlying9 hy00
  obtain ⟨s10, e10, _, z10⟩ := DataW.trod_string Try.underlying9 hy10
  simp at e00 e10
  subst e00 e10
  obtain ⟨s1, rfl, rfl, rfl, z1⟩ := Go.ChangeMaps.open_string Try.underlying9 (hval 1 9 v1 rfl rfl) h1
  clear hA0 hval0
  refine (walk s00 s10 s1 W z00 z10 z1).mono fun e W' ⟨he, bel⟩ => ?_
  subst he
  exact ⟨_, rfl, _, _, _, [], _, [], hW', trodAll_mk1 (shut_bool Try.underlying4 _), (trodAll_cons_mk (Below.trod laidOut (by kernel_rfl) (of_decide_eq_true (by kernel_rfl)) k0 bel lt0) (trodAll_cons_mk (Go.ChangeMaps.shut_string Try.underlying9 z1) trodAll_mk0)), rfl, bel.frame _, fun h => by cases h⟩

theorem over : Rows.spanOneRow.holds Try.pinned (OpenSpec.ofChange Rows.spanOneSpec) :=
  OpenClaim.holds_of_wide 4 Try.f4 rfl rfl rfl rfl rfl rfl rfl ⟨rfl, rfl, rfl, rfl, rfl⟩ rfl rfl rfl rfl rfl (by kernel_rfl) Try.func4 (by kernel_rfl)
    (of_decide_eq_true (by kernel_rfl)) (by unfold Func.isWrapper; first | (rw [if_pos (by decide +kernel)]; kernel_rfl) | (rw [if_neg (by decide +kernel)]; exact ⟨rfl, rfl⟩))
    (fun os started H enc _ => lifted os started H enc)

end Go.Proofs.Ytggkkpbgnlmfeaa.spanOne
namespace Go.Proofs.Ytggkkpbgnlmfeaa
theorem spanOne_holds : Rows.SpanOneSaid := spanOne.over
#print axioms spanOne_holds
end Go.Proofs.Ytggkkpbgnlmfeaa
