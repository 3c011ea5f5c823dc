/-
  Proved: for every row, hawserlaw07.TableChecks answers true: Check is the document's. No condition.
-/
import Derived.Test.YtdmchcdkfbijlaaRows
import Derived.Test.YtdmchcdkfbijlaaTCk
import Derived.Test.YtdmchcdkfbijlaaTCg
import Derived.WalkKit
import Derived.ProofKit
import Derived.OpenShut
import Derived.ShutString
import Derived.ChangeOld
import Derived.Below
import Derived.Lib.SmallJoins
import Derived.JoinedCond
namespace Go.Proofs.Ytdmchcdkfbijlaa.tableChecks
open Go.ChangeShapes Go.WideShapes Go.ChangeAt Go.RowKit
set_option linter.unusedVariables false

theorem own : ownKnob Try.prog.godebug = none := by kernel_rfl
theorem laidOut : laidOutB Try.prog = true := by kernel_rfl

theorem row_none : rowE (.empty, .empty, 0) = 70 := by decide +kernel
theorem row_k : rowE ({ data := #[107] }, .empty, 1) = 0 := by decide +kernel
set_option maxRecDepth 20000 in
set_option maxHeartbeats 1000000 in
theorem walk (k v : ByteArray) (n : Int) (w : World) (hn : (Lit.int .i64 n).wf = true) : Calls Try.prog 4 #[.agg #[.string k, .string v, .int .i64 n]] w fun e w' => e = .returned (.bool true) ∧ Below w.heap.size w w' := by
  clear hn
  have HX : Hid (∀ W, Calls Try.prog 9 #[.agg #[.string k, .string v, .int .i64 n]] W fun r w' => r = .returned (.int .i64 (rowE (k, v, n))) ∧ W.grownBy w' none) := fun W => tcheck_c (k, v, n) W
  have HG : Hid (∀ W, Calls Try.prog 10 #[.agg #[.string k, .string v, .int .i64 n]] W fun r w' => r = .returned (.int .i64 (rowE (k, v, n))) ∧ W.grownBy w' none) := fun W => gcheck_c (k, v, n) W
  have HB : Hid (∀ W, Calls Try.prog 9 #[.agg #[.string .empty, .string .empty, .int .i64 0]] W fun r w' => r = .returned (.int .i64 70) ∧ W.grownBy w' none) := fun W => by
    have := tcheck_c (.empty, .empty, 0) W
    rw [row_none] at this
    exact this
  have HK : Hid (∀ W, Calls Try.prog 9 #[.agg #[.string { data := #[107] }, .string .empty, .int .i64 1]] W fun r w' => r = .returned (.int .i64 0) ∧ W.grownBy w' none) := fun W => by
    have := tcheck_c ({ data := #[107] }, .empty, 1) W
    rw [row_k] at this
    exact this
  generalize rowE (k, v, n) = E at *
  have HN : Hid (w.grownBy (w.alloc (.cells #[.string k, .string v, .int .i64 n] 25)) none) := gb_alloc _ _
  have HN2 : Hid (Bk 25 (w.alloc (.cells #[.string k, .string v, .int .i64 n] 25)) w.heap.size #[.string k, .string v, .int .i64 n]) := (blk_new w _ _).1
  go_enter Try.func4, Try.ntmps4
  go_wp2_with fail
  generalize hW1 : World.alloc w _ = w1 at *
  clear hW1
  obtain ⟨N, hN⟩ : ∃ N, N = w.heap.size := ⟨_, rfl⟩
  rw [← hN] at HN2 ⊢
  clear hN
  have c1 : ∀ p, (gw w1 p).cell? ⟨N, 0, none⟩ = some (.string k) := fun p => (bk_gw HN2.out p).cell 0
  have c2 : ∀ p, (gw w1 p).cell? ⟨N, 1, none⟩ = some (.string v) := fun p => (bk_gw HN2.out p).cell 1
  have c3 : ∀ p, (gw w1 p).cell? ⟨N, 2, none⟩ = some (.int .i64 n) := fun p => (bk_gw HN2.out p).cell 2
  refine wp_region_gb (by kernel_rfl) (by kernel_rfl) ?_
  repeat (quiet_step (first
    | (go_at_call_has 9 (Value.string k); exact calls_gb (HX.out _))
    | (go_at_call_has 10 (Value.string k); exact calls_gb (HG.out _))
    | (go_at_call_has 9 (Value.int .i64 1); exact calls_gb (HK.out _))
    | (go_at_call 9; exact calls_gb (HB.out _))))
  refine wpQuiet_nil ?_
  intro _ hw'
  obtain ⟨pq, rfl⟩ := hw'
  go_wp2
  go_ret
  exact ⟨rfl, gb_below (gb_trans HN.out (gw_gb _ _))⟩

set_option maxRecDepth 100000 in
theorem lifted (os : Os) (started : os.Started) (H : Type) (enc : TypeId × Value → H) :
    ReturnsInHanded {} Try.checked os 4 .any (Rows.tableChecksSpec.pre6 enc Try.prog Try.f4 Rows.tableChecksRow.domain false) (Rows.tableChecksSpec.post enc Try.prog Try.f4 false true false false) := by
  refine returnsInHanded_of_change (C := Try.checked) own started (by kernel_rfl) Try.func4
    (ChangeSpec.witness6 (enc := enc) (C := Try.checked) false ⟨#[], #[.agg #[.string .empty, .string .empty, .int .i64 0]], []⟩ 8 (by kernel_rfl) (by kernel_rfl) (by kernel_rfl) (by kernel_rfl)) ?_
  intro W base args ds gs before hval0 hW hcnd _
  have hval : ∀ (j : Nat) t v, Try.f4.params[j]? = some t → args[j]? = some v → Value.okWide Try.prog W .any base t v := hval0
  have hW' := hW
  obtain ⟨p, q, hA0, hV, rfl, hfz, hnd⟩ := hW
  have hA : DataW.TrodAll enc Try.prog W 0 (fun _ => true) true Try.f4.params.toList args.toList ds p := hA0
  rw [Try.params4] at hA hval
  obtain ⟨v0, vs0, d0, ds0, p0, q0, hargs, rfl, rfl, h0, r0⟩ := trodAll_cons hA
  obtain ⟨rfl, rfl, rfl⟩ := trodAll_nil r0
  obtain rfl : args = #[v0] := by cases args; simp_all
  obtain ⟨rfl, rfl⟩ := trodVars_none hV
  have k0 := h0
  have lt0 : ∀ x ∈ p0, x.block < W.heap.size := by obtain ⟨m, hm⟩ := k0; exact DataW.trod_lt m _ _ _ hm
  obtain ⟨c00, c10, c20, y00, y10, y20, m0, rfl, hd0, hp0, hy00, hy10, hy20⟩ := Go.Joins.open_agg3 Try.underlying25 (by kernel_rfl) (by kernel_rfl) (hval 0 25 v0 rfl rfl) h0
  obtain ⟨s00, e00, _, z00⟩ := DataW.trod_string Try.underlying9 hy00
  obtain ⟨s10, e10, _, z10⟩ := DataW.trod_string Try.underlying9 hy10
  obtain ⟨n0, e20, _, z20⟩ := DataW.trod_int Try.underlying3 hy20
  simp at e00 e10 e20
  subst e00 e10 e20
  clear hA0 hval0
  refine (walk s00 s10 n0 W z20).mono fun e W' ⟨he, bel⟩ => ?_
  subst he
  exact ⟨_, rfl, _, _, _, [], _, [], hW', trodAll_mk1 (shut_bool Try.underlying4 _), (trodAll_cons_mk (Below.trod laidOut (by kernel_rfl) (of_decide_eq_true (by kernel_rfl)) k0 bel lt0) trodAll_mk0), rfl, bel.frame _, fun h => by cases h⟩

theorem over : Rows.tableChecksRow.holds Try.pinned (OpenSpec.ofChange Rows.tableChecksSpec) :=
  OpenClaim.holds_of_wide 4 Try.f4 rfl rfl rfl rfl rfl rfl rfl ⟨rfl, rfl, rfl, rfl, rfl⟩ rfl rfl rfl rfl rfl (by kernel_rfl) Try.func4 (by kernel_rfl)
    (of_decide_eq_true (by kernel_rfl)) (by unfold Func.isWrapper; first | (rw [if_pos (by decide +kernel)]; kernel_rfl) | (rw [if_neg (by decide +kernel)]; exact ⟨rfl, rfl⟩))
    (fun os started H enc _ => lifted os started H enc)

end Go.Proofs.Ytdmchcdkfbijlaa.tableChecks
namespace Go.Proofs.Ytdmchcdkfbijlaa
theorem tableChecks_holds : Rows.TableChecksSaid := tableChecks.over
#print axioms tableChecks_holds
end Go.Proofs.Ytdmchcdkfbijlaa
