/-
  Of any number as a kind of message: Name and Between answer the document's name and ways; and of what is no kind an empty name and no way at all.
-/
import Derived.Test.YtokkhhekmebakaaDoorRows
import Derived.Test.YtokkhhekmebakaaDoorCards
import Derived.Test.YtokkhhekmebakaaDoorTie
import Derived.Test.YtokkhhekmebakaaDoorJTb
import Derived.Test.YtokkhhekmebakaaDoorJKd
import Derived.Test.YtokkhhekmebakaaDoorECo
import Derived.Test.YtokkhhekmebakaaDoorEBt
import Derived.WalkKit
import Derived.ProofKit
import Derived.OpenShut
import Derived.ShutString
import Derived.ChangeOld
import Derived.Below
import Derived.Lib.SmallJoins
import Derived.JoinedCond
import Derived.Deep.DeepHandedRow
import Derived.Lib.LaidTab
import Derived.ChangeSame
import Derived.HandedShaped
import Derived.LaidLaws
import Derived.Shelf.Vars
import Derived.Tactics2
import Derived.Deep.DeepMust
import Derived.Deep.Light
import Derived.Deep.MidRow
import Derived.Deep.WholeRow
import Derived.Laws.CopyOwn
namespace Go.Proofs.YtokkhhekmebakaaDoor.messageKinds
open Go.ChangeShapes Go.WideShapes Go.ChangeAt Go.RowKit
set_option linter.unusedVariables false

theorem own : ownKnob Tryd.prog.godebug = none := by kernel_rfl
theorem laidOut : laidOutB Tryd.prog = true := by kernel_rfl

theorem gb_below' {a b : World} (h : a.grownBy b none) : Below a.heap.size a b := ⟨h.os, h.tape, h.output, h.size, fun i hi => h.block i hi (fun e => by cases e)⟩
theorem way1 : ∀ k, k < 29 → (bits BinOp.and IntKind.i64 (twy k) 1 != 0) = has (ttx k) ⟨#[110, 62, 110]⟩ := by decide +kernel
theorem way2 : ∀ k, k < 29 → (bits BinOp.and IntKind.i64 (twy k) 120 != 0) = has (ttx k) ⟨#[109]⟩ := by decide +kernel
theorem way3 : ∀ k, k < 29 → (bits BinOp.and IntKind.i64 (twy k) 86 != 0) = has (ttx k) ⟨#[99]⟩ := by decide +kernel
set_option maxHeartbeats 1000000 in
theorem walk (k : Int) (W : World) (wk : (Lit.int .i64 k).wf = true) (HK : Knd W) (HM : Max W) : Calls Tryd.prog 3 #[.int .i64 k] W fun r w' => r = .returned (.bool true) ∧ Below W.heap.size W w' := by
  have HB : Hid _ := between_c k W HK HM
  have HN : Hid _ := name_c k W HK
  have HI : Hid _ := jkind_c k W
  cases hb : isK k
  · have n10 : nmK 10 = ⟨#[97, 99, 107]⟩ := by decide
    have HX : Hid (∀ w', W.grownBy w' none → Calls Tryd.prog 5 #[.int .i64 10] w' fun r w2 => r = .returned (.string ⟨#[97, 99, 107]⟩) ∧ w2 = w') := fun w' hg => by rw [← n10]; exact name_c 10 w' (HK.gb hg)
    have b1 : bt1 k = false := by unfold bt1 wyK; rw [hb, if_neg (by decide)]; decide
    have b2 : bt2 k = false := by unfold bt2 wyK; rw [hb, if_neg (by decide)]; decide
    have b3 : bt3 k = false := by unfold bt3 wyK; rw [hb, if_neg (by decide)]; decide
    have bn : nmK k = ⟨#[]⟩ := by unfold nmK; rw [hb]; rfl
    rw [b1, b2, b3] at HB
    rw [bn] at HN
    rw [hb] at HI
    clear b1 b2 b3 bn hb HK HM n10
    go_enter Tryd.func3, Tryd.ntmps3
    go_wp2_with (first
      | (go_at_call 4; go_must (refine (Calls.mono HB.out ?_)); rintro r wq ⟨rfl, hq⟩; obtain rfl := hq.symm; clear hq)
      | ((fail_if_success (have z := H1)); go_at_call 5; go_must (refine (Calls.mono HN.out ?_)); rintro r wq ⟨rfl, hq⟩; obtain rfl := hq.symm; clear hq)
      | (go_at_call 6; go_must (refine (Calls.mono HI.out ?_)); rintro r w1 ⟨rfl, hg⟩; have H1 : Hid (W.grownBy w1 none) := hg; clear hg)
      | (go_at_call 5; go_must (refine (Calls.mono (HX.out _ H1.out) ?_)); rintro r wq ⟨rfl, hq⟩; obtain rfl := hq.symm; clear hq))
    go_ret
    exact ⟨rfl, gb_below' H1.out⟩
  · obtain ⟨n, hn, rfl⟩ := kind_at k hb
    have bn : nmK n = tnm n := by unfold nmK; rw [if_pos hb]; rfl
    rw [bn] at HN
    rw [hb] at HI
    have HT : Hid (∀ w, Calls Tryd.prog 7 #[] w fun r w' => ∃ b d l, r = .returned (.slice (some ⟨b, 0, none⟩) 29 29) ∧ w'.cell? ⟨b, n * 3, none⟩ = some (.string (tnm n)) ∧ w'.cell? ⟨b, n * 3 + 1, none⟩ = some (.int .i64 (twy n)) ∧ w'.cell? ⟨b, n * 3 + 2, none⟩ = some (.slice d l l) ∧ w.grownBy w' none) := fun w => by
      refine (table_c w).mono ?_
      rintro r w' ⟨b, rfl, ht, hg⟩
      obtain ⟨c1, c2, v, c3, d, rfl, _⟩ := ht n hn
      rw [Nat.mul_comm] at c1 c2 c3
      exact ⟨b, d, _, rfl, c1, c2, c3, hg⟩
    obtain ⟨x, hx⟩ : ∃ x, x = tnm n := ⟨_, rfl⟩
    obtain ⟨y, hy⟩ : ∃ y, y = twy n := ⟨_, rfl⟩
    rw [← hx] at HN HT
    rw [← hy] at HT
    have bw : wyK n = ttx n := by unfold wyK; rw [if_pos hb]; rfl
    have f1 : (bits BinOp.and IntKind.i64 y 1 != 0) = bt1 n := by rw [hy]; unfold bt1; rw [bw]; exact way1 n hn
    have f2 : (bits BinOp.and IntKind.i64 y 120 != 0) = bt2 n := by rw [hy]; unfold bt2; rw [bw]; exact way2 n hn
    have f3 : (bits BinOp.and IntKind.i64 y 86 != 0) = bt3 n := by rw [hy]; unfold bt3; rw [bw]; exact way3 n hn
    clear bw
    replace hx : Hid _ := hx
    replace hy : Hid _ := hy
    clear HK HM bn
    go_enter Tryd.func3, Tryd.ntmps3
    go_wp2_with fail
    refine Calls.mono HB.out ?_
    rintro r wq ⟨rfl, hq⟩; obtain rfl := hq.symm; clear hq
    go_wp2_with fail
    refine Calls.mono HN.out ?_
    rintro r wq ⟨rfl, hq⟩; obtain rfl := hq.symm; clear hq
    go_wp2_with fail
    refine Calls.mono HI.out ?_
    rintro r w1 ⟨rfl, hg⟩; have H1 : Hid (W.grownBy w1 none) := hg; clear hg
    go_wp2_with fail
    refine Calls.mono (HT.out _) ?_
    rintro r w2 ⟨b, d, l, rfl, c1, c2, c3, hg⟩; have H2 : Hid (w1.grownBy w2 none) := hg; clear hg
    clear HB HN HI HT
    go_wp2_with (refine wpList_load_mid rfl 29 (.tmp 39) rfl b (n * 3) rfl [.string x, .int .i64 y, .slice d l l] _ (fun j u hj => by rcases j with _ | _ | _ | j <;> simp at hj <;> subst hj <;> assumption) Tryd.underlying29 rfl (by kernel_rfl) ?_)
    go_ret
    refine ⟨rfl, ?_⟩
    have h4 : Below W.heap.size W w2 := (gb_below' H1.out).trans ((gb_below' H2.out).mono H1.out.size)
    exact h4.alloc h4.size _

def prs : List (List UInt8 × List UInt8) := (List.range 29).map fun k => ((tnm k).data.toList, (ttx k).data.toList)
def prD : DataW Unit := .agg (prs.map fun q => .agg [.lit (.string q.1), .lit (.string q.2)])
theorem laid_eq : Rows.messageKindsRow.laid = [("hawser/message.kinds", prD)] := by kernel_rfl
theorem gKnd : Tryd.prog.globalNamed "hawser/message.kinds" = some 0 := by kernel_rfl
theorem gKndType : (Tryd.prog.globals[0]?).map (·.type) = some 35 := by kernel_rfl
theorem prs_at : ∀ k, k < 29 → prs.getD k ([], []) = ((tnm k).data.toList, (ttx k).data.toList) := fun k hk => by
  unfold prs
  simp [List.getD, hk]
/-- What the row's list gives: the list of kinds. -/
theorem knd_of {W : World} (h : laidMetH Tryd.prog Rows.messageKindsRow.laid W) : Knd W := by
  have hh : laidMet Tryd.prog [("hawser/message.kinds", prD)] W := laid_eq ▸ (show laidMet Tryd.prog Rows.messageKindsRow.laid W from h)
  obtain ⟨ps, ⟨g', t', cs, fuel, p, q, hg', ht', hvar, hd, _, _⟩, _⟩ := hh
  obtain rfl := Option.some.inj (gKnd.symm.trans hg')
  obtain rfl := Option.some.inj (gKndType.symm.trans ht')
  intro k hk
  have hp := pairs_of Tryd.underlying35 Tryd.underlying34 Tryd.underlying9 Tryd.underlying9 (by kernel_rfl) (by kernel_rfl) rfl rfl (by kernel_rfl) hd k (show k < 29 from hk)
  rw [prs_at k hk] at hp
  have c0 := World.var?_cell gKnd hvar (2 * k)
  have c1 := World.var?_cell gKnd hvar (2 * k + 1)
  rw [Array.getElem?_toList, Array.getElem?_toList] at hp
  exact ⟨c0.trans hp.1, c1.trans hp.2⟩
theorem max_of {W : World} (h : W.ShapedOpen Tryd.prog) : Max W :=
  cell_of_shapedOpen_int (P := Tryd.prog) (g := 1) (t := 3) (zero := #[.int .i64 0]) h (of_decide_eq_true (by kernel_rfl)) (by kernel_rfl) rfl (by kernel_rfl) (by kernel_rfl) Tryd.underlying3
theorem laid_met (os : Os) : laidMet Tryd.prog Rows.messageKindsRow.laid (({ World.holding Tryd.prog os ⟨#[], #[], []⟩ with heap := (World.holding Tryd.prog os ⟨#[], #[], []⟩).heap.modify 0 fun | .cells _ t frozen => .cells ((List.range 29).flatMap fun k => [Value.string (tnm k), Value.string (ttx k)]).toArray t frozen | o => o } : World).forCall (fun _ _ => 0) ⟨#[], #[.int .i64 0], []⟩).memory :=
  laidMet_of_run' 8 (by kernel_rfl) (by kernel_rfl)
theorem reads (os : Os) {H : Type} (enc : TypeId × Value → H) : ∃ places, DataW.whole enc Tryd.prog (({ World.holding Tryd.prog os ⟨#[], #[], []⟩ with heap := (World.holding Tryd.prog os ⟨#[], #[], []⟩).heap.modify 0 fun | .cells _ t frozen => .cells ((List.range 29).flatMap fun k => [Value.string (tnm k), Value.string (ttx k)]).toArray t frozen | o => o } : World).forCall (fun _ _ => 0) ⟨#[], #[.int .i64 0], []⟩).memory Tryd.f3.params.toList Rows.messageKindsSpec.vars false (#[.int .i64 0] : Array Value).toList 8 = some ([.lit (.int .i64 0)], [], places) :=
  ⟨[], by kernel_rfl⟩

set_option maxRecDepth 100000 in
theorem lifted (os : Os) (started : os.Started) (H : Type) (enc : TypeId × Value → H) (F : Stop.Interp) :
    ReturnsInHanded {} Tryd.checked os 3 .any ((OpenSpec.ofChange Rows.messageKindsSpec).preRow enc Tryd.prog Tryd.f3 Rows.messageKindsRow.domain false Rows.messageKindsRow.laid) (((OpenSpec.ofChange Rows.messageKindsSpec).at F).post enc Tryd.prog Tryd.f3 false true false false) := by
  obtain ⟨places, hx⟩ := reads os enc
  refine returnsInHanded_of_row (C := Tryd.checked) (s := OpenSpec.ofChange Rows.messageKindsSpec) own started (by kernel_rfl) Tryd.func3
    (witness_row_at (enc := enc) (C := Tryd.checked) false ({ World.holding Tryd.prog os ⟨#[], #[], []⟩ with heap := (World.holding Tryd.prog os ⟨#[], #[], []⟩).heap.modify 0 fun | .cells _ t frozen => .cells ((List.range 29).flatMap fun k => [Value.string (tnm k), Value.string (ttx k)]).toArray t frozen | o => o } : World) #[.int .i64 0] rfl (by kernel_rfl) (by kernel_rfl) (by kernel_rfl)
      (OpenSpec.preRow_of_cond 8 hx (by kernel_rfl) (fun k hk => by cases hk) (by kernel_rfl) (laid_met os))) ?_
  intro W base args ds gs before hval0 hW _ hcond0 hsz0 hL hs1 hs2
  have hval : ∀ (j : Nat) t v, Tryd.f3.params[j]? = some t → args[j]? = some v → Value.okWide Tryd.prog W .any base t v := hval0
  have hW' := hW
  obtain ⟨p, q, hA0, hV, rfl, hfz, hnd⟩ := hW
  have hA : DataW.TrodAll enc Tryd.prog W 0 (fun _ => true) true Tryd.f3.params.toList args.toList ds p := hA0
  rw [Tryd.params3] at hA hval
  obtain ⟨v0, vs0, d0, ds0, p0, q0, hargs, rfl, rfl, h0, r0⟩ := trodAll_cons hA
  obtain ⟨rfl, rfl, rfl⟩ := trodAll_nil r0
  obtain rfl : args = #[v0] := by cases args; simp_all
  obtain ⟨rfl, rfl⟩ := trodVars_none hV
  obtain ⟨a0, rfl, rfl, rfl, w0⟩ := open_int Tryd.underlying3 (hval 0 3 v0 rfl rfl) h0
  clear hA0 hval0
  simp only [List.append_nil] at hW'
  refine (walk a0 W w0 (knd_of hL) (max_of hs1)).mono fun e W' ⟨he, bel⟩ => ?_
  subst he
  exact ⟨_, rfl, _, _, _, [], _, [], hW', trodAll_mk1 (shut_bool Tryd.underlying4 _), (trodAll_cons_mk (shut_int Tryd.underlying3 w0) trodAll_mk0), rfl, bel.frame _, fun h => by cases h⟩

theorem over : Rows.messageKindsRow.holds Tryd.pinned (OpenSpec.ofChange Rows.messageKindsSpec) :=
  OpenClaim.holds_of_cond 3 Tryd.f3 rfl rfl rfl rfl rfl rfl rfl ⟨rfl, rfl, rfl, rfl, rfl⟩ rfl rfl rfl rfl rfl (by kernel_rfl) Tryd.func3 (by kernel_rfl)
    (of_decide_eq_true (by kernel_rfl)) (by unfold Func.isWrapper; first | (rw [if_pos (by decide +kernel)]; kernel_rfl) | (rw [if_neg (by decide +kernel)]; exact ⟨rfl, rfl⟩))
    (fun os started H enc _ F => by rw [OpenClaim.pre_eq_preRow]; exact lifted os started H enc F)

/-- No parameter wants a stand-in; the program's own looks are off. -/
theorem plain (f : FuncId) (fn : Func) (hf : Tryd.pinned.checked.prog.funcNamed "hawser/hawserlaw15.MessageKinds" = some f) (hfn : Tryd.pinned.checked.prog.funcs[f]? = some fn) :
    false = Tryd.pinned.checked.prog.looks [] ∧ ∀ (j : Nat) t, fn.params[j]? = some t → Tryd.pinned.checked.prog.wantsStandIn t = false := by
  obtain rfl : f = 3 := Option.some.inj ((show Tryd.prog.funcNamed "hawser/hawserlaw15.MessageKinds" = some 3 by kernel_rfl).symm.trans hf) |>.symm
  obtain rfl : fn = Tryd.f3 := (Option.some.inj (Tryd.func3.symm.trans hfn)).symm
  refine ⟨by kernel_rfl, fun j t ht => ?_⟩
  rw [Tryd.params3] at ht
  have hm : t ∈ [3] := by simpa using Array.mem_of_getElem? ht
  have hall : (([3] : List TypeId).all fun u => !Tryd.prog.wantsStandIn u) = true := by kernel_rfl
  exact (show Tryd.prog.wantsStandIn t = false by simpa using List.all_eq_true.1 hall t hm)
theorem card : Rows.MessageKindsCardSaid :=
  Claim7.holds_tied_plain_at .later [] _ _ _ _ over (fun _ h => by cases h) (by kernel_rfl) (fun _ h => by cases h) messageKinds_row_tie rfl ⟨rfl, rfl⟩ (by kernel_rfl) rfl plain (by kernel_rfl)

end Go.Proofs.YtokkhhekmebakaaDoor.messageKinds
namespace Go.Proofs.YtokkhhekmebakaaDoor
theorem messageKinds_holds : Rows.MessageKindsCardSaid := messageKinds.card
#print axioms messageKinds_holds
end Go.Proofs.YtokkhhekmebakaaDoor
