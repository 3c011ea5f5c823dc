/-
  The errors', kinds' and addresses' numbers are the document's, and so are all names of kinds; and one small message has the document's bytes.
-/
import Derived.Test.YtokkhhekmebakaaGreatDoorRows
import Derived.Test.YtokkhhekmebakaaGreatDoorCards
import Derived.Test.YtokkhhekmebakaaGreatDoorTie
import Derived.Test.YtokkhhekmebakaaGreatDoorCrA
import Derived.Test.YtokkhhekmebakaaGreatDoorJTb
import Derived.Test.YtokkhhekmebakaaGreatDoorJKd
import Derived.Test.YtokkhhekmebakaaGreatDoorECo
import Derived.Test.YtokkhhekmebakaaGreatDoorELv
import Derived.WalkKit
import Derived.ProofKit
import Derived.OpenShut
import Derived.ShutString
import Derived.ChangeOld
import Derived.Below
import Derived.Lib.SmallJoins
import Derived.JoinedCond
import Derived.Deep.DeepHandedRow
import Derived.Lib.LaidTab
import Derived.ChangeSame
import Derived.HandedShaped
import Derived.LaidLaws
import Derived.Shelf.Vars
import Derived.Tactics2
import Derived.Deep.DeepMust
import Derived.Deep.Light
import Derived.Deep.MidRow
import Derived.Deep.WholeRow
import Derived.Laws.CopyOwn
import Derived.Deep.QuietTactic
import Derived.BigQuiet
namespace Go.Proofs.YtokkhhekmebakaaGreatDoor.messageNames
open Go.ChangeShapes Go.WideShapes Go.ChangeAt Go.RowKit
set_option linter.unusedVariables false

theorem own : ownKnob Tryz.prog.godebug = none := by kernel_rfl
theorem laidOut : laidOutB Tryz.prog = true := by kernel_rfl

set_option maxHeartbeats 1000000 in
theorem walk (W : World) (HK : Knd W) (HT : Cr.Tab W) (HM : Max W) : Calls Tryz.prog 3 #[] W fun r w' => r = .returned (.bool true) ∧ Below W.heap.size W w' := by
  have HTb : Hid (∀ w, _) := fun w => table_c w
  have H0 : Hid (Knd W ∧ Cr.Tab W ∧ Max W) := ⟨HK, HT, HM⟩
  clear HK HT HM
  go_enter Tryz.func3, Tryz.ntmps3
  go_wp2_with (go_at_call 8; go_must (refine (Calls.mono (HTb.out _) ?_)); rintro r w1 ⟨b, rfl, ht, hg⟩; have H1 : Hid (Tb w1 b ∧ W.grownBy w1 none) := ⟨ht, hg⟩; clear ht hg)
  go_loopw [2] (fun i wr => ∃ k : Nat, 1 ≤ k ∧ k ≤ 29 ∧ i = .int .i64 (k : Int) ∧ Hid (Tb wr b ∧ W.grownBy wr none)) (fun i _ => 29 - (intOf i).toNat)
  case atStart => exact ⟨1, Nat.le_refl _, by omega, rfl, H1⟩
  case round =>
    obtain ⟨k, hk1, hk2, rfl, hr⟩ := hrel
    by_cases hlt : k < 29
    · have hi1 : (k : Int) < 29 := by omega
      have hn : nmK k = tnm k := by unfold nmK; rw [if_pos (by simp [isK]; omega)]; rfl
      have c1 : wr.cell? ⟨b, k * 3, none⟩ = some (.string (tnm k)) := by have := (hr.out.1 k hlt).1; rw [Nat.mul_comm] at this; exact this
      have hgd : ∀ n, wr.grownBy (wr.drewN n) none := fun n => gb_drewN ⟨rfl, rfl, rfl, Nat.le_refl _, fun _ _ _ => rfl⟩ n
      have HN : Hid (∀ n, Calls Tryz.prog 9 #[.int .i64 (k : Int)] (wr.drewN n) fun e w' => e = .returned (.string (tnm k)) ∧ w' = wr.drewN n) := fun n => by
        rw [← hn]
        exact name_c k (wr.drewN n) ((H0.out.1.gb hr.out.2).gb (hgd n))
      have HR : Hid (∀ n, Tb (wr.drewN n) b ∧ W.grownBy (wr.drewN n) none) := fun n => ⟨fun j hj => hr.out.1 j hj, gb_trans hr.out.2 (hgd n)⟩
      have hw3 : wrap64 ((k : Int) + 1) = ((k + 1 : Nat) : Int) := by rw [IntWalk.wrap64_in _ ⟨by omega, by omega⟩]; omega
      generalize tnm k = x at *
      clear hn hgd hr
      go_wp2_with fail
      go_quiet (first
        | (go_at_call 9; refine Calls.quiet_of_same (HN.out _)))
      go_wp2
      exact ⟨⟨k + 1, by omega, by omega, by rw [show ((k : Int) + 1) = ((k + 1 : Nat) : Int) by omega], HR.out _⟩, by simp only [intOf]; omega⟩
    · obtain rfl : k = 29 := by omega
      have hi1 : ¬ ((29 : Nat) : Int) < 29 := by omega
      have HL : Hid _ := lives_c wr (H0.out.1.gb hr.out.2) (H0.out.2.2.gb hr.out.2) (H0.out.2.1.gb hr.out.2)
      go_wp2_with (go_at_call 10; go_must (refine (Calls.mono HL.out ?_)); rintro r w5 ⟨rfl, h5⟩; have H5 : Hid (Below W.heap.size W w5) := (gb_belowE hr.out.2).trans (h5.mono hr.out.2.size); clear h5)
      go_ret
      exact ⟨rfl, H5.out⟩

def prs : List (List UInt8 × List UInt8) := (List.range 29).map fun k => ((tnm k).data.toList, (ttx k).data.toList)
def prD : DataW Unit := .agg (prs.map fun q => .agg [.lit (.string q.1), .lit (.string q.2)])
theorem laid_eq : Rows.messageNamesRow.laid = [("hawser/crc.halves", Lib.tabData .u32 Cr.tabl), ("hawser/message.kinds", prD)] := by kernel_rfl
theorem gKnd : Tryz.prog.globalNamed "hawser/message.kinds" = some 0 := by kernel_rfl
theorem gKndType : (Tryz.prog.globals[0]?).map (·.type) = some 73 := by kernel_rfl
theorem prs_at : ∀ k, k < 29 → prs.getD k ([], []) = ((tnm k).data.toList, (ttx k).data.toList) := fun k hk => by
  unfold prs
  simp [List.getD, hk]
/-- What the row's list gives: the list of kinds. -/
theorem knd_of {W : World} (h : laidMetH Tryz.prog Rows.messageNamesRow.laid W) : Knd W := by
  have hh : laidMet Tryz.prog [("hawser/crc.halves", Lib.tabData .u32 Cr.tabl), ("hawser/message.kinds", prD)] W := laid_eq ▸ (show laidMet Tryz.prog Rows.messageNamesRow.laid W from h)
  obtain ⟨ps, ⟨_, _, _, _, _, _, _, _, _, _, ⟨g', t', cs, fuel, p, q, hg', ht', hvar, hd, _, _⟩, _⟩, _⟩ := hh
  obtain rfl := Option.some.inj (gKnd.symm.trans hg')
  obtain rfl := Option.some.inj (gKndType.symm.trans ht')
  intro k hk
  have hp := pairs_of Tryz.underlying73 Tryz.underlying72 Tryz.underlying9 Tryz.underlying9 (by kernel_rfl) (by kernel_rfl) rfl rfl (by kernel_rfl) hd k (show k < 29 from hk)
  rw [prs_at k hk] at hp
  have c0 := World.var?_cell gKnd hvar (2 * k)
  have c1 := World.var?_cell gKnd hvar (2 * k + 1)
  rw [Array.getElem?_toList, Array.getElem?_toList] at hp
  exact ⟨c0.trans hp.1, c1.trans hp.2⟩
theorem gTab : Tryz.prog.globalNamed "hawser/crc.halves" = some 1 := by kernel_rfl
theorem gTabType : (Tryz.prog.globals[1]?).map (·.type) = some 225 := by kernel_rfl
theorem cellsT : Tryz.prog.cellsOf 225 = 16 := by kernel_rfl
theorem cellsE : Tryz.prog.cellsOf 180 = 1 := by kernel_rfl
theorem table {W : World} (h : laidMetH Tryz.prog Rows.messageNamesRow.laid W) : Lib.TabIs Tryz.prog W "hawser/crc.halves" .u32 Cr.tabl :=
  Lib.tabIs_of_head gTab gTabType Tryz.underlying225 Tryz.underlying180 cellsE cellsT ((laid_eq ▸ (show laidMet Tryz.prog Rows.messageNamesRow.laid W from h)) : laidMet Tryz.prog [("hawser/crc.halves", Lib.tabData .u32 Cr.tabl), ("hawser/message.kinds", prD)] W)
theorem tab_of {W : World} (h : laidMetH Tryz.prog Rows.messageNamesRow.laid W) : Cr.Tab W := fun i hi => (table h).cell gTab i (show i < Cr.tabl.length from hi)
theorem max_of {W : World} (h : W.ShapedOpen Tryz.prog) : Max W :=
  cell_of_shapedOpen_int (P := Tryz.prog) (g := 2) (t := 3) (zero := #[.int .i64 0]) h (of_decide_eq_true (by kernel_rfl)) (by kernel_rfl) rfl (by kernel_rfl) (by kernel_rfl) Tryz.underlying3
theorem laid_met (os : Os) : laidMet Tryz.prog Rows.messageNamesRow.laid (({ World.holding Tryz.prog os ⟨#[], #[], []⟩ with heap := ((World.holding Tryz.prog os ⟨#[], #[], []⟩).heap.modify 0 fun | .cells _ t frozen => .cells ((List.range 29).flatMap fun k => [Value.string (tnm k), Value.string (ttx k)]).toArray t frozen | o => o).modify 1 fun | .cells _ t frozen => .cells (Cr.tabl.map fun z => Value.int .u32 z).toArray t frozen | o => o } : World).forCall (fun _ _ => 0) ⟨#[], #[], []⟩).memory :=
  laidMet_of_run' 8 (by kernel_rfl) (by kernel_rfl)
theorem reads (os : Os) {H : Type} (enc : TypeId × Value → H) : ∃ places, DataW.whole enc Tryz.prog (({ World.holding Tryz.prog os ⟨#[], #[], []⟩ with heap := ((World.holding Tryz.prog os ⟨#[], #[], []⟩).heap.modify 0 fun | .cells _ t frozen => .cells ((List.range 29).flatMap fun k => [Value.string (tnm k), Value.string (ttx k)]).toArray t frozen | o => o).modify 1 fun | .cells _ t frozen => .cells (Cr.tabl.map fun z => Value.int .u32 z).toArray t frozen | o => o } : World).forCall (fun _ _ => 0) ⟨#[], #[], []⟩).memory Tryz.f3.params.toList Rows.messageNamesSpec.vars false (#[] : Array Value).toList 8 = some ([], [], places) :=
  ⟨[], by kernel_rfl⟩

set_option maxRecDepth 100000 in
theorem lifted (os : Os) (started : os.Started) (H : Type) (enc : TypeId × Value → H) (F : Stop.Interp) :
    ReturnsInHanded {} Tryz.checked os 3 .any ((OpenSpec.ofChange Rows.messageNamesSpec).preRow enc Tryz.prog Tryz.f3 Rows.messageNamesRow.domain false Rows.messageNamesRow.laid) (((OpenSpec.ofChange Rows.messageNamesSpec).at F).post enc Tryz.prog Tryz.f3 false true false false) := by
  obtain ⟨places, hx⟩ := reads os enc
  refine returnsInHanded_of_row (C := Tryz.checked) (s := OpenSpec.ofChange Rows.messageNamesSpec) own started (by kernel_rfl) Tryz.func3
    (witness_row_at (enc := enc) (C := Tryz.checked) false ({ World.holding Tryz.prog os ⟨#[], #[], []⟩ with heap := ((World.holding Tryz.prog os ⟨#[], #[], []⟩).heap.modify 0 fun | .cells _ t frozen => .cells ((List.range 29).flatMap fun k => [Value.string (tnm k), Value.string (ttx k)]).toArray t frozen | o => o).modify 1 fun | .cells _ t frozen => .cells (Cr.tabl.map fun z => Value.int .u32 z).toArray t frozen | o => o } : World) #[] rfl (by kernel_rfl) (by kernel_rfl) (by kernel_rfl)
      (OpenSpec.preRow_of_cond 8 hx (by kernel_rfl) (fun k hk => by cases hk) (by kernel_rfl) (laid_met os))) ?_
  intro W base args ds gs before hval0 hW _ hcond0 hsz0 hL hs1 hs2
  have hval : ∀ (j : Nat) t v, Tryz.f3.params[j]? = some t → args[j]? = some v → Value.okWide Tryz.prog W .any base t v := hval0
  have hW' := hW
  obtain ⟨p, q, hA0, hV, rfl, hfz, hnd⟩ := hW
  have hA : DataW.TrodAll enc Tryz.prog W 0 (fun _ => true) true Tryz.f3.params.toList args.toList ds p := hA0
  rw [Tryz.params3] at hA hval
  obtain ⟨hargs, rfl, rfl⟩ := trodAll_nil hA
  obtain rfl : args = #[] := by cases args; simp_all
  obtain ⟨rfl, rfl⟩ := trodVars_none hV
  clear hA0 hval0
  simp only [List.append_nil] at hW'
  refine (walk  W  (knd_of hL) (tab_of hL) (max_of hs1)).mono fun e W' ⟨he, bel⟩ => ?_
  subst he
  exact ⟨_, rfl, _, _, _, [], _, [], hW', trodAll_mk1 (shut_bool Tryz.underlying4 _), trodAll_mk0, rfl, bel.frame _, fun h => by cases h⟩

theorem over : Rows.messageNamesRow.holds Tryz.pinned (OpenSpec.ofChange Rows.messageNamesSpec) :=
  OpenClaim.holds_of_cond 3 Tryz.f3 rfl rfl rfl rfl rfl rfl rfl ⟨rfl, rfl, rfl, rfl, rfl⟩ rfl rfl rfl rfl rfl (by kernel_rfl) Tryz.func3 (by kernel_rfl)
    (of_decide_eq_true (by kernel_rfl)) (by unfold Func.isWrapper; first | (rw [if_pos (by decide +kernel)]; kernel_rfl) | (rw [if_neg (by decide +kernel)]; exact ⟨rfl, rfl⟩))
    (fun os started H enc _ F => by rw [OpenClaim.pre_eq_preRow]; exact lifted os started H enc F)

/-- No parameter wants a stand-in; the program's own looks are off. -/
theorem plain (f : FuncId) (fn : Func) (hf : Tryz.pinned.checked.prog.funcNamed "hawser/hawserlaw15.MessageNames" = some f) (hfn : Tryz.pinned.checked.prog.funcs[f]? = some fn) :
    false = Tryz.pinned.checked.prog.looks [] ∧ ∀ (j : Nat) t, fn.params[j]? = some t → Tryz.pinned.checked.prog.wantsStandIn t = false := by
  obtain rfl : f = 3 := Option.some.inj ((show Tryz.prog.funcNamed "hawser/hawserlaw15.MessageNames" = some 3 by kernel_rfl).symm.trans hf) |>.symm
  obtain rfl : fn = Tryz.f3 := (Option.some.inj (Tryz.func3.symm.trans hfn)).symm
  refine ⟨by kernel_rfl, fun j t ht => ?_⟩
  rw [Tryz.params3] at ht
  simp at ht
theorem card : Rows.MessageNamesCardSaid :=
  Claim7.holds_tied_plain_at .later [] _ _ _ _ over (fun _ h => by cases h) (by kernel_rfl) (fun _ h => by cases h) messageNames_row_tie rfl ⟨rfl, rfl⟩ (by kernel_rfl) rfl plain (by kernel_rfl)

end Go.Proofs.YtokkhhekmebakaaGreatDoor.messageNames
namespace Go.Proofs.YtokkhhekmebakaaGreatDoor
theorem messageNames_holds : Rows.MessageNamesCardSaid := messageNames.card
#print axioms messageNames_holds
end Go.Proofs.YtokkhhekmebakaaGreatDoor
