/-
  Proved: hawserlaw04.FrameNames answers true: the errors and the limit have their numbers, and an empty frame has these bytes. No condition (the card ties the table of package crc to the program's text).
-/
import Derived.Test.YtdgoncpebfkbdabDoorRows
import Derived.Test.YtdgoncpebfkbdabDoorCards
import Derived.Test.YtdgoncpebfkbdabDoorTie
import Derived.Test.YtdgoncpebfkbdabDoorFEn
import Derived.Test.YtdgoncpebfkbdabDoorFLw
import Derived.WalkKit
import Derived.ProofKit
import Derived.OpenShut
import Derived.ShutString
import Derived.ChangeOld
import Derived.Below
import Derived.Lib.SmallJoins
import Derived.JoinedCond
import Derived.Deep.DeepHandedRow
import Derived.Lib.LaidTab
namespace Go.Proofs.YtdgoncpebfkbdabDoor.frameNames
open Go.ChangeShapes Go.WideShapes Go.ChangeAt Go.RowKit
set_option linter.unusedVariables false

theorem own : ownKnob Tryd.prog.godebug = none := by kernel_rfl
theorem laidOut : laidOutB Tryd.prog = true := by kernel_rfl

set_option maxHeartbeats 2000000 in
theorem walk (w : World) (ht : Tab w) :
    Calls Tryd.prog 3 #[] w fun e w' => e = .returned (.bool true) ∧ Below w.heap.size w w' := by
  have HT : Hid (Tab w) := ht
  clear ht
  have HF : Hid (feb 1 [] = fenc 1 [] ∧ (fenc 1 []).length = 14 ∧ (fenc 1 []).take 6 = [72, 87, 1, 0, 0, 0] ∧ fee 1 0 = 0) := ⟨rfl, by rw [fenc_length]; rfl, rfl, rfl⟩
  have HSX : Hid (strOfNums [72, 87, 1, 0, 0, 0] = ⟨#[72, 87, 1, 0, 0, 0]⟩) := by show _ = _; decide
  go_enter Tryd.func3, Tryd.ntmps3
  go_wp2_with (first
    | (go_at_call 7; refine (num_c _ _).mono ?_; rintro e w6 ⟨rfl, rfl⟩)
    | (go_at_call 8; go_must (refine (encode_c 1 none 0 0 [] _ (fun _ => rfl) ⟨rfl, .inl rfl⟩ (fun i hi => by simp at hi) (by omega) (HT.out.below (by first | exact Below.refl _ _ | exact (Below.refl _ _).alloc (Nat.le_refl _) _))).mono ?_); rintro e w2 ⟨u, rfl, hu, hb2⟩; rw [HF.out.2.2.2]; rw [HF.out.1, HF.out.2.1] at hu; obtain ⟨g2, c2, rfl, hg2, hl2⟩ := hu.form (by omega); obtain ⟨a', c', he, hseg, _⟩ := hu.seg; cases he; have hs6 := hseg.take 6 (by omega); rw [HF.out.2.2.1] at hs6; have r1 := seg_string (P := Tryd.prog) 24 9 5 c2 hs6 Tryd.underlying24 Tryd.underlying5 Tryd.underlying9; rw [HSX.out] at r1; replace hb2 : Hid _ := hb2; clear hu hseg hs6))

  go_ret
  exact ⟨rfl, hb2.out⟩

theorem gTab : Tryd.prog.globalNamed "hawser/crc.halves" = some 0 := by kernel_rfl
theorem gTabType : (Tryd.prog.globals[0]?).map (·.type) = some 62 := by kernel_rfl
theorem cellsT : Tryd.prog.cellsOf 62 = 16 := by kernel_rfl
theorem cellsE : Tryd.prog.cellsOf 54 = 1 := by kernel_rfl
/-- What the row's list gives: the table's cells. -/
theorem table {W : World} (h : laidMetH Tryd.prog Rows.frameNamesRow.laid W) : Lib.TabIs Tryd.prog W "hawser/crc.halves" .u32 tabl :=
  Lib.tabIs_of_head (rest := []) gTab gTabType Tryd.underlying62 Tryd.underlying54 cellsE cellsT h
theorem tab_of {W : World} (h : laidMetH Tryd.prog Rows.frameNamesRow.laid W) : Tab W := fun i hi => (table h).cell gTab i (show i < tabl.length from hi)
theorem laid_met (os : Os) : laidMet Tryd.prog Rows.frameNamesRow.laid (({ World.holding Tryd.prog os ⟨#[], #[], []⟩ with heap := (World.holding Tryd.prog os ⟨#[], #[], []⟩).heap.modify 0 fun | .cells _ t frozen => .cells (tabl.map fun z => Value.int .u32 z).toArray t frozen | o => o } : World).forCall (fun _ _ => 0) ⟨#[], #[], []⟩).memory :=
  laidMet_of_run' 8 (by kernel_rfl) (by kernel_rfl)
theorem reads (os : Os) {H : Type} (enc : TypeId × Value → H) : ∃ places, DataW.whole enc Tryd.prog (({ World.holding Tryd.prog os ⟨#[], #[], []⟩ with heap := (World.holding Tryd.prog os ⟨#[], #[], []⟩).heap.modify 0 fun | .cells _ t frozen => .cells (tabl.map fun z => Value.int .u32 z).toArray t frozen | o => o } : World).forCall (fun _ _ => 0) ⟨#[], #[], []⟩).memory Tryd.f3.params.toList Rows.frameNamesSpec.vars false (#[] : Array Value).toList 8 = some ([], [], places) :=
  ⟨[], by kernel_rfl⟩

set_option maxRecDepth 100000 in
theorem lifted (os : Os) (started : os.Started) (H : Type) (enc : TypeId × Value → H) (F : Stop.Interp) :
    ReturnsInHanded {} Tryd.checked os 3 .any ((OpenSpec.ofChange Rows.frameNamesSpec).preRow enc Tryd.prog Tryd.f3 Rows.frameNamesRow.domain false Rows.frameNamesRow.laid) (((OpenSpec.ofChange Rows.frameNamesSpec).at F).post enc Tryd.prog Tryd.f3 false true false false) := by
  obtain ⟨places, hx⟩ := reads os enc
  refine returnsInHanded_of_row (C := Tryd.checked) (s := OpenSpec.ofChange Rows.frameNamesSpec) own started (by kernel_rfl) Tryd.func3
    (witness_row_at (enc := enc) (C := Tryd.checked) false ({ World.holding Tryd.prog os ⟨#[], #[], []⟩ with heap := (World.holding Tryd.prog os ⟨#[], #[], []⟩).heap.modify 0 fun | .cells _ t frozen => .cells (tabl.map fun z => Value.int .u32 z).toArray t frozen | o => o } : World) #[] rfl (by kernel_rfl) (by kernel_rfl) (by kernel_rfl)
      (OpenSpec.preRow_of_cond 8 hx (by kernel_rfl) (fun k hk => by cases hk) (by kernel_rfl) (laid_met os))) ?_
  intro W base args ds gs before hval0 hW _ hcond0 hsz0 hL _ _
  have hval : ∀ (j : Nat) t v, Tryd.f3.params[j]? = some t → args[j]? = some v → Value.okWide Tryd.prog W .any base t v := hval0
  have hW' := hW
  obtain ⟨p, q, hA0, hV, rfl, hfz, hnd⟩ := hW
  have hA : DataW.TrodAll enc Tryd.prog W 0 (fun _ => true) true Tryd.f3.params.toList args.toList ds p := hA0
  rw [Tryd.params3] at hA hval
  obtain ⟨hargs, rfl, rfl⟩ := trodAll_nil hA
  obtain rfl : args = #[] := by cases args; simp_all
  obtain ⟨rfl, rfl⟩ := trodVars_none hV
  clear hA0 hval0
  simp only [List.append_nil] at hW'
  refine (walk  W  (tab_of hL)).mono fun e W' ⟨he, bel⟩ => ?_
  subst he
  exact ⟨_, rfl, _, _, _, [], _, [], hW', trodAll_mk1 (shut_bool Tryd.underlying4 _), trodAll_mk0, rfl, bel.frame _, fun h => by cases h⟩

theorem over : Rows.frameNamesRow.holds Tryd.pinned (OpenSpec.ofChange Rows.frameNamesSpec) :=
  OpenClaim.holds_of_cond 3 Tryd.f3 rfl rfl rfl rfl rfl rfl rfl ⟨rfl, rfl, rfl, rfl, rfl⟩ rfl rfl rfl rfl rfl (by kernel_rfl) Tryd.func3 (by kernel_rfl)
    (of_decide_eq_true (by kernel_rfl)) (by unfold Func.isWrapper; first | (rw [if_pos (by decide +kernel)]; kernel_rfl) | (rw [if_neg (by decide +kernel)]; exact ⟨rfl, rfl⟩))
    (fun os started H enc _ F => by rw [OpenClaim.pre_eq_preRow]; exact lifted os started H enc F)

/-- No parameter wants a stand-in; the program's own looks are off. -/
theorem plain (f : FuncId) (fn : Func) (hf : Tryd.pinned.checked.prog.funcNamed "hawser/hawserlaw04.FrameNames" = some f) (hfn : Tryd.pinned.checked.prog.funcs[f]? = some fn) :
    false = Tryd.pinned.checked.prog.looks [] ∧ ∀ (j : Nat) t, fn.params[j]? = some t → Tryd.pinned.checked.prog.wantsStandIn t = false := by
  obtain rfl : f = 3 := Option.some.inj ((show Tryd.prog.funcNamed "hawser/hawserlaw04.FrameNames" = some 3 by kernel_rfl).symm.trans hf) |>.symm
  obtain rfl : fn = Tryd.f3 := (Option.some.inj (Tryd.func3.symm.trans hfn)).symm
  refine ⟨by kernel_rfl, fun j t ht => ?_⟩
  rw [Tryd.params3] at ht
  simp at ht
theorem card : Rows.FrameNamesCardSaid :=
  Claim7.holds_tied_plain_at .later [] _ _ _ _ over (fun _ h => by cases h) (by kernel_rfl) (fun _ h => by cases h) frameNames_row_tie rfl ⟨rfl, rfl⟩ (by kernel_rfl) rfl plain (by kernel_rfl)

end Go.Proofs.YtdgoncpebfkbdabDoor.frameNames
namespace Go.Proofs.YtdgoncpebfkbdabDoor
theorem frameNames_holds : Rows.FrameNamesCardSaid := frameNames.card
#print axioms frameNames_holds
end Go.Proofs.YtdgoncpebfkbdabDoor
