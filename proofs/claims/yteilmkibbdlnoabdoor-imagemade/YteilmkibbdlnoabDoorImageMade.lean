/-
  Proved: for all bytes, hawserlaw09.ImageMade answers true: an opener that no call made reads nothing, and answers ErrMade. No condition (the card ties the table of package crc to the program's text).
-/
import Derived.Test.YteilmkibbdlnoabDoorRows
import Derived.Test.YteilmkibbdlnoabDoorCards
import Derived.Test.YteilmkibbdlnoabDoorTie
import Derived.Test.YteilmkibbdlnoabDoorIMd
import Derived.Test.YteilmkibbdlnoabDoorTab
import Derived.WalkKit
import Derived.ProofKit
import Derived.OpenShut
import Derived.ShutString
import Derived.ChangeOld
import Derived.Below
import Derived.Lib.SmallJoins
import Derived.JoinedCond
import Derived.Deep.DeepHandedRow
import Derived.Lib.LaidTab
namespace Go.Proofs.YteilmkibbdlnoabDoor.imageMade
open Go.ChangeShapes Go.WideShapes Go.ChangeAt Go.RowKit
set_option linter.unusedVariables false

theorem own : ownKnob Tryd.prog.godebug = none := by kernel_rfl
theorem laidOut : laidOutB Tryd.prog = true := by kernel_rfl

/-- What the walk is told of a slice of integers that came in. -/
def IsRow (k : IntKind) (R : Nat) (w : World) (a : Option Addr) (len cap : Nat) (zs : List Int) : Prop :=
  (a = none ∧ len = 0 ∧ cap = 0 ∧ zs = []) ∨
  ∃ x, a = some x ∧ len ≤ cap ∧ cap ≤ R ∧ zs.length = cap ∧ (∀ i, i < zs.length → w.cell? (x.add i) = some (.int k (zs.getD i 0))) ∧ ∀ n ∈ zs, (Lit.int k n).wf = true

set_option maxRecDepth 20000 in
set_option maxHeartbeats 2000000 in
theorem walk (a : Option Addr) (len cap : Nat) (zs : List Int) (w : World) (x0 : IsRow .u8 maxLen w a len cap zs) (ht : Tab w) :
    Calls Tryd.prog 6 #[.slice a len cap] w fun e w' => e = .returned (.bool true) ∧ Below w.heap.size w w' := by
  clear ht x0
  obtain ⟨N, hN⟩ : ∃ N, N = w.heap.size := ⟨_, rfl⟩
  have HNW : Hid (N = w.heap.size) := hN
  go_enter Tryd.func6, Tryd.ntmps6
  go_wp2_with fail
  rw [← hN]
  generalize hW1 : World.alloc w _ = W1
  have H1 : Hid (Unmade W1 (.pointer (some ⟨N, 0, none⟩)) ∧ Below w.heap.size w W1) := by
    rw [← hW1, hN]
    refine ⟨.inr ⟨_, rfl, ?_⟩, (Below.refl _ _).alloc (Nat.le_refl _) _⟩
    rw [World.cell?_alloc_new]; kernel_rfl
  clear hW1 hN
  have HW : Hid (∀ p W, Unmade W p → Calls Tryd.prog 16 #[p, .slice a len cap] W fun r w' => r = .returned (.tuple #[.slice none 0 0, .int .i64 2]) ∧ Below W.heap.size W w') := fun p W h => write_no p a len cap W h
  have HE : Hid (∀ p W, Unmade W p → Calls Tryd.prog 17 #[p] W fun r w' => r = .returned (.tuple #[.int .i64 0, .int .i64 2]) ∧ w' = W) := fun p W h => iend_no p W h
  go_wp2_with (first
    | ((fail_if_success (have z := H2)); go_at_call 16; go_must (refine (Calls.mono (HW.out _ _ (.inl rfl)) ?_)); rintro r w2 ⟨rfl, h⟩; have H2 : Hid (Unmade w2 (.pointer (some ⟨N, 0, none⟩)) ∧ Below w.heap.size w w2) := ⟨H1.out.1.below h, H1.out.2.trans (h.mono H1.out.2.size)⟩; clear h)
    | ((fail_if_success (have z := H3)); have z := H2; clear z; go_at_call 16; go_must (refine (Calls.mono (HW.out _ _ H2.out.1) ?_)); rintro r w3 ⟨rfl, h⟩; have H3 : Hid (Unmade w3 (.pointer (some ⟨N, 0, none⟩)) ∧ Below w.heap.size w w3) := ⟨H2.out.1.below h, H2.out.2.trans (h.mono H2.out.2.size)⟩; clear h)
    | ((fail_if_success (have z := H4)); have z := H3; clear z; go_at_call 17; go_must (refine (Calls.mono (HE.out _ _ (.inl rfl)) ?_)); rintro r wq ⟨rfl, hq⟩; obtain rfl := hq.symm; have H4 : Hid True := trivial)
    | ((fail_if_success (have z := H5)); have z := H4; clear z; go_at_call 17; go_must (refine (Calls.mono (HE.out _ _ H3.out.1) ?_)); rintro r wq ⟨rfl, hq⟩; obtain rfl := hq.symm; have H5 : Hid True := trivial))
  go_ret
  exact ⟨rfl, H3.out.2⟩

theorem gTab : Tryd.prog.globalNamed "hawser/crc.halves" = some 0 := by kernel_rfl
theorem gTabType : (Tryd.prog.globals[0]?).map (·.type) = some 106 := by kernel_rfl
theorem cellsT : Tryd.prog.cellsOf 106 = 16 := by kernel_rfl
theorem cellsE : Tryd.prog.cellsOf 35 = 1 := by kernel_rfl
/-- What the row's list gives: the table's cells. -/
theorem table {W : World} (h : laidMetH Tryd.prog Rows.imageMadeRow.laid W) : Lib.TabIs Tryd.prog W "hawser/crc.halves" .u32 tabl :=
  Lib.tabIs_of_head (rest := []) gTab gTabType Tryd.underlying106 Tryd.underlying35 cellsE cellsT h
theorem tab_of {W : World} (h : laidMetH Tryd.prog Rows.imageMadeRow.laid W) : Tab W := fun i hi => (table h).cell gTab i (show i < tabl.length from hi)
theorem laid_met (os : Os) : laidMet Tryd.prog Rows.imageMadeRow.laid (({ World.holding Tryd.prog os ⟨#[], #[], []⟩ with heap := (World.holding Tryd.prog os ⟨#[], #[], []⟩).heap.modify 0 fun | .cells _ t frozen => .cells (tabl.map fun z => Value.int .u32 z).toArray t frozen | o => o } : World).forCall (fun _ _ => 0) ⟨#[], #[.slice none 0 0], []⟩).memory :=
  laidMet_of_run' 8 (by kernel_rfl) (by kernel_rfl)
theorem reads (os : Os) {H : Type} (enc : TypeId × Value → H) : ∃ places, DataW.whole enc Tryd.prog (({ World.holding Tryd.prog os ⟨#[], #[], []⟩ with heap := (World.holding Tryd.prog os ⟨#[], #[], []⟩).heap.modify 0 fun | .cells _ t frozen => .cells (tabl.map fun z => Value.int .u32 z).toArray t frozen | o => o } : World).forCall (fun _ _ => 0) ⟨#[], #[.slice none 0 0], []⟩).memory Tryd.f6.params.toList Rows.imageMadeSpec.vars false (#[.slice none 0 0] : Array Value).toList 8 = some ([.nil], [], places) :=
  ⟨[], by kernel_rfl⟩

set_option maxRecDepth 100000 in
theorem lifted (os : Os) (started : os.Started) (H : Type) (enc : TypeId × Value → H) (F : Stop.Interp) :
    ReturnsInHanded {} Tryd.checked os 6 .any ((OpenSpec.ofChange Rows.imageMadeSpec).preRow enc Tryd.prog Tryd.f6 Rows.imageMadeRow.domain false Rows.imageMadeRow.laid) (((OpenSpec.ofChange Rows.imageMadeSpec).at F).post enc Tryd.prog Tryd.f6 false true false false) := by
  obtain ⟨places, hx⟩ := reads os enc
  refine returnsInHanded_of_row (C := Tryd.checked) (s := OpenSpec.ofChange Rows.imageMadeSpec) own started (by kernel_rfl) Tryd.func6
    (witness_row_at (enc := enc) (C := Tryd.checked) false ({ World.holding Tryd.prog os ⟨#[], #[], []⟩ with heap := (World.holding Tryd.prog os ⟨#[], #[], []⟩).heap.modify 0 fun | .cells _ t frozen => .cells (tabl.map fun z => Value.int .u32 z).toArray t frozen | o => o } : World) #[.slice none 0 0] rfl (by kernel_rfl) (by kernel_rfl) (by kernel_rfl)
      (OpenSpec.preRow_of_cond 8 hx (by kernel_rfl) (fun k hk => by cases hk) (by kernel_rfl) (laid_met os))) ?_
  intro W base args ds gs before hval0 hW _ hcond0 hsz0 hL _ _
  have hval : ∀ (j : Nat) t v, Tryd.f6.params[j]? = some t → args[j]? = some v → Value.okWide Tryd.prog W .any base t v := hval0
  have hW' := hW
  obtain ⟨p, q, hA0, hV, rfl, hfz, hnd⟩ := hW
  have hA : DataW.TrodAll enc Tryd.prog W 0 (fun _ => true) true Tryd.f6.params.toList args.toList ds p := hA0
  rw [Tryd.params6] at hA hval
  obtain ⟨v0, vs0, d0, ds0, p0, q0, hargs, rfl, rfl, h0, r0⟩ := trodAll_cons hA
  obtain ⟨rfl, rfl, rfl⟩ := trodAll_nil r0
  obtain rfl : args = #[v0] := by cases args; simp_all
  obtain ⟨rfl, rfl⟩ := trodVars_none hV
  have k0 := h0
  have lt0 : ∀ x ∈ p0, x.block < W.heap.size := by obtain ⟨m, hm⟩ := k0; exact DataW.trod_lt m _ _ _ hm
  obtain ⟨a0, len0, cap0, z0, rfl, x0⟩ : ∃ a len cap zs, v0 = .slice a len cap ∧ IsRow .u8 maxLen W a len cap zs := by
    obtain ⟨sa, sl, sc, rfl⟩ := okWide_slice Tryd.underlying22 (hval 0 22 v0 rfl rfl)
    obtain ⟨fuel, hf⟩ := h0
    rcases open_ints Tryd.underlying22 Tryd.underlying5 (by kernel_rfl) hf with ⟨hcs, _⟩ | ⟨x, l, c, zs, hcs, _, hl, hm, hz, hx, hcell, hwz⟩
    · simp [Value.cells] at hcs; obtain ⟨rfl, rfl, rfl⟩ := hcs
      exact ⟨none, 0, 0, [], rfl, .inl ⟨rfl, rfl, rfl, rfl⟩⟩
    · simp [Value.cells] at hcs; obtain ⟨rfl, rfl, rfl⟩ := hcs
      have hz' : zs.length = sc := by simpa using hz
      exact ⟨some x, sl, sc, zs, rfl, .inr ⟨_, rfl, hl, hm, hz', hcell, hwz⟩⟩
  clear hA0 hval0
  simp only [List.append_nil] at hW'
  refine (walk a0 len0 cap0 z0 W x0 (tab_of hL)).mono fun e W' ⟨he, bel⟩ => ?_
  subst he
  exact ⟨_, rfl, _, _, _, [], _, [], hW', trodAll_mk1 (shut_bool Tryd.underlying4 _), (trodAll_cons_mk (Below.trod laidOut (by kernel_rfl) (of_decide_eq_true (by kernel_rfl)) k0 bel lt0) trodAll_mk0), rfl, bel.frame _, fun h => by cases h⟩

theorem over : Rows.imageMadeRow.holds Tryd.pinned (OpenSpec.ofChange Rows.imageMadeSpec) :=
  OpenClaim.holds_of_cond 6 Tryd.f6 rfl rfl rfl rfl rfl rfl rfl ⟨rfl, rfl, rfl, rfl, rfl⟩ rfl rfl rfl rfl rfl (by kernel_rfl) Tryd.func6 (by kernel_rfl)
    (of_decide_eq_true (by kernel_rfl)) (by unfold Func.isWrapper; first | (rw [if_pos (by decide +kernel)]; kernel_rfl) | (rw [if_neg (by decide +kernel)]; exact ⟨rfl, rfl⟩))
    (fun os started H enc _ F => by rw [OpenClaim.pre_eq_preRow]; exact lifted os started H enc F)

/-- No parameter wants a stand-in; the program's own looks are off. -/
theorem plain (f : FuncId) (fn : Func) (hf : Tryd.pinned.checked.prog.funcNamed "hawser/hawserlaw09.ImageMade" = some f) (hfn : Tryd.pinned.checked.prog.funcs[f]? = some fn) :
    false = Tryd.pinned.checked.prog.looks [] ∧ ∀ (j : Nat) t, fn.params[j]? = some t → Tryd.pinned.checked.prog.wantsStandIn t = false := by
  obtain rfl : f = 6 := Option.some.inj ((show Tryd.prog.funcNamed "hawser/hawserlaw09.ImageMade" = some 6 by kernel_rfl).symm.trans hf) |>.symm
  obtain rfl : fn = Tryd.f6 := (Option.some.inj (Tryd.func6.symm.trans hfn)).symm
  refine ⟨by kernel_rfl, fun j t ht => ?_⟩
  rw [Tryd.params6] at ht
  have hm : t ∈ [22] := by simpa using Array.mem_of_getElem? ht
  have hall : (([22] : List TypeId).all fun u => !Tryd.prog.wantsStandIn u) = true := by kernel_rfl
  exact (show Tryd.prog.wantsStandIn t = false by simpa using List.all_eq_true.1 hall t hm)
theorem card : Rows.ImageMadeCardSaid :=
  Claim7.holds_tied_plain_at .later [] _ _ _ _ over (fun _ h => by cases h) (by kernel_rfl) (fun _ h => by cases h) imageMade_row_tie rfl ⟨rfl, rfl⟩ (by kernel_rfl) rfl plain (by kernel_rfl)

end Go.Proofs.YteilmkibbdlnoabDoor.imageMade
namespace Go.Proofs.YteilmkibbdlnoabDoor
theorem imageMade_holds : Rows.ImageMadeCardSaid := imageMade.card
#print axioms imageMade_holds
end Go.Proofs.YteilmkibbdlnoabDoor
