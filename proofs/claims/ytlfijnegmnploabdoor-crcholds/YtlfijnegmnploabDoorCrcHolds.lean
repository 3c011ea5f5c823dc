/-
  Proved: for all bytes, hawserlaw02.CrcHolds answers true: Holds is the document's, and the bytes stay as they were. No condition (the card ties the table of package crc to the program's text).
-/
import Derived.Test.YtlfijnegmnploabDoorRows
import Derived.Test.YtlfijnegmnploabDoorCards
import Derived.Test.YtlfijnegmnploabDoorTie
import Derived.Test.YtlfijnegmnploabDoorHoldC
import Derived.Test.YtlfijnegmnploabDoorRHoldC
import Derived.Test.YtlfijnegmnploabDoorMstr
import Derived.Test.YtlfijnegmnploabDoorGrow
import Derived.WalkKit
import Derived.ProofKit
import Derived.OpenShut
import Derived.ShutString
import Derived.ChangeOld
import Derived.Below
import Derived.Lib.SmallJoins
import Derived.JoinedCond
import Derived.SizedLaws
import Derived.Deep.DeepHandedRow
import Derived.Lib.LaidTab
namespace Go.Proofs.YtlfijnegmnploabDoor.crcHolds
open Go.ChangeShapes Go.WideShapes Go.ChangeAt Go.RowKit
set_option linter.unusedVariables false

theorem own : ownKnob Tryd.prog.godebug = none := by kernel_rfl
theorem laidOut : laidOutB Tryd.prog = true := by kernel_rfl

/-- What the walk is told of a slice of integers that came in. -/
def IsRow (k : IntKind) (R : Nat) (w : World) (a : Option Addr) (len cap : Nat) (zs : List Int) : Prop :=
  (a = none ∧ len = 0 ∧ cap = 0 ∧ zs = []) ∨
  ∃ x, a = some x ∧ len ≤ cap ∧ cap ≤ R ∧ zs.length = cap ∧ (∀ i, i < zs.length → w.cell? (x.add i) = some (.int k (zs.getD i 0))) ∧ ∀ n ∈ zs, (Lit.int k n).wf = true

theorem row_nil {k : IntKind} {R : Nat} {w : World} {a : Option Addr} {len cap : Nat} {zs : List Int} (h : IsRow k R w a len cap zs) : a = none → cap = 0 := by
  rcases h with ⟨_, _, h, _⟩ | ⟨x, h, _⟩
  · exact fun _ => h
  · intro h'; rw [h] at h'; cases h'

set_option maxHeartbeats 1000000 in
theorem walk (a : Option Addr) (len cap : Nat) (zs : List Int) (w : World) (x0 : IsRow .u8 140737488351232 w a len cap zs) (ht : Tab w) :
    Calls Tryd.prog 5 #[.slice a len cap] w fun e w' => e = .returned (.bool true) ∧ Below w.heap.size w w' := by
  obtain ⟨hs, hlc, hcr, hwf⟩ := seg_of_row x0
  have HN : Hid (a = none → cap = 0) := row_nil x0
  have HX : Hid (Bytes (zs.take len)) := fun i hi => wf_u8 (hwf i hi)
  obtain ⟨xs, hxs⟩ : ∃ xs, xs = zs.take len := ⟨_, rfl⟩
  rw [← hxs] at hs HX
  have HS : Hid (Seg .u8 w a len xs) := hs
  have HT : Hid (Tab w) := ht
  have hl : len ≤ 140737488351232 := by omega
  clear ht x0 hwf hxs hs hcr
  go_enter Tryd.func5, Tryd.ntmps5
  go_wp2_with (at_builtin; go_must (refine wpList_append_grow _ rfl _ _ rfl w.heap.size 0 _ [] rfl (own_nil _ _) a len cap xs rfl HN.out HS.out (by omega) (Nat.le_refl _) ?_); intro v1 w1 hown hb1; rw [Nat.zero_add, List.nil_append] at hown; obtain ⟨a1, c1, rfl, hs1, hn1, hlc1⟩ := hown.seg; replace hs1 : Hid _ := hs1; replace hb1 : Hid _ := hb1; replace hn1 : Hid _ := hn1; clear hown)
  refine (holds_c a1 len c1 xs _ hlc1 hs1.out HX.out (by omega) (HT.out.below hb1.out)).mono ?_
  rintro e w2 ⟨rfl, hb2⟩
  replace hb2 : Hid _ := hb2
  have HW2 : Hid (Below w.heap.size w w2) := hb1.out.trans (hb2.out.mono hb1.out.size)
  obtain ⟨H, hH⟩ : ∃ H, H = holds xs := ⟨_, rfl⟩
  rw [← hH]
  replace hH : Hid _ := hH
  go_wp2_with fail
  refine (rholds_c a len cap xs _ hlc (HS.out.below HW2.out) HX.out (by omega)).mono ?_
  rintro e w3 ⟨rfl, hb3⟩
  have HW3 : Hid (Below w.heap.size w w3) := HW2.out.trans (hb3.mono HW2.out.size)
  have HS1 : Hid (Seg .u8 w3 a1 len xs) := (Seg.below hs1.out hb2.out).below hb3
  have HS3 : Hid (Seg .u8 w3 a len xs) := HS.out.below HW3.out
  clear hb3 hb2 hb1 hs1
  rw [← hH.out]
  have hHH : (H == H) = true := by simp
  go_wp2_with fail
  have CS := same_c a1 a len c1 len cap xs xs w3 HS1.out HS3.out HX.out HX.out
  rw [decide_eq_true rfl] at CS
  refine Calls.mono CS ?_
  rintro e w4 ⟨rfl, rfl⟩
  go_wp2
  go_ret
  exact ⟨rfl, HW3.out⟩

theorem gTab : Tryd.prog.globalNamed "hawser/crc.halves" = some 0 := by kernel_rfl
theorem gTabType : (Tryd.prog.globals[0]?).map (·.type) = some 34 := by kernel_rfl
theorem cellsT : Tryd.prog.cellsOf 34 = 16 := by kernel_rfl
theorem cellsE : Tryd.prog.cellsOf 22 = 1 := by kernel_rfl
/-- What the row's list gives: the table's cells. -/
theorem table {W : World} (h : laidMetH Tryd.prog Rows.crcHoldsRow.laid W) : Lib.TabIs Tryd.prog W "hawser/crc.halves" .u32 tabl :=
  Lib.tabIs_of_head (rest := []) gTab gTabType Tryd.underlying34 Tryd.underlying22 cellsE cellsT h
theorem tab_of {W : World} (h : laidMetH Tryd.prog Rows.crcHoldsRow.laid W) : Tab W := fun i hi => (table h).cell gTab i (show i < tabl.length from hi)
theorem laid_met (os : Os) : laidMet Tryd.prog Rows.crcHoldsRow.laid (({ World.holding Tryd.prog os ⟨#[], #[], []⟩ with heap := (World.holding Tryd.prog os ⟨#[], #[], []⟩).heap.modify 0 fun | .cells _ t frozen => .cells (tabl.map fun z => Value.int .u32 z).toArray t frozen | o => o } : World).forCall (fun _ _ => 0) ⟨#[], #[.slice none 0 0], []⟩).memory :=
  laidMet_of_run' 8 (by kernel_rfl) (by kernel_rfl)
theorem reads (os : Os) {H : Type} (enc : TypeId × Value → H) : ∃ places, DataW.whole enc Tryd.prog (({ World.holding Tryd.prog os ⟨#[], #[], []⟩ with heap := (World.holding Tryd.prog os ⟨#[], #[], []⟩).heap.modify 0 fun | .cells _ t frozen => .cells (tabl.map fun z => Value.int .u32 z).toArray t frozen | o => o } : World).forCall (fun _ _ => 0) ⟨#[], #[.slice none 0 0], []⟩).memory Tryd.f5.params.toList Rows.crcHoldsSpec.vars false (#[.slice none 0 0] : Array Value).toList 8 = some ([.nil], [], places) :=
  ⟨[], by kernel_rfl⟩

set_option maxRecDepth 100000 in
theorem lifted (os : Os) (started : os.Started) (H : Type) (enc : TypeId × Value → H) (F : Stop.Interp) :
    ReturnsInHanded {} Tryd.checked os 5 .any ((OpenSpec.ofChange Rows.crcHoldsSpec).preRow enc Tryd.prog Tryd.f5 Rows.crcHoldsRow.domain false Rows.crcHoldsRow.laid) (((OpenSpec.ofChange Rows.crcHoldsSpec).at F).post enc Tryd.prog Tryd.f5 false true false false) := by
  obtain ⟨places, hx⟩ := reads os enc
  refine returnsInHanded_of_row (C := Tryd.checked) (s := OpenSpec.ofChange Rows.crcHoldsSpec) own started (by kernel_rfl) Tryd.func5
    (witness_row_at (enc := enc) (C := Tryd.checked) false ({ World.holding Tryd.prog os ⟨#[], #[], []⟩ with heap := (World.holding Tryd.prog os ⟨#[], #[], []⟩).heap.modify 0 fun | .cells _ t frozen => .cells (tabl.map fun z => Value.int .u32 z).toArray t frozen | o => o } : World) #[.slice none 0 0] rfl (by kernel_rfl) (by kernel_rfl) (by kernel_rfl)
      (OpenSpec.preRow_of_cond 8 hx (by kernel_rfl) (fun k hk => by cases hk) (by kernel_rfl) (laid_met os))) ?_
  intro W base args ds gs before hval0 hW _ hcond0 hsz0 hL _ _
  have hsz : (DataW.weightsEach Tryd.prog (Tryd.f5.params.toList ++ Rows.crcHoldsSpec.plain.varTypes Tryd.prog) (ds ++ gs)).all (· ≤ reachBytes) = true := hsz0
  have hval : ∀ (j : Nat) t v, Tryd.f5.params[j]? = some t → args[j]? = some v → Value.okWide Tryd.prog W .any base t v := hval0
  have hW' := hW
  obtain ⟨p, q, hA0, hV, rfl, hfz, hnd⟩ := hW
  have hA : DataW.TrodAll enc Tryd.prog W 0 (fun _ => true) true Tryd.f5.params.toList args.toList ds p := hA0
  rw [Tryd.params5] at hA hval hsz
  obtain ⟨v0, vs0, d0, ds0, p0, q0, hargs, rfl, rfl, h0, r0⟩ := trodAll_cons hA
  obtain ⟨rfl, rfl, rfl⟩ := trodAll_nil r0
  obtain rfl : args = #[v0] := by cases args; simp_all
  obtain ⟨rfl, rfl⟩ := trodVars_none hV
  have k0 := h0
  have lt0 : ∀ x ∈ p0, x.block < W.heap.size := by obtain ⟨m, hm⟩ := k0; exact DataW.trod_lt m _ _ _ hm
  obtain ⟨a0, len0, cap0, z0, rfl, x0⟩ : ∃ a len cap zs, v0 = .slice a len cap ∧ IsRow .u8 140737488351232 W a len cap zs := by
    obtain ⟨sa, sl, sc, rfl⟩ := okWide_slice Tryd.underlying26 (hval 0 26 v0 rfl rfl)
    obtain ⟨fuel, hf⟩ := h0
    rcases open_ints Tryd.underlying26 Tryd.underlying5 (by kernel_rfl) hf with ⟨hcs, _⟩ | ⟨x, l, c, zs, hcs, _, hl, hm, hz, hx, hcell, hwz⟩
    · simp [Value.cells] at hcs; obtain ⟨rfl, rfl, rfl⟩ := hcs
      exact ⟨none, 0, 0, [], rfl, .inl ⟨rfl, rfl, rfl, rfl⟩⟩
    · simp [Value.cells] at hcs; obtain ⟨rfl, rfl, rfl⟩ := hcs
      have hz' : zs.length = sc := by simpa using hz
      have hd : d0 = _ := congrArg Prod.fst hx
      have hb := sized_slice hsz (j := 0) (t := 26) (e := 5) rfl (congrArg some hd) Tryd.underlying26
      rw [show Tryd.prog.bytesOf 5 = 1 from by kernel_rfl] at hb
      simp only [lits, List.length_map, List.length_take, List.length_drop, reachBytes] at hb
      exact ⟨some x, sl, sc, zs, rfl, .inr ⟨_, rfl, hl, by omega, hz', hcell, hwz⟩⟩
  clear hA0 hval0
  simp only [List.append_nil] at hW'
  refine (walk a0 len0 cap0 z0 W x0 (tab_of hL)).mono fun e W' ⟨he, bel⟩ => ?_
  subst he
  exact ⟨_, rfl, _, _, _, [], _, [], hW', trodAll_mk1 (shut_bool Tryd.underlying4 _), (trodAll_cons_mk (Below.trod laidOut (by kernel_rfl) (of_decide_eq_true (by kernel_rfl)) k0 bel lt0) trodAll_mk0), rfl, bel.frame _, fun h => by cases h⟩

theorem over : Rows.crcHoldsRow.holds Tryd.pinned (OpenSpec.ofChange Rows.crcHoldsSpec) :=
  OpenClaim.holds_of_cond 5 Tryd.f5 rfl rfl rfl rfl rfl rfl rfl ⟨rfl, rfl, rfl, rfl, rfl⟩ rfl rfl rfl rfl rfl (by kernel_rfl) Tryd.func5 (by kernel_rfl)
    (of_decide_eq_true (by kernel_rfl)) (by unfold Func.isWrapper; first | (rw [if_pos (by decide +kernel)]; kernel_rfl) | (rw [if_neg (by decide +kernel)]; exact ⟨rfl, rfl⟩))
    (fun os started H enc _ F => by rw [OpenClaim.pre_eq_preRow]; exact lifted os started H enc F)

/-- No parameter wants a stand-in; the program's own looks are off. -/
theorem plain (f : FuncId) (fn : Func) (hf : Tryd.pinned.checked.prog.funcNamed "hawser/hawserlaw02.CrcHolds" = some f) (hfn : Tryd.pinned.checked.prog.funcs[f]? = some fn) :
    false = Tryd.pinned.checked.prog.looks [] ∧ ∀ (j : Nat) t, fn.params[j]? = some t → Tryd.pinned.checked.prog.wantsStandIn t = false := by
  obtain rfl : f = 5 := Option.some.inj ((show Tryd.prog.funcNamed "hawser/hawserlaw02.CrcHolds" = some 5 by kernel_rfl).symm.trans hf) |>.symm
  obtain rfl : fn = Tryd.f5 := (Option.some.inj (Tryd.func5.symm.trans hfn)).symm
  refine ⟨by kernel_rfl, fun j t ht => ?_⟩
  rw [Tryd.params5] at ht
  have hm : t ∈ [26] := by simpa using Array.mem_of_getElem? ht
  have hall : (([26] : List TypeId).all fun u => !Tryd.prog.wantsStandIn u) = true := by kernel_rfl
  exact (show Tryd.prog.wantsStandIn t = false by simpa using List.all_eq_true.1 hall t hm)
theorem card : Rows.CrcHoldsCardSaid :=
  Claim7.holds_tied_plain_at .later [] _ _ _ _ over (fun _ h => by cases h) (by kernel_rfl) (fun _ h => by cases h) crcHolds_row_tie rfl ⟨rfl, rfl⟩ (by kernel_rfl) rfl plain (by kernel_rfl)

end Go.Proofs.YtlfijnegmnploabDoor.crcHolds
namespace Go.Proofs.YtlfijnegmnploabDoor
theorem crcHolds_holds : Rows.CrcHoldsCardSaid := crcHolds.card
#print axioms crcHolds_holds
end Go.Proofs.YtlfijnegmnploabDoor
