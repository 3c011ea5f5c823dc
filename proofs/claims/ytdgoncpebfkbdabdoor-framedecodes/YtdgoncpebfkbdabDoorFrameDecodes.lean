/-
  Proved: for all bytes, hawserlaw04.FrameDecodes answers true: Decode is the document's, and what it was handed stays, the room behind it, too. No condition (the card ties the table of package crc to the program's text).
-/
import Derived.Test.YtdgoncpebfkbdabDoorRows
import Derived.Test.YtdgoncpebfkbdabDoorCards
import Derived.Test.YtdgoncpebfkbdabDoorTie
import Derived.Test.YtdgoncpebfkbdabDoorFOn
import Derived.Test.YtdgoncpebfkbdabDoorFLw
import Derived.WalkKit
import Derived.ProofKit
import Derived.OpenShut
import Derived.ShutString
import Derived.ChangeOld
import Derived.Below
import Derived.Lib.SmallJoins
import Derived.JoinedCond
import Derived.SizedLaws
import Derived.Deep.DeepHandedRow
import Derived.Lib.LaidTab
import Derived.Deep.RegionHeld3
namespace Go.Proofs.YtdgoncpebfkbdabDoor.frameDecodes
open Go.ChangeShapes Go.WideShapes Go.ChangeAt Go.RowKit
set_option linter.unusedVariables false

theorem own : ownKnob Tryd.prog.godebug = none := by kernel_rfl
theorem laidOut : laidOutB Tryd.prog = true := by kernel_rfl

/-- What the walk is told of a slice of integers that came in. -/
def IsRow (k : IntKind) (R : Nat) (w : World) (a : Option Addr) (len cap : Nat) (zs : List Int) : Prop :=
  (a = none ∧ len = 0 ∧ cap = 0 ∧ zs = []) ∨
  ∃ x, a = some x ∧ len ≤ cap ∧ cap ≤ R ∧ zs.length = cap ∧ (∀ i, i < zs.length → w.cell? (x.add i) = some (.int k (zs.getD i 0))) ∧ ∀ n ∈ zs, (Lit.int k n).wf = true

theorem row_nil {k : IntKind} {R : Nat} {w : World} {a : Option Addr} {len cap : Nat} {zs : List Int} (h : IsRow k R w a len cap zs) : a = none → cap = 0 := by
  rcases h with ⟨_, _, h, _⟩ | ⟨x, h, _⟩
  · exact fun _ => h
  · intro h'; rw [h] at h'; cases h'

set_option maxHeartbeats 2000000 in
theorem walk (a : Option Addr) (len cap : Nat) (zs : List Int) (w : World) (x0 : IsRow .u8 140737488351232 w a len cap zs) (ht : Tab w) :
    Calls Tryd.prog 5 #[.slice a len cap] w fun e w' => e = .returned (.bool true) ∧ Below w.heap.size w w' := by
  obtain ⟨hs, hlc, hcr, hwf⟩ := seg_of_row x0
  have HN : Hid (a = none → cap = 0) := row_nil x0
  have HX : Hid (Bytes (zs.take len)) := fun i hi => wf_u8 (hwf i hi)
  obtain ⟨xs, hxs⟩ : ∃ xs, xs = zs.take len := ⟨_, rfl⟩
  rw [← hxs] at hs HX
  have HS : Hid (Seg .u8 w a len xs) := hs
  have HLN : Hid (xs.length = len) := hs.1
  have HT : Hid (Tab w) := ht
  have hl : len ≤ 140737488351232 := by omega
  have HBB : Hid (Bytes (fbd xs)) := by
    show Bytes _
    unfold fbd
    split
    · unfold fbody; exact (HX.out.drop 10).take _
    · exact fun i hi => by simp at hi
  clear ht x0 hwf hxs hs
  have GD : Hid (∀ w', Below w.heap.size w w' → _) := fun w' hb => gdecode_c a len cap xs w' hlc (HS.out.below hb) HX.out (by omega)
  obtain ⟨TP, hTP⟩ : ∃ T, T = ftp xs := ⟨_, rfl⟩
  obtain ⟨NN, hNN⟩ : ∃ T, T = fnn xs := ⟨_, rfl⟩
  obtain ⟨E, hE⟩ : ∃ T, T = fdec xs := ⟨_, rfl⟩
  obtain ⟨ys, hys⟩ : ∃ T, T = fbd xs := ⟨_, rfl⟩
  obtain ⟨L, hL⟩ : ∃ T, T = ys.length := ⟨_, rfl⟩
  rw [← hTP, ← hNN, ← hE, ← hys, ← hL] at GD
  rw [← hys] at HBB
  replace hTP : Hid _ := hTP
  replace hNN : Hid _ := hNN
  replace hE : Hid _ := hE
  replace hys : Hid _ := hys
  replace hL : Hid _ := hL
  go_enter Tryd.func5, Tryd.ntmps5
  go_wp2_with (first
    | (go_at_call 9; go_must (refine (roomy_c a len cap xs _ HN.out HS.out hl).mono ?_); rintro e w1 ⟨g, k, rfl, ho1, hk, hb1⟩; have H1 : Hid (Seg .u8 w1 (some ⟨g, 0, none⟩) (len + 16) (xs ++ marks) ∧ Below w.heap.size w w1) := ⟨by (obtain ⟨a', c', he, hseg, _⟩ := Own.seg ho1; cases he; exact hseg), hb1⟩; clear ho1 hb1)
    | (go_at_call 13; go_must (refine (decode_c (some ⟨g, 0, none⟩) len k xs w1 (by omega) (H1.out.1.front HLN.out) HX.out (by omega) (HT.out.below H1.out.2)).mono ?_); rintro e w2 ⟨u, rfl, hu, hb2⟩; rw [← hTP.out, ← hNN.out, ← hE.out]; rw [← hys.out, ← hL.out] at hu; obtain ⟨a2, c2, rfl, hs2, hn2, hl2⟩ := hu.seg; have H2 : Hid (Seg .u8 w2 a2 L ys ∧ Below w.heap.size w w2 ∧ Seg .u8 w2 (some ⟨g, 0, none⟩) (len + 16) (xs ++ marks)) := ⟨hs2, H1.out.2.trans (hb2.mono H1.out.2.size), H1.out.1.below hb2⟩; clear hu hb2 hs2)
    | (go_at_call 14; obtain ⟨N, hN⟩ : ∃ N, N = w2.heap.size := ⟨_, rfl⟩; rw [← hN]; generalize hW3 : World.alloc w2 _ = W3; have H3 : Hid (Bk 28 W3 N #[.int .i64 TP, .slice a2 L c2] ∧ Below w2.heap.size w2 W3 ∧ Below w.heap.size w W3) := by (rw [← hW3, hN]; exact ⟨heap_new w2 _, (Below.refl _ _).alloc (Nat.le_refl _) _, H2.out.2.1.alloc H2.out.2.1.size _⟩)
       clear hW3 hN
       go_must (refine (GD.out W3 H3.out.2.2).mono ?_); rintro e w4 ⟨u4, rfl, hu4, hb4⟩; obtain ⟨a4, c4, rfl, hs4, hn4, hl4⟩ := hu4.seg; have H4 : Hid (Seg .u8 w4 a4 L ys ∧ Below W3.heap.size W3 w4) := ⟨hs4, hb4⟩; clear hu4 hb4 hs4))
  obtain ⟨M, hM⟩ : ∃ M, M = w4.heap.size := ⟨_, rfl⟩
  rw [← hM]
  generalize hW5 : World.alloc w4 _ = W5
  have H5 : Hid (FF W5 N M TP (.slice a2 L c2) (.slice a4 L c4) ∧ Below w.heap.size w W5 ∧ Seg .u8 W5 a2 L ys ∧ Seg .u8 W5 a4 L ys ∧ Seg .u8 W5 (some ⟨g, 0, none⟩) (len + 16) (xs ++ marks) ∧ Seg .u8 W5 a len xs) := by
    have hb5 : Below w4.heap.size w4 W5 := by rw [← hW5]; exact (Below.refl _ _).alloc (Nat.le_refl _) _
    have hb3 : Below W3.heap.size W3 W5 := H4.out.2.trans (hb5.mono H4.out.2.size)
    have hb2 : Below w2.heap.size w2 W5 := H3.out.2.1.trans (hb3.mono H3.out.2.1.size)
    have hbw : Below w.heap.size w W5 := H3.out.2.2.trans (hb3.mono H3.out.2.2.size)
    refine ⟨⟨H3.out.1.below hb3 (lt_of_block H3.out.1), by rw [← hW5, hM]; exact heap_new w4 _⟩, hbw, H2.out.1.below hb2, H4.out.1.below hb5, H2.out.2.2.below hb2, HS.out.below hbw⟩
  clear hW5 hM H1 H2 H3 H4 HS
  go_wp2_with (first
    | (go_at_call 7; refine (num_c _ _).mono ?_; rintro e w6 ⟨rfl, rfl⟩)
    | (refine wpList_load_bkG 28 rfl _ rfl Tryd.underlying28 rfl Tryd.infoFrame N _ rfl H5.out.1.1 rfl ?_)
    | (refine wpList_load_bkG 33 rfl _ rfl Tryd.underlying33 rfl Tryd.infoGFrame M _ rfl H5.out.1.2 rfl ?_)
    | (go_at_call 15; go_must (refine (lsame_c TP a2 a4 L c2 L c4 ys _ H5.out.2.2.1 H5.out.2.2.2.1 HBB.out).mono ?_); rintro e w6 ⟨rfl, hb6⟩; have H6 : Hid (Below w.heap.size w w6 ∧ Seg .u8 w6 (some ⟨g, 0, none⟩) (len + 16) (xs ++ marks) ∧ Seg .u8 w6 a len xs) := ⟨H5.out.2.1.trans (hb6.mono H5.out.2.1.size), H5.out.2.2.2.2.1.below hb6, H5.out.2.2.2.2.2.below hb6⟩; clear hb6)
    | (go_at_call 12; go_must (refine (kept_c g len k xs a cap _ H6.out.2.1 hk H6.out.2.2 HX.out hl).mono ?_); rintro e w7 ⟨rfl, hb7⟩; have H7 : Hid (Below w.heap.size w w7) := H6.out.1.trans (hb7.mono H6.out.1.size); clear hb7))
  go_ret
  exact ⟨rfl, H7.out⟩

theorem gTab : Tryd.prog.globalNamed "hawser/crc.halves" = some 0 := by kernel_rfl
theorem gTabType : (Tryd.prog.globals[0]?).map (·.type) = some 62 := by kernel_rfl
theorem cellsT : Tryd.prog.cellsOf 62 = 16 := by kernel_rfl
theorem cellsE : Tryd.prog.cellsOf 54 = 1 := by kernel_rfl
/-- What the row's list gives: the table's cells. -/
theorem table {W : World} (h : laidMetH Tryd.prog Rows.frameDecodesRow.laid W) : Lib.TabIs Tryd.prog W "hawser/crc.halves" .u32 tabl :=
  Lib.tabIs_of_head (rest := []) gTab gTabType Tryd.underlying62 Tryd.underlying54 cellsE cellsT h
theorem tab_of {W : World} (h : laidMetH Tryd.prog Rows.frameDecodesRow.laid W) : Tab W := fun i hi => (table h).cell gTab i (show i < tabl.length from hi)
theorem laid_met (os : Os) : laidMet Tryd.prog Rows.frameDecodesRow.laid (({ World.holding Tryd.prog os ⟨#[], #[], []⟩ with heap := (World.holding Tryd.prog os ⟨#[], #[], []⟩).heap.modify 0 fun | .cells _ t frozen => .cells (tabl.map fun z => Value.int .u32 z).toArray t frozen | o => o } : World).forCall (fun _ _ => 0) ⟨#[], #[.slice none 0 0], []⟩).memory :=
  laidMet_of_run' 8 (by kernel_rfl) (by kernel_rfl)
theorem reads (os : Os) {H : Type} (enc : TypeId × Value → H) : ∃ places, DataW.whole enc Tryd.prog (({ World.holding Tryd.prog os ⟨#[], #[], []⟩ with heap := (World.holding Tryd.prog os ⟨#[], #[], []⟩).heap.modify 0 fun | .cells _ t frozen => .cells (tabl.map fun z => Value.int .u32 z).toArray t frozen | o => o } : World).forCall (fun _ _ => 0) ⟨#[], #[.slice none 0 0], []⟩).memory Tryd.f5.params.toList Rows.frameDecodesSpec.vars false (#[.slice none 0 0] : Array Value).toList 8 = some ([.nil], [], places) :=
  ⟨[], by kernel_rfl⟩

set_option maxRecDepth 100000 in
theorem lifted (os : Os) (started : os.Started) (H : Type) (enc : TypeId × Value → H) (F : Stop.Interp) :
    ReturnsInHanded {} Tryd.checked os 5 .any ((OpenSpec.ofChange Rows.frameDecodesSpec).preRow enc Tryd.prog Tryd.f5 Rows.frameDecodesRow.domain false Rows.frameDecodesRow.laid) (((OpenSpec.ofChange Rows.frameDecodesSpec).at F).post enc Tryd.prog Tryd.f5 false true false false) := by
  obtain ⟨places, hx⟩ := reads os enc
  refine returnsInHanded_of_row (C := Tryd.checked) (s := OpenSpec.ofChange Rows.frameDecodesSpec) own started (by kernel_rfl) Tryd.func5
    (witness_row_at (enc := enc) (C := Tryd.checked) false ({ World.holding Tryd.prog os ⟨#[], #[], []⟩ with heap := (World.holding Tryd.prog os ⟨#[], #[], []⟩).heap.modify 0 fun | .cells _ t frozen => .cells (tabl.map fun z => Value.int .u32 z).toArray t frozen | o => o } : World) #[.slice none 0 0] rfl (by kernel_rfl) (by kernel_rfl) (by kernel_rfl)
      (OpenSpec.preRow_of_cond 8 hx (by kernel_rfl) (fun k hk => by cases hk) (by kernel_rfl) (laid_met os))) ?_
  intro W base args ds gs before hval0 hW _ hcond0 hsz0 hL _ _
  have hsz : (DataW.weightsEach Tryd.prog (Tryd.f5.params.toList ++ Rows.frameDecodesSpec.plain.varTypes Tryd.prog) (ds ++ gs)).all (· ≤ reachBytes) = true := hsz0
  have hval : ∀ (j : Nat) t v, Tryd.f5.params[j]? = some t → args[j]? = some v → Value.okWide Tryd.prog W .any base t v := hval0
  have hW' := hW
  obtain ⟨p, q, hA0, hV, rfl, hfz, hnd⟩ := hW
  have hA : DataW.TrodAll enc Tryd.prog W 0 (fun _ => true) true Tryd.f5.params.toList args.toList ds p := hA0
  rw [Tryd.params5] at hA hval hsz
  obtain ⟨v0, vs0, d0, ds0, p0, q0, hargs, rfl, rfl, h0, r0⟩ := trodAll_cons hA
  obtain ⟨rfl, rfl, rfl⟩ := trodAll_nil r0
  obtain rfl : args = #[v0] := by cases args; simp_all
  obtain ⟨rfl, rfl⟩ := trodVars_none hV
  have k0 := h0
  have lt0 : ∀ x ∈ p0, x.block < W.heap.size := by obtain ⟨m, hm⟩ := k0; exact DataW.trod_lt m _ _ _ hm
  obtain ⟨a0, len0, cap0, z0, rfl, x0⟩ : ∃ a len cap zs, v0 = .slice a len cap ∧ IsRow .u8 140737488351232 W a len cap zs := by
    obtain ⟨sa, sl, sc, rfl⟩ := okWide_slice Tryd.underlying24 (hval 0 24 v0 rfl rfl)
    obtain ⟨fuel, hf⟩ := h0
    rcases open_ints Tryd.underlying24 Tryd.underlying5 (by kernel_rfl) hf with ⟨hcs, _⟩ | ⟨x, l, c, zs, hcs, _, hl, hm, hz, hx, hcell, hwz⟩
    · simp [Value.cells] at hcs; obtain ⟨rfl, rfl, rfl⟩ := hcs
      exact ⟨none, 0, 0, [], rfl, .inl ⟨rfl, rfl, rfl, rfl⟩⟩
    · simp [Value.cells] at hcs; obtain ⟨rfl, rfl, rfl⟩ := hcs
      have hz' : zs.length = sc := by simpa using hz
      have hd : d0 = _ := congrArg Prod.fst hx
      have hb := sized_slice hsz (j := 0) (t := 24) (e := 5) rfl (congrArg some hd) Tryd.underlying24
      rw [show Tryd.prog.bytesOf 5 = 1 from by kernel_rfl] at hb
      simp only [lits, List.length_map, List.length_take, List.length_drop, reachBytes] at hb
      exact ⟨some x, sl, sc, zs, rfl, .inr ⟨_, rfl, hl, by omega, hz', hcell, hwz⟩⟩
  clear hA0 hval0
  simp only [List.append_nil] at hW'
  refine (walk a0 len0 cap0 z0 W x0 (tab_of hL)).mono fun e W' ⟨he, bel⟩ => ?_
  subst he
  exact ⟨_, rfl, _, _, _, [], _, [], hW', trodAll_mk1 (shut_bool Tryd.underlying4 _), (trodAll_cons_mk (Below.trod laidOut (by kernel_rfl) (of_decide_eq_true (by kernel_rfl)) k0 bel lt0) trodAll_mk0), rfl, bel.frame _, fun h => by cases h⟩

theorem over : Rows.frameDecodesRow.holds Tryd.pinned (OpenSpec.ofChange Rows.frameDecodesSpec) :=
  OpenClaim.holds_of_cond 5 Tryd.f5 rfl rfl rfl rfl rfl rfl rfl ⟨rfl, rfl, rfl, rfl, rfl⟩ rfl rfl rfl rfl rfl (by kernel_rfl) Tryd.func5 (by kernel_rfl)
    (of_decide_eq_true (by kernel_rfl)) (by unfold Func.isWrapper; first | (rw [if_pos (by decide +kernel)]; kernel_rfl) | (rw [if_neg (by decide +kernel)]; exact ⟨rfl, rfl⟩))
    (fun os started H enc _ F => by rw [OpenClaim.pre_eq_preRow]; exact lifted os started H enc F)

/-- No parameter wants a stand-in; the program's own looks are off. -/
theorem plain (f : FuncId) (fn : Func) (hf : Tryd.pinned.checked.prog.funcNamed "hawser/hawserlaw04.FrameDecodes" = some f) (hfn : Tryd.pinned.checked.prog.funcs[f]? = some fn) :
    false = Tryd.pinned.checked.prog.looks [] ∧ ∀ (j : Nat) t, fn.params[j]? = some t → Tryd.pinned.checked.prog.wantsStandIn t = false := by
  obtain rfl : f = 5 := Option.some.inj ((show Tryd.prog.funcNamed "hawser/hawserlaw04.FrameDecodes" = some 5 by kernel_rfl).symm.trans hf) |>.symm
  obtain rfl : fn = Tryd.f5 := (Option.some.inj (Tryd.func5.symm.trans hfn)).symm
  refine ⟨by kernel_rfl, fun j t ht => ?_⟩
  rw [Tryd.params5] at ht
  have hm : t ∈ [24] := by simpa using Array.mem_of_getElem? ht
  have hall : (([24] : List TypeId).all fun u => !Tryd.prog.wantsStandIn u) = true := by kernel_rfl
  exact (show Tryd.prog.wantsStandIn t = false by simpa using List.all_eq_true.1 hall t hm)
theorem card : Rows.FrameDecodesCardSaid :=
  Claim7.holds_tied_plain_at .later [] _ _ _ _ over (fun _ h => by cases h) (by kernel_rfl) (fun _ h => by cases h) frameDecodes_row_tie rfl ⟨rfl, rfl⟩ (by kernel_rfl) rfl plain (by kernel_rfl)

end Go.Proofs.YtdgoncpebfkbdabDoor.frameDecodes
namespace Go.Proofs.YtdgoncpebfkbdabDoor
theorem frameDecodes_holds : Rows.FrameDecodesCardSaid := frameDecodes.card
#print axioms frameDecodes_holds
end Go.Proofs.YtdgoncpebfkbdabDoor
