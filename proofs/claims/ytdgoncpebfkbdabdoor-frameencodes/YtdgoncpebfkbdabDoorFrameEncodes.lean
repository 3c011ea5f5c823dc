/-
  Proved: for every frame, hawserlaw04.FrameEncodes answers true: Encode is the document's, and the body stays, the room behind it, too. No condition (the card ties the table of package crc to the program's text).
-/
import Derived.Test.YtdgoncpebfkbdabDoorRows
import Derived.Test.YtdgoncpebfkbdabDoorCards
import Derived.Test.YtdgoncpebfkbdabDoorTie
import Derived.Test.YtdgoncpebfkbdabDoorFOn
import Derived.Test.YtdgoncpebfkbdabDoorFLw
import Derived.WalkKit
import Derived.ProofKit
import Derived.OpenShut
import Derived.ShutString
import Derived.ChangeOld
import Derived.Below
import Derived.Lib.SmallJoins
import Derived.JoinedCond
import Derived.SizedLaws
import Derived.Deep.DeepHandedRow
import Derived.Lib.LaidTab
import Derived.Deep.RegionHeld3
namespace Go.Proofs.YtdgoncpebfkbdabDoor.frameEncodes
open Go.ChangeShapes Go.WideShapes Go.ChangeAt Go.RowKit
set_option linter.unusedVariables false

theorem own : ownKnob Tryd.prog.godebug = none := by kernel_rfl
theorem laidOut : laidOutB Tryd.prog = true := by kernel_rfl

/-- What the walk is told of a slice of integers that came in. -/
def IsRow (k : IntKind) (R : Nat) (w : World) (a : Option Addr) (len cap : Nat) (zs : List Int) : Prop :=
  (a = none ∧ len = 0 ∧ cap = 0 ∧ zs = []) ∨
  ∃ x, a = some x ∧ len ≤ cap ∧ cap ≤ R ∧ zs.length = cap ∧ (∀ i, i < zs.length → w.cell? (x.add i) = some (.int k (zs.getD i 0))) ∧ ∀ n ∈ zs, (Lit.int k n).wf = true

theorem row_nil {k : IntKind} {R : Nat} {w : World} {a : Option Addr} {len cap : Nat} {zs : List Int} (h : IsRow k R w a len cap zs) : a = none → cap = 0 := by
  rcases h with ⟨_, _, h, _⟩ | ⟨x, h, _⟩
  · exact fun _ => h
  · intro h'; rw [h] at h'; cases h'
theorem feb_bytes {t : Int} {xs : List Int} (hx : Bytes xs) : Bytes (feb t xs) := by
  unfold feb
  split
  · rename_i h
    unfold fee at h
    split at h
    · cases h
    · exact fenc_bytes (by omega) (by omega) hx
  · exact fun i hi => by simp at hi

set_option maxHeartbeats 2000000 in
theorem walk (T : Int) (a : Option Addr) (len cap : Nat) (zs : List Int) (w : World) (wT : (Lit.int .i64 T).wf = true) (x0 : IsRow .u8 140737488351232 w a len cap zs) (ht : Tab w) :
    Calls Tryd.prog 4 #[.agg #[.int .i64 T, .slice a len cap]] w fun e w' => e = .returned (.bool true) ∧ Below w.heap.size w w' := by
  obtain ⟨hs, hlc, hcr, hwf⟩ := seg_of_row x0
  have HN : Hid (a = none → cap = 0) := row_nil x0
  have HX : Hid (Bytes (zs.take len)) := fun i hi => wf_u8 (hwf i hi)
  obtain ⟨xs, hxs⟩ : ∃ xs, xs = zs.take len := ⟨_, rfl⟩
  rw [← hxs] at hs HX
  have HS : Hid (Seg .u8 w a len xs) := hs
  have HLN : Hid (xs.length = len) := hs.1
  have HT : Hid (Tab w) := ht
  have hl : len ≤ 140737488351232 := by omega
  have HBB : Hid (Bytes (feb T xs)) := feb_bytes HX.out
  clear ht x0 hwf hxs hs
  have GD : Hid (∀ w', Below w.heap.size w w' → _) := fun w' hb => gencode_c T a len cap xs w' HN.out (HS.out.below hb) HX.out (by omega)
  obtain ⟨E, hE⟩ : ∃ E, E = fee T len := ⟨_, rfl⟩
  obtain ⟨ys, hys⟩ : ∃ ys, ys = feb T xs := ⟨_, rfl⟩
  obtain ⟨L, hL⟩ : ∃ L, L = ys.length := ⟨_, rfl⟩
  rw [← hE, ← hys, ← hL] at GD
  rw [← hys] at HBB
  replace hE : Hid _ := hE
  replace hys : Hid _ := hys
  replace hL : Hid _ := hL
  obtain ⟨P, hP⟩ : ∃ P, P = w.heap.size := ⟨_, rfl⟩
  go_enter Tryd.func4, Tryd.ntmps4
  go_wp2_with (first
    | (go_at_call 9; rw [← hP]; generalize hW0 : World.alloc w _ = W0; have H0 : Hid (Bk 28 W0 P #[.int .i64 T, .slice a len cap] ∧ Below w.heap.size w W0) := by (rw [← hW0, hP]; exact ⟨heap_new w _, (Below.refl _ _).alloc (Nat.le_refl _) _⟩)
       have HPW : Hid (P = w.heap.size) := hP
       clear hW0 hP
       go_must (refine (roomy_c a len cap xs W0 HN.out (HS.out.below H0.out.2) hl).mono ?_); rintro e w1 ⟨g, k, rfl, ho1, hk, hb1⟩; have H1 : Hid (Seg .u8 w1 (some ⟨g, 0, none⟩) (len + 16) (xs ++ marks) ∧ Bk 28 w1 P #[.int .i64 T, .slice a len cap] ∧ Below w.heap.size w w1) := ⟨by (obtain ⟨a', c', he, hseg, _⟩ := Own.seg ho1; cases he; exact hseg), H0.out.1.below hb1 (lt_of_block H0.out.1), H0.out.2.trans (hb1.mono H0.out.2.size)⟩; clear ho1 hb1; have p0 := H1.out.2.1.cell 0; have p1 := H1.out.2.1.cell 1; simp at p0 p1)
    | (go_at_call 8; go_must (refine (encode_c T (some ⟨g, 0, none⟩) len k xs w1 (fun h => by cases h) (H1.out.1.front HLN.out) HX.out (by omega) (HT.out.below H1.out.2.2)).mono ?_); rintro e w2 ⟨u, rfl, hu, hb2⟩; rw [← hE.out]; rw [← hys.out, ← hL.out] at hu; obtain ⟨a2, c2, rfl, hs2, hn2, hl2⟩ := hu.seg; have H2 : Hid (Seg .u8 w2 a2 L ys ∧ Below w.heap.size w w2 ∧ Seg .u8 w2 (some ⟨g, 0, none⟩) (len + 16) (xs ++ marks) ∧ Bk 28 w2 P #[.int .i64 T, .slice a len cap]) := ⟨hs2, H1.out.2.2.trans (hb2.mono H1.out.2.2.size), H1.out.1.below hb2, H1.out.2.1.below hb2 (lt_of_block H1.out.2.1)⟩; clear hu hb2 hs2)
    | (refine wpList_load_bk 28 rfl _ rfl Tryd.underlying28 rfl Tryd.infoFrame P _ rfl H2.out.2.2.2 rfl ?_)
    | (go_at_call 11; go_must (refine (plain_c T a len cap _).mono ?_); rintro e w3 ⟨rfl, hb3⟩; have H3 : Hid (Seg .u8 w3 a2 L ys ∧ Below w.heap.size w w3 ∧ Seg .u8 w3 (some ⟨g, 0, none⟩) (len + 16) (xs ++ marks) ∧ Bk 28 w3 P #[.int .i64 T, .slice a len cap]) := ⟨H2.out.1.below hb3, H2.out.2.1.trans (hb3.mono H2.out.2.1.size), H2.out.2.2.1.below hb3, H2.out.2.2.2.below hb3 (lt_of_block H2.out.2.2.2)⟩; clear hb3)
    | (go_at_call 10; go_must (refine (GD.out w3 H3.out.2.1).mono ?_); rintro e w4 ⟨u4, rfl, hu4, hb4⟩; obtain ⟨a4, c4, rfl, hs4, hn4, hl4⟩ := hu4.seg; have H4 : Hid (Seg .u8 w4 a4 L ys ∧ Below w.heap.size w w4 ∧ Seg .u8 w4 (some ⟨g, 0, none⟩) (len + 16) (xs ++ marks) ∧ Bk 28 w4 P #[.int .i64 T, .slice a len cap] ∧ Seg .u8 w4 a2 L ys) := ⟨hs4, H3.out.2.1.trans (hb4.mono H3.out.2.1.size), H3.out.2.2.1.below hb4, H3.out.2.2.2.below hb4 (lt_of_block H3.out.2.2.2), H3.out.1.below hb4⟩; clear hu4 hb4 hs4; have r1 := seg_string (P := Tryd.prog) 24 9 5 c2 H4.out.2.2.2.2 Tryd.underlying24 Tryd.underlying5 Tryd.underlying9; have r2 := seg_string (P := Tryd.prog) 24 9 5 c4 H4.out.1 Tryd.underlying24 Tryd.underlying5 Tryd.underlying9; have p2 := H4.out.2.2.2.1.cell 0; have p3 := H4.out.2.2.2.1.cell 1; simp at p2 p3)
    | (go_at_call 7; refine (num_c _ _).mono ?_; rintro e w6 ⟨rfl, rfl⟩)
    | (go_at_call 12; go_must (refine (kept_c g len k xs a cap _ H4.out.2.2.1 hk (HS.out.below H4.out.2.1) HX.out hl).mono ?_); rintro e w7 ⟨rfl, hb7⟩; have H7 : Hid (Below w.heap.size w w7) := H4.out.2.1.trans (hb7.mono H4.out.2.1.size); clear hb7))
  go_ret
  exact ⟨rfl, H7.out⟩

theorem gTab : Tryd.prog.globalNamed "hawser/crc.halves" = some 0 := by kernel_rfl
theorem gTabType : (Tryd.prog.globals[0]?).map (·.type) = some 62 := by kernel_rfl
theorem cellsT : Tryd.prog.cellsOf 62 = 16 := by kernel_rfl
theorem cellsE : Tryd.prog.cellsOf 54 = 1 := by kernel_rfl
/-- What the row's list gives: the table's cells. -/
theorem table {W : World} (h : laidMetH Tryd.prog Rows.frameEncodesRow.laid W) : Lib.TabIs Tryd.prog W "hawser/crc.halves" .u32 tabl :=
  Lib.tabIs_of_head (rest := []) gTab gTabType Tryd.underlying62 Tryd.underlying54 cellsE cellsT h
theorem tab_of {W : World} (h : laidMetH Tryd.prog Rows.frameEncodesRow.laid W) : Tab W := fun i hi => (table h).cell gTab i (show i < tabl.length from hi)
theorem laid_met (os : Os) : laidMet Tryd.prog Rows.frameEncodesRow.laid (({ World.holding Tryd.prog os ⟨#[], #[], []⟩ with heap := (World.holding Tryd.prog os ⟨#[], #[], []⟩).heap.modify 0 fun | .cells _ t frozen => .cells (tabl.map fun z => Value.int .u32 z).toArray t frozen | o => o } : World).forCall (fun _ _ => 0) ⟨#[], #[.agg #[.int .i64 0, .slice none 0 0]], []⟩).memory :=
  laidMet_of_run' 8 (by kernel_rfl) (by kernel_rfl)
theorem reads (os : Os) {H : Type} (enc : TypeId × Value → H) : ∃ places, DataW.whole enc Tryd.prog (({ World.holding Tryd.prog os ⟨#[], #[], []⟩ with heap := (World.holding Tryd.prog os ⟨#[], #[], []⟩).heap.modify 0 fun | .cells _ t frozen => .cells (tabl.map fun z => Value.int .u32 z).toArray t frozen | o => o } : World).forCall (fun _ _ => 0) ⟨#[], #[.agg #[.int .i64 0, .slice none 0 0]], []⟩).memory Tryd.f4.params.toList Rows.frameEncodesSpec.vars false (#[.agg #[.int .i64 0, .slice none 0 0]] : Array Value).toList 8 = some ([.agg [.lit (.int .i64 0), .nil]], [], places) :=
  ⟨[], by kernel_rfl⟩

set_option maxRecDepth 100000 in
theorem lifted (os : Os) (started : os.Started) (H : Type) (enc : TypeId × Value → H) (F : Stop.Interp) :
    ReturnsInHanded {} Tryd.checked os 4 .any ((OpenSpec.ofChange Rows.frameEncodesSpec).preRow enc Tryd.prog Tryd.f4 Rows.frameEncodesRow.domain false Rows.frameEncodesRow.laid) (((OpenSpec.ofChange Rows.frameEncodesSpec).at F).post enc Tryd.prog Tryd.f4 false true false false) := by
  obtain ⟨places, hx⟩ := reads os enc
  refine returnsInHanded_of_row (C := Tryd.checked) (s := OpenSpec.ofChange Rows.frameEncodesSpec) own started (by kernel_rfl) Tryd.func4
    (witness_row_at (enc := enc) (C := Tryd.checked) false ({ World.holding Tryd.prog os ⟨#[], #[], []⟩ with heap := (World.holding Tryd.prog os ⟨#[], #[], []⟩).heap.modify 0 fun | .cells _ t frozen => .cells (tabl.map fun z => Value.int .u32 z).toArray t frozen | o => o } : World) #[.agg #[.int .i64 0, .slice none 0 0]] rfl (by kernel_rfl) (by kernel_rfl) (by kernel_rfl)
      (OpenSpec.preRow_of_cond 8 hx (by kernel_rfl) (fun k hk => by cases hk) (by kernel_rfl) (laid_met os))) ?_
  intro W base args ds gs before hval0 hW _ hcond0 hsz0 hL _ _
  have hsz : (DataW.weightsEach Tryd.prog (Tryd.f4.params.toList ++ Rows.frameEncodesSpec.plain.varTypes Tryd.prog) (ds ++ gs)).all (· ≤ reachBytes) = true := hsz0
  have hval : ∀ (j : Nat) t v, Tryd.f4.params[j]? = some t → args[j]? = some v → Value.okWide Tryd.prog W .any base t v := hval0
  have hW' := hW
  obtain ⟨p, q, hA0, hV, rfl, hfz, hnd⟩ := hW
  have hA : DataW.TrodAll enc Tryd.prog W 0 (fun _ => true) true Tryd.f4.params.toList args.toList ds p := hA0
  rw [Tryd.params4] at hA hval hsz
  obtain ⟨v0, vs0, d0, ds0, p0, q0, hargs, rfl, rfl, h0, r0⟩ := trodAll_cons hA
  obtain ⟨rfl, rfl, rfl⟩ := trodAll_nil r0
  obtain rfl : args = #[v0] := by cases args; simp_all
  obtain ⟨rfl, rfl⟩ := trodVars_none hV
  have k0 := h0
  have lt0 : ∀ x ∈ p0, x.block < W.heap.size := by obtain ⟨m, hm⟩ := k0; exact DataW.trod_lt m _ _ _ hm
  obtain ⟨c00, c10, y00, y10, m0, rfl, hd0, hp0, hy00, hy10⟩ := Go.Joins.open_agg2 Tryd.underlying28 (by kernel_rfl) (by kernel_rfl) (hval 0 28 v0 rfl rfl) h0
  obtain ⟨T0, eT0, _, wT0⟩ := DataW.trod_int Tryd.underlying3 hy00
  simp at eT0
  subst eT0
  obtain ⟨a0, len0, cap0, z0, rfl, x0⟩ : ∃ a len cap zs, c10 = .slice a len cap ∧ IsRow .u8 140737488351232 W a len cap zs := by
    rcases open_ints Tryd.underlying24 Tryd.underlying5 (by kernel_rfl) hy10 with ⟨hcs, _⟩ | ⟨x, l, c, zs, hcs, _, hl, hm, hz, hx, hcell, hwz⟩
    · simp at hcs
      exact ⟨none, 0, 0, [], hcs, .inl ⟨rfl, rfl, rfl, rfl⟩⟩
    · simp at hcs
      have hz' : zs.length = c := by simpa using hz
      have hd1 : y10.1 = _ := congrArg Prod.fst hx
      have hb := List.all_eq_true.1 hsz _ (DataW.weights_mem_each (j := 0) (t := 28) (ts := Tryd.f4.params.toList ++ Rows.frameEncodesSpec.plain.varTypes Tryd.prog) rfl rfl ((lits (H := H) .u8 (zs.take l)).length + (lits (H := H) .u8 (zs.drop l)).length) (by rw [hd0, hd1]; simp [DataW.weights, DataW.weightsEach, Tryd.underlying28, Tryd.underlying24, show Tryd.prog.bytesOf 5 = 1 from by kernel_rfl]))
      simp only [lits, List.length_map, List.length_take, List.length_drop, reachBytes, decide_eq_true_eq] at hb
      exact ⟨some x, l, c, zs, hcs, .inr ⟨_, rfl, hl, by omega, hz', hcell, hwz⟩⟩
  clear hA0 hval0
  simp only [List.append_nil] at hW'
  refine (walk T0 a0 len0 cap0 z0 W wT0 x0 (tab_of hL)).mono fun e W' ⟨he, bel⟩ => ?_
  subst he
  exact ⟨_, rfl, _, _, _, [], _, [], hW', trodAll_mk1 (shut_bool Tryd.underlying4 _), (trodAll_cons_mk (Below.trod laidOut (by kernel_rfl) (of_decide_eq_true (by kernel_rfl)) k0 bel lt0) trodAll_mk0), rfl, bel.frame _, fun h => by cases h⟩

theorem over : Rows.frameEncodesRow.holds Tryd.pinned (OpenSpec.ofChange Rows.frameEncodesSpec) :=
  OpenClaim.holds_of_cond 4 Tryd.f4 rfl rfl rfl rfl rfl rfl rfl ⟨rfl, rfl, rfl, rfl, rfl⟩ rfl rfl rfl rfl rfl (by kernel_rfl) Tryd.func4 (by kernel_rfl)
    (of_decide_eq_true (by kernel_rfl)) (by unfold Func.isWrapper; first | (rw [if_pos (by decide +kernel)]; kernel_rfl) | (rw [if_neg (by decide +kernel)]; exact ⟨rfl, rfl⟩))
    (fun os started H enc _ F => by rw [OpenClaim.pre_eq_preRow]; exact lifted os started H enc F)

/-- No parameter wants a stand-in; the program's own looks are off. -/
theorem plain (f : FuncId) (fn : Func) (hf : Tryd.pinned.checked.prog.funcNamed "hawser/hawserlaw04.FrameEncodes" = some f) (hfn : Tryd.pinned.checked.prog.funcs[f]? = some fn) :
    false = Tryd.pinned.checked.prog.looks [] ∧ ∀ (j : Nat) t, fn.params[j]? = some t → Tryd.pinned.checked.prog.wantsStandIn t = false := by
  obtain rfl : f = 4 := Option.some.inj ((show Tryd.prog.funcNamed "hawser/hawserlaw04.FrameEncodes" = some 4 by kernel_rfl).symm.trans hf) |>.symm
  obtain rfl : fn = Tryd.f4 := (Option.some.inj (Tryd.func4.symm.trans hfn)).symm
  refine ⟨by kernel_rfl, fun j t ht => ?_⟩
  rw [Tryd.params4] at ht
  have hm : t ∈ [28] := by simpa using Array.mem_of_getElem? ht
  have hall : (([28] : List TypeId).all fun u => !Tryd.prog.wantsStandIn u) = true := by kernel_rfl
  exact (show Tryd.prog.wantsStandIn t = false by simpa using List.all_eq_true.1 hall t hm)
theorem card : Rows.FrameEncodesCardSaid :=
  Claim7.holds_tied_plain_at .later [] _ _ _ _ over (fun _ h => by cases h) (by kernel_rfl) (fun _ h => by cases h) frameEncodes_row_tie rfl ⟨rfl, rfl⟩ (by kernel_rfl) rfl plain (by kernel_rfl)

end Go.Proofs.YtdgoncpebfkbdabDoor.frameEncodes
namespace Go.Proofs.YtdgoncpebfkbdabDoor
theorem frameEncodes_holds : Rows.FrameEncodesCardSaid := frameEncodes.card
#print axioms frameEncodes_holds
end Go.Proofs.YtdgoncpebfkbdabDoor
