/-
  Proved: for all states, hawserlaw09.ImageEncodes answers true: Check, Size and Encode answer what the document's Encode answers, the state stays as it was, its spare room too, and each answer is the caller's own. No condition but the form's own reach (the card ties the table of package crc to the program's text).
-/
import Derived.Test.YtlmjgjimmbadeaaDoorRows
import Derived.Test.YtlmjgjimmbadeaaDoorCards
import Derived.Test.YtlmjgjimmbadeaaDoorTie
import Derived.Test.YtlmjgjimmbadeaaDoorIEx
import Derived.Test.YtlmjgjimmbadeaaDoorIRo
import Derived.Test.YtlmjgjimmbadeaaDoorCrA
import Derived.WalkKit
import Derived.ProofKit
import Derived.OpenShut
import Derived.ShutString
import Derived.ChangeOld
import Derived.Below
import Derived.Lib.SmallJoins
import Derived.JoinedCond
import Derived.SizedLaws
import Derived.Deep.DeepHandedRow
import Derived.Lib.LaidTab
namespace Go.Proofs.YtlmjgjimmbadeaaDoor.imageEncodes
open Go.ChangeShapes Go.WideShapes Go.ChangeAt Go.RowKit
set_option linter.unusedVariables false

theorem own : ownKnob Tryd.prog.godebug = none := by kernel_rfl
theorem laidOut : laidOutB Tryd.prog = true := by kernel_rfl

theorem walk (seq : Int) (a : Option Addr) (n cap : Nat) (X : List Rwi) (seq2 : Int) (a2 : Option Addr) (n2 cap2 : Nat) (X2 : List Rwi) (w : World) (h : Rws w a n X) (hlc : n ≤ cap) (hcm : cap ≤ maxLen) (hnz : a = none → cap = 0) (hcb : cap * 40 ≤ 140737488351232) (h2 : Rws w a2 n2 X2) (hlc2 : n2 ≤ cap2) (hcm2 : cap2 ≤ maxLen) (hnz2 : a2 = none → cap2 = 0) (hcb2 : cap2 * 40 ≤ 140737488351232) (ht : Cr.Tab w) :
    Calls Tryd.prog 3 #[.agg #[.int .i64 seq, .slice a n cap], .agg #[.int .i64 seq2, .slice a2 n2 cap2]] w fun e w' => e = .returned (.bool true) ∧ Below w.heap.size w w' :=
  encodes_w seq a n cap X seq2 a2 n2 cap2 X2 w h hlc hnz hcb h2 (by omega) ht

theorem gTab : Tryd.prog.globalNamed "hawser/crc.halves" = some 0 := by kernel_rfl
theorem gTabType : (Tryd.prog.globals[0]?).map (·.type) = some 150 := by kernel_rfl
theorem cellsT : Tryd.prog.cellsOf 150 = 16 := by kernel_rfl
theorem cellsE : Tryd.prog.cellsOf 72 = 1 := by kernel_rfl
/-- What the row's list gives: the table's cells. -/
theorem table {W : World} (h : laidMetH Tryd.prog Rows.imageEncodesRow.laid W) : Lib.TabIs Tryd.prog W "hawser/crc.halves" .u32 Cr.tabl :=
  Lib.tabIs_of_head (rest := []) gTab gTabType Tryd.underlying150 Tryd.underlying72 cellsE cellsT h
theorem tab_of {W : World} (h : laidMetH Tryd.prog Rows.imageEncodesRow.laid W) : Cr.Tab W := fun i hi => (table h).cell gTab i (show i < Cr.tabl.length from hi)
theorem laid_met (os : Os) : laidMet Tryd.prog Rows.imageEncodesRow.laid (({ World.holding Tryd.prog os ⟨#[], #[], []⟩ with heap := (World.holding Tryd.prog os ⟨#[], #[], []⟩).heap.modify 0 fun | .cells _ t frozen => .cells (Cr.tabl.map fun z => Value.int .u32 z).toArray t frozen | o => o } : World).forCall (fun _ _ => 0) ⟨#[], #[.agg #[.int .i64 0, .slice none 0 0], .agg #[.int .i64 0, .slice none 0 0]], []⟩).memory :=
  laidMet_of_run' 8 (by kernel_rfl) (by kernel_rfl)
theorem reads (os : Os) {H : Type} (enc : TypeId × Value → H) : ∃ places, DataW.whole enc Tryd.prog (({ World.holding Tryd.prog os ⟨#[], #[], []⟩ with heap := (World.holding Tryd.prog os ⟨#[], #[], []⟩).heap.modify 0 fun | .cells _ t frozen => .cells (Cr.tabl.map fun z => Value.int .u32 z).toArray t frozen | o => o } : World).forCall (fun _ _ => 0) ⟨#[], #[.agg #[.int .i64 0, .slice none 0 0], .agg #[.int .i64 0, .slice none 0 0]], []⟩).memory Tryd.f3.params.toList Rows.imageEncodesSpec.vars false (#[.agg #[.int .i64 0, .slice none 0 0], .agg #[.int .i64 0, .slice none 0 0]] : Array Value).toList 8 = some ([.agg [.lit (.int .i64 0), .nil], .agg [.lit (.int .i64 0), .nil]], [], places) :=
  ⟨[], by kernel_rfl⟩

set_option maxRecDepth 100000 in
theorem lifted (os : Os) (started : os.Started) (H : Type) (enc : TypeId × Value → H) (F : Stop.Interp) :
    ReturnsInHanded {} Tryd.checked os 3 .any ((OpenSpec.ofChange Rows.imageEncodesSpec).preRow enc Tryd.prog Tryd.f3 Rows.imageEncodesRow.domain false Rows.imageEncodesRow.laid) (((OpenSpec.ofChange Rows.imageEncodesSpec).at F).post enc Tryd.prog Tryd.f3 false true false false) := by
  obtain ⟨places, hx⟩ := reads os enc
  refine returnsInHanded_of_row (C := Tryd.checked) (s := OpenSpec.ofChange Rows.imageEncodesSpec) own started (by kernel_rfl) Tryd.func3
    (witness_row_at (enc := enc) (C := Tryd.checked) false ({ World.holding Tryd.prog os ⟨#[], #[], []⟩ with heap := (World.holding Tryd.prog os ⟨#[], #[], []⟩).heap.modify 0 fun | .cells _ t frozen => .cells (Cr.tabl.map fun z => Value.int .u32 z).toArray t frozen | o => o } : World) #[.agg #[.int .i64 0, .slice none 0 0], .agg #[.int .i64 0, .slice none 0 0]] rfl (by kernel_rfl) (by kernel_rfl) (by kernel_rfl)
      (OpenSpec.preRow_of_cond 8 hx (by kernel_rfl) (fun k hk => by cases hk) (by kernel_rfl) (laid_met os))) ?_
  intro W base args ds gs before hval0 hW _ hcond0 hsz0 hL _ _
  have hsz : (DataW.weightsEach Tryd.prog (Tryd.f3.params.toList ++ Rows.imageEncodesSpec.plain.varTypes Tryd.prog) (ds ++ gs)).all (· ≤ reachBytes) = true := hsz0
  have hval : ∀ (j : Nat) t v, Tryd.f3.params[j]? = some t → args[j]? = some v → Value.okWide Tryd.prog W .any base t v := hval0
  have hW' := hW
  obtain ⟨p, q, hA0, hV, rfl, hfz, hnd⟩ := hW
  have hA : DataW.TrodAll enc Tryd.prog W 0 (fun _ => true) true Tryd.f3.params.toList args.toList ds p := hA0
  rw [Tryd.params3] at hA hval hsz
  obtain ⟨v0, vs0, d0, ds0, p0, q0, hargs, rfl, rfl, h0, r0⟩ := trodAll_cons hA
  obtain ⟨v1, vs1, d1, ds1, p1, q1, rfl, rfl, rfl, h1, r1⟩ := trodAll_cons r0
  obtain ⟨rfl, rfl, rfl⟩ := trodAll_nil r1
  obtain rfl : args = #[v0, v1] := by cases args; simp_all
  obtain ⟨rfl, rfl⟩ := trodVars_none hV
  have k0 := h0
  have lt0 : ∀ x ∈ p0, x.block < W.heap.size := by obtain ⟨m, hm⟩ := k0; exact DataW.trod_lt m _ _ _ hm
  obtain ⟨c00, c10, y00, y10, m0, rfl, hd0, hp0, hy00, hy10⟩ := Go.Joins.open_agg2 Tryd.underlying24 (by kernel_rfl) (by kernel_rfl) (hval 0 24 v0 rfl rfl) h0
  obtain ⟨S0, eS0, _, wS0⟩ := DataW.trod_int Tryd.underlying3 hy00
  simp at eS0
  subst eS0
  obtain ⟨a0, n0, cap0, X0, rfl, x0, lc0, cm0, nz0, sl0⟩ := rows_openS hy10
  have y0 : cap0 * 40 ≤ 140737488351232 := by
    rcases sl0 with z | ⟨l, r, e1, e2⟩
    · rw [z]; omega
    · have hb := List.all_eq_true.1 hsz _ (DataW.weights_mem_each (j := 0) (t := 24) (ts := Tryd.f3.params.toList ++ Rows.imageEncodesSpec.plain.varTypes Tryd.prog) rfl rfl ((l.length + r.length) * 40) (by rw [hd0, e1]; simp [DataW.weights, DataW.weightsEach, Tryd.underlying24, Tryd.underlying22, show Tryd.prog.bytesOf 48 = 40 from by kernel_rfl]))
      rw [e2] at hb
      exact of_decide_eq_true hb
  have k1 := h1
  have lt1 : ∀ x ∈ p1, x.block < W.heap.size := by obtain ⟨m, hm⟩ := k1; exact DataW.trod_lt m _ _ _ hm
  obtain ⟨c01, c11, y01, y11, m1, rfl, hd1, hp1, hy01, hy11⟩ := Go.Joins.open_agg2 Tryd.underlying24 (by kernel_rfl) (by kernel_rfl) (hval 1 24 v1 rfl rfl) h1
  obtain ⟨S1, eS1, _, wS1⟩ := DataW.trod_int Tryd.underlying3 hy01
  simp at eS1
  subst eS1
  obtain ⟨a1, n1, cap1, X1, rfl, x1, lc1, cm1, nz1, sl1⟩ := rows_openS hy11
  have y1 : cap1 * 40 ≤ 140737488351232 := by
    rcases sl1 with z | ⟨l, r, e1, e2⟩
    · rw [z]; omega
    · have hb := List.all_eq_true.1 hsz _ (DataW.weights_mem_each (j := 1) (t := 24) (ts := Tryd.f3.params.toList ++ Rows.imageEncodesSpec.plain.varTypes Tryd.prog) rfl rfl ((l.length + r.length) * 40) (by rw [hd1, e1]; simp [DataW.weights, DataW.weightsEach, Tryd.underlying24, Tryd.underlying22, show Tryd.prog.bytesOf 48 = 40 from by kernel_rfl]))
      rw [e2] at hb
      exact of_decide_eq_true hb
  clear hA0 hval0
  simp only [List.append_nil] at hW'
  refine (walk S0 a0 n0 cap0 X0 S1 a1 n1 cap1 X1 W x0 lc0 cm0 nz0 y0 x1 lc1 cm1 nz1 y1 (tab_of hL)).mono fun e W' ⟨he, bel⟩ => ?_
  subst he
  exact ⟨_, rfl, _, _, _, [], _, [], hW', trodAll_mk1 (shut_bool Tryd.underlying4 _), (trodAll_cons_mk (Below.trod laidOut (by kernel_rfl) (of_decide_eq_true (by kernel_rfl)) k0 bel lt0) (trodAll_cons_mk (Below.trod laidOut (by kernel_rfl) (of_decide_eq_true (by kernel_rfl)) k1 bel lt1) trodAll_mk0)), rfl, bel.frame _, fun h => by cases h⟩

theorem over : Rows.imageEncodesRow.holds Tryd.pinned (OpenSpec.ofChange Rows.imageEncodesSpec) :=
  OpenClaim.holds_of_cond 3 Tryd.f3 rfl rfl rfl rfl rfl rfl rfl ⟨rfl, rfl, rfl, rfl, rfl⟩ rfl rfl rfl rfl rfl (by kernel_rfl) Tryd.func3 (by kernel_rfl)
    (of_decide_eq_true (by kernel_rfl)) (by unfold Func.isWrapper; first | (rw [if_pos (by decide +kernel)]; kernel_rfl) | (rw [if_neg (by decide +kernel)]; exact ⟨rfl, rfl⟩))
    (fun os started H enc _ F => by rw [OpenClaim.pre_eq_preRow]; exact lifted os started H enc F)

/-- No parameter wants a stand-in; the program's own looks are off. -/
theorem plain (f : FuncId) (fn : Func) (hf : Tryd.pinned.checked.prog.funcNamed "hawser/hawserlaw09.ImageEncodes" = some f) (hfn : Tryd.pinned.checked.prog.funcs[f]? = some fn) :
    false = Tryd.pinned.checked.prog.looks [] ∧ ∀ (j : Nat) t, fn.params[j]? = some t → Tryd.pinned.checked.prog.wantsStandIn t = false := by
  obtain rfl : f = 3 := Option.some.inj ((show Tryd.prog.funcNamed "hawser/hawserlaw09.ImageEncodes" = some 3 by kernel_rfl).symm.trans hf) |>.symm
  obtain rfl : fn = Tryd.f3 := (Option.some.inj (Tryd.func3.symm.trans hfn)).symm
  refine ⟨by kernel_rfl, fun j t ht => ?_⟩
  rw [Tryd.params3] at ht
  have hm : t ∈ [24, 24] := by simpa using Array.mem_of_getElem? ht
  have hall : (([24, 24] : List TypeId).all fun u => !Tryd.prog.wantsStandIn u) = true := by kernel_rfl
  exact (show Tryd.prog.wantsStandIn t = false by simpa using List.all_eq_true.1 hall t hm)
theorem card : Rows.ImageEncodesCardSaid :=
  Claim7.holds_tied_plain_at .later [] _ _ _ _ over (fun _ h => by cases h) (by kernel_rfl) (fun _ h => by cases h) imageEncodes_row_tie rfl ⟨rfl, rfl⟩ (by kernel_rfl) rfl plain (by kernel_rfl)

end Go.Proofs.YtlmjgjimmbadeaaDoor.imageEncodes
namespace Go.Proofs.YtlmjgjimmbadeaaDoor
theorem imageEncodes_holds : Rows.ImageEncodesCardSaid := imageEncodes.card
#print axioms imageEncodes_holds
end Go.Proofs.YtlmjgjimmbadeaaDoor
