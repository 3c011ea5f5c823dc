/-
  Proved: for every state and every turning, hawserlaw09.ImageFlips answers true: an image with one, two or three turned bits, or any within 32 neighbouring ones, is refused, or is as it was. No condition but the form's own reach (the card ties the table of package crc to the program's text).
-/
import Derived.Test.YtlmjgjimmbadeaaDoorRows
import Derived.Test.YtlmjgjimmbadeaaDoorCards
import Derived.Test.YtlmjgjimmbadeaaDoorTie
import Derived.Test.YtlmjgjimmbadeaaDoorIFz
import Derived.Test.YtlmjgjimmbadeaaDoorIRo
import Derived.Test.YtlmjgjimmbadeaaDoorCrA
import Derived.WalkKit
import Derived.ProofKit
import Derived.OpenShut
import Derived.ShutString
import Derived.ChangeOld
import Derived.Below
import Derived.Lib.SmallJoins
import Derived.JoinedCond
import Derived.Deep.DeepHandedRow
import Derived.Lib.LaidTab
namespace Go.Proofs.YtlmjgjimmbadeaaDoor.imageFlips
open Go.ChangeShapes Go.WideShapes Go.ChangeAt Go.RowKit
set_option linter.unusedVariables false

theorem own : ownKnob Tryd.prog.godebug = none := by kernel_rfl
theorem laidOut : laidOutB Tryd.prog = true := by kernel_rfl

/-- What the walk is told of a slice of integers that came in. -/
def IsRow (k : IntKind) (R : Nat) (w : World) (a : Option Addr) (len cap : Nat) (zs : List Int) : Prop :=
  (a = none ∧ len = 0 ∧ cap = 0 ∧ zs = []) ∨
  ∃ x, a = some x ∧ len ≤ cap ∧ cap ≤ R ∧ zs.length = cap ∧ (∀ i, i < zs.length → w.cell? (x.add i) = some (.int k (zs.getD i 0))) ∧ ∀ n ∈ zs, (Lit.int k n).wf = true

theorem wf_i64 {n : Int} (h : (Lit.int .i64 n).wf = true) : -9223372036854775808 ≤ n ∧ n ≤ 9223372036854775807 := by
  have e : IntKind.i64.min = -9223372036854775808 := by decide
  have q : IntKind.i64.min ≤ n ∧ n ≤ 9223372036854775807 := by simpa [Lit.wf] using h
  rw [e] at q
  exact q
theorem wf_u32 {n : Int} (h : (Lit.int .u32 n).wf = true) : 0 ≤ n ∧ n < 4294967296 := by
  have e : IntKind.u32.min = 0 := by decide
  have e2 : IntKind.u32.max = 4294967295 := by decide
  have q : IntKind.u32.min ≤ n ∧ n ≤ IntKind.u32.max := by simpa [Lit.wf] using h
  rw [e, e2] at q
  omega
theorem walk (seq : Int) (a : Option Addr) (n cap : Nat) (X : List Rwi) (T0 M0 : Int) (am : Option Addr) (lm cm : Nat) (zm : List Int) (w : World) (h : Rws w a n X) (hlc : n ≤ cap) (hcm : cap ≤ maxLen) (hnz : a = none → cap = 0) (wT : (Lit.int .i64 T0).wf = true) (wM : (Lit.int .u32 M0).wf = true) (xm : IsRow .i64 maxLen w am lm cm zm) (ht : Cr.Tab w) :
    Calls Tryd.prog 7 #[.agg #[.int .i64 seq, .slice a n cap], .agg #[.int .i64 T0, .int .u32 M0, .slice am lm cm]] w fun e w' => e = .returned (.bool true) ∧ Below w.heap.size w w' := by
  obtain ⟨hs, _, _, hwf⟩ := seg_of_row xm
  have hM := wf_u32 wM
  obtain ⟨v, rfl⟩ : ∃ v : Cr.Wd, M0 = Cr.W v := Cr.W_of M0 hM.1 hM.2
  refine flips_w seq a n cap X T0 v am lm cm (zm.take lm) w h (by unfold maxLen at hcm; omega) (wf_i64 wT) hs (fun i hi => wf_i64 (hwf i (by rw [hs.1]; exact hi))) ht

theorem gTab : Tryd.prog.globalNamed "hawser/crc.halves" = some 0 := by kernel_rfl
theorem gTabType : (Tryd.prog.globals[0]?).map (·.type) = some 150 := by kernel_rfl
theorem cellsT : Tryd.prog.cellsOf 150 = 16 := by kernel_rfl
theorem cellsE : Tryd.prog.cellsOf 72 = 1 := by kernel_rfl
/-- What the row's list gives: the table's cells. -/
theorem table {W : World} (h : laidMetH Tryd.prog Rows.imageFlipsRow.laid W) : Lib.TabIs Tryd.prog W "hawser/crc.halves" .u32 Cr.tabl :=
  Lib.tabIs_of_head (rest := []) gTab gTabType Tryd.underlying150 Tryd.underlying72 cellsE cellsT h
theorem tab_of {W : World} (h : laidMetH Tryd.prog Rows.imageFlipsRow.laid W) : Cr.Tab W := fun i hi => (table h).cell gTab i (show i < Cr.tabl.length from hi)
theorem laid_met (os : Os) : laidMet Tryd.prog Rows.imageFlipsRow.laid (({ World.holding Tryd.prog os ⟨#[], #[], []⟩ with heap := (World.holding Tryd.prog os ⟨#[], #[], []⟩).heap.modify 0 fun | .cells _ t frozen => .cells (Cr.tabl.map fun z => Value.int .u32 z).toArray t frozen | o => o } : World).forCall (fun _ _ => 0) ⟨#[], #[.agg #[.int .i64 0, .slice none 0 0], .agg #[.int .i64 0, .int .u32 0, .slice none 0 0]], []⟩).memory :=
  laidMet_of_run' 8 (by kernel_rfl) (by kernel_rfl)
theorem reads (os : Os) {H : Type} (enc : TypeId × Value → H) : ∃ places, DataW.whole enc Tryd.prog (({ World.holding Tryd.prog os ⟨#[], #[], []⟩ with heap := (World.holding Tryd.prog os ⟨#[], #[], []⟩).heap.modify 0 fun | .cells _ t frozen => .cells (Cr.tabl.map fun z => Value.int .u32 z).toArray t frozen | o => o } : World).forCall (fun _ _ => 0) ⟨#[], #[.agg #[.int .i64 0, .slice none 0 0], .agg #[.int .i64 0, .int .u32 0, .slice none 0 0]], []⟩).memory Tryd.f7.params.toList Rows.imageFlipsSpec.vars false (#[.agg #[.int .i64 0, .slice none 0 0], .agg #[.int .i64 0, .int .u32 0, .slice none 0 0]] : Array Value).toList 8 = some ([.agg [.lit (.int .i64 0), .nil], .agg [.lit (.int .i64 0), .lit (.int .u32 0), .nil]], [], places) :=
  ⟨[], by kernel_rfl⟩

set_option maxRecDepth 100000 in
theorem lifted (os : Os) (started : os.Started) (H : Type) (enc : TypeId × Value → H) (F : Stop.Interp) :
    ReturnsInHanded {} Tryd.checked os 7 .any ((OpenSpec.ofChange Rows.imageFlipsSpec).preRow enc Tryd.prog Tryd.f7 Rows.imageFlipsRow.domain false Rows.imageFlipsRow.laid) (((OpenSpec.ofChange Rows.imageFlipsSpec).at F).post enc Tryd.prog Tryd.f7 false true false false) := by
  obtain ⟨places, hx⟩ := reads os enc
  refine returnsInHanded_of_row (C := Tryd.checked) (s := OpenSpec.ofChange Rows.imageFlipsSpec) own started (by kernel_rfl) Tryd.func7
    (witness_row_at (enc := enc) (C := Tryd.checked) false ({ World.holding Tryd.prog os ⟨#[], #[], []⟩ with heap := (World.holding Tryd.prog os ⟨#[], #[], []⟩).heap.modify 0 fun | .cells _ t frozen => .cells (Cr.tabl.map fun z => Value.int .u32 z).toArray t frozen | o => o } : World) #[.agg #[.int .i64 0, .slice none 0 0], .agg #[.int .i64 0, .int .u32 0, .slice none 0 0]] rfl (by kernel_rfl) (by kernel_rfl) (by kernel_rfl)
      (OpenSpec.preRow_of_cond 8 hx (by kernel_rfl) (fun k hk => by cases hk) (by kernel_rfl) (laid_met os))) ?_
  intro W base args ds gs before hval0 hW _ hcond0 hsz0 hL _ _
  have hval : ∀ (j : Nat) t v, Tryd.f7.params[j]? = some t → args[j]? = some v → Value.okWide Tryd.prog W .any base t v := hval0
  have hW' := hW
  obtain ⟨p, q, hA0, hV, rfl, hfz, hnd⟩ := hW
  have hA : DataW.TrodAll enc Tryd.prog W 0 (fun _ => true) true Tryd.f7.params.toList args.toList ds p := hA0
  rw [Tryd.params7] at hA hval
  obtain ⟨v0, vs0, d0, ds0, p0, q0, hargs, rfl, rfl, h0, r0⟩ := trodAll_cons hA
  obtain ⟨v1, vs1, d1, ds1, p1, q1, rfl, rfl, rfl, h1, r1⟩ := trodAll_cons r0
  obtain ⟨rfl, rfl, rfl⟩ := trodAll_nil r1
  obtain rfl : args = #[v0, v1] := by cases args; simp_all
  obtain ⟨rfl, rfl⟩ := trodVars_none hV
  have k0 := h0
  have lt0 : ∀ x ∈ p0, x.block < W.heap.size := by obtain ⟨m, hm⟩ := k0; exact DataW.trod_lt m _ _ _ hm
  obtain ⟨c00, c10, y00, y10, m0, rfl, hd0, hp0, hy00, hy10⟩ := Go.Joins.open_agg2 Tryd.underlying24 (by kernel_rfl) (by kernel_rfl) (hval 0 24 v0 rfl rfl) h0
  obtain ⟨S0, eS0, _, wS0⟩ := DataW.trod_int Tryd.underlying3 hy00
  simp at eS0
  subst eS0
  obtain ⟨a0, n0, cap0, X0, rfl, x0, lc0, cm0, nz0⟩ := rows_openI hy10
  have k1 := h1
  have lt1 : ∀ x ∈ p1, x.block < W.heap.size := by obtain ⟨m, hm⟩ := k1; exact DataW.trod_lt m _ _ _ hm
  obtain ⟨c01, c11, c21, y01, y11, y21, m1, rfl, hd1, hp1, hy01, hy11, hy21⟩ := Go.Joins.open_agg3 Tryd.underlying75 (by kernel_rfl) (by kernel_rfl) (hval 1 75 v1 rfl rfl) h1
  obtain ⟨T1, eT1, _, wT1⟩ := DataW.trod_int Tryd.underlying3 hy01
  obtain ⟨M1, eM1, _, wM1⟩ := DataW.trod_int Tryd.underlying72 hy11
  simp at eT1 eM1
  subst eT1 eM1
  obtain ⟨a1, len1, cap1, z1, rfl, x1⟩ : ∃ a len cap zs, c21 = .slice a len cap ∧ IsRow .i64 maxLen W a len cap zs := by
    rcases open_ints Tryd.underlying73 Tryd.underlying3 (by kernel_rfl) hy21 with ⟨hcs, _⟩ | ⟨x, l, c, zs, hcs, _, hl, hm, hz, hx, hcell, hwz⟩
    · simp at hcs
      exact ⟨none, 0, 0, [], hcs, .inl ⟨rfl, rfl, rfl, rfl⟩⟩
    · simp at hcs
      have hz' : zs.length = c := by simpa using hz
      exact ⟨some x, l, c, zs, hcs, .inr ⟨_, rfl, hl, hm, hz', hcell, hwz⟩⟩
  clear hA0 hval0
  simp only [List.append_nil] at hW'
  refine (walk S0 a0 n0 cap0 X0 T1 M1 a1 len1 cap1 z1 W x0 lc0 cm0 nz0 wT1 wM1 x1 (tab_of hL)).mono fun e W' ⟨he, bel⟩ => ?_
  subst he
  exact ⟨_, rfl, _, _, _, [], _, [], hW', trodAll_mk1 (shut_bool Tryd.underlying4 _), (trodAll_cons_mk (Below.trod laidOut (by kernel_rfl) (of_decide_eq_true (by kernel_rfl)) k0 bel lt0) (trodAll_cons_mk (Below.trod laidOut (by kernel_rfl) (of_decide_eq_true (by kernel_rfl)) k1 bel lt1) trodAll_mk0)), rfl, bel.frame _, fun h => by cases h⟩

theorem over : Rows.imageFlipsRow.holds Tryd.pinned (OpenSpec.ofChange Rows.imageFlipsSpec) :=
  OpenClaim.holds_of_cond 7 Tryd.f7 rfl rfl rfl rfl rfl rfl rfl ⟨rfl, rfl, rfl, rfl, rfl⟩ rfl rfl rfl rfl rfl (by kernel_rfl) Tryd.func7 (by kernel_rfl)
    (of_decide_eq_true (by kernel_rfl)) (by unfold Func.isWrapper; first | (rw [if_pos (by decide +kernel)]; kernel_rfl) | (rw [if_neg (by decide +kernel)]; exact ⟨rfl, rfl⟩))
    (fun os started H enc _ F => by rw [OpenClaim.pre_eq_preRow]; exact lifted os started H enc F)

/-- No parameter wants a stand-in; the program's own looks are off. -/
theorem plain (f : FuncId) (fn : Func) (hf : Tryd.pinned.checked.prog.funcNamed "hawser/hawserlaw09.ImageFlips" = some f) (hfn : Tryd.pinned.checked.prog.funcs[f]? = some fn) :
    false = Tryd.pinned.checked.prog.looks [] ∧ ∀ (j : Nat) t, fn.params[j]? = some t → Tryd.pinned.checked.prog.wantsStandIn t = false := by
  obtain rfl : f = 7 := Option.some.inj ((show Tryd.prog.funcNamed "hawser/hawserlaw09.ImageFlips" = some 7 by kernel_rfl).symm.trans hf) |>.symm
  obtain rfl : fn = Tryd.f7 := (Option.some.inj (Tryd.func7.symm.trans hfn)).symm
  refine ⟨by kernel_rfl, fun j t ht => ?_⟩
  rw [Tryd.params7] at ht
  have hm : t ∈ [24, 75] := by simpa using Array.mem_of_getElem? ht
  have hall : (([24, 75] : List TypeId).all fun u => !Tryd.prog.wantsStandIn u) = true := by kernel_rfl
  exact (show Tryd.prog.wantsStandIn t = false by simpa using List.all_eq_true.1 hall t hm)
theorem card : Rows.ImageFlipsCardSaid :=
  Claim7.holds_tied_plain_at .later [] _ _ _ _ over (fun _ h => by cases h) (by kernel_rfl) (fun _ h => by cases h) imageFlips_row_tie rfl ⟨rfl, rfl⟩ (by kernel_rfl) rfl plain (by kernel_rfl)

end Go.Proofs.YtlmjgjimmbadeaaDoor.imageFlips
namespace Go.Proofs.YtlmjgjimmbadeaaDoor
theorem imageFlips_holds : Rows.ImageFlipsCardSaid := imageFlips.card
#print axioms imageFlips_holds
end Go.Proofs.YtlmjgjimmbadeaaDoor
