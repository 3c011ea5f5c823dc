/-
  Proved: for all words, hawserlaw02.CrcTails answers true: Tail is the document's, and its four bytes lead from the one sum to the other. No condition (the card ties the table of package crc to the program's text).
-/
import Derived.Test.YtlfijnegmnploabDoorRows
import Derived.Test.YtlfijnegmnploabDoorCards
import Derived.Test.YtlfijnegmnploabDoorTie
import Derived.Test.YtlfijnegmnploabDoorTab
import Derived.Test.YtlfijnegmnploabDoorTailC
import Derived.WalkKit
import Derived.ProofKit
import Derived.OpenShut
import Derived.ShutString
import Derived.ChangeOld
import Derived.Below
import Derived.Lib.SmallJoins
import Derived.JoinedCond
import Derived.Deep.DeepHandedRow
import Derived.Lib.LaidTab
import Derived.Stop.BytesEq
import Derived.Deep.RegionHeld3
import Derived.BigQuiet
namespace Go.Proofs.YtlfijnegmnploabDoor.crcTails
open Go.ChangeShapes Go.WideShapes Go.ChangeAt Go.RowKit
set_option linter.unusedVariables false

theorem own : ownKnob Tryd.prog.godebug = none := by kernel_rfl
theorem laidOut : laidOutB Tryd.prog = true := by kernel_rfl

theorem tail_leads (c v : Wd) : ~~~ (reg (~~~ c) (by4 (tail c v))) = v := by
  rw [reg_by4]
  unfold tail
  rw [BitVec.xor_comm (uxn 32 (~~~ v)), ← BitVec.xor_assoc, BitVec.xor_self, show (0#32 : Wd) ^^^ uxn 32 (~~~ v) = uxn 32 (~~~ v) from BitVec.zero_xor, txn_uxn, BitVec.not_not]

theorem cell_of (b : Int) (h0 : 0 ≤ b) (h1 : b < 256) : Value.int .u8 b = Extern.Stop.cell (UInt8.ofNat b.toNat) := by
  have e : ((UInt8.ofNat b.toNat).toNat : Int) = b := by simp [UInt8.toNat_ofNat']; omega
  show _ = Value.int .u8 (((UInt8.ofNat b.toNat).toNat : Nat) : Int)
  rw [e]
theorem same4 (b0 b1 b2 b3 : Int) (h : Bytes [b0, b1, b2, b3]) (w : World) :
    (Op.equalIn 10000 23 (.agg #[.int .u8 b0, .int .u8 b1, .int .u8 b2, .int .u8 b3]) (.agg #[.int .u8 b0, .int .u8 b1, .int .u8 b2, .int .u8 b3])).run Tryd.prog w = .ok true w := by
  have m := h.mem
  have m0 := m b0 (by simp)
  have m1 := m b1 (by simp)
  have m2 := m b2 (by simp)
  have m3 := m b3 (by simp)
  have := run_equalIn_bytes (P := Tryd.prog) w 9998 23 5 4 Tryd.underlying23 Tryd.underlying5 (fun _ => by kernel_rfl) [UInt8.ofNat b0.toNat, UInt8.ofNat b1.toNat, UInt8.ofNat b2.toNat, UInt8.ofNat b3.toNat] [UInt8.ofNat b0.toNat, UInt8.ofNat b1.toNat, UInt8.ofNat b2.toNat, UInt8.ofNat b3.toNat] rfl rfl
  rw [cell_of b0 m0.1 m0.2, cell_of b1 m1.1 m1.2, cell_of b2 m2.1 m2.2, cell_of b3 m3.1 m3.2]
  rw [beq_self_eq_true] at this
  exact this
theorem held4 {w3 wr w4 : World} {g : Nat} {b0 b1 b2 b3 : Int} (hg : g < w3.heap.size)
    (h : wr.cell? ⟨g, 0, none⟩ = some (.int .u8 b0) ∧ wr.cell? ⟨g, 1, none⟩ = some (.int .u8 b1) ∧ wr.cell? ⟨g, 2, none⟩ = some (.int .u8 b2) ∧ wr.cell? ⟨g, 3, none⟩ = some (.int .u8 b3) ∧ Hid (Below w3.heap.size w3 wr)) (hb : Below wr.heap.size wr w4) :
    w4.cell? ⟨g, 0, none⟩ = some (.int .u8 b0) ∧ w4.cell? ⟨g, 1, none⟩ = some (.int .u8 b1) ∧ w4.cell? ⟨g, 2, none⟩ = some (.int .u8 b2) ∧ w4.cell? ⟨g, 3, none⟩ = some (.int .u8 b3) ∧ Hid (Below w3.heap.size w3 w4) := by
  obtain ⟨h0, h1, h2, h3, h4⟩ := h
  have hlt : g < wr.heap.size := Nat.lt_of_lt_of_le hg h4.out.size
  exact ⟨(hb.cell hlt).trans h0, (hb.cell hlt).trans h1, (hb.cell hlt).trans h2, (hb.cell hlt).trans h3, h4.out.trans (hb.mono h4.out.size)⟩

theorem heldBelow {w3 wr : World} {g n : Nat} {b0 b1 b2 b3 : Int}
    (h : wr.cell? ⟨g, 0, none⟩ = some (.int .u8 b0) ∧ wr.cell? ⟨g, 1, none⟩ = some (.int .u8 b1) ∧ wr.cell? ⟨g, 2, none⟩ = some (.int .u8 b2) ∧ wr.cell? ⟨g, 3, none⟩ = some (.int .u8 b3) ∧ Hid (Below w3.heap.size w3 wr)) (hn : n ≤ w3.heap.size) : Below n w3 wr := h.2.2.2.2.out.mono hn
theorem heldSeg {w3 wr : World} {g : Nat} {b0 b1 b2 b3 : Int} (hg : g < w3.heap.size)
    (h : wr.cell? ⟨g, 0, none⟩ = some (.int .u8 b0) ∧ wr.cell? ⟨g, 1, none⟩ = some (.int .u8 b1) ∧ wr.cell? ⟨g, 2, none⟩ = some (.int .u8 b2) ∧ wr.cell? ⟨g, 3, none⟩ = some (.int .u8 b3) ∧ Hid (Below w3.heap.size w3 wr)) :
    Seg .u8 wr (some ⟨g, 0, none⟩) 4 [b0, b1, b2, b3] := by
  obtain ⟨h0, h1, h2, h3, h4⟩ := h
  refine ⟨rfl, .inr ⟨g, 0, rfl, Nat.lt_of_lt_of_le hg h4.out.size, fun i hi => ?_⟩⟩
  match i, hi with
  | 0, _ => exact h0
  | 1, _ => exact h1
  | 2, _ => exact h2
  | 3, _ => exact h3

set_option maxHeartbeats 1000000 in
theorem walk (a0 a1 : Int) (w : World) (w0 : (Lit.int .u32 a0).wf = true) (w1 : (Lit.int .u32 a1).wf = true) (ht : Tab w) :
    Calls Tryd.prog 3 #[.int .u32 a0, .int .u32 a1] w fun e w' => e = .returned (.bool true) ∧ Below w.heap.size w w' := by
  have b0 := bounds_u32 w0
  have b1 := bounds_u32 w1
  obtain ⟨c, rfl⟩ := W_of a0 b0.1 (by omega)
  obtain ⟨v, rfl⟩ := W_of a1 b1.1 (by omega)
  have HT : Hid (Tab w) := ht
  have HL : Hid (~~~ (reg (~~~ c) (by4 (tail c v))) = v) := tail_leads c v
  have HY : Hid (Bytes (by4 (tail c v))) := bytes_of_mem (by4_bytes _)
  clear ht w0 b0 w1 b1
  obtain ⟨b0, b1, b2, b3, hA, hB⟩ := arr4_ex (tail c v)
  rw [hB] at HL HY
  replace hA : Hid _ := hA
  replace hB : Hid _ := hB
  go_enter Tryd.func3, Tryd.ntmps3
  go_wp2_with (go_at_call 6; go_must (refine (tail_c _ _ _).mono ?_); rintro e w2 ⟨rfl, hb2⟩; rw [hA.out]; replace hb2 : Hid _ := hb2)
  have hc : ∀ i, i < 4 → (w2.alloc (Obj.cells #[.int .u8 b0, .int .u8 b1, .int .u8 b2, .int .u8 b3] 23)).cell? ⟨w2.heap.size, i, none⟩ = #[Value.int .u8 b0, .int .u8 b1, .int .u8 b2, .int .u8 b3][i]? := fun i _ => World.cell?_alloc_new _ _ _ _
  have c0 := hc 0 (by omega)
  have c1 := hc 1 (by omega)
  have c2 := hc 2 (by omega)
  have c3 := hc 3 (by omega)
  have HB3 : Hid (Below w.heap.size w (w2.alloc (Obj.cells #[.int .u8 b0, .int .u8 b1, .int .u8 b2, .int .u8 b3] 23))) := hb2.out.alloc hb2.out.size _
  have hg3 : Hid (w2.heap.size < (w2.alloc (Obj.cells #[.int .u8 b0, .int .u8 b1, .int .u8 b2, .int .u8 b3] 23)).heap.size) := by show _ < _; simp
  clear hc hb2
  generalize (w2.alloc (Obj.cells #[.int .u8 b0, .int .u8 b1, .int .u8 b2, .int .u8 b3] 23)) = w3 at c0 c1 c2 c3 HB3 hg3 ⊢
  generalize w2.heap.size = g at c0 c1 c2 c3 hg3 ⊢
  have hS : w3.cell? ⟨g, 0, none⟩ = some (.int .u8 b0) ∧ w3.cell? ⟨g, 1, none⟩ = some (.int .u8 b1) ∧ w3.cell? ⟨g, 2, none⟩ = some (.int .u8 b2) ∧ w3.cell? ⟨g, 3, none⟩ = some (.int .u8 b3) ∧ Hid (Below w3.heap.size w3 w3) := ⟨c0, c1, c2, c3, Below.refl _ _⟩
  have hSd : w3.drew.cell? ⟨g, 0, none⟩ = some (.int .u8 b0) ∧ w3.drew.cell? ⟨g, 1, none⟩ = some (.int .u8 b1) ∧ w3.drew.cell? ⟨g, 2, none⟩ = some (.int .u8 b2) ∧ w3.drew.cell? ⟨g, 3, none⟩ = some (.int .u8 b3) ∧ Hid (Below w3.heap.size w3 w3.drew) := ⟨c0, c1, c2, c3, (Below.refl _ _).drew⟩
  clear c0 c1 c2 c3
  have heq := same4 b0 b1 b2 b3 HY.out
  go_region_held3 (fun wr => wr.cell? ⟨g, 0, none⟩ = some (.int .u8 b0) ∧ wr.cell? ⟨g, 1, none⟩ = some (.int .u8 b1) ∧ wr.cell? ⟨g, 2, none⟩ = some (.int .u8 b2) ∧ wr.cell? ⟨g, 3, none⟩ = some (.int .u8 b3) ∧ Hid (Below w3.heap.size w3 wr)) (assumption) (first
    | (go_at_call 7; refine (rtail_c _ _ _).mono ?_; rintro e w4 ⟨rfl, hb4⟩; rw [hA.out]; have hS4 : w4.cell? ⟨g, 0, none⟩ = some (.int .u8 b0) ∧ w4.cell? ⟨g, 1, none⟩ = some (.int .u8 b1) ∧ w4.cell? ⟨g, 2, none⟩ = some (.int .u8 b2) ∧ w4.cell? ⟨g, 3, none⟩ = some (.int .u8 b3) ∧ Hid (Below w3.heap.size w3 w4) := held4 hg3.out (by assumption) hb4)
    | (go_at_call 8; refine (more_c _ (some ⟨g, 0, none⟩) 4 4 [b0, b1, b2, b3] _ (heldSeg hg3.out (by assumption)) HY.out (HT.out.below (HB3.out.trans (heldBelow (by assumption) HB3.out.size))) (by omega)).mono ?_; rintro e w5 ⟨rfl, rfl⟩; rw [HL.out]))
  go_wp2
  go_ret
  exact ⟨rfl, HB3.out.trans (heldBelow hS4 HB3.out.size)⟩

theorem gTab : Tryd.prog.globalNamed "hawser/crc.halves" = some 0 := by kernel_rfl
theorem gTabType : (Tryd.prog.globals[0]?).map (·.type) = some 34 := by kernel_rfl
theorem cellsT : Tryd.prog.cellsOf 34 = 16 := by kernel_rfl
theorem cellsE : Tryd.prog.cellsOf 22 = 1 := by kernel_rfl
/-- What the row's list gives: the table's cells. -/
theorem table {W : World} (h : laidMetH Tryd.prog Rows.crcTailsRow.laid W) : Lib.TabIs Tryd.prog W "hawser/crc.halves" .u32 tabl :=
  Lib.tabIs_of_head (rest := []) gTab gTabType Tryd.underlying34 Tryd.underlying22 cellsE cellsT h
theorem tab_of {W : World} (h : laidMetH Tryd.prog Rows.crcTailsRow.laid W) : Tab W := fun i hi => (table h).cell gTab i (show i < tabl.length from hi)
theorem laid_met (os : Os) : laidMet Tryd.prog Rows.crcTailsRow.laid (({ World.holding Tryd.prog os ⟨#[], #[], []⟩ with heap := (World.holding Tryd.prog os ⟨#[], #[], []⟩).heap.modify 0 fun | .cells _ t frozen => .cells (tabl.map fun z => Value.int .u32 z).toArray t frozen | o => o } : World).forCall (fun _ _ => 0) ⟨#[], #[.int .u32 0, .int .u32 0], []⟩).memory :=
  laidMet_of_run' 8 (by kernel_rfl) (by kernel_rfl)
theorem reads (os : Os) {H : Type} (enc : TypeId × Value → H) : ∃ places, DataW.whole enc Tryd.prog (({ World.holding Tryd.prog os ⟨#[], #[], []⟩ with heap := (World.holding Tryd.prog os ⟨#[], #[], []⟩).heap.modify 0 fun | .cells _ t frozen => .cells (tabl.map fun z => Value.int .u32 z).toArray t frozen | o => o } : World).forCall (fun _ _ => 0) ⟨#[], #[.int .u32 0, .int .u32 0], []⟩).memory Tryd.f3.params.toList Rows.crcTailsSpec.vars false (#[.int .u32 0, .int .u32 0] : Array Value).toList 8 = some ([.lit (.int .u32 0), .lit (.int .u32 0)], [], places) :=
  ⟨[], by kernel_rfl⟩

set_option maxRecDepth 100000 in
theorem lifted (os : Os) (started : os.Started) (H : Type) (enc : TypeId × Value → H) (F : Stop.Interp) :
    ReturnsInHanded {} Tryd.checked os 3 .any ((OpenSpec.ofChange Rows.crcTailsSpec).preRow enc Tryd.prog Tryd.f3 Rows.crcTailsRow.domain false Rows.crcTailsRow.laid) (((OpenSpec.ofChange Rows.crcTailsSpec).at F).post enc Tryd.prog Tryd.f3 false true false false) := by
  obtain ⟨places, hx⟩ := reads os enc
  refine returnsInHanded_of_row (C := Tryd.checked) (s := OpenSpec.ofChange Rows.crcTailsSpec) own started (by kernel_rfl) Tryd.func3
    (witness_row_at (enc := enc) (C := Tryd.checked) false ({ World.holding Tryd.prog os ⟨#[], #[], []⟩ with heap := (World.holding Tryd.prog os ⟨#[], #[], []⟩).heap.modify 0 fun | .cells _ t frozen => .cells (tabl.map fun z => Value.int .u32 z).toArray t frozen | o => o } : World) #[.int .u32 0, .int .u32 0] rfl (by kernel_rfl) (by kernel_rfl) (by kernel_rfl)
      (OpenSpec.preRow_of_cond 8 hx (by kernel_rfl) (fun k hk => by cases hk) (by kernel_rfl) (laid_met os))) ?_
  intro W base args ds gs before hval0 hW _ hcond0 hsz0 hL _ _
  have hval : ∀ (j : Nat) t v, Tryd.f3.params[j]? = some t → args[j]? = some v → Value.okWide Tryd.prog W .any base t v := hval0
  have hW' := hW
  obtain ⟨p, q, hA0, hV, rfl, hfz, hnd⟩ := hW
  have hA : DataW.TrodAll enc Tryd.prog W 0 (fun _ => true) true Tryd.f3.params.toList args.toList ds p := hA0
  rw [Tryd.params3] at hA hval
  obtain ⟨v0, vs0, d0, ds0, p0, q0, hargs, rfl, rfl, h0, r0⟩ := trodAll_cons hA
  obtain ⟨v1, vs1, d1, ds1, p1, q1, rfl, rfl, rfl, h1, r1⟩ := trodAll_cons r0
  obtain ⟨rfl, rfl, rfl⟩ := trodAll_nil r1
  obtain rfl : args = #[v0, v1] := by cases args; simp_all
  obtain ⟨rfl, rfl⟩ := trodVars_none hV
  obtain ⟨a0, rfl, rfl, rfl, w0⟩ := open_int Tryd.underlying22 (hval 0 22 v0 rfl rfl) h0
  obtain ⟨a1, rfl, rfl, rfl, w1⟩ := open_int Tryd.underlying22 (hval 1 22 v1 rfl rfl) h1
  clear hA0 hval0
  simp only [List.append_nil] at hW'
  refine (walk a0 a1 W w0 w1 (tab_of hL)).mono fun e W' ⟨he, bel⟩ => ?_
  subst he
  exact ⟨_, rfl, _, _, _, [], _, [], hW', trodAll_mk1 (shut_bool Tryd.underlying4 _), (trodAll_cons_mk (shut_int Tryd.underlying22 w0) (trodAll_cons_mk (shut_int Tryd.underlying22 w1) trodAll_mk0)), rfl, bel.frame _, fun h => by cases h⟩

theorem over : Rows.crcTailsRow.holds Tryd.pinned (OpenSpec.ofChange Rows.crcTailsSpec) :=
  OpenClaim.holds_of_cond 3 Tryd.f3 rfl rfl rfl rfl rfl rfl rfl ⟨rfl, rfl, rfl, rfl, rfl⟩ rfl rfl rfl rfl rfl (by kernel_rfl) Tryd.func3 (by kernel_rfl)
    (of_decide_eq_true (by kernel_rfl)) (by unfold Func.isWrapper; first | (rw [if_pos (by decide +kernel)]; kernel_rfl) | (rw [if_neg (by decide +kernel)]; exact ⟨rfl, rfl⟩))
    (fun os started H enc _ F => by rw [OpenClaim.pre_eq_preRow]; exact lifted os started H enc F)

/-- No parameter wants a stand-in; the program's own looks are off. -/
theorem plain (f : FuncId) (fn : Func) (hf : Tryd.pinned.checked.prog.funcNamed "hawser/hawserlaw02.CrcTails" = some f) (hfn : Tryd.pinned.checked.prog.funcs[f]? = some fn) :
    false = Tryd.pinned.checked.prog.looks [] ∧ ∀ (j : Nat) t, fn.params[j]? = some t → Tryd.pinned.checked.prog.wantsStandIn t = false := by
  obtain rfl : f = 3 := Option.some.inj ((show Tryd.prog.funcNamed "hawser/hawserlaw02.CrcTails" = some 3 by kernel_rfl).symm.trans hf) |>.symm
  obtain rfl : fn = Tryd.f3 := (Option.some.inj (Tryd.func3.symm.trans hfn)).symm
  refine ⟨by kernel_rfl, fun j t ht => ?_⟩
  rw [Tryd.params3] at ht
  have hm : t ∈ [22, 22] := by simpa using Array.mem_of_getElem? ht
  have hall : (([22, 22] : List TypeId).all fun u => !Tryd.prog.wantsStandIn u) = true := by kernel_rfl
  exact (show Tryd.prog.wantsStandIn t = false by simpa using List.all_eq_true.1 hall t hm)
theorem card : Rows.CrcTailsCardSaid :=
  Claim7.holds_tied_plain_at .later [] _ _ _ _ over (fun _ h => by cases h) (by kernel_rfl) (fun _ h => by cases h) crcTails_row_tie rfl ⟨rfl, rfl⟩ (by kernel_rfl) rfl plain (by kernel_rfl)

end Go.Proofs.YtlfijnegmnploabDoor.crcTails
namespace Go.Proofs.YtlfijnegmnploabDoor
theorem crcTails_holds : Rows.CrcTailsCardSaid := crcTails.card
#print axioms crcTails_holds
end Go.Proofs.YtlfijnegmnploabDoor
