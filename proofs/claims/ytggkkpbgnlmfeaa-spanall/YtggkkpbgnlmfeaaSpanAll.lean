/-
  Proved: for every two numbers, hawserlaw06.SpanAll answers true: All tells each bucket with its range, from the first on; left at any place, gone over again, and nested. No condition.
-/
import Derived.Test.YtggkkpbgnlmfeaaRows
import Derived.Test.YtggkkpbgnlmfeaaNAs
import Derived.Test.YtggkkpbgnlmfeaaNOf
import Derived.Test.YtggkkpbgnlmfeaaNCg
import Derived.Test.YtggkkpbgnlmfeaaNHo
import Derived.WalkKit
import Derived.ProofKit
import Derived.OpenShut
import Derived.ShutString
import Derived.ChangeOld
import Derived.Below
import Derived.Lib.SmallJoins
import Derived.JoinedCond
import Derived.RangeFuncNested
import Derived.Laws.EntriesVeiled
namespace Go.Proofs.Ytggkkpbgnlmfeaa.spanAll
open Go.ChangeShapes Go.WideShapes Go.ChangeAt Go.RowKit
set_option linter.unusedVariables false

theorem own : ownKnob Try.prog.godebug = none := by kernel_rfl
theorem laidOut : laidOutB Try.prog = true := by kernel_rfl

open Go.Shelf
attribute [local go_sem] Oper.semAt_some

theorem lt_block {W : World} {B : Nat} {o : Obj} (h : W.heap[B]? = some o) : B < W.heap.size := (Array.getElem?_eq_some_iff.1 h).1
theorem block_kept {W W' : World} {row : Option Nat} {B : Nat} {c : Array Value} {T : TypeId} {fr : Nat × Nat} (h : W.heap[B]? = some (.cells c T fr)) (hg : W.grownBy W' row) (hr : ∀ r, row = some r → ∃ o : Obj, W.heap[r]? = some o ∧ o.isCells = false) : W'.heap[B]? = some (.cells c T fr) :=
  (hg.block B (lt_block h) (fun e => by obtain ⟨o, ho, hc⟩ := hr B e.symm; rw [h] at ho; cases ho; simp [Obj.isCells] at hc)).trans h
/-- One variable in a block of its own. -/
def VI (W : World) (B : Nat) (x : Int) : Prop := W.heap[B]? = some (.cells #[.int .i64 x] 3 (0, 0))
def VB (W : World) (B : Nat) (x : Bool) : Prop := W.heap[B]? = some (.cells #[.bool x] 4 (0, 0))
theorem VI.cell {W : World} {B : Nat} {x : Int} (h : VI W B x) : W.cell? ⟨B, 0, none⟩ = some (.int .i64 x) := cell_one h
theorem VB.cell {W : World} {B : Nat} {x : Bool} (h : VB W B x) : W.cell? ⟨B, 0, none⟩ = some (.bool x) := cell_one h
theorem VI.free {W : World} {B : Nat} {x : Int} (h : VI W B x) : W.frozen? ⟨B, 0, none⟩ = false := frozen_of_row W B 0 _ _ h
theorem VB.free {W : World} {B : Nat} {x : Bool} (h : VB W B x) : W.frozen? ⟨B, 0, none⟩ = false := frozen_of_row W B 0 _ _ h
theorem VI.set {W : World} {B : Nat} {x : Int} (h : VI W B x) (y : Int) : VI (W.setCell ⟨B, 0, none⟩ (.int .i64 y)) B y := by
  unfold VI; rw [heap_setCell_same W B 0 _ _ _ h]; rfl
theorem VB.set {W : World} {B : Nat} {x : Bool} (h : VB W B x) (y : Bool) : VB (W.setCell ⟨B, 0, none⟩ (.bool y)) B y := by
  unfold VB; rw [heap_setCell_same W B 0 _ _ _ h]; rfl
theorem VI.other {W : World} {B C : Nat} {x : Int} (h : VI W B x) (hn : B ≠ C) (u : Value) : VI (W.setCell ⟨C, 0, none⟩ u) B x := (Below.heap_setCell W ⟨C, 0, none⟩ u B hn).trans h
theorem VB.other {W : World} {B C : Nat} {x : Bool} (h : VB W B x) (hn : B ≠ C) (u : Value) : VB (W.setCell ⟨C, 0, none⟩ u) B x := (Below.heap_setCell W ⟨C, 0, none⟩ u B hn).trans h
theorem VI.gb {W W' : World} {B : Nat} {x : Int} (h : VI W B x) (hg : W.grownBy W' none) : VI W' B x := (hg.block B (lt_block h) (fun e => by cases e)).trans h
theorem VB.gb {W W' : World} {B : Nat} {x : Bool} (h : VB W B x) (hg : W.grownBy W' none) : VB W' B x := (hg.block B (lt_block h) (fun e => by cases e)).trans h
theorem func_nil (w : World) (f : Fn) (l b : Array Value) : (binOp .eql 50 (.func f l b) .nilFunc).run Try.prog w = .ok (.bool false) w := by
  have h : ∀ d, (Op.equalIn (d + 1) 50 (.func f l b) .nilFunc).run Try.prog w = .ok false w := fun d => by simp [Op.equalIn, run_underlying Try.underlying50]
  have h2 : (Op.equal 50 (.func f l b) .nilFunc).run Try.prog w = .ok false w := h 9999
  simp [binOp, h2]
theorem rounds_then {F : Fence} {n : Nat} {P : Program} {code : Code} {Q : Exit → Act → World → Prop} {a : Act} {W : World} (R : Act → World → Prop) (hkey : ∀ a' W', R a' W' → Code.roundsIn F n P code Q 2 a' W')
    (h : (∀ a' W', R a' W' → Code.roundsIn F n P code Q 2 a' W') → Code.roundsIn F n P code Q 3 a W) : Code.roundsIn F n P code Q 3 a W := h hkey
theorem exU {arr : (Nat → Value) → Array Value} {df : List Deferred} {a : Act} (h : a = { tmps := arr (fun i => a.tmps.getD i undef), defers := df }) : ∃ u, a = { tmps := arr u, defers := df } := ⟨_, h⟩
theorem keepsFrom_below {B : Nat} {V V' : World} (h : Below V.heap.size V V') : KeepsFrom B V V' :=
  ⟨h.size, fun k o _ hk _ => (h.block k (lt_block hk)).trans hk⟩
theorem good_snoc {N : Nat} (pre : List (Fin N)) (x : Fin N) : ((pre ++ [x]).map Fin.val = List.range (pre ++ [x]).length) ↔ (pre.map Fin.val = List.range pre.length ∧ x.val = pre.length) := by
  rw [List.map_append, List.length_append]
  simp only [List.length_singleton, List.range_succ, List.map_cons, List.map_nil]
  constructor
  · intro h
    have := List.append_inj' h (by simp)
    exact ⟨this.1, by simpa using this.2⟩
  · rintro ⟨h1, h2⟩
    rw [h1, h2]
theorem of11 : ofR 1 1 = (⟨#[16]⟩, ⟨#[32]⟩) ∧ ofE 1 1 = 0 := by decide +kernel
theorem Count_c (d : Int) (w : World) : Calls Try.prog 25 #[.int .i64 d] w fun r w' => r = .returned (.int .i64 (nbk d)) ∧ w' = w := by
  have HC : Hid _ := fun w => gcount_c d w
  go_enter Try.func25, Try.ntmps25
  go_wp2_with (first
    | (go_at_call 32; go_must (refine (HC.out _).mono ?_); rintro e wq ⟨rfl, hq⟩; obtain rfl := hq.symm))
  go_ret
  exact ⟨rfl, rfl⟩
set_option maxRecDepth 100000 in
set_option maxHeartbeats 1000000 in
theorem walk_in (d lv : Int) (w : World) (hb1 : -9223372036854775808 ≤ lv ∧ lv ≤ 9223372036854775807) :
    CallsIn Fence.wide 9 Try.prog 7 #[.int .i64 d, .int .i64 lv] w fun e w' => e = .returned (.bool true) ∧ Below w.heap.size w w' := by
  obtain ⟨N, hN⟩ : ∃ N : Nat, nbk d = (N : Int) := ⟨(nbk d).toNat, by rcases nbk_cases d with h | h | h | h <;> omega⟩
  have hNb : N ≤ 4096 := by rcases nbk_cases d with h | h | h | h <;> omega
  have HN : Hid (nbk d = (N : Int)) := hN
  have HCT : Hid _ := fun w => Count_c d w
  rw [hN] at HCT
  clear hN
  refine callsIn_of_wp_marks Try.func7 rfl trivial ?_ rfl
  simp only [Try.ntmps7, List.size_toArray, List.length_cons, List.length_nil, Nat.reduceAdd, Nat.reduceSub, Array.replicate_succ, Array.replicate_zero, List.push_toArray, List.append_toArray, List.nil_append, List.cons_append]
  gi_wp2
  refine ⟨trivial, ?_⟩
  obtain ⟨P, hP⟩ : ∃ P, P = w.heap.size := ⟨_, rfl⟩
  obtain ⟨W1, hW1⟩ : ∃ W1, ((w.alloc (.cells #[.int .i64 d] 3)).alloc (.cells #[.int .i64 lv] 3)).alloc (.cells #[.bool false] 4) = W1 := ⟨_, rfl⟩
  have hz1 : W1.heap.size = P + 3 := by rw [← hW1, hP]; simp
  have HB1 : Hid (Below P w W1) := by rw [hP, ← hW1]; exact (((Below.refl _ w).alloc (Nat.le_refl _) _).alloc (by simp) _).alloc (by simp; omega) _
  have HV0 : Hid (VI W1 P d) := by
    rw [hP, ← hW1]; exact (Below.heap_alloc _ _ _ (by simp; omega)).trans ((Below.heap_alloc _ _ _ (by simp)).trans (heap_new w _))
  have HV1 : Hid (VI W1 (P + 1) lv) := by
    rw [hP, ← hW1]; have := heap_new (w.alloc (.cells #[.int .i64 d] 3)) (.cells #[.int .i64 lv] 3); rw [World.size_alloc] at this; exact (Below.heap_alloc _ _ _ (by simp)).trans this
  have HV2 : Hid (VB W1 (P + 2) false) := by
    rw [hP, ← hW1]; have := heap_new ((w.alloc (.cells #[.int .i64 d] 3)).alloc (.cells #[.int .i64 lv] 3)) (.cells #[.bool false] 4); rw [World.size_alloc, World.size_alloc] at this; exact this
  rw [hW1, ← hP]
  have HP : Hid (P = w.heap.size) := hP
  have HZ1 : Hid (W1.heap.size = P + 3) := hz1
  clear hW1 hP hz1
  refine (callsIn_wide.2 (HCT.out _)).mono ?_
  rintro e w1 ⟨rfl, hw⟩
  obtain rfl := hw.symm
  clear hw HCT
  have c0 := HV0.out.cell
  have c0' : (W1.alloc (.cells #[.int .i64 (N : Int)] 3)).cell? ⟨P, 0, none⟩ = some (.int .i64 d) := (HV0.out.gb (gb_alloc _ _)).cell
  gi_wp2
  refine ⟨trivial, ?_⟩
  refine (all_in _ d _).mono ?_
  rintro e w2 ⟨rfl, hw2⟩
  obtain ⟨Q, hQ⟩ : ∃ Q, Q = W1.heap.size := ⟨_, rfl⟩
  rw [World.size_alloc, ← hQ]
  have hz2 : w2.heap.size = Q + 2 := by rw [hw2, hQ]; simp
  have HB2 : Hid (Below Q W1 w2) := by rw [hw2, hQ]; exact ((Below.refl _ W1).alloc (Nat.le_refl _) _).alloc (by simp) _
  have HV3 : Hid (VI w2 Q N) := by rw [hw2, hQ]; exact (Below.heap_alloc _ _ _ (by simp)).trans (heap_new W1 _)
  have HV4 : Hid (VI w2 (Q + 1) d) := by rw [hw2, hQ]; have := heap_new (W1.alloc (.cells #[.int .i64 (N : Int)] 3)) (.cells #[.int .i64 d] 3); rw [World.size_alloc] at this; exact this
  have hfn := func_nil
  have HZ2 : Hid (w2.heap.size = Q + 2) := hz2
  have HQ : Hid (Q = P + 3) := hQ.trans HZ1.out
  clear hw2 c0 c0' hz2 hQ
  gi_wp2
  clear hfn
  obtain ⟨Z, hZ⟩ : ∃ Z, Z = P + 6 := ⟨_, rfl⟩
  obtain ⟨W6, hW6⟩ : ∃ W6, w2.alloc (.cells #[.func (.func 39) #[] #[.pointer (some ⟨Q + 1, 0, none⟩)]] 50) = W6 := ⟨_, rfl⟩
  have hQP := HQ.out
  have HZ : Hid (Z = W6.heap.size) := by rw [← hW6, World.size_alloc, HZ2.out, hQP]; exact hZ
  have HB26 : Hid (Below (Q + 2) w2 W6) := by rw [← HZ2.out, ← hW6]; exact (Below.refl _ w2).alloc (Nat.le_refl _) _
  have HB6 : Hid (Below P w W6) := (HB1.out.trans (HB2.out.mono (by omega))).trans (HB26.out.mono (by omega))
  have G0 : Hid (VI W6 P d) := (HB26.out.block _ (by omega)).trans ((HB2.out.block _ (by omega)).trans HV0.out)
  have G1 : Hid (VI W6 (P + 1) lv) := (HB26.out.block _ (by omega)).trans ((HB2.out.block _ (by omega)).trans HV1.out)
  have G2 : Hid (VB W6 (P + 2) false) := (HB26.out.block _ (by omega)).trans ((HB2.out.block _ (by omega)).trans HV2.out)
  have G3 : Hid (VI W6 (P + 3) N) := by rw [← hQP]; exact (HB26.out.block _ (by omega)).trans HV3.out
  have G4 : Hid (VI W6 (P + 4) d) := by rw [show P + 4 = Q + 1 by omega]; exact (HB26.out.block _ (by omega)).trans HV4.out
  have G5 : Hid (W6.heap[P + 5]? = some (.cells #[.func (.func 39) #[] #[.pointer (some ⟨P + 4, 0, none⟩)]] 50 (0, 0))) := by
    have h := heap_new w2 (.cells #[.func (.func 39) #[] #[.pointer (some ⟨Q + 1, 0, none⟩)]] 50)
    rw [HZ2.out, hW6, show Q + 2 = P + 5 by omega, show Q + 1 = P + 4 by omega] at h; exact h
  rw [hW6, show w2.heap.size = P + 5 by rw [HZ2.out]; omega]
  rw [hQP]
  clear hW6 hQP HB1 HV0 HV1 HV2 HZ1 HB2 HV3 HV4 HZ2 HQ HB26
  have HGO : Hid (∀ (k : Fin N) (w : World), Calls Try.prog 21 #[.int .i64 d, .int .i64 (k.val : Int)] w fun r w' => r = .returned (.tuple #[rv (ofR d (k.val : Int)), .int .i64 0]) ∧ w.grownBy w' none) := fun k w => by
    have := gof_c d (k.val : Int) w
    have hk := k.isLt
    have hN := HN.out
    rcases deep_cases d with ⟨D, rfl, h1, h3⟩ | h
    · rwa [(ofE_yes h1 h3 (b := (k.val : Int)) ⟨by omega, by omega⟩).1] at this
    · rw [nbk_none h] at hN; omega
  refine wpIn_loop_rounds 3 ?_
  refine rounds_then (fun a' W' => ∃ (D B : Nat), P ≤ D ∧ (∃ u : Nat → Value, a' = { tmps := #[.int .i64 d, .int .i64 lv, .pointer (some ⟨P, 0, none⟩), .pointer (some ⟨P + 1, 0, none⟩), .pointer (some ⟨P + 1 + 1, 0, none⟩), .pointer (some ⟨P + 3, 0, none⟩), .pointer (some ⟨P + 5, 0, none⟩), .pointer (some ⟨B, 0, none⟩), u 8, u 9, u 10, u 11, u 12, u 13, u 14, u 15, u 16, u 17, u 18, u 19, u 20, u 21, u 22, u 23, u 24, u 25, u 26, u 27, u 28, u 29, u 30, u 31, u 32, u 33, u 34, u 35, u 36, u 37, u 38, u 39, u 40, u 41, u 42, u 43, u 44, u 45, u 46, u 47, u 48, u 49, u 50, u 51, u 52, u 53, u 54, u 55, u 56, u 57, u 58, u 59, u 60, u 61, u 62, u 63, u 64, u 65, u 66, u 67, u 68, u 69, u 70, u 71, u 72, u 73, u 74, u 75, u 76, u 77, u 78, u 79, u 80, u 81, u 82, u 83, u 84, u 85, u 86, u 87, u 88, u 89, u 90, u 91, u 92, u 93, u 94, u 95, u 96, u 97, u 98, u 99, u 100, u 101, u 102, u 103, u 104, u 105, u 106, u 107, u 108, u 109, u 110, u 111, u 112, u 113, u 114, u 115, u 116, u 117, u 118, u 119], defers := [{ target := .collected D, args := #[] }] }) ∧ Hid (W'.heap[D]? = some (.deferred (some []))) ∧ Hid (VI W' B 1) ∧ Hid (Below Z W6 W')) ?key ?_
  case key =>
    rintro a' W' ⟨D, B, hPD, ⟨u, rfl⟩, HD, HV, HB⟩
    rw [roundsIn_succ]
    have cr := HV.out.cell
    obtain ⟨W2, hW2⟩ : ∃ W2, (W'.alloc (.cells #[.int .i64 0] 3)).alloc (.cells #[.bool true] 4) = W2 := ⟨_, rfl⟩
    have hPZ := hZ
    obtain ⟨I, hI⟩ : ∃ I, I = W'.heap.size := ⟨_, rfl⟩
    have HII : Hid (I = W'.heap.size) := hI
    have HI2 : Hid (W2.heap.size = I + 2) := by rw [← hW2, hI]; show _ = _; simp
    have HB2 : Hid (Below I W' W2) := by rw [hI, ← hW2]; exact ((Below.refl _ _).alloc (Nat.le_refl _) _).alloc (by simp) _
    have HVn : Hid (VI W2 I 0) := by rw [hI, ← hW2]; exact (Below.heap_alloc _ _ _ (by simp)).trans (heap_new W' _)
    have HVr : Hid (VB W2 (I + 1) true) := by rw [hI, ← hW2]; have := heap_new (W'.alloc (.cells #[.int .i64 0] 3)) (.cells #[.bool true] 4); rw [World.size_alloc] at this; exact this
    have hZI : Z ≤ I := by have h1 := HB.out.size; have h2 := HZ.out; omega
    have hBI : B < I := by rw [hI]; exact lt_block HV.out
    have hDI : D < I := by rw [hI]; exact lt_block HD.out
    have C0 : Hid (VI W' P d) := (HB.out.block _ (by omega)).trans G0.out
    have C1 : Hid (VI W' (P + 1) lv) := (HB.out.block _ (by omega)).trans G1.out
    have C2 : Hid (VB W' (P + 2) false) := (HB.out.block _ (by omega)).trans G2.out
    have C3 : Hid (VI W' (P + 3) N) := (HB.out.block _ (by omega)).trans G3.out
    have C4 : Hid (VI W' (P + 4) d) := (HB.out.block _ (by omega)).trans G4.out
    have cF : W2.cell? ⟨P + 5, 0, none⟩ = some (.func (.func 39) #[] #[.pointer (some ⟨P + 4, 0, none⟩)]) :=
      cell_one ((HB2.out.block _ (by omega)).trans ((HB.out.block _ (by omega)).trans G5.out))
    clear hI hPZ
    gi_wp2
    rw [← HII.out]
    clear hW2
    have h24 : VI W2 (P + 4) d := (HB2.out.block _ (by omega)).trans C4.out
    refine wpIn_rangeFunc_ownH rfl (by omega) (gf := 39) (lb := #[.pointer (some ⟨P + 4, 0, none⟩)]) rfl trivial (enters_of Try.func39 (by kernel_rfl) rfl)
      (all_stops 8 (by omega) (P + 4) d N HN.out W2 (by rw [HI2.out]; omega) h24) BsK.trans (BsK.put (by rw [HI2.out]; omega)) (Below.refl _ _) (fun _ => rfl)
      (fun pre V => (VI V I (pre.length : Int) ∧ VB V (I + 1) (decide (pre.map Fin.val = List.range pre.length))) ∧ Below I W' V)
      (fun _ _ _ => False)
      (OwnFrom.and (Own.from (I := fun (pre : List (Fin N)) V => VI V I (pre.length : Int) ∧ VB V (I + 1) (decide (pre.map Fin.val = List.range pre.length))) (fun s A B' row hs hg hr => ⟨block_kept hs.1 hg hr, block_kept hs.2 hg hr⟩) _) (ownFrom_below (by rw [HII.out]; exact Nat.le_refl _) (by rw [HI2.out]; omega)))
      (fun _ _ _ _ _ hs _ _ => hs)
      ⟨⟨HVn.out, HVr.out⟩, HB2.out⟩
      (fun x a' V => ∃ b, (∃ u' : Nat → Value, a' = { tmps := #[.int .i64 d, .int .i64 lv, .pointer (some ⟨P, 0, none⟩), .pointer (some ⟨P + 1, 0, none⟩), .pointer (some ⟨P + 1 + 1, 0, none⟩), .pointer (some ⟨P + 3, 0, none⟩), .pointer (some ⟨P + 5, 0, none⟩), .pointer (some ⟨B, 0, none⟩), .pointer (some ⟨I, 0, none⟩), .pointer (some ⟨I + 1, 0, none⟩), .int .i64 (x.val : Int), .pointer (some ⟨b, 0, none⟩), u' 12, u' 13, u' 14, u' 15, u' 16, u' 17, u' 18, u' 19, u' 20, u' 21, u' 22, u' 23, u' 24, u' 25, u' 26, u' 27, u' 28, u' 29, u' 30, u' 31, u' 32, u' 33, u' 34, u' 35, u' 36, u' 37, u' 38, u' 39, u' 40, u' 41, u' 42, u' 43, u' 44, u' 45, u' 46, u' 47, u' 48, u' 49, u' 50, u' 51, u' 52, u' 53, u' 54, u' 55, u' 56, u' 57, u' 58, u' 59, u' 60, u' 61, u' 62, u' 63, u' 64, u' 65, u' 66, u' 67, u' 68, u' 69, u' 70, u' 71, u' 72, u' 73, u' 74, u' 75, u' 76, u' 77, u' 78, u' 79, u' 80, u' 81, u' 82, u' 83, u' 84, u' 85, u' 86, u' 87, u' 88, u' 89, u' 90, u' 91, u' 92, u' 93, u' 94, u' 95, u' 96, u' 97, u' 98, u' 99, u' 100, u' 101, u' 102, u' 103, u' 104, u' 105, u' 106, u' 107, u' 108, u' 109, u' 110, u' 111, u' 112, u' 113, u' 114, u' 115, u' 116, u' 117, u' 118, u' 119], defers := [] }) ∧ V.heap[b]? = some (.cells #[.string (ofR d (x.val : Int)).1, .string (ofR d (x.val : Int)).2] 28 (0, 0)))
      (fun x a' _ X Y row hs hg hr => by obtain ⟨b, h1, h2⟩ := hs; exact ⟨b, h1, block_kept h2 hg (fun r e => (hr r e).2)⟩)
      ?assign2 ?body2 ?done2 ?stop2
    case stop2 =>
      rintro D3 cd pre V _ _ h _
      exact h.elim
    case assign2 =>
      rintro l pre x V K hi hK
      have HHI : Hid _ := hi
      have HHK : Hid _ := hK
      clear hi hK
      dsimp only [encK, rv]
      gi_wp2
      refine HHK.out _ _ (keepsFrom_below ((Below.refl _ V).alloc (Nat.le_refl _) _)) ((Below.heap_alloc _ _ _ ?_)) ⟨⟨(HHI.out.1.1).gb (gb_alloc _ _), (HHI.out.1.2).gb (gb_alloc _ _)⟩, HHI.out.2.alloc ?_ _⟩ ⟨V.heap.size, exU (by kernel_rfl), heap_new V _⟩
      · have := HHI.out.2.size; have := HII.out; omega
      · have := HHI.out.2.size; have := HII.out; omega
    case body2 =>
      rintro l pre x a' V hl ⟨r, hr⟩ ⟨⟨v1, v2⟩, hB⟩ ⟨b, ⟨u', rfl⟩, hblk⟩ hlt
      have HGX : Hid _ := HGO.out x
      obtain ⟨f, u1, hfu⟩ : ∃ f u1, ofR d (x.val : Int) = (f, u1) := ⟨_, _, rfl⟩
      rw [hfu] at hblk HGX
      unfold rv at HGX
      simp only at hblk
      have H1 : Hid (VI V I (pre.length : Int)) := v1
      have H2 : Hid (VB V (I + 1) (decide (pre.map Fin.val = List.range pre.length))) := v2
      have HBL : Hid (V.heap[b]? = some (.cells #[.string f, .string u1] 28 (0, 0))) := hblk
      have HBV : Hid (Below I W' V) := hB
      have c0 : V.cell? ⟨P, 0, none⟩ = some (.int .i64 d) := VI.cell ((hB.block _ (by omega)).trans C0.out)
      have HGD : Hid _ := good_snoc pre x
      clear v1 v2 hB hblk hfu
      obtain ⟨gd, hgd⟩ : ∃ gd, gd = decide (pre.map Fin.val = List.range pre.length) := ⟨_, rfl⟩
      have HGE : Hid (gd = decide (pre.map Fin.val = List.range pre.length)) := hgd
      rw [← hgd] at H2
      clear hgd
      gi_wp2
      refine ⟨trivial, ?_⟩
      refine (CallsIn.inRound l (callsIn_wide.2 (HGX.out V))).mono ?_
      rintro e w8 ⟨rfl, h8⟩
      obtain ⟨V2, hV2⟩ : ∃ V2, w8.alloc (.cells #[.string f, .string u1] 29) = V2 := ⟨_, rfl⟩
      have HG2 : Hid (V.grownBy V2 none) := by rw [← hV2]; exact gb_trans h8 (gb_alloc _ _)
      have HW8 : Hid (V2.heap[w8.heap.size]? = some (.cells #[.string f, .string u1] 29 (0, 0))) := by rw [← hV2]; exact heap_new w8 _
      have K1 : Hid (VI V2 I (pre.length : Int)) := H1.out.gb HG2.out
      have K2 : Hid (VB V2 (I + 1) gd) := H2.out.gb HG2.out
      have HBL2 : Hid (V2.heap[b]? = some (.cells #[.string f, .string u1] 28 (0, 0))) := (HG2.out.block b (lt_block HBL.out) (fun e => by cases e)).trans HBL.out
      have HIV : I ≤ V.heap.size := by have := HBV.out.size; have := HII.out; omega
      have HBV2 : Hid (Below I W' V2) := HBV.out.trans ((gb_below HG2.out).mono HIV)
      have k1 := K1.out.cell
      have k1f := K1.out.free
      have k2 := K2.out.cell
      have k2f := K2.out.free
      have b0 : V2.cell? ⟨b, 0, none⟩ = some (.string f) := by rw [cell_of_row V2 b 0 _ _ _ HBL2.out]; rfl
      have b1 : V2.cell? ⟨b, 1, none⟩ = some (.string u1) := by rw [cell_of_row V2 b 1 _ _ _ HBL2.out]; rfl
      have g0 : V2.cell? ⟨w8.heap.size, 0, none⟩ = some (.string f) := by rw [cell_of_row V2 _ 0 _ _ _ HW8.out]; rfl
      have g1 : V2.cell? ⟨w8.heap.size, 1, none⟩ = some (.string u1) := by rw [cell_of_row V2 _ 1 _ _ _ HW8.out]; rfl
      have cB : V2.cell? ⟨B, 0, none⟩ = some (.int .i64 1) := VI.cell ((HBV2.out.block _ hBI).trans HV.out)
      have hnl : ¬ (N : Int) < (pre.length : Int) + 1 := by omega
      have hlb : (pre.length : Int) ≤ 9223372036854775806 := by omega
      have hII1 : I ≠ I + 1 := by omega
      clear h8 hr cr
      by_cases hx : x.val = pre.length
      · have hxe : ((x.val : Int) != (pre.length : Int)) = false := by simp [hx]
        have hGN : Hid (decide ((pre ++ [x]).map Fin.val = List.range (pre ++ [x]).length) = gd) := by
          show _ = _
          rw [HGE.out, decide_eq_decide, HGD.out]
          exact ⟨fun h => h.1, fun h => ⟨h, hx⟩⟩
        have cN : (V2.setCell ⟨I, 0, none⟩ (.int .i64 ((pre.length : Int) + 1))).cell? ⟨P + 3, 0, none⟩ = some (.int .i64 N) := VI.cell (VI.other ((HBV2.out.block _ (by omega)).trans C3.out) (by omega) _)
        clear hx
        gi_wp2
        refine ⟨(keepsFrom_below (gb_below HG2.out)).trans ((KeepsOthers.setCell _ _ _).from _), Eq.trans (Below.heap_setCell V2 _ _ (P + 4) (by simp; omega)) (HG2.out.block _ (by omega) (fun e => by cases e)), ⟨?_, ?_⟩, HBV2.out.setCell (p := ⟨I, 0, none⟩) (Nat.le_refl _) _⟩
        · rw [show ((pre ++ [x]).length : Int) = (pre.length : Int) + 1 from by simp]; exact K1.out.set _
        · rw [hGN.out]; exact K2.out.other (by omega) _
      · have hxe : ((x.val : Int) != (pre.length : Int)) = true := by simp; omega
        have hGN : Hid (decide ((pre ++ [x]).map Fin.val = List.range (pre ++ [x]).length) = false) := by
          refine decide_eq_false fun h => hx (HGD.out.1 h).2
        have c3 : (V2.setCell ⟨I + 1, 0, none⟩ (.bool false)).cell? ⟨I, 0, none⟩ = some (.int .i64 (pre.length : Int)) := VI.cell (VI.other K1.out (by omega) _)
        have c3f : (V2.setCell ⟨I + 1, 0, none⟩ (.bool false)).frozen? ⟨I, 0, none⟩ = false := VI.free (VI.other K1.out (by omega) _)
        have c3B : (V2.setCell ⟨I + 1, 0, none⟩ (.bool false)).cell? ⟨B, 0, none⟩ = some (.int .i64 1) := VI.cell (VI.other ((HBV2.out.block _ hBI).trans HV.out) (by omega) _)
        have cN : ((V2.setCell ⟨I + 1, 0, none⟩ (.bool false)).setCell ⟨I, 0, none⟩ (.int .i64 ((pre.length : Int) + 1))).cell? ⟨P + 3, 0, none⟩ = some (.int .i64 N) := VI.cell (VI.other (VI.other ((HBV2.out.block _ (by omega)).trans C3.out) (by omega) _) (by omega) _)
        clear hx
        gi_wp2
        refine ⟨((keepsFrom_below (gb_below HG2.out)).trans ((KeepsOthers.setCell _ _ _).from _)).trans ((KeepsOthers.setCell _ _ _).from _), Eq.trans (Below.heap_setCell _ _ _ (P + 4) (by simp; omega)) (Eq.trans (Below.heap_setCell V2 _ _ (P + 4) (by simp; omega)) (HG2.out.block _ (by omega) (fun e => by cases e))), ⟨?_, ?_⟩, (HBV2.out.setCell (p := ⟨I + 1, 0, none⟩) (by simp) _).setCell (p := ⟨I, 0, none⟩) (Nat.le_refl _) _⟩
        · rw [show ((pre ++ [x]).length : Int) = (pre.length : Int) + 1 from by simp]; exact (K1.out.other (by omega) _).set _
        · rw [hGN.out]; exact (K2.out.set _).other (by omega) _
    case done2 =>
      rintro D2 ys V hD2 hys ⟨⟨v1, v2⟩, hB⟩ hK
      have hlen : ys.length = N := by have := congrArg List.length hys; simpa using this
      rw [hlen] at v1 v2
      rw [decide_eq_true hys] at v2
      have c1 := v1.cell
      have c2 := v2.cell
      have cB : V.cell? ⟨B, 0, none⟩ = some (.int .i64 1) := VI.cell ((hB.block _ hBI).trans HV.out)
      have cN : V.cell? ⟨P + 3, 0, none⟩ = some (.int .i64 N) := VI.cell ((hB.block _ (by omega)).trans C3.out)
      have HKD : Hid (V.heap[D]? = some (.deferred (some []))) := (hB.block _ hDI).trans HD.out
      have HKD2 : Hid (V.heap[D2]? = some (.deferred (some []))) := hK
      have HBV : Hid (Below I W' V) := hB
      have hbb : ((N : Int) != (N : Int)) = false := by simp
      clear v1 v2 hB hK hys hlen
      gi_wp2
      rw [roundsIn_succ]
      have cr2 : (V.alloc (.cells #[.int .i64 2] 3)).cell? ⟨V.heap.size, 0, none⟩ = some (.int .i64 2) := cell_one (heap_new V _)
      gi_wp2
      refine ⟨trivial, ?_⟩
      refine (callsIn_wide.2 (of_c 1 1 _)).mono ?_
      rintro e w9 ⟨rfl, h9⟩
      rw [of11.1, of11.2]
      unfold rv
      obtain ⟨X9, hX9⟩ : ∃ X9, w9.alloc (.cells #[.string ⟨#[16]⟩, .string ⟨#[32]⟩] 28) = X9 := ⟨_, rfl⟩
      have HG9 : Hid (V.grownBy X9 none) := by rw [← hX9]; exact gb_trans (gb_trans (gb_alloc V _) h9) (gb_alloc _ _)
      have HX9 : Hid (X9.heap[w9.heap.size]? = some (.cells #[.string ⟨#[16]⟩, .string ⟨#[32]⟩] 28 (0, 0))) := by rw [← hX9]; exact heap_new w9 _
      have x0 : X9.cell? ⟨w9.heap.size, 0, none⟩ = some (.string ⟨#[16]⟩) := by rw [cell_of_row X9 _ 0 _ _ _ HX9.out]; rfl
      have HR9 : Hid (VB X9 (P + 1 + 1) false) := VB.gb ((HBV.out.block _ (by omega)).trans C2.out) HG9.out
      have cR := HR9.out.cell
      have fR := HR9.out.free
      have HD9 : Hid (X9.heap[D]? = some (.deferred (some []))) := (HG9.out.block _ (lt_block HKD.out) (fun e => by cases e)).trans HKD.out
      have HD29 : Hid (X9.heap[D2]? = some (.deferred (some []))) := (HG9.out.block _ (lt_block HKD2.out) (fun e => by cases e)).trans HKD2.out
      have hIV : I ≤ V.heap.size := by have := HBV.out.size; have := HII.out; omega
      have HB9 : Hid (Below P w X9) := ((HB6.out.trans (HB.out.mono (by omega))).trans (HBV.out.mono (by omega))).trans ((gb_below HG9.out).mono (by omega))
      clear h9 cr2 c1 c2 cB cN hbb
      gi_wp2
      have hP1w := HP.out
      have hI2 := HI2.out
      have hDne : P + 1 + 1 ≠ D := fun e => by have h1 := HD9.out; rw [← e, show X9.heap[P + 1 + 1]? = _ from HR9.out] at h1; cases h1
      have KO := KeepsOthers.setCell X9 ⟨P + 1 + 1, 0, none⟩ (.bool true)
      obtain ⟨X0, hX0⟩ : ∃ X0, X9.setCell ⟨P + 1 + 1, 0, none⟩ (.bool true) = X0 := ⟨_, rfl⟩
      have hcX0 : X0.cell? ⟨P + 1 + 1, 0, none⟩ = some (.bool true) := by rw [← hX0]; exact World.cell?_setCell_same' X9 ⟨P + 1 + 1, 0, none⟩ (.bool true) (by rw [cR]; rfl)
      have hBX0 : Below w.heap.size w X0 := by rw [← hX0, ← hP1w]; exact HB9.out.setCell (p := ⟨P + 1 + 1, 0, none⟩) (by simp; omega) _
      rw [hX0] at KO ⊢
      have k2 := KO.same D2 _ HD29.out rfl
      have k1 : (X0.putObj D2 (.deferred none)).heap[D]? = some (.deferred (some [])) := (World.putObj_heap_other (by omega)).trans (KO.same D _ HD9.out rfl)
      have b2 : Below w.heap.size X0 (X0.putObj D2 (.deferred none)) := belowK_b (w := w) (Nat.le_refl _) X0 D2 _ _ (by omega) k2 rfl rfl
      have b1 : Below w.heap.size (X0.putObj D2 (.deferred none)) ((X0.putObj D2 (.deferred none)).putObj D (.deferred none)) := belowK_b (w := w) (Nat.le_refl _) _ D _ _ (by omega) k1 rfl rfl
      have hc5 : ((X0.putObj D2 (.deferred none)).putObj D (.deferred none)).cell? ⟨P + 1 + 1, 0, none⟩ = some (.bool true) :=
        (World.cell?_of_block (w := X0) (a := ⟨P + 1 + 1, 0, none⟩) ((World.putObj_heap_other hDne).trans (World.putObj_heap_other (by omega)))).trans hcX0
      refine ⟨by simp, .inl ⟨_, _, rfl, run_takeDeferred k2, ?_⟩⟩
      refine ⟨by simp, .inl ⟨_, _, rfl, run_takeDeferred k1, ?_⟩⟩
      refine ⟨.bool true, ?_, rfl, (hBX0.trans b2).trans b1⟩
      have hres : Try.f7.results = #[.cell 4 4] := by kernel_rfl
      simp only [results, hres]
      simp [go_sem, hc5]
  intro KEY
  rw [roundsIn_succ]
  obtain ⟨B, hBz⟩ : ∃ B, B = Z := ⟨_, rfl⟩
  obtain ⟨W', hW'⟩ : ∃ W', W6.alloc (.cells #[.int .i64 0] 3) = W' := ⟨_, rfl⟩
  have HV : Hid (VI W' B 0) := by rw [hBz, HZ.out, ← hW']; exact heap_new W6 _
  have HB : Hid (Below Z W6 W') := by rw [HZ.out, ← hW']; exact (Below.refl _ _).alloc (Nat.le_refl _) _
  rw [hW', show P + 5 + 1 = B from by omega]
  have hBZ1 : B ≤ Z := by omega
  have hBZ2 : Z ≤ B := by omega
  have hZ1 : P + 6 ≤ Z := by omega
  clear hW' hBz hZ
  have cr := HV.out.cell
  obtain ⟨W2, hW2⟩ : ∃ W2, (W'.alloc (.cells #[.int .i64 0] 3)).alloc (.cells #[.bool true] 4) = W2 := ⟨_, rfl⟩
  obtain ⟨I, hI⟩ : ∃ I, I = W'.heap.size := ⟨_, rfl⟩
  have HII : Hid (I = W'.heap.size) := hI
  have HI2 : Hid (W2.heap.size = I + 2) := by rw [← hW2, hI]; show _ = _; simp
  have HB2 : Hid (Below I W' W2) := by rw [hI, ← hW2]; exact ((Below.refl _ _).alloc (Nat.le_refl _) _).alloc (by simp) _
  have HVn : Hid (VI W2 I 0) := by rw [hI, ← hW2]; exact (Below.heap_alloc _ _ _ (by simp)).trans (heap_new W' _)
  have HVr : Hid (VB W2 (I + 1) true) := by rw [hI, ← hW2]; have := heap_new (W'.alloc (.cells #[.int .i64 0] 3)) (.cells #[.bool true] 4); rw [World.size_alloc] at this; exact this
  have hZI : Z ≤ I := by have h1 := HB.out.size; have h2 := HZ.out; omega
  have hBI : B < I := by rw [hI]; exact lt_block HV.out
  have C0 : Hid (VI W' P d) := (HB.out.block _ (by omega)).trans G0.out
  have C1 : Hid (VI W' (P + 1) lv) := (HB.out.block _ (by omega)).trans G1.out
  have C2 : Hid (VB W' (P + 2) false) := (HB.out.block _ (by omega)).trans G2.out
  have C3 : Hid (VI W' (P + 3) N) := (HB.out.block _ (by omega)).trans G3.out
  have C4 : Hid (VI W' (P + 4) d) := (HB.out.block _ (by omega)).trans G4.out
  have cF : W2.cell? ⟨P + 5, 0, none⟩ = some (.func (.func 39) #[] #[.pointer (some ⟨P + 4, 0, none⟩)]) :=
    cell_one ((HB2.out.block _ (by omega)).trans ((HB.out.block _ (by omega)).trans G5.out))
  clear hI
  gi_wp2
  rw [← HII.out]
  clear hW2
  have h24 : VI W2 (P + 4) d := (HB2.out.block _ (by omega)).trans C4.out
  refine wpIn_rangeFunc_ownH rfl (by omega) (gf := 39) (lb := #[.pointer (some ⟨P + 4, 0, none⟩)]) rfl trivial (enters_of Try.func39 (by kernel_rfl) rfl)
    (all_stops 8 (by omega) (P + 4) d N HN.out W2 (by rw [HI2.out]; omega) h24) BsK.trans (BsK.put (by rw [HI2.out]; omega)) (Below.refl _ _) (fun _ => rfl)
    (fun pre V => ((VI V I (pre.length : Int) ∧ VB V (I + 1) (decide (pre.map Fin.val = List.range pre.length))) ∧ (∀ x ∈ pre, ¬ (x.val : Int) = lv)) ∧ Below I W' V)
    (fun cd pre V => cd = .exit 2 ∧ ((∃ m : Nat, pre.length = m + 1 ∧ VI V I (m : Int) ∧ (pre.map Fin.val = List.range pre.length → (m : Int) = lv)) ∧ VB V (I + 1) (decide (pre.map Fin.val = List.range pre.length))) ∧ Below I W' V)
    (OwnFrom.and (Own.from (I := fun (pre : List (Fin N)) V => (VI V I (pre.length : Int) ∧ VB V (I + 1) (decide (pre.map Fin.val = List.range pre.length))) ∧ (∀ x ∈ pre, ¬ (x.val : Int) = lv)) (fun s A B' row hs hg hr => ⟨⟨block_kept hs.1.1 hg hr, block_kept hs.1.2 hg hr⟩, hs.2⟩) _) (ownFrom_below (by rw [HII.out]; exact Nat.le_refl _) (by rw [HI2.out]; omega)))
    (fun cd s A B' row hs hg hr => by
      obtain ⟨h1, ⟨⟨m, h0, h2, h3⟩, h4⟩, h5⟩ := hs
      exact ⟨h1, ⟨⟨m, h0, block_kept h2 hg (fun r e => (hr r e).2), h3⟩, block_kept h4 hg (fun r e => (hr r e).2)⟩, ownFrom_below (β := Unit) (B := W2.heap.size) (by rw [HII.out]; exact Nat.le_refl _) (by rw [HI2.out]; omega) () A B' row h5 hg hr⟩)
    ⟨⟨⟨HVn.out, HVr.out⟩, by simp⟩, HB2.out⟩
    (fun x a' V => ∃ b, (∃ u' : Nat → Value, a' = { tmps := #[.int .i64 d, .int .i64 lv, .pointer (some ⟨P, 0, none⟩), .pointer (some ⟨P + 1, 0, none⟩), .pointer (some ⟨P + 1 + 1, 0, none⟩), .pointer (some ⟨P + 3, 0, none⟩), .pointer (some ⟨P + 5, 0, none⟩), .pointer (some ⟨B, 0, none⟩), .pointer (some ⟨I, 0, none⟩), .pointer (some ⟨I + 1, 0, none⟩), .int .i64 (x.val : Int), .pointer (some ⟨b, 0, none⟩), u' 12, u' 13, u' 14, u' 15, u' 16, u' 17, u' 18, u' 19, u' 20, u' 21, u' 22, u' 23, u' 24, u' 25, u' 26, u' 27, u' 28, u' 29, u' 30, u' 31, u' 32, u' 33, u' 34, u' 35, u' 36, u' 37, u' 38, u' 39, u' 40, u' 41, u' 42, u' 43, u' 44, u' 45, u' 46, u' 47, u' 48, u' 49, u' 50, u' 51, u' 52, u' 53, u' 54, u' 55, u' 56, u' 57, u' 58, u' 59, u' 60, u' 61, u' 62, u' 63, u' 64, u' 65, u' 66, u' 67, u' 68, u' 69, u' 70, u' 71, u' 72, u' 73, u' 74, u' 75, u' 76, u' 77, u' 78, u' 79, u' 80, u' 81, u' 82, u' 83, u' 84, u' 85, u' 86, u' 87, u' 88, u' 89, u' 90, u' 91, u' 92, u' 93, u' 94, u' 95, u' 96, u' 97, u' 98, u' 99, u' 100, u' 101, u' 102, u' 103, u' 104, u' 105, u' 106, u' 107, u' 108, u' 109, u' 110, u' 111, u' 112, u' 113, u' 114, u' 115, u' 116, u' 117, u' 118, u' 119], defers := [] }) ∧ V.heap[b]? = some (.cells #[.string (ofR d (x.val : Int)).1, .string (ofR d (x.val : Int)).2] 28 (0, 0)))
    (fun x a' _ X Y row hs hg hr => by obtain ⟨b, h1, h2⟩ := hs; exact ⟨b, h1, block_kept h2 hg (fun r e => (hr r e).2)⟩)
    ?assign ?body ?done ?stop
  case stop =>
    rintro D cd pre V hD ⟨k, hk, hpre⟩ ⟨rfl, ⟨⟨m, hm, v1, hml⟩, v2⟩, hB⟩ hK
    have hlen : pre.length = k + 1 := by have := congrArg List.length hpre; simpa using this
    have hgood : pre.map Fin.val = List.range pre.length := by rw [hlen]; exact hpre
    have hlv := hml hgood
    rw [decide_eq_true hgood] at v2
    have hIV : I ≤ V.heap.size := by have := hB.size; have := HII.out; omega
    have V0 : Hid (VI V B 0) := (hB.block _ hBI).trans HV.out
    have c1 := v1.cell
    have c2 := v2.cell
    have c0 := V0.out.cell
    have cN : V.cell? ⟨P + 3, 0, none⟩ = some (.int .i64 N) := VI.cell ((hB.block _ (by omega)).trans C3.out)
    have cL : V.cell? ⟨P + 1, 0, none⟩ = some (.int .i64 lv) := VI.cell ((hB.block _ (by omega)).trans C1.out)
    have HK : Hid (V.heap[D]? = some (.deferred (some []))) := hK
    have HBV : Hid (Below I W' V) := hB
    have hI2 := HI2.out
    have hPD : P ≤ D := by omega
    clear hI2
    have hbb : ((m : Int) != lv) = false := by simp [hlv]
    have hl0 : (0 : Int) ≤ lv := by omega
    have hl1 : lv < (N : Int) := by omega
    clear v1 v2 hB hK hml hgood hpre hlv hlen hm
    gi_wp2
    exact KEY _ _ ⟨D, V.heap.size, by omega, exU (by kernel_rfl), (Below.heap_alloc _ _ _ (lt_block HK.out)).trans HK.out, heap_new V _, (HB.out.trans (HBV.out.mono (by omega))).alloc (by omega) _⟩
  case assign =>
    rintro l pre x V K hi hK
    have HHI : Hid _ := hi
    have HHK : Hid _ := hK
    clear hi hK
    dsimp only [encK, rv]
    gi_wp2
    refine HHK.out _ _ (keepsFrom_below ((Below.refl _ V).alloc (Nat.le_refl _) _)) ((Below.heap_alloc _ _ _ ?_)) ⟨⟨⟨(HHI.out.1.1.1).gb (gb_alloc _ _), (HHI.out.1.1.2).gb (gb_alloc _ _)⟩, HHI.out.1.2⟩, HHI.out.2.alloc ?_ _⟩ ⟨V.heap.size, exU (by kernel_rfl), heap_new V _⟩
    · have := HHI.out.2.size; have := HII.out; omega
    · have := HHI.out.2.size; have := HII.out; omega
  case body =>
    rintro l pre x a' V hl ⟨r, hr⟩ ⟨⟨⟨v1, v2⟩, hno⟩, hB⟩ ⟨b, ⟨u', rfl⟩, hblk⟩ hlt
    have HGX : Hid _ := HGO.out x
    obtain ⟨f, u1, hfu⟩ : ∃ f u1, ofR d (x.val : Int) = (f, u1) := ⟨_, _, rfl⟩
    rw [hfu] at hblk HGX
    unfold rv at HGX
    simp only at hblk
    have H1 : Hid (VI V I (pre.length : Int)) := v1
    have H2 : Hid (VB V (I + 1) (decide (pre.map Fin.val = List.range pre.length))) := v2
    have HBL : Hid (V.heap[b]? = some (.cells #[.string f, .string u1] 28 (0, 0))) := hblk
    have HBV : Hid (Below I W' V) := hB
    have c0 : V.cell? ⟨P, 0, none⟩ = some (.int .i64 d) := VI.cell ((hB.block _ (by omega)).trans C0.out)
    have HGD : Hid _ := good_snoc pre x
    have HNO : Hid (∀ x ∈ pre, ¬ (x.val : Int) = lv) := hno
    have hWV : W2.heap.size ≤ V.heap.size := by have := lt_block hr; omega
    clear v1 v2 hB hblk hfu hno
    obtain ⟨gd, hgd⟩ : ∃ gd, gd = decide (pre.map Fin.val = List.range pre.length) := ⟨_, rfl⟩
    have HGE : Hid (gd = decide (pre.map Fin.val = List.range pre.length)) := hgd
    rw [← hgd] at H2
    clear hgd
    gi_wp2
    refine ⟨trivial, ?_⟩
    refine (CallsIn.inRound l (callsIn_wide.2 (HGX.out V))).mono ?_
    rintro e w8 ⟨rfl, h8⟩
    obtain ⟨V2, hV2⟩ : ∃ V2, w8.alloc (.cells #[.string f, .string u1] 29) = V2 := ⟨_, rfl⟩
    have HG2 : Hid (V.grownBy V2 none) := by rw [← hV2]; exact gb_trans h8 (gb_alloc _ _)
    have HW8 : Hid (V2.heap[w8.heap.size]? = some (.cells #[.string f, .string u1] 29 (0, 0))) := by rw [← hV2]; exact heap_new w8 _
    have K1 : Hid (VI V2 I (pre.length : Int)) := H1.out.gb HG2.out
    have K2 : Hid (VB V2 (I + 1) gd) := H2.out.gb HG2.out
    have HBL2 : Hid (V2.heap[b]? = some (.cells #[.string f, .string u1] 28 (0, 0))) := (HG2.out.block b (lt_block HBL.out) (fun e => by cases e)).trans HBL.out
    have HIV : I ≤ V.heap.size := by have := HBV.out.size; have := HII.out; omega
    have HBV2 : Hid (Below I W' V2) := HBV.out.trans ((gb_below HG2.out).mono HIV)
    have k1 := K1.out.cell
    have k1f := K1.out.free
    have k2 := K2.out.cell
    have k2f := K2.out.free
    have b0 : V2.cell? ⟨b, 0, none⟩ = some (.string f) := by rw [cell_of_row V2 b 0 _ _ _ HBL2.out]; rfl
    have b1 : V2.cell? ⟨b, 1, none⟩ = some (.string u1) := by rw [cell_of_row V2 b 1 _ _ _ HBL2.out]; rfl
    have g0 : V2.cell? ⟨w8.heap.size, 0, none⟩ = some (.string f) := by rw [cell_of_row V2 _ 0 _ _ _ HW8.out]; rfl
    have g1 : V2.cell? ⟨w8.heap.size, 1, none⟩ = some (.string u1) := by rw [cell_of_row V2 _ 1 _ _ _ HW8.out]; rfl
    have cB : V2.cell? ⟨B, 0, none⟩ = some (.int .i64 0) := VI.cell ((HBV2.out.block _ hBI).trans HV.out)
    have hnl : ¬ (N : Int) < (pre.length : Int) + 1 := by omega
    have hlb : (pre.length : Int) ≤ 9223372036854775806 := by omega
    have hII1 : I ≠ I + 1 := by omega
    have cL : V2.cell? ⟨P + 1, 0, none⟩ = some (.int .i64 lv) := VI.cell ((HBV2.out.block _ (by omega)).trans C1.out)
    have cL2 : (V2.setCell ⟨I + 1, 0, none⟩ (.bool false)).cell? ⟨P + 1, 0, none⟩ = some (.int .i64 lv) := VI.cell (VI.other ((HBV2.out.block _ (by omega)).trans C1.out) (by omega) _)
    clear h8
    by_cases hx : x.val = pre.length
    · have hxe : ((x.val : Int) != (pre.length : Int)) = false := by simp [hx]
      have hGN : Hid (decide ((pre ++ [x]).map Fin.val = List.range (pre ++ [x]).length) = gd) := by
        show _ = _
        rw [HGE.out, decide_eq_decide, HGD.out]
        exact ⟨fun h => h.1, fun h => ⟨h, hx⟩⟩
      obtain ⟨gn, hgn⟩ : ∃ gn : Bool, gn = gd := ⟨_, rfl⟩
      rw [← hgn] at hGN
      by_cases hxl : (x.val : Int) = lv
      · clear hx
        have hxl2 : ((x.val : Int) == lv) = true := by simp [hxl]
        have HXL : Hid ((x.val : Int) = lv) := hxl
        obtain ⟨V3, hV3⟩ : ∃ V3, (V2).alloc (.cells #[.int .i64 0] 3) = V3 := ⟨_, rfl⟩
        obtain ⟨In, hIn⟩ : ∃ In, In = V2.heap.size := ⟨_, rfl⟩
        have HIn : Hid (V3.heap.size = In + 1) := by rw [← hV3, hIn]; show _ = _; simp
        have Q1 : Hid (VI V3 I (pre.length : Int)) := by rw [← hV3]; exact VI.gb (K1.out) (gb_alloc _ _)
        have Q2 : Hid (VB V3 (I + 1) gn) := by rw [← hV3]; exact VB.gb (by rw [hgn]; exact K2.out) (gb_alloc _ _)
        have Q3 : Hid (VI V3 In 0) := by rw [← hV3, hIn]; first | exact heap_new V2 _ | (have hh := heap_new (V2.setCell ⟨I + 1, 0, none⟩ (.bool false)) (.cells #[.int .i64 0] 3); simp only [World.size_setCell] at hh; exact hh)
        have hIIn : I + 1 < In := by rw [hIn]; have h1 := HI2.out; have h2 := HG2.out.size; have h3 : W2.heap.size ≤ V.heap.size := hWV; omega
        have HKV : Hid (KeepsFrom W2.heap.size V V3) := by rw [← hV3]; exact (keepsFrom_below (gb_below HG2.out)).trans (keepsFrom_below ((Below.refl _ _).alloc (Nat.le_refl _) _))
        have HBV3 : Hid (Below I W' V3) := by rw [← hV3]; exact (HBV2.out).alloc (by have := HG2.out.size; first | omega | (simp; omega)) _
        have cF3 : ((V2).alloc (.cells #[.int .i64 0] 3)).cell? ⟨P + 5, 0, none⟩ = some (.func (.func 39) #[] #[.pointer (some ⟨P + 4, 0, none⟩)]) := by rw [hV3]; exact cell_one ((HBV3.out.block _ (by omega)).trans ((HB.out.block _ (by omega)).trans G5.out))
        have HR3 : Hid (V3.heap[l]? = some (.loop r)) := HKV.out.same l _ hl hr rfl
        have HV3 : Hid _ := hV3
        have HIn2 : Hid (In = V2.heap.size) := hIn
        clear hxl hIn hV3
        gi_wp2
        rw [HV3.out, ← HIn2.out]
        clear HV3 HIn2 cF3
        refine wpIn_rangeFunc_ownN (l₀ := l) (r₀ := r) rfl HR3.out (by omega) (gf := 39) (lb := #[.pointer (some ⟨P + 4, 0, none⟩)]) rfl trivial (enters_of Try.func39 (by kernel_rfl) rfl)
          ((all_stops 6 (by omega) (P + 4) d N HN.out V3 (by rw [HIn.out]; omega) ((HBV3.out.block _ (by omega)).trans C4.out)).inRound l) BsK.trans (BsK.put (by rw [HIn.out]; omega)) (Below.refl _ _) (fun _ => rfl)
          (fun pre' V' => ((VI V' In (pre'.length : Int) ∧ VI V' I (pre.length : Int)) ∧ VB V' (I + 1) gn) ∧ (Below I W' V' ∧ KeepsFrom W2.heap.size V V'))
          (fun _ _ _ => False)
          (OwnFrom.and (Own.from (I := fun (pre' : List (Fin N)) V' => (VI V' In (pre'.length : Int) ∧ VI V' I (pre.length : Int)) ∧ VB V' (I + 1) gn) (fun s A B' row hs hg hr => ⟨⟨block_kept hs.1.1 hg hr, block_kept hs.1.2 hg hr⟩, block_kept hs.2 hg hr⟩) _) (OwnFrom.and (ownFrom_below (by rw [HII.out]; exact Nat.le_refl _) (by rw [HIn.out]; omega)) (ownFrom_keepsFrom (by have := HKV.out.size; omega))))
          (fun _ _ _ _ _ hs _ _ => hs)
          ⟨⟨⟨Q3.out, Q1.out⟩, Q2.out⟩, HBV3.out, HKV.out⟩
          (fun _ a' _ => ∃ u'' : Nat → Value, a' = { tmps := #[u'' 0, u'' 1, u'' 2, u'' 3, u'' 4, u'' 5, u'' 6, u'' 7, u'' 8, u'' 9, u'' 10, u'' 11, u'' 12, u'' 13, .pointer (some ⟨In, 0, none⟩), u'' 15, u'' 16, u'' 17, u'' 18, u'' 19, u'' 20, u'' 21, u'' 22, u'' 23, u'' 24, u'' 25, u'' 26, u'' 27, u'' 28, u'' 29, u'' 30, u'' 31, u'' 32, u'' 33, u'' 34, u'' 35, u'' 36, u'' 37, u'' 38, u'' 39, u'' 40, u'' 41, u'' 42, u'' 43, u'' 44, u'' 45, u'' 46, u'' 47, u'' 48, u'' 49, u'' 50, u'' 51, u'' 52, u'' 53, u'' 54, u'' 55, u'' 56, u'' 57, u'' 58, u'' 59, u'' 60, u'' 61, u'' 62, u'' 63, u'' 64, u'' 65, u'' 66, u'' 67, u'' 68, u'' 69, u'' 70, u'' 71, u'' 72, u'' 73, u'' 74, u'' 75, u'' 76, u'' 77, u'' 78, u'' 79, u'' 80, u'' 81, u'' 82, u'' 83, u'' 84, u'' 85, u'' 86, u'' 87, u'' 88, u'' 89, u'' 90, u'' 91, u'' 92, u'' 93, u'' 94, u'' 95, u'' 96, u'' 97, u'' 98, u'' 99, u'' 100, u'' 101, u'' 102, u'' 103, u'' 104, u'' 105, u'' 106, u'' 107, u'' 108, u'' 109, u'' 110, u'' 111, u'' 112, u'' 113, u'' 114, u'' 115, u'' 116, u'' 117, u'' 118, u'' 119], defers := [] })
          (fun _ _ _ _ _ _ hs _ _ => hs)
          ?assign4 ?body4 ?done4 ?stop4
        case stop4 =>
          rintro cd pre' V' _ h
          exact h.elim
        case assign4 =>
          rintro l2 pre' y V' K hi hK
          dsimp only [encK, rv]
          gi_wp2
          exact hK _ _ (KeepsFrom.refl _ _) rfl hi (exU (by kernel_rfl))
        case body4 =>
          rintro l2 pre' y a'' V' _ _ ⟨⟨⟨vN, vI⟩, vB⟩, hB4, hK4⟩ ⟨u'', rfl⟩ hlt'
          have cI := vN.cell
          have fI := vN.free
          have T1 : Hid _ := vN
          have T2 : Hid _ := vI
          have T3 : Hid _ := vB
          have T4 : Hid _ := hB4
          have T5 : Hid _ := hK4
          have hb4 : (pre'.length : Int) ≤ 9223372036854775806 := by omega
          clear vN vI vB hB4 hK4
          gi_wp2
          refine ⟨(KeepsOthers.setCell _ _ _).from _, Below.heap_setCell V' _ _ (P + 4) (by simp; omega), ⟨⟨?_, VI.other T2.out (by omega) _⟩, VB.other T3.out (by omega) _⟩, T4.out.setCell (p := ⟨In, 0, none⟩) (by simp; omega) _, T5.out.trans ((KeepsOthers.setCell _ _ _).from _)⟩
          rw [show ((pre' ++ [y]).length : Int) = (pre'.length : Int) + 1 from by simp]; exact VI.set T1.out _
        case done4 =>
          rintro ys V' hys ⟨⟨⟨vN, vI⟩, vB⟩, hB4, hK4⟩
          have hlen : ys.length = N := by have := congrArg List.length hys; simpa using this
          rw [hlen] at vN
          have cI := vN.cell
          have cN4 : V'.cell? ⟨P + 3, 0, none⟩ = some (.int .i64 N) := VI.cell ((hB4.block _ (by omega)).trans C3.out)
          have hbb : ((N : Int) != (N : Int)) = false := by simp
          gi_wp2
          refine ⟨hK4, rfl, ⟨⟨pre.length, by simp, vI, fun h => ?_⟩, by rw [hGN.out]; exact vB⟩, hB4⟩
          rw [← HXL.out, (HGD.out.1 h).2]
      · have hxl2 : ((x.val : Int) == lv) = false := by simp [hxl]
        have HXL : Hid (¬ (x.val : Int) = lv) := hxl
        clear hxl
        have cN : (V2.setCell ⟨I, 0, none⟩ (.int .i64 ((pre.length : Int) + 1))).cell? ⟨P + 3, 0, none⟩ = some (.int .i64 N) := VI.cell (VI.other ((HBV2.out.block _ (by omega)).trans C3.out) (by omega) _)
        clear hx
        gi_wp2
        refine ⟨(keepsFrom_below (gb_below HG2.out)).trans ((KeepsOthers.setCell _ _ _).from _), Eq.trans (Below.heap_setCell V2 _ _ (P + 4) (by simp; omega)) (HG2.out.block _ (by omega) (fun e => by cases e)), ⟨⟨?_, ?_⟩, ?_⟩, HBV2.out.setCell (p := ⟨I, 0, none⟩) (Nat.le_refl _) _⟩
        · rw [show ((pre ++ [x]).length : Int) = (pre.length : Int) + 1 from by simp]; exact K1.out.set _
        · rw [hGN.out, hgn]; exact K2.out.other (by omega) _
        · intro y hy
          rcases List.mem_append.1 hy with hy | hy
          · exact HNO.out y hy
          · simp at hy; subst hy; exact HXL.out
    · have hxe : ((x.val : Int) != (pre.length : Int)) = true := by simp; omega
      have hGN : Hid (decide ((pre ++ [x]).map Fin.val = List.range (pre ++ [x]).length) = false) := by
        refine decide_eq_false fun h => hx (HGD.out.1 h).2
      obtain ⟨gn, hgn⟩ : ∃ gn : Bool, gn = false := ⟨_, rfl⟩
      rw [← hgn] at hGN
      by_cases hxl : (x.val : Int) = lv
      · clear hx
        have hxl2 : ((x.val : Int) == lv) = true := by simp [hxl]
        have HXL : Hid ((x.val : Int) = lv) := hxl
        obtain ⟨V3, hV3⟩ : ∃ V3, (V2.setCell ⟨I + 1, 0, none⟩ (.bool false)).alloc (.cells #[.int .i64 0] 3) = V3 := ⟨_, rfl⟩
        obtain ⟨In, hIn⟩ : ∃ In, In = V2.heap.size := ⟨_, rfl⟩
        have HIn : Hid (V3.heap.size = In + 1) := by rw [← hV3, hIn]; show _ = _; simp
        have Q1 : Hid (VI V3 I (pre.length : Int)) := by rw [← hV3]; exact VI.gb (VI.other K1.out (by omega) _) (gb_alloc _ _)
        have Q2 : Hid (VB V3 (I + 1) gn) := by rw [← hV3]; exact VB.gb (by rw [hgn]; exact K2.out.set _) (gb_alloc _ _)
        have Q3 : Hid (VI V3 In 0) := by rw [← hV3, hIn]; first | exact heap_new V2 _ | (have hh := heap_new (V2.setCell ⟨I + 1, 0, none⟩ (.bool false)) (.cells #[.int .i64 0] 3); simp only [World.size_setCell] at hh; exact hh)
        have hIIn : I + 1 < In := by rw [hIn]; have h1 := HI2.out; have h2 := HG2.out.size; have h3 : W2.heap.size ≤ V.heap.size := hWV; omega
        have HKV : Hid (KeepsFrom W2.heap.size V V3) := by rw [← hV3]; exact ((keepsFrom_below (gb_below HG2.out)).trans ((KeepsOthers.setCell _ _ _).from _)).trans (keepsFrom_below ((Below.refl _ _).alloc (Nat.le_refl _) _))
        have HBV3 : Hid (Below I W' V3) := by rw [← hV3]; exact (HBV2.out.setCell (p := ⟨I + 1, 0, none⟩) (by simp) _).alloc (by have := HG2.out.size; first | omega | (simp; omega)) _
        have cF3 : ((V2.setCell ⟨I + 1, 0, none⟩ (.bool false)).alloc (.cells #[.int .i64 0] 3)).cell? ⟨P + 5, 0, none⟩ = some (.func (.func 39) #[] #[.pointer (some ⟨P + 4, 0, none⟩)]) := by rw [hV3]; exact cell_one ((HBV3.out.block _ (by omega)).trans ((HB.out.block _ (by omega)).trans G5.out))
        have HR3 : Hid (V3.heap[l]? = some (.loop r)) := HKV.out.same l _ hl hr rfl
        have HV3 : Hid _ := hV3
        have HIn2 : Hid (In = V2.heap.size) := hIn
        clear hxl hIn hV3
        gi_wp2
        rw [HV3.out, ← HIn2.out]
        clear HV3 HIn2 cF3
        refine wpIn_rangeFunc_ownN (l₀ := l) (r₀ := r) rfl HR3.out (by omega) (gf := 39) (lb := #[.pointer (some ⟨P + 4, 0, none⟩)]) rfl trivial (enters_of Try.func39 (by kernel_rfl) rfl)
          ((all_stops 6 (by omega) (P + 4) d N HN.out V3 (by rw [HIn.out]; omega) ((HBV3.out.block _ (by omega)).trans C4.out)).inRound l) BsK.trans (BsK.put (by rw [HIn.out]; omega)) (Below.refl _ _) (fun _ => rfl)
          (fun pre' V' => ((VI V' In (pre'.length : Int) ∧ VI V' I (pre.length : Int)) ∧ VB V' (I + 1) gn) ∧ (Below I W' V' ∧ KeepsFrom W2.heap.size V V'))
          (fun _ _ _ => False)
          (OwnFrom.and (Own.from (I := fun (pre' : List (Fin N)) V' => (VI V' In (pre'.length : Int) ∧ VI V' I (pre.length : Int)) ∧ VB V' (I + 1) gn) (fun s A B' row hs hg hr => ⟨⟨block_kept hs.1.1 hg hr, block_kept hs.1.2 hg hr⟩, block_kept hs.2 hg hr⟩) _) (OwnFrom.and (ownFrom_below (by rw [HII.out]; exact Nat.le_refl _) (by rw [HIn.out]; omega)) (ownFrom_keepsFrom (by have := HKV.out.size; omega))))
          (fun _ _ _ _ _ hs _ _ => hs)
          ⟨⟨⟨Q3.out, Q1.out⟩, Q2.out⟩, HBV3.out, HKV.out⟩
          (fun _ a' _ => ∃ u'' : Nat → Value, a' = { tmps := #[u'' 0, u'' 1, u'' 2, u'' 3, u'' 4, u'' 5, u'' 6, u'' 7, u'' 8, u'' 9, u'' 10, u'' 11, u'' 12, u'' 13, .pointer (some ⟨In, 0, none⟩), u'' 15, u'' 16, u'' 17, u'' 18, u'' 19, u'' 20, u'' 21, u'' 22, u'' 23, u'' 24, u'' 25, u'' 26, u'' 27, u'' 28, u'' 29, u'' 30, u'' 31, u'' 32, u'' 33, u'' 34, u'' 35, u'' 36, u'' 37, u'' 38, u'' 39, u'' 40, u'' 41, u'' 42, u'' 43, u'' 44, u'' 45, u'' 46, u'' 47, u'' 48, u'' 49, u'' 50, u'' 51, u'' 52, u'' 53, u'' 54, u'' 55, u'' 56, u'' 57, u'' 58, u'' 59, u'' 60, u'' 61, u'' 62, u'' 63, u'' 64, u'' 65, u'' 66, u'' 67, u'' 68, u'' 69, u'' 70, u'' 71, u'' 72, u'' 73, u'' 74, u'' 75, u'' 76, u'' 77, u'' 78, u'' 79, u'' 80, u'' 81, u'' 82, u'' 83, u'' 84, u'' 85, u'' 86, u'' 87, u'' 88, u'' 89, u'' 90, u'' 91, u'' 92, u'' 93, u'' 94, u'' 95, u'' 96, u'' 97, u'' 98, u'' 99, u'' 100, u'' 101, u'' 102, u'' 103, u'' 104, u'' 105, u'' 106, u'' 107, u'' 108, u'' 109, u'' 110, u'' 111, u'' 112, u'' 113, u'' 114, u'' 115, u'' 116, u'' 117, u'' 118, u'' 119], defers := [] })
          (fun _ _ _ _ _ _ hs _ _ => hs)
          ?assign4 ?body4 ?done4 ?stop4
        case stop4 =>
          rintro cd pre' V' _ h
          exact h.elim
        case assign4 =>
          rintro l2 pre' y V' K hi hK
          dsimp only [encK, rv]
          gi_wp2
          exact hK _ _ (KeepsFrom.refl _ _) rfl hi (exU (by kernel_rfl))
        case body4 =>
          rintro l2 pre' y a'' V' _ _ ⟨⟨⟨vN, vI⟩, vB⟩, hB4, hK4⟩ ⟨u'', rfl⟩ hlt'
          have cI := vN.cell
          have fI := vN.free
          have T1 : Hid _ := vN
          have T2 : Hid _ := vI
          have T3 : Hid _ := vB
          have T4 : Hid _ := hB4
          have T5 : Hid _ := hK4
          have hb4 : (pre'.length : Int) ≤ 9223372036854775806 := by omega
          clear vN vI vB hB4 hK4
          gi_wp2
          refine ⟨(KeepsOthers.setCell _ _ _).from _, Below.heap_setCell V' _ _ (P + 4) (by simp; omega), ⟨⟨?_, VI.other T2.out (by omega) _⟩, VB.other T3.out (by omega) _⟩, T4.out.setCell (p := ⟨In, 0, none⟩) (by simp; omega) _, T5.out.trans ((KeepsOthers.setCell _ _ _).from _)⟩
          rw [show ((pre' ++ [y]).length : Int) = (pre'.length : Int) + 1 from by simp]; exact VI.set T1.out _
        case done4 =>
          rintro ys V' hys ⟨⟨⟨vN, vI⟩, vB⟩, hB4, hK4⟩
          have hlen : ys.length = N := by have := congrArg List.length hys; simpa using this
          rw [hlen] at vN
          have cI := vN.cell
          have cN4 : V'.cell? ⟨P + 3, 0, none⟩ = some (.int .i64 N) := VI.cell ((hB4.block _ (by omega)).trans C3.out)
          have hbb : ((N : Int) != (N : Int)) = false := by simp
          gi_wp2
          refine ⟨hK4, rfl, ⟨⟨pre.length, by simp, vI, fun h => ?_⟩, by rw [hGN.out]; exact vB⟩, hB4⟩
          rw [← HXL.out, (HGD.out.1 h).2]
      · have hxl2 : ((x.val : Int) == lv) = false := by simp [hxl]
        have HXL : Hid (¬ (x.val : Int) = lv) := hxl
        clear hxl
        have c3 : (V2.setCell ⟨I + 1, 0, none⟩ (.bool false)).cell? ⟨I, 0, none⟩ = some (.int .i64 (pre.length : Int)) := VI.cell (VI.other K1.out (by omega) _)
        have c3f : (V2.setCell ⟨I + 1, 0, none⟩ (.bool false)).frozen? ⟨I, 0, none⟩ = false := VI.free (VI.other K1.out (by omega) _)
        have c3B : (V2.setCell ⟨I + 1, 0, none⟩ (.bool false)).cell? ⟨B, 0, none⟩ = some (.int .i64 0) := VI.cell (VI.other ((HBV2.out.block _ hBI).trans HV.out) (by omega) _)
        have cN : ((V2.setCell ⟨I + 1, 0, none⟩ (.bool false)).setCell ⟨I, 0, none⟩ (.int .i64 ((pre.length : Int) + 1))).cell? ⟨P + 3, 0, none⟩ = some (.int .i64 N) := VI.cell (VI.other (VI.other ((HBV2.out.block _ (by omega)).trans C3.out) (by omega) _) (by omega) _)
        clear hx
        gi_wp2
        refine ⟨((keepsFrom_below (gb_below HG2.out)).trans ((KeepsOthers.setCell _ _ _).from _)).trans ((KeepsOthers.setCell _ _ _).from _), Eq.trans (Below.heap_setCell _ _ _ (P + 4) (by simp; omega)) (Eq.trans (Below.heap_setCell V2 _ _ (P + 4) (by simp; omega)) (HG2.out.block _ (by omega) (fun e => by cases e))), ⟨⟨?_, ?_⟩, ?_⟩, (HBV2.out.setCell (p := ⟨I + 1, 0, none⟩) (by simp) _).setCell (p := ⟨I, 0, none⟩) (Nat.le_refl _) _⟩
        · rw [show ((pre ++ [x]).length : Int) = (pre.length : Int) + 1 from by simp]; exact (K1.out.other (by omega) _).set _
        · rw [hGN.out, hgn]; exact (K2.out.set _).other (by omega) _
        · intro y hy
          rcases List.mem_append.1 hy with hy | hy
          · exact HNO.out y hy
          · simp at hy; subst hy; exact HXL.out
  case done =>
    rintro D ys V hD hys ⟨⟨⟨v1, v2⟩, hno⟩, hB⟩ hK
    have hlen : ys.length = N := by have := congrArg List.length hys; simpa using this
    have hout : lv < 0 ∨ (N : Int) ≤ lv := by
      rcases Int.lt_or_le lv 0 with h | h
      · exact .inl h
      · rcases Int.lt_or_le lv (N : Int) with h2 | h2
        · exfalso
          have hm : lv.toNat ∈ ys.map Fin.val := by rw [hys]; exact List.mem_range.2 (by omega)
          obtain ⟨y, hy, hyv⟩ := List.mem_map.1 hm
          exact hno y hy (by omega)
        · exact .inr h2
    rw [hlen] at v1 v2
    rw [decide_eq_true hys] at v2
    have hIV : I ≤ V.heap.size := by have := hB.size; have := HII.out; omega
    have V0 : Hid (VI V B 0) := (hB.block _ hBI).trans HV.out
    have c1 := v1.cell
    have c2 := v2.cell
    have c0 := V0.out.cell
    have cN : V.cell? ⟨P + 3, 0, none⟩ = some (.int .i64 N) := VI.cell ((hB.block _ (by omega)).trans C3.out)
    have cL : V.cell? ⟨P + 1, 0, none⟩ = some (.int .i64 lv) := VI.cell ((hB.block _ (by omega)).trans C1.out)
    have HK : Hid (V.heap[D]? = some (.deferred (some []))) := hK
    have HBV : Hid (Below I W' V) := hB
    have hI2 := HI2.out
    have hPD : P ≤ D := by omega
    clear hI2
    have hbb : ((N : Int) != (N : Int)) = false := by simp
    clear v1 v2 hB hK hno hys hlen
    rcases hout with h | h
    · have hl0 : ¬ (0 : Int) ≤ lv := by omega
      gi_wp2
      exact KEY _ _ ⟨D, V.heap.size, by omega, exU (by kernel_rfl), (Below.heap_alloc _ _ _ (lt_block HK.out)).trans HK.out, heap_new V _, (HB.out.trans (HBV.out.mono (by omega))).alloc (by omega) _⟩
    · have hl0 : (0 : Int) ≤ lv := by omega
      have hl1 : ¬ lv < (N : Int) := by omega
      gi_wp2
      exact KEY _ _ ⟨D, V.heap.size, by omega, exU (by kernel_rfl), (Below.heap_alloc _ _ _ (lt_block HK.out)).trans HK.out, heap_new V _, (HB.out.trans (HBV.out.mono (by omega))).alloc (by omega) _⟩
theorem walk (d lv : Int) (w : World) (w0 : (Lit.int .i64 d).wf = true) (w1 : (Lit.int .i64 lv).wf = true) : Calls Try.prog 7 #[.int .i64 d, .int .i64 lv] w fun e w' => e = .returned (.bool true) ∧ Below w.heap.size w w' :=
  callsIn_wide.1 (walk_in d lv w (bounds_i64 w1))

set_option maxRecDepth 100000 in
theorem lifted (os : Os) (started : os.Started) (H : Type) (enc : TypeId × Value → H) :
    ReturnsInHanded {} Try.checked os 7 .any (Rows.spanAllSpec.pre6 enc Try.prog Try.f7 Rows.spanAllRow.domain false) (Rows.spanAllSpec.post enc Try.prog Try.f7 false true false false) := by
  refine returnsInHanded_of_change (C := Try.checked) own started (by kernel_rfl) Try.func7
    (ChangeSpec.witness6 (enc := enc) (C := Try.checked) false ⟨#[], #[.int .i64 0, .int .i64 0], []⟩ 8 (by kernel_rfl) (by kernel_rfl) (by kernel_rfl) (by kernel_rfl)) ?_
  intro W base args ds gs before hval0 hW hcnd _
  have hval : ∀ (j : Nat) t v, Try.f7.params[j]? = some t → args[j]? = some v → Value.okWide Try.prog W .any base t v := hval0
  have hW' := hW
  obtain ⟨p, q, hA0, hV, rfl, hfz, hnd⟩ := hW
  have hA : DataW.TrodAll enc Try.prog W 0 (fun _ => true) true Try.f7.params.toList args.toList ds p := hA0
  rw [Try.params7] at hA hval
  obtain ⟨v0, vs0, d0, ds0, p0, q0, hargs, rfl, rfl, h0, r0⟩ := trodAll_cons hA
  obtain ⟨v1, vs1, d1, ds1, p1, q1, rfl, rfl, rfl, h1, r1⟩ := trodAll_cons r0
  obtain ⟨rfl, rfl, rfl⟩ := trodAll_nil r1
  obtain rfl : args = #[v0, v1] := by cases args; simp_all
  obtain ⟨rfl, rfl⟩ := trodVars_none hV
  obtain ⟨a0, rfl, rfl, rfl, w0⟩ := open_int Try.underlying3 (hval 0 3 v0 rfl rfl) h0
  obtain ⟨a1, rfl, rfl, rfl, w1⟩ := open_int Try.underlying3 (hval 1 3 v1 rfl rfl) h1
  clear hA0 hval0
  refine (walk a0 a1 W w0 w1).mono fun e W' ⟨he, bel⟩ => ?_
  subst he
  exact ⟨_, rfl, _, _, _, [], _, [], hW', trodAll_mk1 (shut_bool Try.underlying4 _), (trodAll_cons_mk (shut_int Try.underlying3 w0) (trodAll_cons_mk (shut_int Try.underlying3 w1) trodAll_mk0)), rfl, bel.frame _, fun h => by cases h⟩

theorem over : Rows.spanAllRow.holds Try.pinned (OpenSpec.ofChange Rows.spanAllSpec) :=
  OpenClaim.holds_of_wide 7 Try.f7 rfl rfl rfl rfl rfl rfl rfl ⟨rfl, rfl, rfl, rfl, rfl⟩ rfl rfl rfl rfl rfl (by kernel_rfl) Try.func7 (by kernel_rfl)
    (of_decide_eq_true (by kernel_rfl)) (by unfold Func.isWrapper; first | (rw [if_pos (by decide +kernel)]; kernel_rfl) | (rw [if_neg (by decide +kernel)]; exact ⟨rfl, rfl⟩))
    (fun os started H enc _ => lifted os started H enc)

end Go.Proofs.Ytggkkpbgnlmfeaa.spanAll
namespace Go.Proofs.Ytggkkpbgnlmfeaa
theorem spanAll_holds : Rows.SpanAllSaid := spanAll.over
#print axioms spanAll_holds
end Go.Proofs.Ytggkkpbgnlmfeaa
