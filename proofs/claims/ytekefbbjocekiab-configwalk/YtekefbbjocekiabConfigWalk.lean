/-
  Proved: for every chain, hawserlaw16.ConfigWalk answers true: from the head by Next one comes to the tail, by Prev back; one head, one tail. No condition.
-/
import Derived.Test.YtekefbbjocekiabRows
import Derived.Test.YtekefbbjocekiabCGh
import Derived.WalkKit
import Derived.ProofKit
import Derived.OpenShut
import Derived.ShutString
import Derived.ChangeOld
import Derived.Below
import Derived.Lib.SmallJoins
import Derived.JoinedCond
namespace Go.Proofs.Ytekefbbjocekiab.configWalk
open Go.ChangeShapes Go.WideShapes Go.ChangeAt Go.RowKit
set_option linter.unusedVariables false

theorem own : ownKnob Try.prog.godebug = none := by kernel_rfl
theorem laidOut : laidOutB Try.prog = true := by kernel_rfl

/-- What the walk is told of a slice of integers that came in. -/
def IsRow (k : IntKind) (R : Nat) (w : World) (a : Option Addr) (len cap : Nat) (zs : List Int) : Prop :=
  (a = none ∧ len = 0 ∧ cap = 0 ∧ zs = []) ∨
  ∃ x, a = some x ∧ len ≤ cap ∧ cap ≤ R ∧ zs.length = cap ∧ (∀ i, i < zs.length → w.cell? (x.add i) = some (.int k (zs.getD i 0))) ∧ ∀ n ∈ zs, (Lit.int k n).wf = true

theorem row_nil {k : IntKind} {R : Nat} {w : World} {a : Option Addr} {len cap : Nat} {zs : List Int} (h : IsRow k R w a len cap zs) : a = none → cap = 0 := by
  rcases h with ⟨_, _, h, _⟩ | ⟨x, h, _⟩
  · exact fun _ => h
  · intro h'; rw [h] at h'; cases h'
theorem goodN_pla {ys : List Int} (h : GoodN ys) {k : Nat} {x : Int} (hx : ys[k]? = some x) : pla ys x = k :=
  pla_at hx ((goodN_step hx).1 (goodN_take h (k + 1))).2.2
theorem atC_get {ys : List Int} (h : chk 1 ys = 0) {k : Nat} {x : Int} (hx : ys[k]? = some x) : atC 1 ys (k : Int) = x := atC_in h hx
theorem bes_next {ys : List Int} (hc : chk 1 ys = 0) {k : Nat} {x y : Int} (hx : ys[k]? = some x) (hy : ys[k + 1]? = some y) : bes 1 ys x 1 = y := by
  have h := (chk_ok.1 hc).2.2
  unfold bes
  rw [goodN_pla h hx, if_neg (by omega)]
  exact atC_get hc hy
theorem bes_prev {ys : List Int} (hc : chk 1 ys = 0) {k : Nat} {x y : Int} (hx : ys[k]? = some x) (hy : ys[k + 1]? = some y) : bes 1 ys y (-1) = x := by
  have h := (chk_ok.1 hc).2.2
  unfold bes
  rw [goodN_pla h hy, if_neg (by omega), show (((k + 1 : Nat) : Int) + -1) = (k : Int) by omega]
  exact atC_get hc hx
theorem bes_end {ys : List Int} (hc : chk 1 ys = 0) {k : Nat} {x : Int} (hx : ys[k]? = some x) (hk : k + 1 = ys.length) : bes 1 ys x 1 = 0 := by
  have h := (chk_ok.1 hc).2.2
  unfold bes
  rw [goodN_pla h hx, if_neg (by omega)]
  exact atC_out (by omega)
theorem rol_at {ys : List Int} (hc : chk 1 ys = 0) {k : Nat} {x : Int} (hx : ys[k]? = some x) : rol 1 ys x = if ys.length = 1 then 4 else if k = 0 then 1 else if k + 1 = ys.length then 3 else 2 := by
  have h := (chk_ok.1 hc).2.2
  unfold rol
  rw [goodN_pla h hx, if_neg (by rintro (z | z); exact z hc; omega)]
  by_cases h1 : ys.length = 1
  · rw [if_pos h1, if_pos h1]
  · rw [if_neg h1, if_neg h1]
    by_cases h2 : k = 0
    · rw [if_pos (by omega), if_pos h2]
    · rw [if_neg (by omega), if_neg h2]
      by_cases h3 : k + 1 = ys.length
      · rw [if_pos (by omega), if_pos h3]
      · rw [if_neg (by omega), if_neg h3]
set_option maxRecDepth 20000 in
set_option maxHeartbeats 8000000 in
theorem walk (a : Option Addr) (n c : Nat) (zs : List Int) (w : World) (x0 : IsRow .i64 maxLen w a n c zs) :
    Calls Try.prog 5 #[.slice a n c] w fun r w' => r = .returned (.bool true) ∧ Below w.heap.size w w' := by
  obtain ⟨hs, hlc, hcr, hwf⟩ := seg_of_row x0
  have HM : Hid _ := may_c a n c (zs.take n) w hs (by unfold maxLen at hcr; omega)
  clear hs hlc hcr hwf x0
  go_enter Try.func5, Try.ntmps5
  go_wp2_with (first
    | (go_at_call 16; go_must (refine (Calls.mono HM.out ?_)); rintro r w1 ⟨a1, c1, ys, rfl, hg, hl1, ho, hb⟩; have HC : Hid (chk 1 ys = 0) := chk_ok.2 ⟨by decide, ⟨hl1, hg.len⟩, hg⟩; have H1 : Hid (OwI w.heap.size w1 (.slice a1 ys.length c1) ys.length ys ∧ Below w.heap.size w w1) := ⟨ho, hb⟩; clear hg hl1 ho hb)
    | (go_at_call 15; go_must (refine (Calls.mono (first_ok a1 ys.length c1 ys w1 H1.out.1.segW.1 H1.out.1.segW.2.1 HC.out) ?_)); rintro r w2 ⟨a2, c2, rfl, ho, hb⟩; have H2 : Hid (OwI 0 w2 (.slice a2 ys.length c2) ys.length ys ∧ Below w.heap.size w w2) := ⟨ho.base (Nat.zero_le _), H1.out.2.trans (hb.mono H1.out.2.size)⟩; clear ho hb)
    | (go_at_call 17; go_must (refine (Calls.mono (head_c 1 a2 ys.length c2 ys (w2.alloc (.cells #[.int .i64 1, .slice a2 ys.length c2] 25)) (H2.out.1.below (alloc_b _ _)).segW.1) ?_)); rintro r w3 ⟨rfl, hb⟩; have H3 : Hid (Kn [(w2.heap.size, 25, 1, .slice a2 ys.length c2)] w w3 ∧ OwI 0 w3 (.slice a2 ys.length c2) ys.length ys) := ⟨Kn.of ((CfB.new _ _ _ _).below hb) (H2.out.2.trans (((alloc_b _ _).mono H2.out.2.size).trans (hb.mono (Nat.le_trans H2.out.2.size (alloc_b _ _).size)))), (H2.out.1.below (alloc_b _ _)).below hb⟩; have c1' := H3.out.1.c1 0 rfl; clear hb))
  obtain ⟨Z, hZ⟩ : ∃ Z, Z = w2.heap.size := ⟨_, rfl⟩
  rw [← hZ] at H3 ⊢
  clear hZ c1'
  have hL := (chk_ok.1 HC.out).2.1
  have HG : Hid (GoodN ys) := (chk_ok.1 HC.out).2.2
  go_loopw [8, 5, 6, 7] (fun i nn hh tt wr => ∃ (k : Nat) (x H : Int), k < ys.length ∧ i = .int .i64 (k : Int) ∧ nn = .int .i64 x ∧ hh = .int .i64 H ∧ tt = .int .i64 0 ∧ (H = if k = 0 then 0 else 1) ∧ Hid (ys[k]? = some x ∧ (Kn [(Z, 25, 1, .slice a2 ys.length c2)] w wr ∧ OwI 0 wr (.slice a2 ys.length c2) ys.length ys))) (fun i _ _ _ _ => ys.length - (intOf i).toNat)
  case atStart =>
    have hx : ys[0]? = some (ys[0]'(by omega)) := List.getElem?_eq_getElem (by omega)
    exact ⟨0, _, 0, by omega, rfl, by rw [show (0 : Int) = ((0 : Nat) : Int) from rfl, atC_get HC.out hx], rfl, rfl, rfl, hx, H3.out⟩
  case round =>
    obtain ⟨k, x, H, hk, rfl, rfl, rfl, rfl, hH, hr⟩ := hrel
    obtain ⟨bb, ob, y0, rfl, hy0, cb⟩ := seg_at1 hr.out.2.2.segW.1 hk
    obtain rfl : y0 = x := Option.some.inj (hy0.symm.trans hr.out.1)
    have c0 := hr.out.2.1.c0 0 rfl
    have c1' := hr.out.2.1.c1 0 rfl
    have hi1 : (k : Int) < (ys.length : Int) := by omega
    have hw1 : wrap64 ((k : Int) + 1) = (k : Int) + 1 := IntWalk.wrap64_in _ ⟨by omega, by omega⟩
    have HRL := rol_at HC.out hr.out.1
    have HST : Hid (∀ W W5, (Kn [(Z, 25, 1, .slice (some ⟨bb, ob, none⟩) ys.length c2)] w W ∧ OwI 0 W (.slice (some ⟨bb, ob, none⟩) ys.length c2) ys.length ys) → Below W.heap.size W W5 → (Kn [(Z, 25, 1, .slice (some ⟨bb, ob, none⟩) ys.length c2)] w W5 ∧ OwI 0 W5 (.slice (some ⟨bb, ob, none⟩) ys.length c2) ys.length ys)) := fun W W5 h hb => ⟨h.1.below hb, h.2.below hb⟩
    have HRO : Hid (∀ W, (Kn [(Z, 25, 1, .slice (some ⟨bb, ob, none⟩) ys.length c2)] w W ∧ OwI 0 W (.slice (some ⟨bb, ob, none⟩) ys.length c2) ys.length ys) → Calls Try.prog 18 #[.agg #[.int .i64 1, .slice (some ⟨bb, ob, none⟩) ys.length c2], .int .i64 y0] W fun r w' => r = .returned (.int .i64 (rol 1 ys y0)) ∧ Below W.heap.size W w') := fun W h => role_c 1 _ _ _ ys y0 W h.2.segW.1
    have HNX : Hid (∀ W, (Kn [(Z, 25, 1, .slice (some ⟨bb, ob, none⟩) ys.length c2)] w W ∧ OwI 0 W (.slice (some ⟨bb, ob, none⟩) ys.length c2) ys.length ys) → Calls Try.prog 19 #[.agg #[.int .i64 1, .slice (some ⟨bb, ob, none⟩) ys.length c2], .int .i64 y0] W fun r w' => r = .returned (.int .i64 (bes 1 ys y0 1)) ∧ Below W.heap.size W w') := fun W h => next_c 1 _ _ _ ys y0 W h.2.segW.1
    have HPR : Hid (∀ W z, (Kn [(Z, 25, 1, .slice (some ⟨bb, ob, none⟩) ys.length c2)] w W ∧ OwI 0 W (.slice (some ⟨bb, ob, none⟩) ys.length c2) ys.length ys) → Calls Try.prog 21 #[.agg #[.int .i64 1, .slice (some ⟨bb, ob, none⟩) ys.length c2], .int .i64 z] W fun r w' => r = .returned (.int .i64 (bes 1 ys z (-1))) ∧ Below W.heap.size W w') := fun W z h => prev_c 1 _ _ _ ys z W h.2.segW.1
    have HTL : Hid (∀ W, (Kn [(Z, 25, 1, .slice (some ⟨bb, ob, none⟩) ys.length c2)] w W ∧ OwI 0 W (.slice (some ⟨bb, ob, none⟩) ys.length c2) ys.length ys) → Calls Try.prog 20 #[.agg #[.int .i64 1, .slice (some ⟨bb, ob, none⟩) ys.length c2]] W fun r w' => r = .returned (.int .i64 (atC 1 ys ((ys.length : Int) - 1))) ∧ Below W.heap.size W w') := fun W h => tail_c 1 _ _ _ ys W h.2.segW.1
    by_cases hend : k + 1 = ys.length
    · have e1 : bes 1 ys y0 1 = 0 := bes_end HC.out hr.out.1 hend
      have e2 : atC 1 ys ((ys.length : Int) - 1) = y0 := by rw [← hend, show (((k + 1 : Nat) : Int) - 1) = (k : Int) by omega]; exact atC_get HC.out hr.out.1
      rw [e1] at HNX
      rw [e2] at HTL
      have hw2 : wrap64 ((ys.length : Int) - 1) = (k : Int) := by rw [IntWalk.wrap64_in _ ⟨by omega, by omega⟩]; omega
      have hw3 : IntKind.i64.wrap ((ys.length : Int) - 1) = (k : Int) := by rw [IntWalk.i64_in _ ⟨by omega, by omega⟩]; omega
      by_cases h0 : k = 0
      · rw [if_pos (by omega : ys.length = 1)] at HRL
        rw [HRL] at HRO
        obtain rfl : H = 0 := by rw [hH, if_pos h0]
        replace hend : Hid (k + 1 = ys.length) := hend
        clear HRL hH h0 hy0
        go_wp2_with (first
          | (go_at_call 18; go_must (refine (Calls.mono (HRO.out _ hr.out.2) ?_)); rintro r w4 ⟨rfl, hb⟩; have H4 : Hid (Kn [(Z, 25, 1, .slice (some ⟨bb, ob, none⟩) ys.length c2)] w w4 ∧ OwI 0 w4 (.slice (some ⟨bb, ob, none⟩) ys.length c2) ys.length ys) := HST.out _ _ hr.out.2 hb; have d0 := H4.out.1.c0 0 rfl; have d1 := H4.out.1.c1 0 rfl; clear hb)
          | (go_at_call 19; go_must (refine (Calls.mono (HNX.out _ H4.out) ?_)); rintro r w5 ⟨rfl, hb⟩; have H5 : Hid (Kn [(Z, 25, 1, .slice (some ⟨bb, ob, none⟩) ys.length c2)] w w5 ∧ OwI 0 w5 (.slice (some ⟨bb, ob, none⟩) ys.length c2) ys.length ys) := HST.out _ _ H4.out hb; have f0 := H5.out.1.c0 0 rfl; have f1 := H5.out.1.c1 0 rfl; clear hb)
          | (go_at_call 20; go_must (refine (Calls.mono (HTL.out _ H5.out) ?_)); rintro r w6 ⟨rfl, hb⟩; have H6 : Hid (Kn [(Z, 25, 1, .slice (some ⟨bb, ob, none⟩) ys.length c2)] w w6 ∧ OwI 0 w6 (.slice (some ⟨bb, ob, none⟩) ys.length c2) ys.length ys) := HST.out _ _ H5.out hb; clear hb))
        go_ret
        exact ⟨rfl, H6.out.1.2⟩
      · rw [if_neg (by omega : ¬ ys.length = 1), if_neg h0, if_pos hend] at HRL
        rw [HRL] at HRO
        obtain rfl : H = 1 := by rw [hH, if_neg h0]
        replace hend : Hid (k + 1 = ys.length) := hend
        clear HRL hH h0 hy0
        go_wp2_with (first
          | (go_at_call 18; go_must (refine (Calls.mono (HRO.out _ hr.out.2) ?_)); rintro r w4 ⟨rfl, hb⟩; have H4 : Hid (Kn [(Z, 25, 1, .slice (some ⟨bb, ob, none⟩) ys.length c2)] w w4 ∧ OwI 0 w4 (.slice (some ⟨bb, ob, none⟩) ys.length c2) ys.length ys) := HST.out _ _ hr.out.2 hb; have d0 := H4.out.1.c0 0 rfl; have d1 := H4.out.1.c1 0 rfl; clear hb)
          | (go_at_call 19; go_must (refine (Calls.mono (HNX.out _ H4.out) ?_)); rintro r w5 ⟨rfl, hb⟩; have H5 : Hid (Kn [(Z, 25, 1, .slice (some ⟨bb, ob, none⟩) ys.length c2)] w w5 ∧ OwI 0 w5 (.slice (some ⟨bb, ob, none⟩) ys.length c2) ys.length ys) := HST.out _ _ H4.out hb; have f0 := H5.out.1.c0 0 rfl; have f1 := H5.out.1.c1 0 rfl; clear hb)
          | (go_at_call 20; go_must (refine (Calls.mono (HTL.out _ H5.out) ?_)); rintro r w6 ⟨rfl, hb⟩; have H6 : Hid (Kn [(Z, 25, 1, .slice (some ⟨bb, ob, none⟩) ys.length c2)] w w6 ∧ OwI 0 w6 (.slice (some ⟨bb, ob, none⟩) ys.length c2) ys.length ys) := HST.out _ _ H5.out hb; clear hb))
        go_ret
        exact ⟨rfl, H6.out.1.2⟩
    · have hy : ys[k + 1]? = some (ys[k + 1]'(by omega)) := List.getElem?_eq_getElem (by omega)
      obtain ⟨y, hye⟩ : ∃ y, y = ys[k + 1]'(by omega) := ⟨_, rfl⟩
      rw [← hye] at hy
      have hy1 := HG.out.1 y (List.mem_of_getElem? hy)
      have hyz : (y == 0) = false := by simp; omega
      have e1 : bes 1 ys y0 1 = y := bes_next HC.out hr.out.1 hy
      have e2 : bes 1 ys y (-1) = y0 := bes_prev HC.out hr.out.1 hy
      have HPY : Hid (∀ W, (Kn [(Z, 25, 1, .slice (some ⟨bb, ob, none⟩) ys.length c2)] w W ∧ OwI 0 W (.slice (some ⟨bb, ob, none⟩) ys.length c2) ys.length ys) → Calls Try.prog 21 #[.agg #[.int .i64 1, .slice (some ⟨bb, ob, none⟩) ys.length c2], .int .i64 y] W fun r w' => r = .returned (.int .i64 y0) ∧ Below W.heap.size W w') := by
        have := fun W => HPR.out W y
        rw [e2] at this
        exact this
      rw [e1] at HNX
      have HY : Hid (ys[k + 1]? = some y) := hy
      by_cases h0 : k = 0
      · rw [if_neg (by omega : ¬ ys.length = 1), if_pos h0] at HRL
        rw [HRL] at HRO
        obtain rfl : H = 0 := by rw [hH, if_pos h0]
        have hlt2 : k + 1 < ys.length := by omega
        clear HRL hH h0 hy0 hy hye hy1 e1 e2 HPR hend
        go_wp2_with (first
          | (go_at_call 18; go_must (refine (Calls.mono (HRO.out _ hr.out.2) ?_)); rintro r w4 ⟨rfl, hb⟩; have H4 : Hid (Kn [(Z, 25, 1, .slice (some ⟨bb, ob, none⟩) ys.length c2)] w w4 ∧ OwI 0 w4 (.slice (some ⟨bb, ob, none⟩) ys.length c2) ys.length ys) := HST.out _ _ hr.out.2 hb; have d0 := H4.out.1.c0 0 rfl; have d1 := H4.out.1.c1 0 rfl; clear hb)
          | (go_at_call 19; go_must (refine (Calls.mono (HNX.out _ H4.out) ?_)); rintro r w5 ⟨rfl, hb⟩; have H5 : Hid (Kn [(Z, 25, 1, .slice (some ⟨bb, ob, none⟩) ys.length c2)] w w5 ∧ OwI 0 w5 (.slice (some ⟨bb, ob, none⟩) ys.length c2) ys.length ys) := HST.out _ _ H4.out hb; have f0 := H5.out.1.c0 0 rfl; have f1 := H5.out.1.c1 0 rfl; clear hb)
          | (go_at_call 21; go_must (refine (Calls.mono (HPY.out _ H5.out) ?_)); rintro r w6 ⟨rfl, hb⟩; have H6 : Hid (Kn [(Z, 25, 1, .slice (some ⟨bb, ob, none⟩) ys.length c2)] w w6 ∧ OwI 0 w6 (.slice (some ⟨bb, ob, none⟩) ys.length c2) ys.length ys) := HST.out _ _ H5.out hb; clear hb))
        go_roundw
        case rel => exact ⟨k + 1, y, 1, hlt2, by go_num, rfl, rfl, rfl, (by rw [if_neg (Nat.succ_ne_zero k)]), HY.out, H6.out⟩
        case measure => simp [intOf]; omega
      · rw [if_neg (by omega : ¬ ys.length = 1), if_neg h0, if_neg hend] at HRL
        rw [HRL] at HRO
        obtain rfl : H = 1 := by rw [hH, if_neg h0]
        have hlt2 : k + 1 < ys.length := by omega
        clear HRL hH h0 hy0 hy hye hy1 e1 e2 HPR hend
        go_wp2_with (first
          | (go_at_call 18; go_must (refine (Calls.mono (HRO.out _ hr.out.2) ?_)); rintro r w4 ⟨rfl, hb⟩; have H4 : Hid (Kn [(Z, 25, 1, .slice (some ⟨bb, ob, none⟩) ys.length c2)] w w4 ∧ OwI 0 w4 (.slice (some ⟨bb, ob, none⟩) ys.length c2) ys.length ys) := HST.out _ _ hr.out.2 hb; have d0 := H4.out.1.c0 0 rfl; have d1 := H4.out.1.c1 0 rfl; clear hb)
          | (go_at_call 19; go_must (refine (Calls.mono (HNX.out _ H4.out) ?_)); rintro r w5 ⟨rfl, hb⟩; have H5 : Hid (Kn [(Z, 25, 1, .slice (some ⟨bb, ob, none⟩) ys.length c2)] w w5 ∧ OwI 0 w5 (.slice (some ⟨bb, ob, none⟩) ys.length c2) ys.length ys) := HST.out _ _ H4.out hb; have f0 := H5.out.1.c0 0 rfl; have f1 := H5.out.1.c1 0 rfl; clear hb)
          | (go_at_call 21; go_must (refine (Calls.mono (HPY.out _ H5.out) ?_)); rintro r w6 ⟨rfl, hb⟩; have H6 : Hid (Kn [(Z, 25, 1, .slice (some ⟨bb, ob, none⟩) ys.length c2)] w w6 ∧ OwI 0 w6 (.slice (some ⟨bb, ob, none⟩) ys.length c2) ys.length ys) := HST.out _ _ H5.out hb; clear hb))
        go_roundw
        case rel => exact ⟨k + 1, y, 1, hlt2, by go_num, rfl, rfl, rfl, (by rw [if_neg (Nat.succ_ne_zero k)]), HY.out, H6.out⟩
        case measure => simp [intOf]; omega

set_option maxRecDepth 100000 in
theorem lifted (os : Os) (started : os.Started) (H : Type) (enc : TypeId × Value → H) :
    ReturnsInHanded {} Try.checked os 5 .any (Rows.configWalkSpec.pre6 enc Try.prog Try.f5 Rows.configWalkRow.domain false) (Rows.configWalkSpec.post enc Try.prog Try.f5 false true false false) := by
  refine returnsInHanded_of_change (C := Try.checked) own started (by kernel_rfl) Try.func5
    (ChangeSpec.witness6 (enc := enc) (C := Try.checked) false ⟨#[], #[.slice none 0 0], []⟩ 8 (by kernel_rfl) (by kernel_rfl) (by kernel_rfl) (by kernel_rfl)) ?_
  intro W base args ds gs before hval0 hW hcnd _
  have hval : ∀ (j : Nat) t v, Try.f5.params[j]? = some t → args[j]? = some v → Value.okWide Try.prog W .any base t v := hval0
  have hW' := hW
  obtain ⟨p, q, hA0, hV, rfl, hfz, hnd⟩ := hW
  have hA : DataW.TrodAll enc Try.prog W 0 (fun _ => true) true Try.f5.params.toList args.toList ds p := hA0
  rw [Try.params5] at hA hval
  obtain ⟨v0, vs0, d0, ds0, p0, q0, hargs, rfl, rfl, h0, r0⟩ := trodAll_cons hA
  obtain ⟨rfl, rfl, rfl⟩ := trodAll_nil r0
  obtain rfl : args = #[v0] := by cases args; simp_all
  obtain ⟨rfl, rfl⟩ := trodVars_none hV
  have k0 := h0
  have lt0 : ∀ x ∈ p0, x.block < W.heap.size := by obtain ⟨m, hm⟩ := k0; exact DataW.trod_lt m _ _ _ hm
  obtain ⟨a0, len0, cap0, z0, rfl, x0⟩ : ∃ a len cap zs, v0 = .slice a len cap ∧ IsRow .i64 maxLen W a len cap zs := by
    obtain ⟨sa, sl, sc, rfl⟩ := okWide_slice Try.underlying23 (hval 0 23 v0 rfl rfl)
    obtain ⟨fuel, hf⟩ := h0
    rcases open_ints Try.underlying23 Try.underlying3 (by kernel_rfl) hf with ⟨hcs, _⟩ | ⟨x, l, c, zs, hcs, _, hl, hm, hz, hx, hcell, hwz⟩
    · simp [Value.cells] at hcs; obtain ⟨rfl, rfl, rfl⟩ := hcs
      exact ⟨none, 0, 0, [], rfl, .inl ⟨rfl, rfl, rfl, rfl⟩⟩
    · simp [Value.cells] at hcs; obtain ⟨rfl, rfl, rfl⟩ := hcs
      have hz' : zs.length = sc := by simpa using hz
      exact ⟨some x, sl, sc, zs, rfl, .inr ⟨_, rfl, hl, hm, hz', hcell, hwz⟩⟩
  clear hA0 hval0
  refine (walk a0 len0 cap0 z0 W x0).mono fun e W' ⟨he, bel⟩ => ?_
  subst he
  exact ⟨_, rfl, _, _, _, [], _, [], hW', trodAll_mk1 (shut_bool Try.underlying4 _), (trodAll_cons_mk (Below.trod laidOut (by kernel_rfl) (of_decide_eq_true (by kernel_rfl)) k0 bel lt0) trodAll_mk0), rfl, bel.frame _, fun h => by cases h⟩

theorem over : Rows.configWalkRow.holds Try.pinned (OpenSpec.ofChange Rows.configWalkSpec) :=
  OpenClaim.holds_of_wide 5 Try.f5 rfl rfl rfl rfl rfl rfl rfl ⟨rfl, rfl, rfl, rfl, rfl⟩ rfl rfl rfl rfl rfl (by kernel_rfl) Try.func5 (by kernel_rfl)
    (of_decide_eq_true (by kernel_rfl)) (by unfold Func.isWrapper; first | (rw [if_pos (by decide +kernel)]; kernel_rfl) | (rw [if_neg (by decide +kernel)]; exact ⟨rfl, rfl⟩))
    (fun os started H enc _ => lifted os started H enc)

end Go.Proofs.Ytekefbbjocekiab.configWalk
namespace Go.Proofs.Ytekefbbjocekiab
theorem configWalk_holds : Rows.ConfigWalkSaid := configWalk.over
#print axioms configWalk_holds
end Go.Proofs.Ytekefbbjocekiab
