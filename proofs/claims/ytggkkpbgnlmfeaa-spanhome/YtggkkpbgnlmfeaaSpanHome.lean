/-
  Proved: for every two texts, hawserlaw06.SpanHome answers true: a key stands in the range of its bucket and in no other, buckets rise with keys, and a depth less has the bucket by sixteen. No condition.
-/
import Derived.Test.YtggkkpbgnlmfeaaRows
import Derived.Test.YtggkkpbgnlmfeaaNAw
import Derived.Test.YtggkkpbgnlmfeaaNHo
import Derived.Test.YtggkkpbgnlmfeaaNBu
import Derived.Test.YtggkkpbgnlmfeaaNHa
import Derived.WalkKit
import Derived.ProofKit
import Derived.OpenShut
import Derived.ShutString
import Derived.ChangeOld
import Derived.Below
import Derived.Lib.SmallJoins
import Derived.JoinedCond
namespace Go.Proofs.Ytggkkpbgnlmfeaa.spanHome
open Go.ChangeShapes Go.WideShapes Go.ChangeAt Go.RowKit
set_option linter.unusedVariables false

theorem own : ownKnob Try.prog.godebug = none := by kernel_rfl
theorem laidOut : laidOutB Try.prog = true := by kernel_rfl

theorem may_c (s : ByteArray) (w : World) : Calls Try.prog 27 #[.string s] w fun e w' => e = .returned (.bool (decide (keyE s = 0))) ∧ w' = w := by
  unfold keyE
  by_cases h1 : s.size < 1
  · rw [if_pos (.inl h1), decide_eq_false (by decide)]
    have h2 : ¬ 1 ≤ s.size := by omega
    go_enter Try.func27, Try.ntmps27
    go_wp2
    go_ret
    exact ⟨rfl, rfl⟩
  · have h2 : 1 ≤ s.size := by omega
    by_cases h3 : 1024 < s.size
    · rw [if_pos (.inr h3), decide_eq_false (by decide)]
      go_enter Try.func27, Try.ntmps27
      go_wp2
      go_ret
      exact ⟨by simp; omega, rfl⟩
    · rw [if_neg (by omega), decide_eq_true rfl]
      go_enter Try.func27, Try.ntmps27
      go_wp2
      go_ret
      exact ⟨by simp; omega, rfl⟩
theorem buc_yes {D : Nat} {s : ByteArray} (h1 : 1 ≤ D) (h3 : D ≤ 3) (h : keyE s = 0) : bucN D s = bkt s D ∧ bucE D s = 0 := by
  have hn := nbk_bd D h1 h3
  unfold bucN bucE
  have hz : ¬ nbk D = 0 := by omega
  rw [if_neg hz, if_neg hz, if_pos h, Int.toNat_natCast]
  exact ⟨rfl, h⟩
set_option maxRecDepth 20000 in
set_option maxHeartbeats 4000000 in
theorem walk (a b : ByteArray) (w : World) (ha : a.size ≤ maxLen) (hb : b.size ≤ maxLen) : Calls Try.prog 8 #[.string a, .string b] w fun e w' => e = .returned (.bool true) ∧ Below w.heap.size w w' := by
  have HAW : Hid _ := awake_c w
  have HMA : Hid _ := fun w => may_c a w
  have HMB : Hid _ := fun w => may_c b w
  have HCA : Hid _ := fun w => check_c a w
  have HCB : Hid _ := fun w => check_c b w
  clear ha hb
  by_cases hka : keyE a = 0
  · by_cases hkb : keyE b = 0
    · rw [decide_eq_true hka] at HMA
      rw [decide_eq_true hkb] at HMB
      go_enter Try.func8, Try.ntmps8
      go_wp2_with (first
        | (go_at_call 22; go_must (refine (Calls.mono HAW.out ?_)); rintro e w1 ⟨rfl, h1⟩; have H1 : Hid _ := h1; clear h1)
        | ((fail_if_success (have z := M1)); go_at_call 27; go_must (refine (HMA.out _).mono ?_); rintro e wq ⟨rfl, rfl⟩; have M1 : Hid True := trivial)
        | (have z := M1; clear z; go_at_call 27; go_must (refine (HMB.out _).mono ?_); rintro e wq ⟨rfl, rfl⟩))
      clear HAW HMA HMB HCA HCB M1
      go_loopw [5, 6] (fun x i wr => ∃ d : Nat, 1 ≤ d ∧ d ≤ 4 ∧ i = .int .i64 d ∧ x = .int .i64 (bkt a (d - 1)) ∧ Hid (w.grownBy wr none)) (fun _ i _ => 4 - (intOf i).toNat)
      case atStart => exact ⟨1, by omega, by omega, rfl, rfl, H1⟩
      case round =>
        obtain ⟨d, hd1, hd4, rfl, rfl, hr⟩ := hrel
        by_cases hd3 : d ≤ 3
        · have hi : (d : Int) ≤ 3 := by omega
          have hxb := bkt_lt d hd1 hd3 a
          have hyb := bkt_lt d hd1 hd3 b
          have hnb := nbk_bd d hd1 hd3
          have HB1 : Hid _ := fun w => bucket_c d a w
          have HB2 : Hid _ := fun w => bucket_c d b w
          rw [(buc_yes hd1 hd3 hka).1, (buc_yes hd1 hd3 hka).2] at HB1
          rw [(buc_yes hd1 hd3 hkb).1, (buc_yes hd1 hd3 hkb).2] at HB2
          have HO1 : Hid _ := fun w => of_c d (bkt a d) w
          have HO2 : Hid _ := fun w => of_c d (bkt b d) w
          rw [(ofE_yes hd1 hd3 hxb).1] at HO1
          rw [(ofE_yes hd1 hd3 hyb).1] at HO2
          have HH1 : Hid _ := fun w => has_c (ofR d (bkt a d)) a w
          have HH2 : Hid _ := fun w => has_c (ofR d (bkt b d)) b w
          have HH3 : Hid _ := fun w => has_c (ofR d (bkt a d)) b w
          have HH4 : Hid _ := fun w => has_c (ofR d (bkt b d)) a w
          rw [of_has d hd1 hd3 _ _ hxb] at HH1 HH3
          rw [of_has d hd1 hd3 _ _ hyb] at HH2 HH4
          rw [decide_eq_true rfl] at HH1 HH2
          generalize ofR d (bkt a d) = r at *
          generalize ofR d (bkt b d) = s at *
          obtain ⟨f1, u1⟩ := r
          obtain ⟨f2, u2⟩ := s
          unfold rv at HO1 HO2 HH1 HH2 HH3 HH4
          have HMO : Hid (tl b a = false → bkt a d ≤ bkt b d) := bkt_mono d hd1 hd3 a b
          have hup : bkt a d / 16 = bkt a (d - 1) := by
            obtain ⟨k, rfl⟩ : ∃ k, d = k + 1 := ⟨d - 1, by omega⟩
            exact bkt_up a k
          generalize hX : bkt a d = X at *
          have HX : Hid (X = bkt a d) := hX.symm
          generalize bkt b d = Y at *
          generalize bkt a (d - 1) = Z at *
          clear hX
          have q1 : X.tdiv 16 = Z := by rw [Int.tdiv_eq_ediv_of_nonneg hxb.1]; exact hup
          have w1 : wrap64 Z = Z := w64 _ ⟨by omega, by omega⟩
          have hle := run_leq a b
          clear hup
          by_cases hXY : X = Y
          · subst hXY
            rw [decide_eq_true rfl] at HH3 HH4
            cases hab : tl b a
            · rw [hab] at hle
              clear hab HMO
              go_wp2_with (first
                | ((fail_if_success (have z := B1)); go_at_call 10; go_must (refine (HB1.out _).mono ?_); rintro e wq ⟨rfl, rfl⟩; have B1 : Hid True := trivial)
                | (have z := B1; clear z; (fail_if_success (have z := B2)); go_at_call 10; go_must (refine (HB2.out _).mono ?_); rintro e wq ⟨rfl, rfl⟩; have B2 : Hid True := trivial)
                | ((fail_if_success (have z := H2)); go_at_call 20; go_must (refine (HO1.out _).mono ?_); rintro e w2 ⟨rfl, h2⟩; have H2 : Hid (w.grownBy w2 none) := gb_trans hr.out h2; clear h2; have HN2 : Hid _ := blk_new w2 28 #[.string f1, .string u1])
                | (have z := H2; clear z; go_at_call 20; go_must (refine (HO2.out _).mono ?_); rintro e w3 ⟨rfl, h3⟩; have HN3 : Hid _ := blk_new w3 28 #[.string f2, .string u2]; have K0 : Hid (Bk 28 (w3.alloc (.cells #[.string f2, .string u2] 28)) w2.heap.size #[.string f1, .string u1] ∧ Bk 28 (w3.alloc (.cells #[.string f2, .string u2] 28)) w3.heap.size #[.string f2, .string u2] ∧ w.grownBy (w3.alloc (.cells #[.string f2, .string u2] 28)) none) := ⟨(HN2.out.1.grew h3 (by simp)).grew (gb_alloc _ _) (by simp), HN3.out.1, gb_trans (gb_trans (gb_trans H2.out HN2.out.2) h3) (gb_alloc _ _)⟩; clear h3; have a0 := K0.out.1.cell 0; have a1 := K0.out.1.cell 1; have a2 := K0.out.2.1.cell 0; have a3 := K0.out.2.1.cell 1; simp only [List.getElem?_toArray, List.getElem?_cons_zero, List.getElem?_cons_succ] at a0 a1 a2 a3)
                | ((fail_if_success (have z := K1)); go_at_call 15; go_must (refine (HH1.out _).mono ?_); rintro e w5 ⟨rfl, h⟩; have K1 : Hid (Bk 28 w5 w2.heap.size #[.string f1, .string u1] ∧ Bk 28 w5 w3.heap.size #[.string f2, .string u2] ∧ w.grownBy w5 none) := ⟨K0.out.1.grew h (by simp), K0.out.2.1.grew h (by simp), gb_trans K0.out.2.2 h⟩; clear h; have b0 := K1.out.1.cell 0; have b1 := K1.out.1.cell 1; have b2 := K1.out.2.1.cell 0; have b3 := K1.out.2.1.cell 1; simp only [List.getElem?_toArray, List.getElem?_cons_zero, List.getElem?_cons_succ] at b0 b1 b2 b3)
                | (have z := K1; clear z; (fail_if_success (have z := K2)); go_at_call 15; go_must (refine (HH2.out _).mono ?_); rintro e w6 ⟨rfl, h⟩; have K2 : Hid (Bk 28 w6 w2.heap.size #[.string f1, .string u1] ∧ Bk 28 w6 w3.heap.size #[.string f2, .string u2] ∧ w.grownBy w6 none) := ⟨K1.out.1.grew h (by simp), K1.out.2.1.grew h (by simp), gb_trans K1.out.2.2 h⟩; clear h; have c0 := K2.out.1.cell 0; have c1 := K2.out.1.cell 1; have c2 := K2.out.2.1.cell 0; have c3 := K2.out.2.1.cell 1; simp only [List.getElem?_toArray, List.getElem?_cons_zero, List.getElem?_cons_succ] at c0 c1 c2 c3)
                | (have z := K2; clear z; (fail_if_success (have z := K3)); go_at_call 15; go_must (refine (HH3.out _).mono ?_); rintro e w7 ⟨rfl, h⟩; have K3 : Hid (Bk 28 w7 w2.heap.size #[.string f1, .string u1] ∧ Bk 28 w7 w3.heap.size #[.string f2, .string u2] ∧ w.grownBy w7 none) := ⟨K2.out.1.grew h (by simp), K2.out.2.1.grew h (by simp), gb_trans K2.out.2.2 h⟩; clear h; have d0 := K3.out.1.cell 0; have d1 := K3.out.1.cell 1; have d2 := K3.out.2.1.cell 0; have d3 := K3.out.2.1.cell 1; simp only [List.getElem?_toArray, List.getElem?_cons_zero, List.getElem?_cons_succ] at d0 d1 d2 d3)
                | (have z := K3; clear z; (fail_if_success (have z := K4)); go_at_call 15; go_must (refine (HH4.out _).mono ?_); rintro e w8 ⟨rfl, h⟩; have K4 : Hid (Bk 28 w8 w2.heap.size #[.string f1, .string u1] ∧ Bk 28 w8 w3.heap.size #[.string f2, .string u2] ∧ w.grownBy w8 none) := ⟨K3.out.1.grew h (by simp), K3.out.2.1.grew h (by simp), gb_trans K3.out.2.2 h⟩; clear h; have e0 := K4.out.1.cell 0; have e1 := K4.out.1.cell 1; have e2 := K4.out.2.1.cell 0; have e3 := K4.out.2.1.cell 1; simp only [List.getElem?_toArray, List.getElem?_cons_zero, List.getElem?_cons_succ] at e0 e1 e2 e3))
              go_roundw
              case rel => exact ⟨d + 1, by omega, by omega, by simp, by rw [Nat.add_sub_cancel, ← HX.out], K4.out.2.2⟩
              case measure => simp [intOf]; omega
            · rw [hab] at hle
              clear hab HMO
              go_wp2_with (first
                | ((fail_if_success (have z := B1)); go_at_call 10; go_must (refine (HB1.out _).mono ?_); rintro e wq ⟨rfl, rfl⟩; have B1 : Hid True := trivial)
                | (have z := B1; clear z; (fail_if_success (have z := B2)); go_at_call 10; go_must (refine (HB2.out _).mono ?_); rintro e wq ⟨rfl, rfl⟩; have B2 : Hid True := trivial)
                | ((fail_if_success (have z := H2)); go_at_call 20; go_must (refine (HO1.out _).mono ?_); rintro e w2 ⟨rfl, h2⟩; have H2 : Hid (w.grownBy w2 none) := gb_trans hr.out h2; clear h2; have HN2 : Hid _ := blk_new w2 28 #[.string f1, .string u1])
                | (have z := H2; clear z; go_at_call 20; go_must (refine (HO2.out _).mono ?_); rintro e w3 ⟨rfl, h3⟩; have HN3 : Hid _ := blk_new w3 28 #[.string f2, .string u2]; have K0 : Hid (Bk 28 (w3.alloc (.cells #[.string f2, .string u2] 28)) w2.heap.size #[.string f1, .string u1] ∧ Bk 28 (w3.alloc (.cells #[.string f2, .string u2] 28)) w3.heap.size #[.string f2, .string u2] ∧ w.grownBy (w3.alloc (.cells #[.string f2, .string u2] 28)) none) := ⟨(HN2.out.1.grew h3 (by simp)).grew (gb_alloc _ _) (by simp), HN3.out.1, gb_trans (gb_trans (gb_trans H2.out HN2.out.2) h3) (gb_alloc _ _)⟩; clear h3; have a0 := K0.out.1.cell 0; have a1 := K0.out.1.cell 1; have a2 := K0.out.2.1.cell 0; have a3 := K0.out.2.1.cell 1; simp only [List.getElem?_toArray, List.getElem?_cons_zero, List.getElem?_cons_succ] at a0 a1 a2 a3)
                | ((fail_if_success (have z := K1)); go_at_call 15; go_must (refine (HH1.out _).mono ?_); rintro e w5 ⟨rfl, h⟩; have K1 : Hid (Bk 28 w5 w2.heap.size #[.string f1, .string u1] ∧ Bk 28 w5 w3.heap.size #[.string f2, .string u2] ∧ w.grownBy w5 none) := ⟨K0.out.1.grew h (by simp), K0.out.2.1.grew h (by simp), gb_trans K0.out.2.2 h⟩; clear h; have b0 := K1.out.1.cell 0; have b1 := K1.out.1.cell 1; have b2 := K1.out.2.1.cell 0; have b3 := K1.out.2.1.cell 1; simp only [List.getElem?_toArray, List.getElem?_cons_zero, List.getElem?_cons_succ] at b0 b1 b2 b3)
                | (have z := K1; clear z; (fail_if_success (have z := K2)); go_at_call 15; go_must (refine (HH2.out _).mono ?_); rintro e w6 ⟨rfl, h⟩; have K2 : Hid (Bk 28 w6 w2.heap.size #[.string f1, .string u1] ∧ Bk 28 w6 w3.heap.size #[.string f2, .string u2] ∧ w.grownBy w6 none) := ⟨K1.out.1.grew h (by simp), K1.out.2.1.grew h (by simp), gb_trans K1.out.2.2 h⟩; clear h; have c0 := K2.out.1.cell 0; have c1 := K2.out.1.cell 1; have c2 := K2.out.2.1.cell 0; have c3 := K2.out.2.1.cell 1; simp only [List.getElem?_toArray, List.getElem?_cons_zero, List.getElem?_cons_succ] at c0 c1 c2 c3)
                | (have z := K2; clear z; (fail_if_success (have z := K3)); go_at_call 15; go_must (refine (HH3.out _).mono ?_); rintro e w7 ⟨rfl, h⟩; have K3 : Hid (Bk 28 w7 w2.heap.size #[.string f1, .string u1] ∧ Bk 28 w7 w3.heap.size #[.string f2, .string u2] ∧ w.grownBy w7 none) := ⟨K2.out.1.grew h (by simp), K2.out.2.1.grew h (by simp), gb_trans K2.out.2.2 h⟩; clear h; have d0 := K3.out.1.cell 0; have d1 := K3.out.1.cell 1; have d2 := K3.out.2.1.cell 0; have d3 := K3.out.2.1.cell 1; simp only [List.getElem?_toArray, List.getElem?_cons_zero, List.getElem?_cons_succ] at d0 d1 d2 d3)
                | (have z := K3; clear z; (fail_if_success (have z := K4)); go_at_call 15; go_must (refine (HH4.out _).mono ?_); rintro e w8 ⟨rfl, h⟩; have K4 : Hid (Bk 28 w8 w2.heap.size #[.string f1, .string u1] ∧ Bk 28 w8 w3.heap.size #[.string f2, .string u2] ∧ w.grownBy w8 none) := ⟨K3.out.1.grew h (by simp), K3.out.2.1.grew h (by simp), gb_trans K3.out.2.2 h⟩; clear h; have e0 := K4.out.1.cell 0; have e1 := K4.out.1.cell 1; have e2 := K4.out.2.1.cell 0; have e3 := K4.out.2.1.cell 1; simp only [List.getElem?_toArray, List.getElem?_cons_zero, List.getElem?_cons_succ] at e0 e1 e2 e3))
              go_roundw
              case rel => exact ⟨d + 1, by omega, by omega, by simp, by rw [Nat.add_sub_cancel, ← HX.out], K4.out.2.2⟩
              case measure => simp [intOf]; omega
          · have hYX : ¬ Y = X := fun e => hXY e.symm
            rw [decide_eq_false hYX] at HH3
            rw [decide_eq_false hXY] at HH4
            cases hab : tl b a
            · rw [hab] at hle
              have hm1 : X ≤ Y := HMO.out hab
              have hm2 : ¬ Y < X := by omega
              clear hab HMO
              go_wp2_with (first
                | ((fail_if_success (have z := B1)); go_at_call 10; go_must (refine (HB1.out _).mono ?_); rintro e wq ⟨rfl, rfl⟩; have B1 : Hid True := trivial)
                | (have z := B1; clear z; (fail_if_success (have z := B2)); go_at_call 10; go_must (refine (HB2.out _).mono ?_); rintro e wq ⟨rfl, rfl⟩; have B2 : Hid True := trivial)
                | ((fail_if_success (have z := H2)); go_at_call 20; go_must (refine (HO1.out _).mono ?_); rintro e w2 ⟨rfl, h2⟩; have H2 : Hid (w.grownBy w2 none) := gb_trans hr.out h2; clear h2; have HN2 : Hid _ := blk_new w2 28 #[.string f1, .string u1])
                | (have z := H2; clear z; go_at_call 20; go_must (refine (HO2.out _).mono ?_); rintro e w3 ⟨rfl, h3⟩; have HN3 : Hid _ := blk_new w3 28 #[.string f2, .string u2]; have K0 : Hid (Bk 28 (w3.alloc (.cells #[.string f2, .string u2] 28)) w2.heap.size #[.string f1, .string u1] ∧ Bk 28 (w3.alloc (.cells #[.string f2, .string u2] 28)) w3.heap.size #[.string f2, .string u2] ∧ w.grownBy (w3.alloc (.cells #[.string f2, .string u2] 28)) none) := ⟨(HN2.out.1.grew h3 (by simp)).grew (gb_alloc _ _) (by simp), HN3.out.1, gb_trans (gb_trans (gb_trans H2.out HN2.out.2) h3) (gb_alloc _ _)⟩; clear h3; have a0 := K0.out.1.cell 0; have a1 := K0.out.1.cell 1; have a2 := K0.out.2.1.cell 0; have a3 := K0.out.2.1.cell 1; simp only [List.getElem?_toArray, List.getElem?_cons_zero, List.getElem?_cons_succ] at a0 a1 a2 a3)
                | ((fail_if_success (have z := K1)); go_at_call 15; go_must (refine (HH1.out _).mono ?_); rintro e w5 ⟨rfl, h⟩; have K1 : Hid (Bk 28 w5 w2.heap.size #[.string f1, .string u1] ∧ Bk 28 w5 w3.heap.size #[.string f2, .string u2] ∧ w.grownBy w5 none) := ⟨K0.out.1.grew h (by simp), K0.out.2.1.grew h (by simp), gb_trans K0.out.2.2 h⟩; clear h; have b0 := K1.out.1.cell 0; have b1 := K1.out.1.cell 1; have b2 := K1.out.2.1.cell 0; have b3 := K1.out.2.1.cell 1; simp only [List.getElem?_toArray, List.getElem?_cons_zero, List.getElem?_cons_succ] at b0 b1 b2 b3)
                | (have z := K1; clear z; (fail_if_success (have z := K2)); go_at_call 15; go_must (refine (HH2.out _).mono ?_); rintro e w6 ⟨rfl, h⟩; have K2 : Hid (Bk 28 w6 w2.heap.size #[.string f1, .string u1] ∧ Bk 28 w6 w3.heap.size #[.string f2, .string u2] ∧ w.grownBy w6 none) := ⟨K1.out.1.grew h (by simp), K1.out.2.1.grew h (by simp), gb_trans K1.out.2.2 h⟩; clear h; have c0 := K2.out.1.cell 0; have c1 := K2.out.1.cell 1; have c2 := K2.out.2.1.cell 0; have c3 := K2.out.2.1.cell 1; simp only [List.getElem?_toArray, List.getElem?_cons_zero, List.getElem?_cons_succ] at c0 c1 c2 c3)
                | (have z := K2; clear z; (fail_if_success (have z := K3)); go_at_call 15; go_must (refine (HH3.out _).mono ?_); rintro e w7 ⟨rfl, h⟩; have K3 : Hid (Bk 28 w7 w2.heap.size #[.string f1, .string u1] ∧ Bk 28 w7 w3.heap.size #[.string f2, .string u2] ∧ w.grownBy w7 none) := ⟨K2.out.1.grew h (by simp), K2.out.2.1.grew h (by simp), gb_trans K2.out.2.2 h⟩; clear h; have d0 := K3.out.1.cell 0; have d1 := K3.out.1.cell 1; have d2 := K3.out.2.1.cell 0; have d3 := K3.out.2.1.cell 1; simp only [List.getElem?_toArray, List.getElem?_cons_zero, List.getElem?_cons_succ] at d0 d1 d2 d3)
                | (have z := K3; clear z; (fail_if_success (have z := K4)); go_at_call 15; go_must (refine (HH4.out _).mono ?_); rintro e w8 ⟨rfl, h⟩; have K4 : Hid (Bk 28 w8 w2.heap.size #[.string f1, .string u1] ∧ Bk 28 w8 w3.heap.size #[.string f2, .string u2] ∧ w.grownBy w8 none) := ⟨K3.out.1.grew h (by simp), K3.out.2.1.grew h (by simp), gb_trans K3.out.2.2 h⟩; clear h; have e0 := K4.out.1.cell 0; have e1 := K4.out.1.cell 1; have e2 := K4.out.2.1.cell 0; have e3 := K4.out.2.1.cell 1; simp only [List.getElem?_toArray, List.getElem?_cons_zero, List.getElem?_cons_succ] at e0 e1 e2 e3))
              go_roundw
              case rel => exact ⟨d + 1, by omega, by omega, by simp, by rw [Nat.add_sub_cancel, ← HX.out], K4.out.2.2⟩
              case measure => simp [intOf]; omega
            · rw [hab] at hle
              clear hab HMO
              go_wp2_with (first
                | ((fail_if_success (have z := B1)); go_at_call 10; go_must (refine (HB1.out _).mono ?_); rintro e wq ⟨rfl, rfl⟩; have B1 : Hid True := trivial)
                | (have z := B1; clear z; (fail_if_success (have z := B2)); go_at_call 10; go_must (refine (HB2.out _).mono ?_); rintro e wq ⟨rfl, rfl⟩; have B2 : Hid True := trivial)
                | ((fail_if_success (have z := H2)); go_at_call 20; go_must (refine (HO1.out _).mono ?_); rintro e w2 ⟨rfl, h2⟩; have H2 : Hid (w.grownBy w2 none) := gb_trans hr.out h2; clear h2; have HN2 : Hid _ := blk_new w2 28 #[.string f1, .string u1])
                | (have z := H2; clear z; go_at_call 20; go_must (refine (HO2.out _).mono ?_); rintro e w3 ⟨rfl, h3⟩; have HN3 : Hid _ := blk_new w3 28 #[.string f2, .string u2]; have K0 : Hid (Bk 28 (w3.alloc (.cells #[.string f2, .string u2] 28)) w2.heap.size #[.string f1, .string u1] ∧ Bk 28 (w3.alloc (.cells #[.string f2, .string u2] 28)) w3.heap.size #[.string f2, .string u2] ∧ w.grownBy (w3.alloc (.cells #[.string f2, .string u2] 28)) none) := ⟨(HN2.out.1.grew h3 (by simp)).grew (gb_alloc _ _) (by simp), HN3.out.1, gb_trans (gb_trans (gb_trans H2.out HN2.out.2) h3) (gb_alloc _ _)⟩; clear h3; have a0 := K0.out.1.cell 0; have a1 := K0.out.1.cell 1; have a2 := K0.out.2.1.cell 0; have a3 := K0.out.2.1.cell 1; simp only [List.getElem?_toArray, List.getElem?_cons_zero, List.getElem?_cons_succ] at a0 a1 a2 a3)
                | ((fail_if_success (have z := K1)); go_at_call 15; go_must (refine (HH1.out _).mono ?_); rintro e w5 ⟨rfl, h⟩; have K1 : Hid (Bk 28 w5 w2.heap.size #[.string f1, .string u1] ∧ Bk 28 w5 w3.heap.size #[.string f2, .string u2] ∧ w.grownBy w5 none) := ⟨K0.out.1.grew h (by simp), K0.out.2.1.grew h (by simp), gb_trans K0.out.2.2 h⟩; clear h; have b0 := K1.out.1.cell 0; have b1 := K1.out.1.cell 1; have b2 := K1.out.2.1.cell 0; have b3 := K1.out.2.1.cell 1; simp only [List.getElem?_toArray, List.getElem?_cons_zero, List.getElem?_cons_succ] at b0 b1 b2 b3)
                | (have z := K1; clear z; (fail_if_success (have z := K2)); go_at_call 15; go_must (refine (HH2.out _).mono ?_); rintro e w6 ⟨rfl, h⟩; have K2 : Hid (Bk 28 w6 w2.heap.size #[.string f1, .string u1] ∧ Bk 28 w6 w3.heap.size #[.string f2, .string u2] ∧ w.grownBy w6 none) := ⟨K1.out.1.grew h (by simp), K1.out.2.1.grew h (by simp), gb_trans K1.out.2.2 h⟩; clear h; have c0 := K2.out.1.cell 0; have c1 := K2.out.1.cell 1; have c2 := K2.out.2.1.cell 0; have c3 := K2.out.2.1.cell 1; simp only [List.getElem?_toArray, List.getElem?_cons_zero, List.getElem?_cons_succ] at c0 c1 c2 c3)
                | (have z := K2; clear z; (fail_if_success (have z := K3)); go_at_call 15; go_must (refine (HH3.out _).mono ?_); rintro e w7 ⟨rfl, h⟩; have K3 : Hid (Bk 28 w7 w2.heap.size #[.string f1, .string u1] ∧ Bk 28 w7 w3.heap.size #[.string f2, .string u2] ∧ w.grownBy w7 none) := ⟨K2.out.1.grew h (by simp), K2.out.2.1.grew h (by simp), gb_trans K2.out.2.2 h⟩; clear h; have d0 := K3.out.1.cell 0; have d1 := K3.out.1.cell 1; have d2 := K3.out.2.1.cell 0; have d3 := K3.out.2.1.cell 1; simp only [List.getElem?_toArray, List.getElem?_cons_zero, List.getElem?_cons_succ] at d0 d1 d2 d3)
                | (have z := K3; clear z; (fail_if_success (have z := K4)); go_at_call 15; go_must (refine (HH4.out _).mono ?_); rintro e w8 ⟨rfl, h⟩; have K4 : Hid (Bk 28 w8 w2.heap.size #[.string f1, .string u1] ∧ Bk 28 w8 w3.heap.size #[.string f2, .string u2] ∧ w.grownBy w8 none) := ⟨K3.out.1.grew h (by simp), K3.out.2.1.grew h (by simp), gb_trans K3.out.2.2 h⟩; clear h; have e0 := K4.out.1.cell 0; have e1 := K4.out.1.cell 1; have e2 := K4.out.2.1.cell 0; have e3 := K4.out.2.1.cell 1; simp only [List.getElem?_toArray, List.getElem?_cons_zero, List.getElem?_cons_succ] at e0 e1 e2 e3))
              go_roundw
              case rel => exact ⟨d + 1, by omega, by omega, by simp, by rw [Nat.add_sub_cancel, ← HX.out], K4.out.2.2⟩
              case measure => simp [intOf]; omega
        · obtain rfl : d = 4 := by omega
          go_wp2
          go_ret
          exact ⟨rfl, gb_below hr.out⟩
    · rw [decide_eq_true hka] at HMA
      rw [decide_eq_false hkb] at HMB
      have hkb2 := keyE_not hkb
      rw [hkb2] at HCB
      rw [hka] at HCA
      go_enter Try.func8, Try.ntmps8
      go_wp2_with (first
        | (go_at_call 22; go_must (refine (Calls.mono HAW.out ?_)); rintro e w1 ⟨rfl, h1⟩; have H1 : Hid _ := h1; clear h1)
        | ((fail_if_success (have z := M1)); go_at_call 27; go_must (refine (HMA.out _).mono ?_); rintro e wq ⟨rfl, rfl⟩; have M1 : Hid True := trivial)
        | (have z := M1; clear z; go_at_call 27; go_must (refine (HMB.out _).mono ?_); rintro e wq ⟨rfl, rfl⟩)
        | ((fail_if_success (have z := C1)); go_at_call 13; go_must (refine (HCA.out _).mono ?_); rintro e wq ⟨rfl, rfl⟩; have C1 : Hid True := trivial)
        | (have z := C1; clear z; go_at_call 13; go_must (refine (HCB.out _).mono ?_); rintro e wq ⟨rfl, rfl⟩))
      go_ret
      exact ⟨rfl, gb_below H1.out⟩
  · rw [decide_eq_false hka] at HMA
    have hka2 := keyE_not hka
    rw [hka2] at HCA
    go_enter Try.func8, Try.ntmps8
    go_wp2_with (first
      | (go_at_call 22; go_must (refine (Calls.mono HAW.out ?_)); rintro e w1 ⟨rfl, h1⟩; have H1 : Hid _ := h1; clear h1)
      | (go_at_call 27; go_must (refine (HMA.out _).mono ?_); rintro e wq ⟨rfl, rfl⟩)
      | (go_at_call 13; go_must (refine (HCA.out _).mono ?_); rintro e wq ⟨rfl, rfl⟩))
    go_ret
    exact ⟨rfl, gb_below H1.out⟩

set_option maxRecDepth 100000 in
theorem lifted (os : Os) (started : os.Started) (H : Type) (enc : TypeId × Value → H) :
    ReturnsInHanded {} Try.checked os 8 .any (Rows.spanHomeSpec.pre6 enc Try.prog Try.f8 Rows.spanHomeRow.domain false) (Rows.spanHomeSpec.post enc Try.prog Try.f8 false true false false) := by
  refine returnsInHanded_of_change (C := Try.checked) own started (by kernel_rfl) Try.func8
    (ChangeSpec.witness6 (enc := enc) (C := Try.checked) false ⟨#[], #[.string .empty, .string .empty], []⟩ 8 (by kernel_rfl) (by kernel_rfl) (by kernel_rfl) (by kernel_rfl)) ?_
  intro W base args ds gs before hval0 hW hcnd _
  have hval : ∀ (j : Nat) t v, Try.f8.params[j]? = some t → args[j]? = some v → Value.okWide Try.prog W .any base t v := hval0
  have hW' := hW
  obtain ⟨p, q, hA0, hV, rfl, hfz, hnd⟩ := hW
  have hA : DataW.TrodAll enc Try.prog W 0 (fun _ => true) true Try.f8.params.toList args.toList ds p := hA0
  rw [Try.params8] at hA hval
  obtain ⟨v0, vs0, d0, ds0, p0, q0, hargs, rfl, rfl, h0, r0⟩ := trodAll_cons hA
  obtain ⟨v1, vs1, d1, ds1, p1, q1, rfl, rfl, rfl, h1, r1⟩ := trodAll_cons r0
  obtain ⟨rfl, rfl, rfl⟩ := trodAll_nil r1
  obtain rfl : args = #[v0, v1] := by cases args; simp_all
  obtain ⟨rfl, rfl⟩ := trodVars_none hV
  obtain ⟨s0, rfl, rfl, rfl, z0⟩ := Go.ChangeMaps.open_string Try.underlying9 (hval 0 9 v0 rfl rfl) h0
  obtain ⟨s1, rfl, rfl, rfl, z1⟩ := Go.ChangeMaps.open_string Try.underlying9 (hval 1 9 v1 rfl rfl) h1
  clear hA0 hval0
  refine (walk s0 s1 W z0 z1).mono fun e W' ⟨he, bel⟩ => ?_
  subst he
  exact ⟨_, rfl, _, _, _, [], _, [], hW', trodAll_mk1 (shut_bool Try.underlying4 _), (trodAll_cons_mk (Go.ChangeMaps.shut_string Try.underlying9 z0) (trodAll_cons_mk (Go.ChangeMaps.shut_string Try.underlying9 z1) trodAll_mk0)), rfl, bel.frame _, fun h => by cases h⟩

theorem over : Rows.spanHomeRow.holds Try.pinned (OpenSpec.ofChange Rows.spanHomeSpec) :=
  OpenClaim.holds_of_wide 8 Try.f8 rfl rfl rfl rfl rfl rfl rfl ⟨rfl, rfl, rfl, rfl, rfl⟩ rfl rfl rfl rfl rfl (by kernel_rfl) Try.func8 (by kernel_rfl)
    (of_decide_eq_true (by kernel_rfl)) (by unfold Func.isWrapper; first | (rw [if_pos (by decide +kernel)]; kernel_rfl) | (rw [if_neg (by decide +kernel)]; exact ⟨rfl, rfl⟩))
    (fun os started H enc _ => lifted os started H enc)

end Go.Proofs.Ytggkkpbgnlmfeaa.spanHome
namespace Go.Proofs.Ytggkkpbgnlmfeaa
theorem spanHome_holds : Rows.SpanHomeSaid := spanHome.over
#print axioms spanHome_holds
end Go.Proofs.Ytggkkpbgnlmfeaa
