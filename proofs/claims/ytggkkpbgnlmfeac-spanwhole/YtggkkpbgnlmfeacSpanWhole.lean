/-
  Proved: for every number, hawserlaw06.SpanWhole answers true: at each depth the ranges of all buckets are all texts, and those of a bucket's sixteen, a depth further, are its own. No condition.
-/
import Derived.Test.YtggkkpbgnlmfeacRows
import Derived.Test.YtggkkpbgnlmfeacNWh
import Derived.WalkKit
import Derived.ProofKit
import Derived.OpenShut
import Derived.ShutString
import Derived.ChangeOld
import Derived.Below
import Derived.Lib.SmallJoins
import Derived.JoinedCond
namespace Go.Proofs.Ytggkkpbgnlmfeac.spanWhole
open Go.ChangeShapes Go.WideShapes Go.ChangeAt Go.RowKit
set_option linter.unusedVariables false

theorem own : ownKnob Try.prog.godebug = none := by kernel_rfl
theorem laidOut : laidOutB Try.prog = true := by kernel_rfl

theorem rv_eq (r : Rg) : rv r = .agg #[.string r.1, .string r.2] := rfl
set_option maxRecDepth 20000 in
set_option maxHeartbeats 4000000 in
theorem walk (B : Int) (w : World) (w0 : (Lit.int .u64 B).wf = true) : Calls Try.prog 3 #[.int .u64 B] w fun e w' => e = .returned (.bool true) ∧ Below w.heap.size w w' := by
  have b0 := bounds_u64 w0
  clear w0
  have HAW : Hid _ := awake_c w
  go_enter Try.func3, Try.ntmps3
  go_wp2_with (first
    | (go_at_call 9; go_must (refine (Calls.mono HAW.out ?_)); rintro e w1 ⟨rfl, h1⟩; have H1 : Hid _ := h1; clear h1))
  clear HAW
  go_loopw [3, 4] (fun x i wr => ∃ d m : Nat, 1 ≤ d ∧ d ≤ 4 ∧ m ≤ 4096 ∧ i = .int .i64 d ∧ x = .int .i64 m ∧ Hid ((d ≤ 3 → nbk d = ((m * 16 : Nat) : Int)) ∧ w.grownBy wr none)) (fun _ i _ => 4 - (intOf i).toNat)
  case atStart => exact ⟨1, 1, by omega, by omega, by omega, rfl, rfl, (fun _ => rfl), H1.out⟩
  case round =>
    obtain ⟨d, m, hd1, hd4, hm, rfl, rfl, hr⟩ := hrel
    clear H1
    by_cases hd3 : d ≤ 3
    · have hi : (d : Int) ≤ 3 := by omega
      have hnb := nbk_bd d hd1 hd3
      have hnn := hr.out.1 hd3
      obtain ⟨n, hn⟩ : ∃ n : Nat, n = m * 16 := ⟨_, rfl⟩
      rw [← hn] at hnn
      have HNB : Hid (nbk d = (n : Int)) := hnn
      have hmn : (m : Int) * 16 = (n : Int) := by omega
      have hn16 : 16 ≤ n ∧ n ≤ 4096 := by omega
      have HWH : Hid _ := whole_c d n hd1 hd3 hnn
      obtain ⟨q, hq⟩ : ∃ q : Nat, B % (n : Int) = (q : Int) := ⟨(B % (n : Int)).toNat, by have := Int.emod_nonneg B (b := (n : Int)) (by omega); omega⟩
      have hqn : q < n := by have := Int.emod_lt_of_pos B (b := (n : Int)) (by omega); omega
      have hqt : B.tmod (n : Int) = (q : Int) := by rw [Int.tmod_eq_emod_of_nonneg b0.1]; exact hq
      have HQT : Hid (B.tmod (n : Int) = (q : Int)) := hqt
      have HG : Hid (w.grownBy wr none) := hr.out.2
      obtain ⟨W2, rfl⟩ : ∃ W2, W2 = wr := ⟨_, rfl⟩
      clear hr hnn hnb hq hn
      have hB : Hid (0 ≤ B ∧ B < 18446744073709551616) := ⟨b0.1, by omega⟩
      clear b0 hqt
      go_wp2
      try rw [hmn]
      clear hm hmn
      go_loopw [5, 6] (fun v i wr => ∃ j : Nat, j ≤ n ∧ i = .int .i64 j ∧ Hid (wr.ownsRow W2.heap.size 3 1 v j (i64s (upt j)) ∧ W2.grownBy wr none)) (fun _ i _ => n - (intOf i).toNat)
      case atStart => exact ⟨0, Nat.zero_le _, rfl, own_none _ _ _ _, gb_refl _⟩
      case round =>
        obtain ⟨j, hj, rfl, hr⟩ := hrel
        by_cases hjn : j < n
        · have i2 : (j : Int) < (n : Int) := by omega
          go_wp2_with (first
            | (at_builtin; go_must (refine wpList_lit rfl _ _ 24 rfl W2.heap.size 3 (.int .i64 0) 1 8 Try.underlying24 infoInt rfl (by decide) wr #[.int .i64 j] rfl _ j (i64s (upt j)) rfl hr.out.1 rfl rfl (by simp [Value.oneCell']) (by unfold maxLen; omega) (by omega) hr.out.2.size ?_); intro g2 cap2 w4 ho2 hb2 _ _ _; have HO2 : Hid (w4.ownsRow W2.heap.size 3 1 (.slice (some ⟨g2, 0, none⟩) (j + 1) cap2) (j + 1) (i64s (upt (j + 1))) ∧ W2.grownBy w4 none) := ⟨(by rw [upt_snoc]; simpa [i64s] using ho2), below_gb ((gb_below hr.out.2).trans hb2)⟩; clear ho2 hb2))
          go_roundw
          case rel => exact ⟨j + 1, by omega, by simp, HO2.out.1, HO2.out.2⟩
          case measure => simp [intOf]; omega
        · obtain rfl : j = n := by omega
          obtain ⟨xl, cl, rfl, hcl, -⟩ := own_cells hr.out.1
          have HW1 : Hid _ := HWH.out xl cl wr hcl
          have HG2 : Hid (w.grownBy wr none) := gb_trans HG.out hr.out.2
          have HEQ : Hid (∀ (r : Rg) (w : World) (x y : Option Addr) (cx cy : Nat), Cells w x (flR [r]) → Cells w y (flR [r]) → Calls Try.prog 11 #[.slice x 1 cx, .slice y 1 cy] w fun e w' => e = .returned (.bool true) ∧ w.grownBy w' none) := fun r w x y cx cy h1 h2 => by
            have := equal_c [r] [r] x y cx cy w h1 h2 (by simp) (by simp)
            simpa using this
          have hqb : (0 : Int) ≤ (q : Int) ∧ (q : Int) < nbk d := ⟨by omega, by rw [HNB.out]; omega⟩
          have HOF : Hid (∀ w, Calls Try.prog 12 #[.int .i64 d, .int .i64 q] w fun r w' => r = .returned (.tuple #[rv (ofR d q), .int .i64 0]) ∧ w.grownBy w' none) := fun w => by
            have := of_c d q w
            rwa [(ofE_yes hd1 hd3 hqb).1] at this
          have HK : Hid (d ≤ 2 → ∀ (a : Option Addr) (ca : Nat) (w : World), Cells w a (i64s (kds q 16)) → Calls Try.prog 10 #[.int .i64 ((d : Int) + 1), .slice a 16 ca] w fun e w' => ∃ v, e = .returned (.tuple #[v, .int .i64 0]) ∧ w'.ownsRow w.heap.size 31 2 v 1 (flR [ofR d q]) ∧ w.grownBy w' none) := fun h => kids_c d hd1 h q hqb
          have HNX : Hid (d ≤ 2 → nbk ((d + 1 : Nat) : Int) = ((j * 16 : Nat) : Int)) := fun h => by
            have := HNB.out
            rcases (show d = 1 ∨ d = 2 by omega) with rfl | rfl
            · have e : (16 : Int) = (j : Int) := this
              show (256 : Int) = _; omega
            · have e : (256 : Int) = (j : Int) := this
              show (4096 : Int) = _; omega
          generalize ofR d q = r at HOF HK
          obtain ⟨f, u⟩ := r
          unfold rv at HOF
          have hjz : ¬ (j : Int) = 0 := by omega
          have hju : IntKind.u64.wrap (j : Int) = (j : Int) := IntWalk.u64_in _ ⟨by omega, by omega⟩
          have hqt := HQT.out
          clear hcl hqb HWH HG hr HQT
          by_cases hd2 : d = 3
          · subst hd2
            go_wp2_with (first
              | (go_at_call 10; go_must (refine (Calls.mono HW1.out ?_)); rintro e w3 ⟨v, rfl, ho, hg⟩; obtain ⟨x3, c3, rfl, hc3, -⟩ := own_cells ho; have H3 : Hid (Cells (w3.alloc (.cells #[.string { data := #[] }, .string { data := #[] }] 31)) x3 (flR [(.empty, .empty)]) ∧ w.grownBy (w3.alloc (.cells #[.string { data := #[] }, .string { data := #[] }] 31)) none) := ⟨hc3.gb (gb_alloc _ _), gb_trans (gb_trans HG2.out hg) (gb_alloc _ _)⟩; have H3b : Hid _ := cells_lit w3 31 [(.empty, .empty)] #[.string { data := #[] }, .string { data := #[] }] rfl; clear ho hg hc3)
              | (go_at_call 11; go_must (refine (HEQ.out (.empty, .empty) (w3.alloc (.cells #[.string { data := #[] }, .string { data := #[] }] 31)) x3 (some ⟨w3.heap.size, 0, none⟩) c3 1 H3.out.1 H3b.out).mono ?_); rintro e w4 ⟨rfl, h4⟩; have H4 : Hid (w.grownBy w4 none) := gb_trans H3.out.2 h4; clear h4)
              | (go_at_call 12; go_must (refine (HOF.out _).mono ?_); rintro e w5 ⟨rfl, h5⟩; have H5 : Hid (w.grownBy w5 none) := gb_trans H4.out h5; clear h5))
            exact ⟨⟨4, j, by omega, by omega, by omega, rfl, rfl, (fun h => absurd h (by omega)), gb_trans H5.out (gb_alloc _ _)⟩, by decide⟩
          · have hd5 : ¬ (d : Int) = 3 := by omega
            go_wp2_with (first
              | (go_at_call 10; go_must (refine (Calls.mono HW1.out ?_)); rintro e w3 ⟨v, rfl, ho, hg⟩; obtain ⟨x3, c3, rfl, hc3, -⟩ := own_cells ho; have H3 : Hid (Cells (w3.alloc (.cells #[.string { data := #[] }, .string { data := #[] }] 31)) x3 (flR [(.empty, .empty)]) ∧ w.grownBy (w3.alloc (.cells #[.string { data := #[] }, .string { data := #[] }] 31)) none) := ⟨hc3.gb (gb_alloc _ _), gb_trans (gb_trans HG2.out hg) (gb_alloc _ _)⟩; have H3b : Hid _ := cells_lit w3 31 [(.empty, .empty)] #[.string { data := #[] }, .string { data := #[] }] rfl; clear ho hg hc3)
              | (go_at_call 11; go_must (refine (HEQ.out (.empty, .empty) (w3.alloc (.cells #[.string { data := #[] }, .string { data := #[] }] 31)) x3 (some ⟨w3.heap.size, 0, none⟩) c3 1 H3.out.1 H3b.out).mono ?_); rintro e w4 ⟨rfl, h4⟩; have H4 : Hid (w.grownBy w4 none) := gb_trans H3.out.2 h4; clear h4)
              | (go_at_call 12; go_must (refine (HOF.out _).mono ?_); rintro e w5 ⟨rfl, h5⟩; have H5 : Hid (w.grownBy w5 none) := gb_trans H4.out h5; clear h5))
            have HK2 : Hid _ := HK.out (by omega)
            have H6 : Hid (w.grownBy (w5.alloc (.cells #[.string f, .string u] 31)) none ∧ Cells (w5.alloc (.cells #[.string f, .string u] 31)) (some ⟨w5.heap.size, 0, none⟩) (flR [(f, u)])) := ⟨gb_trans H5.out (gb_alloc _ _), cells_lit w5 31 [(f, u)] #[.string f, .string u] rfl⟩
            clear HW1 HG2 HOF HK H3 H3b H4 H5 hqt hju hjz
            generalize w5.alloc (.cells #[.string f, .string u] 31) = W5 at *
            generalize w5.heap.size = B5 at *
            rw [show ((d : Int) == 3) = false from by rw [beq_eq_false_iff_ne]; omega]
            go_loopw [12, 13] (fun v i wr => ∃ k : Nat, k ≤ 16 ∧ i = .int .i64 k ∧ Hid (wr.ownsRow W5.heap.size 3 1 v k (i64s (kds q k)) ∧ W5.grownBy wr none)) (fun _ i _ => 16 - (intOf i).toNat)
            case atStart => exact ⟨0, Nat.zero_le _, rfl, own_none _ _ _ _, gb_refl _⟩
            case round =>
              obtain ⟨k, hk, rfl, hr⟩ := hrel
              by_cases hkn : k < 16
              · have i2 : (k : Int) < 16 := by omega
                go_wp2_with (first
                  | (at_builtin; go_must (refine wpList_lit rfl _ _ 24 rfl W5.heap.size 3 (.int .i64 0) 1 8 Try.underlying24 infoInt rfl (by decide) wr #[.int .i64 (16 * (q : Int) + 15 - (k : Int))] rfl _ k (i64s (kds q k)) rfl hr.out.1 rfl rfl (by simp [Value.oneCell']) (by unfold maxLen; omega) (by omega) hr.out.2.size ?_); intro g2 cap2 w6 ho2 hb2 _ _ _; have HO2 : Hid (w6.ownsRow W5.heap.size 3 1 (.slice (some ⟨g2, 0, none⟩) (k + 1) cap2) (k + 1) (i64s (kds q (k + 1))) ∧ W5.grownBy w6 none) := ⟨(by rw [kds_snoc]; simpa [i64s] using ho2), below_gb ((gb_below hr.out.2).trans hb2)⟩; clear ho2 hb2))
                go_roundw
                case rel => exact ⟨k + 1, by omega, by simp, HO2.out.1, HO2.out.2⟩
                case measure => simp [intOf]; omega
              · obtain rfl : k = 16 := by omega
                obtain ⟨xk, ck, rfl, hck, -⟩ := own_cells hr.out.1
                have HK3 : Hid _ := HK2.out xk ck wr hck
                have H7 : Hid (w.grownBy wr none ∧ Cells wr (some ⟨B5, 0, none⟩) (flR [(f, u)])) := ⟨gb_trans H6.out.1 hr.out.2, H6.out.2.gb hr.out.2⟩
                clear hck HK2 H6 hr
                go_wp2_with (first
                  | (go_at_call 10; go_must (refine (Calls.mono HK3.out ?_)); rintro e w7 ⟨v, rfl, ho, hg⟩; obtain ⟨x7, c7, rfl, hc7, -⟩ := own_cells ho; obtain ⟨b8, o8, e8, -, f0, f1⟩ := cells_rg (H7.out.2.gb hg) 0 (by simp); cases e8; have H8 : Hid (Cells (w7.alloc (.cells #[.string f, .string u] 31)) x7 (flR [(f, u)]) ∧ w.grownBy (w7.alloc (.cells #[.string f, .string u] 31)) none) := ⟨hc7.gb (gb_alloc _ _), gb_trans (gb_trans H7.out.1 hg) (gb_alloc _ _)⟩; have H8b : Hid _ := cells_lit w7 31 [(f, u)] #[.string f, .string u] rfl; clear ho hg hc7; simp only [Nat.zero_mul, Nat.zero_add, List.getD_cons_zero] at f0 f1)
                  | (go_at_call 11; go_must (refine (HEQ.out (f, u) (w7.alloc (.cells #[.string f, .string u] 31)) x7 (some ⟨w7.heap.size, 0, none⟩) c7 1 H8.out.1 H8b.out).mono ?_); rintro e w9 ⟨rfl, h9⟩; have H9 : Hid (w.grownBy w9 none) := gb_trans H8.out.2 h9; clear h9))
                go_roundw
                case rel => exact ⟨d + 1, j, by omega, by omega, by omega, by simp, rfl, (fun h => HNX.out (by omega)), H9.out⟩
                case measure => simp [intOf]; omega
    · obtain rfl : d = 4 := by omega
      go_wp2
      go_ret
      exact ⟨rfl, gb_below hr.out.2⟩

set_option maxRecDepth 100000 in
theorem lifted (os : Os) (started : os.Started) (H : Type) (enc : TypeId × Value → H) :
    ReturnsInHanded {} Try.checked os 3 .any (Rows.spanWholeSpec.pre6 enc Try.prog Try.f3 Rows.spanWholeRow.domain false) (Rows.spanWholeSpec.post enc Try.prog Try.f3 false true false false) := by
  refine returnsInHanded_of_change (C := Try.checked) own started (by kernel_rfl) Try.func3
    (ChangeSpec.witness6 (enc := enc) (C := Try.checked) false ⟨#[], #[.int .u64 0], []⟩ 8 (by kernel_rfl) (by kernel_rfl) (by kernel_rfl) (by kernel_rfl)) ?_
  intro W base args ds gs before hval0 hW hcnd _
  have hval : ∀ (j : Nat) t v, Try.f3.params[j]? = some t → args[j]? = some v → Value.okWide Try.prog W .any base t v := hval0
  have hW' := hW
  obtain ⟨p, q, hA0, hV, rfl, hfz, hnd⟩ := hW
  have hA : DataW.TrodAll enc Try.prog W 0 (fun _ => true) true Try.f3.params.toList args.toList ds p := hA0
  rw [Try.params3] at hA hval
  obtain ⟨v0, vs0, d0, ds0, p0, q0, hargs, rfl, rfl, h0, r0⟩ := trodAll_cons hA
  obtain ⟨rfl, rfl, rfl⟩ := trodAll_nil r0
  obtain rfl : args = #[v0] := by cases args; simp_all
  obtain ⟨rfl, rfl⟩ := trodVars_none hV
  obtain ⟨a0, rfl, rfl, rfl, w0⟩ := open_int Try.underlying22 (hval 0 22 v0 rfl rfl) h0
  clear hA0 hval0
  refine (walk a0 W w0).mono fun e W' ⟨he, bel⟩ => ?_
  subst he
  exact ⟨_, rfl, _, _, _, [], _, [], hW', trodAll_mk1 (shut_bool Try.underlying4 _), (trodAll_cons_mk (shut_int Try.underlying22 w0) trodAll_mk0), rfl, bel.frame _, fun h => by cases h⟩

theorem over : Rows.spanWholeRow.holds Try.pinned (OpenSpec.ofChange Rows.spanWholeSpec) :=
  OpenClaim.holds_of_wide 3 Try.f3 rfl rfl rfl rfl rfl rfl rfl ⟨rfl, rfl, rfl, rfl, rfl⟩ rfl rfl rfl rfl rfl (by kernel_rfl) Try.func3 (by kernel_rfl)
    (of_decide_eq_true (by kernel_rfl)) (by unfold Func.isWrapper; first | (rw [if_pos (by decide +kernel)]; kernel_rfl) | (rw [if_neg (by decide +kernel)]; exact ⟨rfl, rfl⟩))
    (fun os started H enc _ => lifted os started H enc)

end Go.Proofs.Ytggkkpbgnlmfeac.spanWhole
namespace Go.Proofs.Ytggkkpbgnlmfeac
theorem spanWhole_holds : Rows.SpanWholeSaid := spanWhole.over
#print axioms spanWhole_holds
end Go.Proofs.Ytggkkpbgnlmfeac
