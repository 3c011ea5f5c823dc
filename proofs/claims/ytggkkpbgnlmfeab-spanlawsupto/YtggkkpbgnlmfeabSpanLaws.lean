/-
  Proved: for every two lists of ranges that together are of bulk at most 1048576, hawserlaw06.SpanLaws answers true: Normal, Meet, Minus and Covers hang together as the chapter says. Condition: that bulk.
-/
import Derived.Test.YtggkkpbgnlmfeabRows
import Derived.Test.YtggkkpbgnlmfeabNAw
import Derived.Test.YtggkkpbgnlmfeabNMm
import Derived.Test.YtggkkpbgnlmfeabNLv
import Derived.Test.YtggkkpbgnlmfeabNRo
import Derived.WalkKit
import Derived.ProofKit
import Derived.OpenShut
import Derived.ShutString
import Derived.ChangeOld
import Derived.Below
import Derived.Lib.SmallJoins
import Derived.JoinedCond
namespace Go.Proofs.Ytggkkpbgnlmfeab.spanLaws
open Go.ChangeShapes Go.WideShapes Go.ChangeAt Go.RowKit
set_option linter.unusedVariables false

theorem own : ownKnob Try.prog.godebug = none := by kernel_rfl
theorem laidOut : laidOutB Try.prog = true := by kernel_rfl

/-- The first k turned, the others as they were. -/
def rt (A : List Rg) (k : Nat) : List Rg := A.reverse.take k ++ A.drop k
theorem rt_zero (A : List Rg) : rt A 0 = A := by simp [rt]
theorem rt_all (A : List Rg) : rt A A.length = A.reverse := by
  unfold rt; rw [List.take_of_length_le (by rw [List.length_reverse]; exact Nat.le_refl _), List.drop_length, List.append_nil]
theorem rt_step (A : List Rg) (k : Nat) (h : k < A.length) : (rt A k).set k (A.getD (A.length - 1 - k) (.empty, .empty)) = rt A (k + 1) := by
  unfold rt
  have h1 : (A.reverse.take k).length = k := by rw [List.length_take, List.length_reverse]; omega
  rw [List.set_append_right _ _ (by omega), h1, Nat.sub_self, List.take_succ_eq_append_getElem (by rw [List.length_reverse]; exact h), List.append_assoc]
  congr 1
  rw [List.drop_eq_getElem_cons h, List.set_cons_zero]
  have h2 : A.length - 1 - k < A.length := by omega
  simp [h2]
theorem rt_len (A : List Rg) (k : Nat) (h : k ≤ A.length) : (rt A k).length = A.length := by simp [rt]; omega
theorem rev_has (A : List Rg) (t : ByteArray) : lHas (A.reverse ++ A) t = lHas A t := by
  rw [lHas_app]
  have : lHas A.reverse t = lHas A t := by simp [lHas]
  rw [this]; simp
theorem normal_n (A : List Rg) (a : Option Addr) (n ca : Nat) (hl : A.length = n) (w : World) (hA : Cells w a (flR A)) (hn : A.length ≤ 1099511627776) :
    Calls Try.prog 12 #[.slice a n ca] w fun e w' => ∃ v R, e = .returned v ∧ w'.ownsRow w.heap.size 40 2 v R.length (flR R) ∧ Nrm R ∧ (∀ t, lHas R t = lHas A t) ∧ R.length ≤ 2 * A.length + 1 ∧ w.grownBy w' none := by
  subst hl; exact normal_c A a ca w hA hn
theorem equal_t (A : List Rg) (a b : Option Addr) (ca cb : Nat) (w : World) (hA : Cells w a (flR A)) (hB : Cells w b (flR A)) (hn : A.length ≤ 1099511627776) :
    Calls Try.prog 17 #[.slice a A.length ca, .slice b A.length cb] w fun e w' => e = .returned (.bool true) ∧ w.grownBy w' none := by
  have := equal_c A A a b ca cb w hA hB hn hn
  simpa using this
theorem cov_len {A B R : List Rg} {z : Bool} (hz : z = true ↔ lCov A B) (h2 : Nrm R) (h3 : ∀ t, lHas R t = (lHas B t && !lHas A t)) : ((R.length : Int) == 0) = z := by
  have e : (R.length = 0) ↔ z = true := by
    rw [hz, List.length_eq_zero_iff, nrm_nil h2]
    constructor
    · intro h t; rw [← h3]; exact h t
    · intro h t; rw [h3]; exact h t
  cases z
  · have : ¬ R.length = 0 := fun h => by have := e.1 h; cases this
    simp; exact fun h => this (by rw [h]; rfl)
  · have := e.2 rfl
    simp [this]
set_option maxRecDepth 20000 in
set_option maxHeartbeats 4000000 in
theorem walk (a : Option Addr) (ca : Nat) (A : List Rg) (b : Option Addr) (cb : Nat) (B : List Rg) (w : World) (hA : Cells w a (flR A)) (hla : A.length ≤ ca) (hca : ca ≤ maxLen) (hza : a = none → ca = 0) (hna : A.length ≤ 1048576) (hB : Cells w b (flR B)) (hlb : B.length ≤ cb) (hcb : cb ≤ maxLen) (hzb : b = none → cb = 0) (hnb : B.length ≤ 1048576) : Calls Try.prog 5 #[.slice a A.length ca, .slice b B.length cb] w fun e w' => e = .returned (.bool true) ∧ Below w.heap.size w w' := by
  have HAW : Hid _ := awake_c w
  have HLV : Hid (Live w [(a, A), (b, B)]) := fun p hp => by
    simp only [List.mem_cons, List.not_mem_nil, or_false] at hp
    rcases hp with rfl | rfl
    · exact hA
    · exact hB
  have HZA : Hid (a = none → ca = 0) := hza
  clear hA hB hza hzb hla hlb hca hcb
  go_enter Try.func5, Try.ntmps5
  go_wp2_with (first
    | ((fail_if_success (have zz := G0)); go_at_call 11; go_must (refine (Calls.mono HAW.out ?_)); rintro e w1 ⟨rfl, h1⟩; have H1 : Hid (Live w1 [(a, A), (b, B)] ∧ w.grownBy w1 none) := ⟨HLV.out.gb h1, h1⟩; clear h1; have G0 : Hid True := trivial)
    | (have zz := G0; clear zz; (fail_if_success (have zz := G1)); go_at_call 12; go_must (refine (normal_c A a ca w1 (H1.out.1 (a, A) (by simp)) (by omega)).mono ?_); rintro e w2 ⟨v, R1, rfl, h1, h2, h3, h4, h5⟩; obtain ⟨x1, c1, rfl, hc, -, z1, -⟩ := own_cells h1; have H2 : Hid (Live w2 [(x1, R1), (a, A), (b, B)] ∧ w.grownBy w2 none) := ⟨(H1.out.1.gb h5).cons hc, gb_trans H1.out.2 h5⟩; have PR1 : Hid (Nrm R1 ∧ ∀ t, lHas R1 t = lHas A t) := ⟨h2, h3⟩; have Z1 : Hid (x1 = none → c1 = 0) := z1; clear h1 h2 h3 h5 hc z1; have G1 : Hid True := trivial)
    | (have zz := G1; clear zz; (fail_if_success (have zz := G2)); go_at_call 12; go_must (refine (normal_c B b cb w2 (H2.out.1 (b, B) (by simp)) (by omega)).mono ?_); rintro e w3 ⟨v, R2, rfl, h1, h2, h3, h4, h5⟩; obtain ⟨x2, c2, rfl, hc, -, z2, -⟩ := own_cells h1; have H3 : Hid (Live w3 [(x2, R2), (x1, R1), (a, A), (b, B)] ∧ w.grownBy w3 none) := ⟨(H2.out.1.gb h5).cons hc, gb_trans H2.out.2 h5⟩; have PR2 : Hid (Nrm R2 ∧ ∀ t, lHas R2 t = lHas B t) := ⟨h2, h3⟩; have Z2 : Hid (x2 = none → c2 = 0) := z2; clear h1 h2 h3 h5 hc z2; have G2 : Hid True := trivial)
    | (have zz := G2; clear zz; (fail_if_success (have zz := G3)); go_at_call 13; go_must (refine (meet_c A B a b ca cb w3 (H3.out.1 (a, A) (by simp)) (H3.out.1 (b, B) (by simp)) (by omega)).mono ?_); rintro e w4 ⟨v, M, rfl, h1, h2, h3, h4, h5⟩; obtain ⟨x3, c3, rfl, hc, -, z3, -⟩ := own_cells h1; have H4 : Hid (Live w4 [(x3, M), (x2, R2), (x1, R1), (a, A), (b, B)] ∧ w.grownBy w4 none) := ⟨(H3.out.1.gb h5).cons hc, gb_trans H3.out.2 h5⟩; have PM : Hid (Nrm M ∧ ∀ t, lHas M t = (lHas A t && lHas B t)) := ⟨h2, h3⟩; have Z3 : Hid (x3 = none → c3 = 0) := z3; clear h1 h2 h3 h5 hc z3; have G3 : Hid True := trivial)
    | (have zz := G3; clear zz; (fail_if_success (have zz := G4)); go_at_call 14; go_must (refine (minus_c A B a b ca cb w4 (H4.out.1 (a, A) (by simp)) (H4.out.1 (b, B) (by simp)) (by omega)).mono ?_); rintro e w5 ⟨v, D, rfl, h1, h2, h3, h4, h5⟩; obtain ⟨x4, c4, rfl, hc, -, z4, -⟩ := own_cells h1; have H5 : Hid (Live w5 [(x4, D), (x3, M), (x2, R2), (x1, R1), (a, A), (b, B)] ∧ w.grownBy w5 none) := ⟨(H4.out.1.gb h5).cons hc, gb_trans H4.out.2 h5⟩; have PD : Hid (Nrm D ∧ ∀ t, lHas D t = (lHas A t && !lHas B t)) := ⟨h2, h3⟩; have Z4 : Hid (x4 = none → c4 = 0) := z4; clear h1 h2 h3 h5 hc z4; have G4 : Hid True := trivial)
    | (at_builtin; go_must (refine wpList_cat rfl _ _ 23 rfl w5.heap.size 40 _ 2 32 Try.underlying23 infoRange rfl (by decide) (.slice none 0 0) 0 [] rfl (own_none _ _ _ _) a A.length ca (flR A) rfl HZA.out (flR_len A) (H5.out.1 (a, A) (by simp)) (flR_one A) (by unfold maxLen; omega) (by omega) (Nat.le_refl _) ?_); intro vt w6 ho6 hb6 _; rw [Nat.zero_add, List.nil_append] at ho6; have H6 : Hid (w6.ownsRow w5.heap.size 40 2 vt A.length (flR (rt A 0)) ∧ w5.grownBy w6 none) := ⟨(by rw [rt_zero]; exact ho6), below_gb hb6⟩; clear ho6 hb6))
  go_loopw [10] (fun i wr => ∃ k : Nat, k ≤ A.length ∧ i = .int .i64 k ∧ Hid (wr.ownsRow w5.heap.size 40 2 vt A.length (flR (rt A k)) ∧ w5.grownBy wr none)) (fun i _ => A.length - (intOf i).toNat)
  case atStart => exact ⟨0, Nat.zero_le _, rfl, H6⟩
  case round =>
    obtain ⟨k, hk, rfl, hr⟩ := hrel
    clear H6
    by_cases hlt : k < A.length
    · obtain ⟨g, cp, rfl, hg1, hg2⟩ := World.ownsRow.form hr.out.1 (by omega)
      obtain ⟨n, hn⟩ : ∃ n, n = A.length := ⟨_, rfl⟩
      obtain ⟨j, hj⟩ : ∃ j, j = A.length - 1 - k := ⟨_, rfl⟩
      have hcA : Cells wr a (flR A) := (H5.out.1 (a, A) (by simp)).gb hr.out.2
      obtain ⟨ba, oa, hab, hba, c0, c1⟩ := cells_rg hcA j (by omega)
      clear hcA
      have HST : Hid _ := rt_step A k hlt
      obtain ⟨⟨q0, hq0⟩, ⟨q1, hq1⟩, hfz⟩ := own_cell2 hr.out.1 k hlt
      have hf0 := hfz (k * 2)
      have hf1 := hfz (k * 2 + 1)
      rw [← hj] at HST
      generalize A.getD j (.empty, .empty) = r at *
      obtain ⟨f, u⟩ := r
      simp only at c0 c1
      have HNW : Hid _ := own_set2 hr.out.1 k hlt (f, u)
      rw [HST.out] at HNW
      have i1 : (0 : Int) ≤ (k : Int) := by omega
      have i2 : (k : Int) < (n : Int) := by omega
      have i3 : ((n : Int) - 1 - (k : Int)).toNat = j := by omega
      have i4 : (0 : Int) ≤ (n : Int) - 1 - (k : Int) := by omega
      have i5 : (n : Int) - 1 - (k : Int) < (n : Int) := by omega
      have i6 : n ≤ 1048576 := by omega
      have HAB : Hid _ := hab
      rw [← hn] at *
      rw [hab]
      clear hab hj hfz
      have HNN : Hid _ := hn
      clear hn
      go_wp2
      go_roundw
      case rel => exact ⟨k + 1, by omega, by simp, HNW.out, gb_newer (gb_newer hr.out.2 (gb_set _ _ _ _) hg1) (gb_set _ _ _ _) hg1⟩
      case measure => simp [intOf]; omega
    · obtain rfl : k = A.length := by omega
      rw [rt_all] at hr
      have HL7 : Hid (Live wr [(x4, D), (x3, M), (x2, R2), (x1, R1), (a, A), (b, B)]) := H5.out.1.gb hr.out.2
      go_wp2_with (first
        | ((fail_if_success (have zz := H8)); at_builtin; go_must (refine wpList_cat rfl _ _ 23 rfl w5.heap.size 40 _ 2 32 Try.underlying23 infoRange rfl (by decide) vt A.length (flR A.reverse) rfl hr.out.1 a A.length ca (flR A) rfl HZA.out (flR_len A) (HL7.out (a, A) (by simp)) (flR_one A) (by unfold maxLen; omega) (by omega) hr.out.2.size ?_); intro v8 w8 ho8 hb8 _; rw [← flR_app] at ho8; obtain ⟨x8, c8, rfl, hc8, -⟩ := own_cells ho8; have H8 : Hid (Live w8 ((x8, A.reverse ++ A) :: [(x4, D), (x3, M), (x2, R2), (x1, R1), (a, A), (b, B)]) ∧ w.grownBy w8 none) := ⟨(H5.out.1.gb (below_gb ((gb_below hr.out.2).trans hb8))).cons hc8, gb_trans H5.out.2 (below_gb ((gb_below hr.out.2).trans hb8))⟩; clear ho8 hb8 hc8)
        | (have zz := H8; clear zz; (fail_if_success (have zz := H9)); at_builtin; go_must (refine wpList_cat rfl _ _ 23 rfl w8.heap.size 40 _ 2 32 Try.underlying23 infoRange rfl (by decide) (.slice none 0 0) 0 [] rfl (own_none _ _ _ _) x3 M.length c3 (flR M) rfl Z3.out (flR_len M) (H8.out.1 (x3, M) (by simp)) (flR_one M) (by unfold maxLen; omega) (by omega) (Nat.le_refl _) ?_); intro v9 w9 ho9 hb9 _; rw [Nat.zero_add, List.nil_append] at ho9; have H9 : Hid (w9.ownsRow w8.heap.size 40 2 v9 M.length (flR M) ∧ w8.grownBy w9 none) := ⟨ho9, below_gb hb9⟩; clear ho9 hb9)
        | (have zz := H9; clear zz; (fail_if_success (have zz := H10)); at_builtin; go_must (refine wpList_cat rfl _ _ 23 rfl w8.heap.size 40 _ 2 32 Try.underlying23 infoRange rfl (by decide) v9 M.length (flR M) rfl H9.out.1 x4 D.length c4 (flR D) rfl Z4.out (flR_len D) ((H8.out.1 (x4, D) (by simp)).gb H9.out.2) (flR_one D) (by unfold maxLen; omega) (by omega) H9.out.2.size ?_); intro v10 w10 ho10 hb10 _; rw [← flR_app] at ho10; obtain ⟨x10, c10, rfl, hc10, -⟩ := own_cells ho10; have H10 : Hid (Live w10 [(x10, (M ++ D)), (x8, (A.reverse ++ A)), (x4, D), (x3, M), (x2, R2), (x1, R1), (a, A), (b, B)] ∧ w.grownBy w10 none) := ⟨(H8.out.1.gb (below_gb ((gb_below H9.out.2).trans hb10))).cons hc10, gb_trans H8.out.2 (below_gb ((gb_below H9.out.2).trans hb10))⟩; clear ho10 hb10 hc10)
        | ((fail_if_success (have zz := F0)); go_at_call 12; go_must (refine (normal_c R1 x1 c1 w10 (H10.out.1 (x1, R1) (by simp)) (by omega)).mono ?_); rintro e w11 ⟨v, R, rfl, h1, h2, h3, h4, h5⟩; obtain ⟨y11, d11, rfl, hc, -⟩ := own_cells h1; obtain rfl : R1 = R := (h2.uniq PR1.out.1 (fun t => by rw [h3])).symm; have H11 : Hid (Live w11 ((y11, R1) :: [(x10, (M ++ D)), (x8, (A.reverse ++ A)), (x4, D), (x3, M), (x2, R2), (x1, R1), (a, A), (b, B)]) ∧ w.grownBy w11 none) := ⟨(H10.out.1.gb h5).cons hc, gb_trans H10.out.2 h5⟩; clear h1 h2 h3 h4 h5 hc; have F0 : Hid True := trivial)
        | (have zz := F0; clear zz; (fail_if_success (have zz := F1)); go_at_call 17; go_must (refine (equal_t R1 y11 x1 d11 c1 w11 (H11.out.1 (y11, R1) (by simp)) (H11.out.1 (x1, R1) (by simp)) (by omega)).mono ?_); rintro e w12 ⟨rfl, h1⟩; have H12 : Hid (Live w12 [(x10, (M ++ D)), (x8, (A.reverse ++ A)), (x4, D), (x3, M), (x2, R2), (x1, R1), (a, A), (b, B)] ∧ w.grownBy w12 none) := ⟨(H11.out.1.gb h1).sub (by intro p hp; exact List.mem_cons_of_mem _ hp), gb_trans H11.out.2 h1⟩; clear h1; have F1 : Hid True := trivial)
        | (have zz := F1; clear zz; (fail_if_success (have zz := F2)); go_at_call 12; go_must (refine (normal_n (A.reverse ++ A) x8 (A.length + A.length) c8 (by simp) w12 (H12.out.1 (x8, (A.reverse ++ A)) (by simp)) (by rw [List.length_append, List.length_reverse]; omega)).mono ?_); rintro e w13 ⟨v, R, rfl, h1, h2, h3, h4, h5⟩; obtain ⟨y13, d13, rfl, hc, -⟩ := own_cells h1; obtain rfl : R1 = R := (h2.uniq PR1.out.1 (fun t => by rw [h3]; rw [rev_has, PR1.out.2])).symm; have H13 : Hid (Live w13 ((y13, R1) :: [(x10, (M ++ D)), (x8, (A.reverse ++ A)), (x4, D), (x3, M), (x2, R2), (x1, R1), (a, A), (b, B)]) ∧ w.grownBy w13 none) := ⟨(H12.out.1.gb h5).cons hc, gb_trans H12.out.2 h5⟩; clear h1 h2 h3 h4 h5 hc; have F2 : Hid True := trivial)
        | (have zz := F2; clear zz; (fail_if_success (have zz := F3)); go_at_call 17; go_must (refine (equal_t R1 y13 x1 d13 c1 w13 (H13.out.1 (y13, R1) (by simp)) (H13.out.1 (x1, R1) (by simp)) (by omega)).mono ?_); rintro e w14 ⟨rfl, h1⟩; have H14 : Hid (Live w14 [(x10, (M ++ D)), (x8, (A.reverse ++ A)), (x4, D), (x3, M), (x2, R2), (x1, R1), (a, A), (b, B)] ∧ w.grownBy w14 none) := ⟨(H13.out.1.gb h1).sub (by intro p hp; exact List.mem_cons_of_mem _ hp), gb_trans H13.out.2 h1⟩; clear h1; have F3 : Hid True := trivial)
        | (have zz := F3; clear zz; (fail_if_success (have zz := F4)); go_at_call 12; go_must (refine (normal_n (M ++ D) x10 (M.length + D.length) c10 (by simp) w14 (H14.out.1 (x10, (M ++ D)) (by simp)) (by rw [List.length_append]; omega)).mono ?_); rintro e w15 ⟨v, R, rfl, h1, h2, h3, h4, h5⟩; obtain ⟨y15, d15, rfl, hc, -⟩ := own_cells h1; obtain rfl : R1 = R := (h2.uniq PR1.out.1 (fun t => by rw [h3]; rw [lHas_app, PM.out.2, PD.out.2, PR1.out.2]; cases lHas A t <;> cases lHas B t <;> rfl)).symm; have H15 : Hid (Live w15 ((y15, R1) :: [(x10, (M ++ D)), (x8, (A.reverse ++ A)), (x4, D), (x3, M), (x2, R2), (x1, R1), (a, A), (b, B)]) ∧ w.grownBy w15 none) := ⟨(H14.out.1.gb h5).cons hc, gb_trans H14.out.2 h5⟩; clear h1 h2 h3 h4 h5 hc; have F4 : Hid True := trivial)
        | (have zz := F4; clear zz; (fail_if_success (have zz := F5)); go_at_call 17; go_must (refine (equal_t R1 y15 x1 d15 c1 w15 (H15.out.1 (y15, R1) (by simp)) (H15.out.1 (x1, R1) (by simp)) (by omega)).mono ?_); rintro e w16 ⟨rfl, h1⟩; have H16 : Hid (Live w16 [(x10, (M ++ D)), (x8, (A.reverse ++ A)), (x4, D), (x3, M), (x2, R2), (x1, R1), (a, A), (b, B)] ∧ w.grownBy w16 none) := ⟨(H15.out.1.gb h1).sub (by intro p hp; exact List.mem_cons_of_mem _ hp), gb_trans H15.out.2 h1⟩; clear h1; have F5 : Hid True := trivial)
        | (have zz := F5; clear zz; (fail_if_success (have zz := F6)); go_at_call 13; go_must (refine (meet_c B A b a cb ca w16 (H16.out.1 (b, B) (by simp)) (H16.out.1 (a, A) (by simp)) (by omega)).mono ?_); rintro e w17 ⟨v, R, rfl, h1, h2, h3, h4, h5⟩; obtain ⟨y17, d17, rfl, hc, -⟩ := own_cells h1; obtain rfl : M = R := (h2.uniq PM.out.1 (fun t => by rw [h3]; rw [PM.out.2]; cases lHas A t <;> cases lHas B t <;> rfl)).symm; have H17 : Hid (Live w17 ((y17, M) :: [(x10, (M ++ D)), (x8, (A.reverse ++ A)), (x4, D), (x3, M), (x2, R2), (x1, R1), (a, A), (b, B)]) ∧ w.grownBy w17 none) := ⟨(H16.out.1.gb h5).cons hc, gb_trans H16.out.2 h5⟩; clear h1 h2 h3 h4 h5 hc; have F6 : Hid True := trivial)
        | (have zz := F6; clear zz; (fail_if_success (have zz := F7)); go_at_call 17; go_must (refine (equal_t M y17 x3 d17 c3 w17 (H17.out.1 (y17, M) (by simp)) (H17.out.1 (x3, M) (by simp)) (by omega)).mono ?_); rintro e w18 ⟨rfl, h1⟩; have H18 : Hid (Live w18 [(x10, (M ++ D)), (x8, (A.reverse ++ A)), (x4, D), (x3, M), (x2, R2), (x1, R1), (a, A), (b, B)] ∧ w.grownBy w18 none) := ⟨(H17.out.1.gb h1).sub (by intro p hp; exact List.mem_cons_of_mem _ hp), gb_trans H17.out.2 h1⟩; clear h1; have F7 : Hid True := trivial)
        | (have zz := F7; clear zz; (fail_if_success (have zz := F8)); go_at_call 13; go_must (refine (meet_c R1 R2 x1 x2 c1 c2 w18 (H18.out.1 (x1, R1) (by simp)) (H18.out.1 (x2, R2) (by simp)) (by omega)).mono ?_); rintro e w19 ⟨v, R, rfl, h1, h2, h3, h4, h5⟩; obtain ⟨y19, d19, rfl, hc, -⟩ := own_cells h1; obtain rfl : M = R := (h2.uniq PM.out.1 (fun t => by rw [h3]; rw [PM.out.2, PR1.out.2, PR2.out.2])).symm; have H19 : Hid (Live w19 ((y19, M) :: [(x10, (M ++ D)), (x8, (A.reverse ++ A)), (x4, D), (x3, M), (x2, R2), (x1, R1), (a, A), (b, B)]) ∧ w.grownBy w19 none) := ⟨(H18.out.1.gb h5).cons hc, gb_trans H18.out.2 h5⟩; clear h1 h2 h3 h4 h5 hc; have F8 : Hid True := trivial)
        | (have zz := F8; clear zz; (fail_if_success (have zz := F9)); go_at_call 17; go_must (refine (equal_t M y19 x3 d19 c3 w19 (H19.out.1 (y19, M) (by simp)) (H19.out.1 (x3, M) (by simp)) (by omega)).mono ?_); rintro e w20 ⟨rfl, h1⟩; have H20 : Hid (Live w20 [(x10, (M ++ D)), (x8, (A.reverse ++ A)), (x4, D), (x3, M), (x2, R2), (x1, R1), (a, A), (b, B)] ∧ w.grownBy w20 none) := ⟨(H19.out.1.gb h1).sub (by intro p hp; exact List.mem_cons_of_mem _ hp), gb_trans H19.out.2 h1⟩; clear h1; have F9 : Hid True := trivial)
        | (have zz := F9; clear zz; (fail_if_success (have zz := F10)); go_at_call 14; go_must (refine (minus_c R1 R2 x1 x2 c1 c2 w20 (H20.out.1 (x1, R1) (by simp)) (H20.out.1 (x2, R2) (by simp)) (by omega)).mono ?_); rintro e w21 ⟨v, R, rfl, h1, h2, h3, h4, h5⟩; obtain ⟨y21, d21, rfl, hc, -⟩ := own_cells h1; obtain rfl : D = R := (h2.uniq PD.out.1 (fun t => by rw [h3]; rw [PD.out.2, PR1.out.2, PR2.out.2])).symm; have H21 : Hid (Live w21 ((y21, D) :: [(x10, (M ++ D)), (x8, (A.reverse ++ A)), (x4, D), (x3, M), (x2, R2), (x1, R1), (a, A), (b, B)]) ∧ w.grownBy w21 none) := ⟨(H20.out.1.gb h5).cons hc, gb_trans H20.out.2 h5⟩; clear h1 h2 h3 h4 h5 hc; have F10 : Hid True := trivial)
        | (have zz := F10; clear zz; (fail_if_success (have zz := F11)); go_at_call 17; go_must (refine (equal_t D y21 x4 d21 c4 w21 (H21.out.1 (y21, D) (by simp)) (H21.out.1 (x4, D) (by simp)) (by omega)).mono ?_); rintro e w22 ⟨rfl, h1⟩; have H22 : Hid (Live w22 [(x10, (M ++ D)), (x8, (A.reverse ++ A)), (x4, D), (x3, M), (x2, R2), (x1, R1), (a, A), (b, B)] ∧ w.grownBy w22 none) := ⟨(H21.out.1.gb h1).sub (by intro p hp; exact List.mem_cons_of_mem _ hp), gb_trans H21.out.2 h1⟩; clear h1; have F11 : Hid True := trivial)
        | (have zz := F11; clear zz; (fail_if_success (have zz := F12)); go_at_call 14; go_must (refine (minus_c A D a x4 ca c4 w22 (H22.out.1 (a, A) (by simp)) (H22.out.1 (x4, D) (by simp)) (by omega)).mono ?_); rintro e w23 ⟨v, R, rfl, h1, h2, h3, h4, h5⟩; obtain ⟨y23, d23, rfl, hc, -⟩ := own_cells h1; obtain rfl : M = R := (h2.uniq PM.out.1 (fun t => by rw [h3]; rw [PM.out.2, PD.out.2]; cases lHas A t <;> cases lHas B t <;> rfl)).symm; have H23 : Hid (Live w23 ((y23, M) :: [(x10, (M ++ D)), (x8, (A.reverse ++ A)), (x4, D), (x3, M), (x2, R2), (x1, R1), (a, A), (b, B)]) ∧ w.grownBy w23 none) := ⟨(H22.out.1.gb h5).cons hc, gb_trans H22.out.2 h5⟩; clear h1 h2 h3 h4 h5 hc; have F12 : Hid True := trivial)
        | (have zz := F12; clear zz; (fail_if_success (have zz := F13)); go_at_call 17; go_must (refine (equal_t M y23 x3 d23 c3 w23 (H23.out.1 (y23, M) (by simp)) (H23.out.1 (x3, M) (by simp)) (by omega)).mono ?_); rintro e w24 ⟨rfl, h1⟩; have H24 : Hid (Live w24 [(x10, (M ++ D)), (x8, (A.reverse ++ A)), (x4, D), (x3, M), (x2, R2), (x1, R1), (a, A), (b, B)] ∧ w.grownBy w24 none) := ⟨(H23.out.1.gb h1).sub (by intro p hp; exact List.mem_cons_of_mem _ hp), gb_trans H23.out.2 h1⟩; clear h1; have F13 : Hid True := trivial)
        | (have zz := F13; clear zz; (fail_if_success (have zz := F14)); go_at_call 13; go_must (refine (meet_c M D x3 x4 c3 c4 w24 (H24.out.1 (x3, M) (by simp)) (H24.out.1 (x4, D) (by simp)) (by omega)).mono ?_); rintro e w25 ⟨v, R, rfl, h1, h2, h3, h4, h5⟩; obtain ⟨y25, d25, rfl, hc, -⟩ := own_cells h1; obtain rfl : [] = R := ((nrm_nil h2).2 (fun t => by rw [h3]; rw [PM.out.2, PD.out.2]; cases lHas A t <;> cases lHas B t <;> rfl)).symm; have H25 : Hid (Live w25 [(x10, (M ++ D)), (x8, (A.reverse ++ A)), (x4, D), (x3, M), (x2, R2), (x1, R1), (a, A), (b, B)] ∧ w.grownBy w25 none) := ⟨H24.out.1.gb h5, gb_trans H24.out.2 h5⟩; clear h1 h2 h3 h4 h5 hc; have F14 : Hid True := trivial)
        | (have zz := F14; clear zz; (fail_if_success (have zz := F15)); go_at_call 13; go_must (refine (meet_c B D b x4 cb c4 w25 (H25.out.1 (b, B) (by simp)) (H25.out.1 (x4, D) (by simp)) (by omega)).mono ?_); rintro e w26 ⟨v, R, rfl, h1, h2, h3, h4, h5⟩; obtain ⟨y26, d26, rfl, hc, -⟩ := own_cells h1; obtain rfl : [] = R := ((nrm_nil h2).2 (fun t => by rw [h3]; rw [PD.out.2]; cases lHas A t <;> cases lHas B t <;> rfl)).symm; have H26 : Hid (Live w26 [(x10, (M ++ D)), (x8, (A.reverse ++ A)), (x4, D), (x3, M), (x2, R2), (x1, R1), (a, A), (b, B)] ∧ w.grownBy w26 none) := ⟨H25.out.1.gb h5, gb_trans H25.out.2 h5⟩; clear h1 h2 h3 h4 h5 hc; have F15 : Hid True := trivial)
        | (have zz := F15; clear zz; (fail_if_success (have zz := F16)); go_at_call 18; go_must (refine (covers_c A B a b ca cb w26 (H26.out.1 (a, A) (by simp)) (H26.out.1 (b, B) (by simp)) (by omega)).mono ?_); rintro e w27 ⟨zc, rfl, hz, h5⟩; have HZC : Hid (zc = true ↔ lCov A B) := hz; have H27 : Hid (Live w27 [(x10, (M ++ D)), (x8, (A.reverse ++ A)), (x4, D), (x3, M), (x2, R2), (x1, R1), (a, A), (b, B)] ∧ w.grownBy w27 none) := ⟨H26.out.1.gb h5, gb_trans H26.out.2 h5⟩; clear hz h5; have F16 : Hid True := trivial)
        | (have zz := F16; clear zz; (fail_if_success (have zz := F17)); go_at_call 14; go_must (refine (minus_c B A b a cb ca w27 (H27.out.1 (b, B) (by simp)) (H27.out.1 (a, A) (by simp)) (by omega)).mono ?_); rintro e w28 ⟨v, R, rfl, h1, h2, h3, h4, h5⟩; obtain ⟨y28, d28, rfl, hc, -⟩ := own_cells h1; obtain ⟨nR, hnR⟩ : ∃ nR, nR = R.length := ⟨_, rfl⟩; (have hzc : ((nR : Int) == 0) = zc := (by rw [hnR]; exact cov_len HZC.out h2 h3)); rw [← hnR]; clear hnR h4; have H28 : Hid (Live w28 [(x10, (M ++ D)), (x8, (A.reverse ++ A)), (x4, D), (x3, M), (x2, R2), (x1, R1), (a, A), (b, B)] ∧ w.grownBy w28 none) := ⟨H27.out.1.gb h5, gb_trans H27.out.2 h5⟩; clear h1 h2 h3 h5 hc; have F17 : Hid True := trivial)
        | (have zz := F17; clear zz; (fail_if_success (have zz := F18)); go_at_call 18; go_must (refine (covers_c A D a x4 ca c4 w28 (H28.out.1 (a, A) (by simp)) (H28.out.1 (x4, D) (by simp)) (by omega)).mono ?_); rintro e w29 ⟨zd, rfl, hz, h5⟩; obtain rfl : true = zd := Eq.symm (hz.2 (fun t => by rw [PD.out.2]; cases lHas A t <;> cases lHas B t <;> rfl)); have H29 : Hid (w.grownBy w29 none) := gb_trans H28.out.2 h5; clear hz h5; have F18 : Hid True := trivial))
      go_ret
      exact ⟨rfl, gb_below H29.out⟩

theorem bulk_len {H : Type} (l : List (DataW H)) : l.length ≤ Rows.uptoBulkAll l := by
  induction l with
  | nil => simp
  | cons d r ih =>
    have : 1 ≤ Rows.uptoBulk d := by
      cases d with
      | lit x => cases x <;> simp [Rows.uptoBulk]
      | _ => simp [Rows.uptoBulk]
    simp only [Rows.uptoBulkAll, List.length_cons]; omega
theorem bulk_mem {H : Type} {d : DataW H} {l : List (DataW H)} (h : d ∈ l) : Rows.uptoBulk d ≤ Rows.uptoBulkAll l := by
  induction l with
  | nil => cases h
  | cons x r ih =>
    simp only [Rows.uptoBulkAll]
    rcases List.mem_cons.1 h with rfl | h
    · omega
    · have := ih h; omega
theorem bulk_slice {H : Type} {ds : List (DataW H)} {d : DataW H} {l r : List (DataW H)} (hk : Rows.uptoSmall H ds = true) (hd : d ∈ ds) (e : d = .slice l r) : l.length + r.length ≤ 1048576 := by
  have h0 : Rows.uptoBulkAll ds ≤ 1048576 := of_decide_eq_true hk
  have h1 := bulk_mem hd
  have h3 := bulk_len l
  have h4 := bulk_len r
  rw [e] at h1
  simp only [Rows.uptoBulk] at h1
  omega

set_option maxRecDepth 100000 in
theorem lifted (os : Os) (started : os.Started) (H : Type) (enc : TypeId × Value → H) (F : Stop.Interp) :
    ReturnsInHanded {} Try.checked os 5 .any ((Rows.OpenSpec.upto Rows.spanLawsSpec).pre6 enc Try.prog Try.f5 Rows.spanLawsUptoRow.domain false) (((Rows.OpenSpec.upto Rows.spanLawsSpec).at F).post enc Try.prog Try.f5 false true false false) := by
  refine returnsInHanded_of_cond (C := Try.checked) (s := Rows.OpenSpec.upto Rows.spanLawsSpec) (k := Rows.uptoSmall) rfl own started (by kernel_rfl) Try.func5
    (OpenSpec.witness (enc := enc) (C := Try.checked) (s := Rows.OpenSpec.upto Rows.spanLawsSpec) (k := Rows.uptoSmall) rfl false ⟨#[], #[.slice none 0 0, .slice none 0 0], []⟩ 8 (by kernel_rfl) (by kernel_rfl) (by kernel_rfl)
      (x := ([.nil, .nil], [], [])) (by kernel_rfl) rfl (by kernel_rfl)) ?_
  intro W base args ds gs before hval0 hW hcnd hk _
  have hval : ∀ (j : Nat) t v, Try.f5.params[j]? = some t → args[j]? = some v → Value.okWide Try.prog W .any base t v := hval0
  have hW' := hW
  obtain ⟨p, q, hA0, hV, rfl, hfz, hnd⟩ := hW
  have hA : DataW.TrodAll enc Try.prog W 0 (fun _ => true) true Try.f5.params.toList args.toList ds p := hA0
  rw [Try.params5] at hA hval
  obtain ⟨v0, vs0, d0, ds0, p0, q0, hargs, rfl, rfl, h0, r0⟩ := trodAll_cons hA
  obtain ⟨v1, vs1, d1, ds1, p1, q1, rfl, rfl, rfl, h1, r1⟩ := trodAll_cons r0
  obtain ⟨rfl, rfl, rfl⟩ := trodAll_nil r1
  obtain rfl : args = #[v0, v1] := by cases args; simp_all
  obtain ⟨rfl, rfl⟩ := trodVars_none hV
  have k0 := h0
  have lt0 : ∀ x ∈ p0, x.block < W.heap.size := by obtain ⟨m, hm⟩ := k0; exact DataW.trod_lt m _ _ _ hm
  obtain ⟨a0, n0, cap0, X0, rfl, x0, ln0, lc0, cm0, nz0, y0⟩ : ∃ a n cap A, v0 = .slice a n cap ∧ Cells W a (flR A) ∧ A.length = n ∧ n ≤ cap ∧ cap ≤ maxLen ∧ (a = none → cap = 0) ∧ n ≤ 1048576 := by
    obtain ⟨sa, sl, sc, hv⟩ := okWide_slice Try.underlying23 (hval 0 23 v0 rfl rfl)
    obtain ⟨a, n, cap, X, h1, h2, h3, h4, h5, h6, h7⟩ := rgs_open sa sl sc hv h0
    have hAll : Rows.uptoBulkAll _ ≤ 1048576 := of_decide_eq_true hk
    exact ⟨a, n, cap, X, h1, h2, h3, h4, h5, h6, Nat.le_trans h7 (Nat.le_trans (bulk_mem (show d0 ∈ _ by simp)) hAll)⟩
  subst ln0
  have k1 := h1
  have lt1 : ∀ x ∈ p1, x.block < W.heap.size := by obtain ⟨m, hm⟩ := k1; exact DataW.trod_lt m _ _ _ hm
  obtain ⟨a1, n1, cap1, X1, rfl, x1, ln1, lc1, cm1, nz1, y1⟩ : ∃ a n cap A, v1 = .slice a n cap ∧ Cells W a (flR A) ∧ A.length = n ∧ n ≤ cap ∧ cap ≤ maxLen ∧ (a = none → cap = 0) ∧ n ≤ 1048576 := by
    obtain ⟨sa, sl, sc, hv⟩ := okWide_slice Try.underlying23 (hval 1 23 v1 rfl rfl)
    obtain ⟨a, n, cap, X, h1, h2, h3, h4, h5, h6, h7⟩ := rgs_open sa sl sc hv h1
    have hAll : Rows.uptoBulkAll _ ≤ 1048576 := of_decide_eq_true hk
    exact ⟨a, n, cap, X, h1, h2, h3, h4, h5, h6, Nat.le_trans h7 (Nat.le_trans (bulk_mem (show d1 ∈ _ by simp)) hAll)⟩
  subst ln1
  clear hA0 hval0
  refine (walk a0 cap0 X0 a1 cap1 X1 W x0 lc0 cm0 nz0 y0 x1 lc1 cm1 nz1 y1).mono fun e W' ⟨he, bel⟩ => ?_
  subst he
  exact ⟨_, rfl, _, _, _, [], _, [], hW', trodAll_mk1 (shut_bool Try.underlying4 _), (trodAll_cons_mk (Below.trod laidOut (by kernel_rfl) (of_decide_eq_true (by kernel_rfl)) k0 bel lt0) (trodAll_cons_mk (Below.trod laidOut (by kernel_rfl) (of_decide_eq_true (by kernel_rfl)) k1 bel lt1) trodAll_mk0)), rfl, bel.frame _, fun h => by cases h⟩

theorem over : Rows.spanLawsUptoRow.holds Try.pinned (Rows.OpenSpec.upto Rows.spanLawsSpec) :=
  OpenClaim.holds_of_cond 5 Try.f5 rfl rfl rfl rfl rfl rfl rfl ⟨rfl, rfl, rfl, rfl, rfl⟩ rfl rfl rfl rfl rfl (by kernel_rfl) Try.func5 (by kernel_rfl)
    (of_decide_eq_true (by kernel_rfl)) (by unfold Func.isWrapper; first | (rw [if_pos (by decide +kernel)]; kernel_rfl) | (rw [if_neg (by decide +kernel)]; exact ⟨rfl, rfl⟩))
    (fun os started H enc _ F => lifted os started H enc F)

end Go.Proofs.Ytggkkpbgnlmfeab.spanLaws
namespace Go.Proofs.Ytggkkpbgnlmfeab
theorem spanLaws_holds : Rows.SpanLawsUptoSaid := spanLaws.over
#print axioms spanLaws_holds
end Go.Proofs.Ytggkkpbgnlmfeab
