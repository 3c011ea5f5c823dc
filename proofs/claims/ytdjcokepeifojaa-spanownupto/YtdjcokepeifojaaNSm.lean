/-
  What the laws plain, same and equal answer of whatever ranges. Condition: there are at most 2^40.
-/
import Derived.Test.YtdjcokepeifojaaNLq
import Derived.BigQuiet
namespace Go.Proofs.Ytdjcokepeifojaa
set_option linter.unusedVariables false
open Go.RowKit

set_option maxRecDepth 20000 in
set_option maxHeartbeats 1000000 in
theorem plain_c (A : List Rg) (a : Option Addr) (ca : Nat) (w : World) (hA : Cells w a (flR A)) (hn : A.length ≤ 1099511627776) :
    Calls Try.prog 26 #[.slice a A.length ca] w fun e w' => ∃ v, e = .returned v ∧ w'.ownsRow w.heap.size 68 2 v A.length (flR A) ∧ w.grownBy w' none := by
  have HA : Hid (Cells w a (flR A)) := hA
  obtain ⟨n, hna⟩ : ∃ n, n = A.length := ⟨_, rfl⟩
  rw [← hna] at hn ⊢
  have HN : Hid (n = A.length) := hna
  clear hA hna
  go_enter Try.func26, Try.ntmps26
  go_wp2
  go_loopw [3, 4] (fun v i wr => ∃ k : Nat, k ≤ n ∧ i = .int .i64 k ∧ Hid (wr.ownsRow w.heap.size 68 2 v k (flR (A.take k)) ∧ w.grownBy wr none)) (fun _ i _ => n - (intOf i).toNat)
  case atStart => exact ⟨0, Nat.zero_le _, rfl, own_none _ _ _ _, gb_refl _⟩
  case round =>
    obtain ⟨k, hk, rfl, hr⟩ := hrel
    by_cases hlt : k < n
    · obtain ⟨ba, oa, hab, hba, c0, c1⟩ := cells_rg HA.out k (by have := HN.out; omega)
      have HTK : Hid (flR (A.take (k + 1)) = flR (A.take k) ++ (rC (A.getD k (.empty, .empty))).toArray.toList) := by
        have h : k < A.length := by have := HN.out; omega
        show _ = _
        rw [List.take_succ_eq_append_getElem h, flR_snoc]; simp [h]
      generalize A.getD k (.empty, .empty) = r at *
      obtain ⟨f, u⟩ := r
      have c0r : wr.cell? ⟨ba, oa + k * 2, none⟩ = some (.string f) := ((gb_below hr.out.2).cell (p := ⟨ba, oa + k * 2, none⟩) hba).trans c0
      have c1r : wr.cell? ⟨ba, oa + k * 2 + 1, none⟩ = some (.string u) := ((gb_below hr.out.2).cell (p := ⟨ba, oa + k * 2 + 1, none⟩) hba).trans c1
      have i1 : (0 : Int) ≤ (k : Int) := by omega
      have i2 : (k : Int) < (n : Int) := by omega
      have HAB : Hid _ := hab
      rw [hab]
      clear c0 c1 hab
      go_wp2
      have hSd : wr.drew.cell? ⟨ba, oa + k * 2, none⟩ = some (.string f) ∧ wr.drew.cell? ⟨ba, oa + k * 2 + 1, none⟩ = some (.string u) := ⟨c0r, c1r⟩
      go_region_held3 (fun w' => w'.cell? ⟨ba, oa + k * 2, none⟩ = some (.string f) ∧ w'.cell? ⟨ba, oa + k * 2 + 1, none⟩ = some (.string u)) (first | assumption | exact held_alloc2 (by assumption)) (first
        | (refine step_lit rfl _ _ 56 rfl w.heap.size 68 _ 2 32 Try.underlying56 infoGrange rfl (by decide) wr (rC (f, u)).toArray rfl _ k (flR (A.take k)) rfl hr.out.1 rfl rfl (range_one _) (by unfold maxLen; omega) (by omega) hr.out.2.size ?_; intro g4 cap4 w4 ho4 hb4 _ _; have H4 : Hid (w4.ownsRow w.heap.size 68 2 (.slice (some ⟨g4, 0, none⟩) (k + 1) cap4) (k + 1) (flR (A.take (k + 1))) ∧ w.grownBy w4 none) := ⟨(by rw [HTK.out]; exact ho4), below_gb ((gb_below hr.out.2).trans hb4)⟩; have hS4 : w4.cell? ⟨ba, oa + k * 2, none⟩ = some (.string f) ∧ w4.cell? ⟨ba, oa + k * 2 + 1, none⟩ = some (.string u) := ⟨(hb4.cell (p := ⟨ba, oa + k * 2, none⟩) hba).trans c0r, (hb4.cell (p := ⟨ba, oa + k * 2 + 1, none⟩) hba).trans c1r⟩; clear ho4 hb4))
      go_wp2
      try rw [← HAB.out]
      go_roundw
      case rel => exact ⟨k + 1, by omega, by simp, H4⟩
      case measure => simp [intOf]; omega
    · obtain rfl : k = n := by omega
      rw [List.take_of_length_le (by have := HN.out; omega)] at hr
      go_wp2
      go_ret
      exact ⟨_, rfl, hr.out.1, hr.out.2⟩
theorem take_eq {A B : List Rg} {k : Nat} (ha : k < A.length) (hb : k < B.length) (h : A.take k = B.take k) : A.take (k + 1) = B.take (k + 1) ↔ A.getD k (.empty, .empty) = B.getD k (.empty, .empty) := by
  have e1 : A.getD k (.empty, .empty) = A[k] := by simp [ha]
  have e2 : B.getD k (.empty, .empty) = B[k] := by simp [hb]
  rw [List.take_succ_eq_append_getElem ha, List.take_succ_eq_append_getElem hb, h, e1, e2, List.append_cancel_left_eq]
  exact ⟨fun h => by injection h, fun h => by rw [h]⟩
theorem eq_cast (n m : Nat) : ((n : Int) == (m : Int)) = decide (n = m) := by
  by_cases h : n = m
  · subst h; simp
  · have : ¬ (n : Int) = m := by omega
    simp [h, this]
set_option maxRecDepth 20000 in
set_option maxHeartbeats 1000000 in
theorem same_c (A B : List Rg) (a b : Option Addr) (ca cb : Nat) (w : World) (hA : Cells w a (flR A)) (hB : Cells w b (flR B)) (hn : A.length ≤ 9223372036854775807) (hn2 : B.length ≤ 9223372036854775807) :
    Calls Try.prog 25 #[.slice a A.length ca, .slice b B.length cb] w fun e w' => e = .returned (.bool (decide (A = B))) ∧ w.grownBy w' none := by
  have HA : Hid (Cells w a (flR A)) := hA
  have HB : Hid (Cells w b (flR B)) := hB
  obtain ⟨n, hna⟩ : ∃ n, n = A.length := ⟨_, rfl⟩
  obtain ⟨m, hmb⟩ : ∃ m, m = B.length := ⟨_, rfl⟩
  rw [← hna] at hn ⊢
  rw [← hmb] at hn2 ⊢
  have HN : Hid (n = A.length) := hna
  have HM : Hid (m = B.length) := hmb
  obtain ⟨T, hT⟩ : ∃ T, T = decide (A = B) := ⟨_, rfl⟩
  rw [← hT]
  have HT : Hid (T = decide (A = B)) := hT
  clear hA hna hB hmb hT
  go_enter Try.func25, Try.ntmps25
  go_wp2
  go_loopw [5] (fun i wr => ∃ k : Nat, k ≤ n ∧ k ≤ m ∧ i = .int .i64 k ∧ Hid (A.take k = B.take k) ∧ Hid (w.grownBy wr none)) (fun i _ => n - (intOf i).toNat)
  case atStart => exact ⟨0, Nat.zero_le _, Nat.zero_le _, rfl, rfl, gb_refl _⟩
  case round =>
    obtain ⟨k, hk, hk2, rfl, ht, hr⟩ := hrel
    by_cases hlt : k < n ∧ k < m
    · obtain ⟨ba, oa, hab, hba, c0, c1⟩ := cells_rg HA.out k (by have := HN.out; omega)
      obtain ⟨bb, ob, hbb, hbb2, e0, e1⟩ := cells_rg HB.out k (by have := HM.out; omega)
      have HTE : Hid _ := take_eq (by have := HN.out; omega) (by have := HM.out; omega) ht.out
      generalize A.getD k (.empty, .empty) = r at *
      generalize B.getD k (.empty, .empty) = s at *
      obtain ⟨f, u⟩ := r
      obtain ⟨f2, u2⟩ := s
      have c0r : wr.cell? ⟨ba, oa + k * 2, none⟩ = some (.string f) := ((gb_below hr.out).cell (p := ⟨ba, oa + k * 2, none⟩) hba).trans c0
      have c1r : wr.cell? ⟨ba, oa + k * 2 + 1, none⟩ = some (.string u) := ((gb_below hr.out).cell (p := ⟨ba, oa + k * 2 + 1, none⟩) hba).trans c1
      have e0r : wr.cell? ⟨bb, ob + k * 2, none⟩ = some (.string f2) := ((gb_below hr.out).cell (p := ⟨bb, ob + k * 2, none⟩) hbb2).trans e0
      have e1r : wr.cell? ⟨bb, ob + k * 2 + 1, none⟩ = some (.string u2) := ((gb_below hr.out).cell (p := ⟨bb, ob + k * 2 + 1, none⟩) hbb2).trans e1
      have i1 : (0 : Int) ≤ (k : Int) := by omega
      have i2 : (k : Int) < (n : Int) := by omega
      have i3 : (k : Int) < (m : Int) := by omega
      have HAB : Hid _ := hab
      have HBB : Hid _ := hbb
      rw [hab, hbb]
      clear c0 c1 hab e0 e1 hbb
      have hlt1 := hlt.1
      have hlt2 := hlt.2
      clear hlt
      by_cases hf : f = f2
      · subst hf
        by_cases hu : u = u2
        · subst hu
          have HTN : Hid (A.take (k + 1) = B.take (k + 1)) := HTE.out.2 rfl
          clear HTE
          go_wp2
          go_quiet (fail)
          generalize hW5 : World.drewN wr _ = W5
          have H5 : Hid (w.grownBy W5 none) := by rw [← hW5]; exact gb_drewN hr.out _
          clear hW5
          go_wp2
          try rw [← HAB.out, ← HBB.out]
          go_roundw
          case rel => exact ⟨k + 1, by omega, by omega, by simp, HTN, H5⟩
          case measure => simp [intOf]; omega
        · have HTF : Hid (T = false) := by
            show _ = _
            rw [HT.out]
            exact decide_eq_false fun e => by
              subst e
              have := HTE.out.1 rfl
              exact hu (congrArg Prod.snd this)
          have q1 : (u.toList == u2.toList) = false := by rw [te_iff]; simp [hu]
          have q2 : ¬ u.toList = u2.toList := fun e => hu (toList_inj e)
          clear HTE
          go_wp2
          go_quiet (fail)
          go_wp2
          go_ret
          exact ⟨by rw [HTF.out]; rfl, gb_drewN hr.out _⟩
      · have HTF : Hid (T = false) := by
          show _ = _
          rw [HT.out]
          exact decide_eq_false fun e => by
            subst e
            have := HTE.out.1 rfl
            exact hf (congrArg Prod.fst this)
        have q1 : (f.toList == f2.toList) = false := by rw [te_iff]; simp [hf]
        have q2 : ¬ f.toList = f2.toList := fun e => hf (toList_inj e)
        clear HTE
        go_wp2
        go_quiet (fail)
        go_wp2
        go_ret
        exact ⟨by rw [HTF.out]; rfl, gb_drewN hr.out _⟩
    · have HTF : Hid (T = decide (n = m)) := by
        show _ = _
        rw [HT.out]
        have h1 := HN.out
        have h2 := HM.out
        by_cases e : n = m
        · have : k = n := by omega
          have h3 := ht.out
          rw [List.take_of_length_le (by omega), List.take_of_length_le (by omega)] at h3
          simp [h3, e]
        · rw [decide_eq_false e]
          exact decide_eq_false fun h => e (by rw [h1, h2, h])
      rcases (show ¬ k < n ∨ (k < n ∧ ¬ k < m) by omega) with h1 | ⟨h1, h2⟩
      · go_wp2
        go_ret
        exact ⟨by rw [HTF.out, ← eq_cast]; rfl, hr.out⟩
      · go_wp2
        go_ret
        exact ⟨by rw [HTF.out, ← eq_cast]; rfl, hr.out⟩
theorem equal_c (A B : List Rg) (a b : Option Addr) (ca cb : Nat) (w : World) (hA : Cells w a (flR A)) (hB : Cells w b (flR B)) (hn : A.length ≤ 1099511627776) (hn2 : B.length ≤ 1099511627776) :
    Calls Try.prog 14 #[.slice a A.length ca, .slice b B.length cb] w fun e w' => e = .returned (.bool (decide (A = B))) ∧ w.grownBy w' none := by
  have HP : Hid _ := plain_c B b cb w hB hn2
  have HA : Hid (Cells w a (flR A)) := hA
  have HSA : Hid (∀ (w : World) (v : Option Addr) (c : Nat), Cells w a (flR A) → Cells w v (flR B) → Calls Try.prog 25 #[.slice a A.length ca, .slice v B.length c] w fun e w' => e = .returned (.bool (decide (A = B))) ∧ w.grownBy w' none) := fun w v c h1 h2 => same_c A B a v ca c w h1 h2 (by omega) (by omega)
  generalize decide (A = B) = T at *
  clear hA hB
  go_enter Try.func14, Try.ntmps14
  go_wp2_with (first
    | (go_at_call 26; go_must (refine (Calls.mono HP.out ?_)); rintro e w1 ⟨v, rfl, ho, hg⟩; obtain ⟨x, cx, rfl, hc, -⟩ := own_cells ho; have H1 : Hid (Cells w1 x (flR B) ∧ w.grownBy w1 none) := ⟨hc, hg⟩; clear ho hc hg)
    | (go_at_call 25; go_must (refine (HSA.out w1 x cx (HA.out.gb H1.out.2) H1.out.1).mono ?_); rintro e w2 ⟨rfl, h2⟩))
  go_ret
  exact ⟨rfl, gb_trans H1.out.2 h2⟩

end Go.Proofs.Ytdjcokepeifojaa
