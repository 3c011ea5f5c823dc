/-
  Lists of numbers: when the law's sameInts says yes. Condition: they are no longer than a list can be.
-/
import Derived.Test.YtdjcokepeifojaaNRg
import Derived.OwnWalk
namespace Go.Proofs.Ytdjcokepeifojaa
set_option linter.unusedVariables false
open Go.RowKit

theorem takeI {X Y : List Int} {k : Nat} (h1 : k < X.length) (h2 : k < Y.length) (h : X.take k = Y.take k) : (X = Y → X.getD k 0 = Y.getD k 0) ∧ (X.getD k 0 = Y.getD k 0 → X.take (k + 1) = Y.take (k + 1)) := by
  refine ⟨fun e => by rw [e], fun e => ?_⟩
  have e1 : X.getD k 0 = X[k] := by simp [h1]
  have e2 : Y.getD k 0 = Y[k] := by simp [h2]
  rw [List.take_succ_eq_append_getElem h1, List.take_succ_eq_append_getElem h2, h, ← e1, ← e2, e]
theorem eq_castI (n m : Nat) : decide ((n : Int) = (m : Int)) = decide (n = m) := by
  by_cases h : n = m
  · subst h; simp
  · have : ¬ (n : Int) = m := by omega
    simp [h, this]
set_option maxRecDepth 20000 in
set_option maxHeartbeats 1000000 in
theorem sameInts_c (A B : List Int) (a b : Option Addr) (ca cb : Nat) (w : World) (hA : Cells w a (i64s A)) (hB : Cells w b (i64s B)) (hn : A.length ≤ 9223372036854775807) (hn2 : B.length ≤ 9223372036854775807) :
    Calls Try.prog 10 #[.slice a A.length ca, .slice b B.length cb] w fun e w' => e = .returned (.bool (decide (A = B))) ∧ w.grownBy w' none := by
  have HA : Hid (Cells w a (i64s A)) := hA
  have HB : Hid (Cells w b (i64s B)) := hB
  obtain ⟨n, hna⟩ : ∃ n, n = A.length := ⟨_, rfl⟩
  obtain ⟨m, hmb⟩ : ∃ m, m = B.length := ⟨_, rfl⟩
  rw [← hna] at hn ⊢
  rw [← hmb] at hn2 ⊢
  have HN : Hid (n = A.length) := hna
  have HM : Hid (m = B.length) := hmb
  obtain ⟨T, hT⟩ : ∃ T, T = decide (A = B) := ⟨_, rfl⟩
  rw [← hT]
  have HT : Hid (T = decide (A = B)) := hT
  clear hA hna hB hmb hT
  go_enter Try.func10, Try.ntmps10
  go_wp2
  go_loopw [5] (fun i wr => ∃ k : Nat, k ≤ n ∧ k ≤ m ∧ i = .int .i64 k ∧ Hid (A.take k = B.take k) ∧ Hid (w.grownBy wr none)) (fun i _ => n - (intOf i).toNat)
  case atStart => exact ⟨0, Nat.zero_le _, Nat.zero_le _, rfl, rfl, gb_refl _⟩
  case round =>
    obtain ⟨k, hk, hk2, rfl, ht, hr⟩ := hrel
    by_cases hlt : k < n ∧ k < m
    · obtain ⟨ba, oa, hab, hba, c0⟩ := cells_int (HA.out.gb hr.out) k (by have := HN.out; omega)
      obtain ⟨bb, ob, hbb, hbb2, e0⟩ := cells_int (HB.out.gb hr.out) k (by have := HM.out; omega)
      have HTE : Hid _ := takeI (by have := HN.out; omega) (by have := HM.out; omega) ht.out
      generalize A.getD k 0 = x at *
      generalize B.getD k 0 = y at *
      have i1 : (0 : Int) ≤ (k : Int) := by omega
      have i2 : (k : Int) < (n : Int) := by omega
      have i3 : (k : Int) < (m : Int) := by omega
      have HAB : Hid _ := hab
      have HBB : Hid _ := hbb
      rw [hab, hbb]
      clear hab hbb
      have hlt1 := hlt.1
      have hlt2 := hlt.2
      clear hlt
      by_cases hf : x = y
      · have HTN : Hid (A.take (k + 1) = B.take (k + 1)) := HTE.out.2 hf
        subst hf
        clear HTE
        go_wp2
        go_quiet (fail)
        generalize hW5 : World.drewN wr _ = W5
        have H5 : Hid (w.grownBy W5 none) := by rw [← hW5]; exact gb_drewN hr.out _
        clear hW5
        go_wp2
        try rw [← HAB.out, ← HBB.out]
        go_roundw
        case rel => exact ⟨k + 1, by omega, by omega, by simp, HTN, H5⟩
        case measure => simp [intOf]; omega
      · have HTF : Hid (T = false) := by
          show _ = _
          rw [HT.out]
          exact decide_eq_false fun e => hf (HTE.out.1 e)
        clear HTE
        go_wp2
        go_quiet (fail)
        go_wp2
        go_ret
        exact ⟨by rw [HTF.out]; rfl, gb_drewN hr.out _⟩
    · have HTF : Hid (T = decide (n = m)) := by
        show _ = _
        rw [HT.out]
        have h1 := HN.out
        have h2 := HM.out
        by_cases e : n = m
        · have : k = n := by omega
          have h3 := ht.out
          rw [List.take_of_length_le (by omega), List.take_of_length_le (by omega)] at h3
          simp [h3, e]
        · rw [decide_eq_false e]
          exact decide_eq_false fun h => e (by rw [h1, h2, h])
      rcases (show ¬ k < n ∨ (k < n ∧ ¬ k < m) by omega) with h1 | ⟨h1, h2⟩
      · go_wp2
        go_ret
        exact ⟨by rw [HTF.out, ← eq_castI]; rfl, hr.out⟩
      · go_wp2
        go_ret
        exact ⟨by rw [HTF.out, ← eq_castI]; rfl, hr.out⟩
end Go.Proofs.Ytdjcokepeifojaa
