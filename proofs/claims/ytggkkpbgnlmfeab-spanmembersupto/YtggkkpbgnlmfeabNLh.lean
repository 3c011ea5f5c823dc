/-
  What the laws has answers of whatever ranges and text. No condition but that a machine has them.
-/
import Derived.Test.YtggkkpbgnlmfeabNLq
namespace Go.Proofs.Ytggkkpbgnlmfeab
set_option linter.unusedVariables false
open Go.RowKit

set_option maxRecDepth 20000 in
set_option maxHeartbeats 1000000 in
theorem lhas_c (A : List Rg) (a : Option Addr) (ca : Nat) (t : ByteArray) (w : World) (hA : Cells w a (flR A)) (hn : A.length ≤ 9223372036854775807) :
    Calls Try.prog 16 #[.slice a A.length ca, .string t] w fun e w' => e = .returned (.bool (lHas A t)) ∧ w.grownBy w' none := by
  have HA : Hid (Cells w a (flR A)) := hA
  obtain ⟨n, hna⟩ : ∃ n, n = A.length := ⟨_, rfl⟩
  rw [← hna] at hn ⊢
  have HN : Hid (n = A.length) := hna
  obtain ⟨T, hT⟩ : ∃ T, T = lHas A t := ⟨_, rfl⟩
  rw [← hT]
  have HT : Hid (T = lHas A t) := hT
  clear hA hna hT
  go_enter Try.func16, Try.ntmps16
  go_wp2
  go_loop [5] (fun i => ∃ k : Nat, k ≤ n ∧ i = .int .i64 k ∧ Hid (lHas (A.take k) t = false)) (fun i => n - (intOf i).toNat)
  case atStart => exact ⟨0, Nat.zero_le _, rfl, rfl⟩
  case round =>
    obtain ⟨k, hk, rfl, ht⟩ := hrel
    by_cases hlt : k < n
    · obtain ⟨ba, oa, hab, hba, c0, c1⟩ := cells_rg HA.out k (by have := HN.out; omega)
      have hkA : k < A.length := by have := HN.out; omega
      have HTK : Hid (lHas (A.take (k + 1)) t = rHas (A.getD k (.empty, .empty)) t) := by
        show _ = _
        rw [List.take_succ_eq_append_getElem hkA, lHas_app, ht.out]; simp [lHas, hkA]
      have HTM : Hid (rHas (A.getD k (.empty, .empty)) t = true → T = true) := fun h => by
        rw [HT.out, lHas_iff]
        exact ⟨_, by rw [show A.getD k (.empty, .empty) = A[k] from by simp [hkA]]; exact List.getElem_mem hkA, h⟩
      generalize A.getD k (.empty, .empty) = r at *
      obtain ⟨f, u⟩ := r
      simp only at c0 c1
      have i1 : (0 : Int) ≤ (k : Int) := by omega
      have i2 : (k : Int) < (n : Int) := by omega
      have q1 := run_geq t f
      have q2 := run_lss t u
      have HAB : Hid _ := hab
      rw [hab]
      clear hab hkA
      cases hb : tl t f
      · rw [hb] at q1
        by_cases hu : u.toList = []
        · have HT1 : Hid (T = true) := HTM.out (by unfold rHas; rw [past_no hu]; simp [hb])
          clear HTM
          go_wp2
          go_ret
          exact ⟨by rw [HT1.out]; rfl, gb_refl _⟩
        · have hu' := ne_nil hu
          cases hc : tl t u
          · have HF : Hid (lHas (A.take (k + 1)) t = false) := by show _ = _; rw [HTK.out]; unfold rHas; rw [past_yes hu]; simp [hb, hc]
            rw [hc] at q2
            have q3 : Op.bytesLess t.toList u.toList = false := hc
            clear hc HTM
            go_wp2
            try rw [← HAB.out]
            go_round
            case rel => exact ⟨k + 1, by omega, by simp, HF⟩
            case measure => simp [intOf]; omega
          · have HT1 : Hid (T = true) := HTM.out (by unfold rHas; rw [past_yes hu]; simp [hb, hc])
            have q3 : Op.bytesLess t.toList u.toList = true := hc
            clear hc HTM
            go_wp2
            go_ret
            exact ⟨by rw [HT1.out]; rfl, gb_refl _⟩
      · have HF : Hid (lHas (A.take (k + 1)) t = false) := by show _ = _; rw [HTK.out]; unfold rHas; simp [hb]
        rw [hb] at q1
        clear hb HTM
        go_wp2
        try rw [← HAB.out]
        go_round
        case rel => exact ⟨k + 1, by omega, by simp, HF⟩
        case measure => simp [intOf]; omega
    · have HF : Hid (T = false) := by show _ = _; rw [HT.out, ← ht.out, List.take_of_length_le (by have := HN.out; omega)]
      go_wp2
      go_ret
      exact ⟨by rw [HF.out]; rfl, gb_refl _⟩

end Go.Proofs.Ytggkkpbgnlmfeab
