/-
  What span digit, Check and Bucket answer, and the document digit, In, Check, Bucket: the same plain functions. No condition.
-/
import Derived.Test.YtggkkpbgnlmfeaaNCt
import Derived.Test.YtggkkpbgnlmfeaaNCg
import Derived.Test.YtggkkpbgnlmfeaaNNu
namespace Go.Proofs.Ytggkkpbgnlmfeaa
set_option linter.unusedVariables false
open Go.RowKit

theorem dg_even (s : ByteArray) (j : Nat) : dg s (2 * j) = (bs s).getD j 0 / 16 := by
  unfold dg; rw [if_pos (by omega), show 2 * j / 2 = j from by omega]
theorem dg_odd (s : ByteArray) (j : Nat) : dg s (2 * j + 1) = (bs s).getD j 0 % 16 := by
  unfold dg; rw [if_neg (by omega), show (2 * j + 1) / 2 = j from by omega]
theorem u8_shr4 (c : Int) (h : 0 ≤ c ∧ c < 256) : IntKind.u8.wrap (c >>> 4) = c / 16 := by
  obtain ⟨n, rfl⟩ := Int.eq_ofNat_of_zero_le h.1
  have : ∀ n : Fin 256, IntKind.u8.wrap (((n.val : Nat) : Int) >>> 4) = ((n.val : Nat) : Int) / 16 := by decide +kernel
  exact this ⟨n, by omega⟩
theorem u8_and15 (c : Int) (h : 0 ≤ c ∧ c < 256) : bits .and .u8 c 15 = c % 16 := by
  obtain ⟨n, rfl⟩ := Int.eq_ofNat_of_zero_le h.1
  have : ∀ n : Fin 256, bits .and .u8 ((n.val : Nat) : Int) 15 = ((n.val : Nat) : Int) % 16 := by decide +kernel
  exact this ⟨n, by omega⟩
theorem wrap_in16 (c : Int) (h : 0 ≤ c ∧ c < 256) : wrap64 (c / 16) = c / 16 ∧ wrap64 (c % 16) = c % 16 ∧ wrap64 c = c := ⟨w64 _ ⟨by omega, by omega⟩, w64 _ ⟨by omega, by omega⟩, w64 _ ⟨by omega, by omega⟩⟩
theorem tdiv16 (c : Int) (h : 0 ≤ c ∧ c < 256) : c.tdiv 16 = c / 16 := Int.tdiv_eq_ediv_of_nonneg h.1
theorem tmod16 (c : Int) (h : 0 ≤ c ∧ c < 256) : c.tmod 16 = c % 16 := Int.tmod_eq_emod_of_nonneg h.1
theorem digit_c (s : ByteArray) (i : Nat) (hi : i < 6) (w : World) : Calls Try.prog 29 #[.string s, .int .i64 i] w fun r w' => r = .returned (.int .i64 (dg s i)) ∧ w' = w := by
  obtain ⟨j, hj, hj3⟩ : ∃ j, (i = 2 * j ∨ i = 2 * j + 1) ∧ j < 3 := ⟨i / 2, by omega, by omega⟩
  have q1 : (i : Int).tdiv (2 : Int) = (j : Int) := by rw [Int.tdiv_eq_ediv_of_nonneg (by omega)]; omega
  have w1 : wrap64 (j : Int) = j := w64 _ ⟨by omega, by omega⟩
  have c0 := bs_bd s j
  by_cases hlt : j < s.size
  · have hx := bs_idx s j hlt .i64
    have hle : ¬ s.size ≤ j := by omega
    rcases hj with hj | hj
    · rw [hj, dg_even, ← hj]
      have q2 : (i : Int).tmod (2 : Int) = 0 := by rw [Int.tmod_eq_emod_of_nonneg (by omega)]; omega
      have hs4 := u8_shr4 _ c0
      have w2 := wrap_in16 _ c0
      have w4 := tdiv16 _ c0
      generalize (bs s).getD j 0 = c at *
      clear hj hlt
      go_enter Try.func29, Try.ntmps29
      go_wp2
      go_ret
      exact ⟨rfl, rfl⟩
    · rw [hj, dg_odd, ← hj]
      have q2 : (i : Int).tmod (2 : Int) = 1 := by rw [Int.tmod_eq_emod_of_nonneg (by omega)]; omega
      have hs4 := u8_and15 _ c0
      have w2 := wrap_in16 _ c0
      have w4 := tmod16 _ c0
      generalize (bs s).getD j 0 = c at *
      clear hj hlt
      go_enter Try.func29, Try.ntmps29
      go_wp2
      go_ret
      exact ⟨rfl, rfl⟩
  · rw [dg_far s i (by omega)]
    have hle : s.size ≤ j := by omega
    clear hj hlt
    go_enter Try.func29, Try.ntmps29
    go_wp2
    go_ret
    exact ⟨rfl, rfl⟩
theorem gdigit_c (s : ByteArray) (i : Nat) (hi : i < 6) (w : World) : Calls Try.prog 40 #[.string s, .int .i64 i] w fun r w' => r = .returned (.int .i64 (dg s i)) ∧ w' = w := by
  obtain ⟨j, hj, hj3⟩ : ∃ j, (i = 2 * j ∨ i = 2 * j + 1) ∧ j < 3 := ⟨i / 2, by omega, by omega⟩
  have q1 : (i : Int).tdiv (2 : Int) = (j : Int) := by rw [Int.tdiv_eq_ediv_of_nonneg (by omega)]; omega
  have w1 : wrap64 (j : Int) = j := w64 _ ⟨by omega, by omega⟩
  have c0 := bs_bd s j
  by_cases hlt : j < s.size
  · have hx := bs_idx s j hlt .i64
    have hle : ¬ s.size ≤ j := by omega
    rcases hj with hj | hj
    · rw [hj, dg_even, ← hj]
      have q2 : (i : Int).tmod (2 : Int) = 0 := by rw [Int.tmod_eq_emod_of_nonneg (by omega)]; omega
      have hs4 := u8_shr4 _ c0
      have w2 := wrap_in16 _ c0
      have w4 := tdiv16 _ c0
      generalize (bs s).getD j 0 = c at *
      clear hj hlt
      go_enter Try.func40, Try.ntmps40
      go_wp2
      go_ret
      exact ⟨rfl, rfl⟩
    · rw [hj, dg_odd, ← hj]
      have q2 : (i : Int).tmod (2 : Int) = 1 := by rw [Int.tmod_eq_emod_of_nonneg (by omega)]; omega
      have hs4 := u8_and15 _ c0
      have w2 := wrap_in16 _ c0
      have w4 := tmod16 _ c0
      generalize (bs s).getD j 0 = c at *
      clear hj hlt
      go_enter Try.func40, Try.ntmps40
      go_wp2
      go_ret
      exact ⟨rfl, rfl⟩
  · rw [dg_far s i (by omega)]
    have hle : s.size ≤ j := by omega
    clear hj hlt
    go_enter Try.func40, Try.ntmps40
    go_wp2
    go_ret
    exact ⟨rfl, rfl⟩
theorem check_c (s : ByteArray) (w : World) : Calls Try.prog 13 #[.string s] w fun r w' => r = .returned (.int .i64 (keyE s)) ∧ w' = w := by
  unfold keyE
  by_cases h1 : s.size < 1
  · rw [if_pos (.inl h1)]
    go_enter Try.func13, Try.ntmps13
    go_wp2
    go_ret
    exact ⟨rfl, rfl⟩
  · by_cases h2 : 1024 < s.size
    · rw [if_pos (.inr h2)]
      go_enter Try.func13, Try.ntmps13
      go_wp2
      go_ret
      exact ⟨rfl, rfl⟩
    · rw [if_neg (by omega)]
      go_enter Try.func13, Try.ntmps13
      go_wp2
      go_ret
      exact ⟨rfl, rfl⟩
theorem gcheck_c (s : ByteArray) (w : World) : Calls Try.prog 14 #[.string s] w fun r w' => r = .returned (.int .i64 (keyE s)) ∧ w' = w := by
  unfold keyE
  by_cases h1 : s.size < 1
  · rw [if_pos (.inl h1)]
    go_enter Try.func14, Try.ntmps14
    go_wp2
    go_ret
    exact ⟨rfl, rfl⟩
  · by_cases h2 : 1024 < s.size
    · rw [if_pos (.inr h2)]
      go_enter Try.func14, Try.ntmps14
      go_wp2
      go_ret
      exact ⟨rfl, rfl⟩
    · rw [if_neg (by omega)]
      go_enter Try.func14, Try.ntmps14
      go_wp2
      go_ret
      exact ⟨rfl, rfl⟩
theorem bkt_wrap (s : ByteArray) (k : Nat) (h : k < 3) : wrap64 (bkt s k * 16) = bkt s k * 16 ∧ wrap64 (bkt s k * 16 + dg s k) = bkt s (k + 1) := by
  have a := bkt_bd s k
  have b := dg_bd s k
  have c : p16 k ≤ 256 := by rcases (show k = 0 ∨ k = 1 ∨ k = 2 by omega) with rfl | rfl | rfl <;> decide
  exact ⟨w64 _ ⟨by omega, by omega⟩, by rw [bkt]; exact w64 _ ⟨by omega, by omega⟩⟩
theorem in_c (D : Nat) (h1 : 1 ≤ D) (h3 : D ≤ 3) (s : ByteArray) (w : World) : Calls Try.prog 33 #[.int .i64 D, .string s] w fun r w' => r = .returned (.int .i64 (bkt s D)) ∧ w' = w := by
  go_enter Try.func33, Try.ntmps33
  go_wp2
  go_loop [5, 6] (fun n i => ∃ k : Nat, k ≤ D ∧ i = .int .i64 k ∧ n = .int .i64 (bkt s k)) (fun _ i => D - (intOf i).toNat)
  case atStart => exact ⟨0, Nat.zero_le _, rfl, rfl⟩
  case round =>
    obtain ⟨k, hk, rfl, rfl⟩ := hrel
    by_cases hlt : k < D
    · obtain ⟨ha, hb⟩ := bkt_wrap s k (by omega)
      have HD : Hid _ := gdigit_c s k (by omega) w
      have hi : (k : Int) < D := by omega
      generalize bkt s k = P at *
      generalize dg s k = Q at *
      go_wp2_with (go_at_call 40; go_must (refine (Calls.mono HD.out ?_)); rintro e w1 ⟨rfl, rfl⟩)
      go_round
      case rel => exact ⟨k + 1, by omega, by simp, by simpa using hb⟩
      case measure => simp [intOf]; omega
    · obtain rfl : k = D := by omega
      go_wp2
      go_ret
      exact ⟨rfl, rfl⟩
set_option maxHeartbeats 400000 in
theorem bucket_c (d : Int) (s : ByteArray) (w : World) : Calls Try.prog 10 #[.int .i64 d, .string s] w fun r w' => r = .returned (.tuple #[.int .i64 (bucN d s), .int .i64 (bucE d s)]) ∧ w' = w := by
  have HC : Hid _ := count_c d w
  have HK : Hid _ := check_c s w
  rcases deep_cases d with ⟨D, rfl, h1, h3⟩ | h
  · have h0 : ¬ nbk D = 0 := by rw [nbk_pow D h1 h3]; rcases (show D = 1 ∨ D = 2 ∨ D = 3 by omega) with rfl | rfl | rfl <;> decide
    unfold bucN bucE
    rw [if_neg h0, if_neg h0]
    generalize nbk D = C at *
    by_cases hk : keyE s = 0
    · rw [if_pos hk, hk]
      rw [hk] at HK
      rw [Int.toNat_natCast]
      clear hk
      go_enter Try.func10, Try.ntmps10
      go_wp2_with (first
        | (go_at_call 28; go_must (refine (Calls.mono HC.out ?_)); rintro e w1 ⟨rfl, rfl⟩)
        | (go_at_call 13; go_must (refine (Calls.mono HK.out ?_)); rintro e w1 ⟨rfl, rfl⟩))
      clear HC HK
      go_loop [7, 18] (fun n i => ∃ k : Nat, k ≤ D ∧ i = .int .i64 k ∧ n = .int .i64 (bkt s k)) (fun _ i => D - (intOf i).toNat)
      case atStart => exact ⟨0, Nat.zero_le _, rfl, rfl⟩
      case round =>
        obtain ⟨k, hk, rfl, rfl⟩ := hrel
        by_cases hlt : k < D
        · obtain ⟨ha, hb⟩ := bkt_wrap s k (by omega)
          have HD : Hid _ := digit_c s k (by omega) w1
          have hi : (k : Int) < D := by omega
          generalize bkt s k = P at *
          generalize dg s k = Q at *
          go_wp2_with (go_at_call 29; go_must (refine (Calls.mono HD.out ?_)); rintro e w1 ⟨rfl, rfl⟩)
          go_round
          case rel => exact ⟨k + 1, by omega, by simp, by simpa using hb⟩
          case measure => simp [intOf]; omega
        · obtain rfl : k = D := by omega
          go_wp2
          go_ret2
          exact ⟨rfl, rfl⟩
    · rw [if_neg hk]
      generalize keyE s = K at *
      go_enter Try.func10, Try.ntmps10
      go_wp2_with (first
        | (go_at_call 28; go_must (refine (Calls.mono HC.out ?_)); rintro e w1 ⟨rfl, rfl⟩)
        | (go_at_call 13; go_must (refine (Calls.mono HK.out ?_)); rintro e w1 ⟨rfl, rfl⟩))
      go_ret2
      exact ⟨rfl, rfl⟩
  · have h0 := nbk_none h
    unfold bucN bucE
    rw [if_pos h0, if_pos h0]
    rw [h0] at HC
    go_enter Try.func10, Try.ntmps10
    go_wp2_with (first
      | (go_at_call 28; go_must (refine (Calls.mono HC.out ?_)); rintro e w1 ⟨rfl, rfl⟩))
    go_ret2
    exact ⟨rfl, rfl⟩
set_option maxHeartbeats 400000 in
theorem gbucket_c (d : Int) (s : ByteArray) (w : World) : Calls Try.prog 19 #[.int .i64 d, .string s] w fun r w' => r = .returned (.tuple #[.int .i64 (bucN d s), .int .i64 (bucE d s)]) ∧ w' = w := by
  have HC : Hid _ := gcount_c d w
  have HK : Hid _ := gcheck_c s w
  rcases deep_cases d with ⟨D, rfl, h1, h3⟩ | h
  · have h0 : ¬ nbk D = 0 := by rw [nbk_pow D h1 h3]; rcases (show D = 1 ∨ D = 2 ∨ D = 3 by omega) with rfl | rfl | rfl <;> decide
    have HI : Hid _ := in_c D h1 h3 s w
    unfold bucN bucE
    rw [if_neg h0, if_neg h0]
    generalize nbk D = C at *
    by_cases hk : keyE s = 0
    · rw [if_pos hk, hk]
      rw [hk] at HK
      rw [Int.toNat_natCast]
      clear hk
      go_enter Try.func19, Try.ntmps19
      go_wp2_with (first
        | (go_at_call 32; go_must (refine (Calls.mono HC.out ?_)); rintro e w1 ⟨rfl, rfl⟩)
        | (go_at_call 33; go_must (refine (Calls.mono HI.out ?_)); rintro e w1 ⟨rfl, rfl⟩)
        | (go_at_call 14; go_must (refine (Calls.mono HK.out ?_)); rintro e w1 ⟨rfl, rfl⟩))
      go_ret2
      exact ⟨rfl, rfl⟩
    · rw [if_neg hk]
      have hk60 : keyE s = 60 := keyE_not hk
      rw [hk60] at HK ⊢
      go_enter Try.func19, Try.ntmps19
      go_wp2_with (first
        | (go_at_call 32; go_must (refine (Calls.mono HC.out ?_)); rintro e w1 ⟨rfl, rfl⟩)
        | (go_at_call 14; go_must (refine (Calls.mono HK.out ?_)); rintro e w1 ⟨rfl, rfl⟩))
      go_ret2
      exact ⟨rfl, rfl⟩
  · have h0 := nbk_none h
    unfold bucN bucE
    rw [if_pos h0, if_pos h0]
    rw [h0] at HC
    go_enter Try.func19, Try.ntmps19
    go_wp2_with (first
      | (go_at_call 32; go_must (refine (Calls.mono HC.out ?_)); rintro e w1 ⟨rfl, rfl⟩))
    go_ret2
    exact ⟨rfl, rfl⟩

end Go.Proofs.Ytggkkpbgnlmfeaa
