/-
  What probe's Bound and the document's answer: the same. No condition.
-/
import Derived.Test.YtmkmbnojgheabaaQBn
namespace Go.Proofs.Ytmkmbnojgheabaa
set_option linter.unusedVariables false
open Go.RowKit

theorem gb_self (a : World) : a.grownBy a none := ⟨rfl, rfl, rfl, Nat.le_refl _, fun _ _ _ => rfl⟩
set_option maxRecDepth 20000 in
theorem qbound_c (d u : Int) (w : World) : Calls Try.prog 4 #[.int .i64 d, .int .i64 u] w fun r w' => r = .returned (.tuple #[.int .i64 (bN d u), .int .i64 (bE d u)]) ∧ w' = w := by
  by_cases h1 : d < 1
  · rw [show bN d u = 0 from if_pos (.inl h1), show bE d u = 1 from if_pos (.inl h1)]
    go_enter Try.func4, Try.ntmps4
    go_wp2
    go_ret2
    exact ⟨rfl, rfl⟩
  by_cases h2 : 3 < d
  · rw [show bN d u = 0 from if_pos (.inr h2), show bE d u = 1 from if_pos (.inr h2)]
    go_enter Try.func4, Try.ntmps4
    go_wp2
    go_ret2
    exact ⟨rfl, rfl⟩
  have hN : bN d u = if u < 0 ∨ p16 d.toNat < u then 0 else sm u d.toNat := if_neg (by omega)
  have hE : bE d u = if u < 0 ∨ p16 d.toNat < u then 1 else 0 := if_neg (by omega)
  rw [hN, hE]
  clear hN hE
  obtain ⟨D, rfl⟩ : ∃ D : Nat, d = D := ⟨d.toNat, by omega⟩
  rw [Int.toNat_natCast]
  have hD : D ≤ 3 := by omega
  by_cases h3 : u < 0
  · rw [if_pos (.inl h3), if_pos (.inl h3)]
    go_enter Try.func4, Try.ntmps4
    go_wp2
    go_ret2
    exact ⟨rfl, rfl⟩
  have HW : Hid (∀ (D : Nat), D ≤ 3 → ∀ w, Calls Try.prog 6 #[.int .i64 D] w fun r w' => r = .returned (.int .i64 (p16 D)) ∧ w' = w) := width_c
  by_cases h4 : p16 D < u
  · rw [if_pos (.inr h4), if_pos (.inr h4)]
    go_enter Try.func4, Try.ntmps4
    go_wp2_with (go_at_call 6; go_must (refine (Calls.mono (HW.out D hD _) ?_)); rintro r w1 ⟨rfl, hq⟩; obtain rfl := hq.symm)
    go_ret2
    exact ⟨rfl, rfl⟩
  · rw [if_neg (by omega), if_neg (by omega)]
    have hu : u ≤ 4096 := by have := p16_bd D hD; omega
    go_enter Try.func4, Try.ntmps4
    go_wp2_with (go_at_call 6; go_must (refine (Calls.mono (HW.out D hD _) ?_)); rintro r w1 ⟨rfl, hq⟩; obtain rfl := hq.symm)
    go_loopw [6, 25] (fun n i wr => ∃ k : Nat, k ≤ D ∧ i = .int .i64 k ∧ n = .int .i64 (sm u k) ∧ wr = w) (fun _ i _ => D - (intOf i).toNat)
    case atStart => exact ⟨0, Nat.zero_le _, rfl, rfl, rfl⟩
    case round =>
      obtain ⟨k, hk, rfl, rfl, hq⟩ := hrel
      obtain rfl := hq.symm
      by_cases hlt : k < D
      · have hi : (k : Int) < D := by omega
        have hb := sm_bd u (by omega) hu k (by omega)
        have hs : sm u (k + 1) = sm u k + 16 * (if p16 k < u then p16 k else u) := rfl
        have hp := p16_bd k (by omega)
        obtain ⟨P, hP⟩ : ∃ P, P = p16 k := ⟨_, rfl⟩
        have HK : Hid (Calls Try.prog 6 #[.int .i64 k] w fun r w' => r = .returned (.int .i64 P) ∧ w' = w) := by rw [hP]; exact width_c k (by omega) w
        rw [← hP] at hs hp
        obtain ⟨M, hM⟩ : ∃ M, M = if P < u then P else u := ⟨_, rfl⟩
        have hMb : 0 ≤ M ∧ M ≤ 4096 := by rw [hM]; split <;> omega
        rw [← hM] at hs
        generalize sm u k = S at hb hs ⊢
        go_wp2_with (go_at_call 6; go_must (refine (Calls.mono HK.out ?_)); rintro r w1 ⟨rfl, hq⟩; obtain rfl := hq.symm)
        go_roundw
        case rel => exact ⟨k + 1, by omega, by go_num, by rw [hs, hM, hP], by trivial⟩
        case measure => simp [intOf]; omega
      · obtain rfl : k = D := by omega
        go_wp2
        go_ret2
        exact ⟨rfl, rfl⟩
set_option maxRecDepth 20000 in
theorem zbound_c (d u : Int) (w : World) : Calls Try.prog 5 #[.int .i64 d, .int .i64 u] w fun r w' => r = .returned (.tuple #[.int .i64 (bN d u), .int .i64 (bE d u)]) ∧ w' = w := by
  by_cases h1 : d < 1
  · rw [show bN d u = 0 from if_pos (.inl h1), show bE d u = 1 from if_pos (.inl h1)]
    go_enter Try.func5, Try.ntmps5
    go_wp2
    go_ret2
    exact ⟨rfl, rfl⟩
  by_cases h2 : 3 < d
  · rw [show bN d u = 0 from if_pos (.inr h2), show bE d u = 1 from if_pos (.inr h2)]
    go_enter Try.func5, Try.ntmps5
    go_wp2
    go_ret2
    exact ⟨rfl, rfl⟩
  have hN : bN d u = if u < 0 ∨ p16 d.toNat < u then 0 else sm u d.toNat := if_neg (by omega)
  have hE : bE d u = if u < 0 ∨ p16 d.toNat < u then 1 else 0 := if_neg (by omega)
  obtain ⟨D, rfl⟩ : ∃ D : Nat, d = D := ⟨d.toNat, by omega⟩
  rw [Int.toNat_natCast] at hN hE
  generalize bN (D : Int) u = N at hN ⊢
  generalize bE (D : Int) u = E at hE ⊢
  have HH : Hid (N = (if u < 0 ∨ p16 D < u then 0 else sm u D) ∧ E = if u < 0 ∨ p16 D < u then 1 else 0) := ⟨hN, hE⟩
  clear hN hE
  have hD : D ≤ 3 := by omega
  go_enter Try.func5, Try.ntmps5
  go_wp2
  go_loopw [6, 7] (fun n i wr => ∃ k : Nat, k ≤ D ∧ i = .int .i64 k ∧ n = .int .i64 (p16 k) ∧ wr = w) (fun _ i _ => D - (intOf i).toNat)
  case atStart => exact ⟨0, Nat.zero_le _, rfl, rfl, rfl⟩
  case round =>
    obtain ⟨k, hk, rfl, rfl, hq⟩ := hrel
    obtain rfl := hq.symm
    by_cases hlt : k < D
    · have hi : (k : Int) < D := by omega
      have hs : p16 (k + 1) = p16 k * 16 := rfl
      have hp := p16_bd k (by omega)
      have hz : 0 ≤ p16 k * 16 ∧ p16 k * 16 ≤ 65536 := by omega
      generalize p16 k = P at *
      go_wp2
      go_roundw
      case rel => exact ⟨k + 1, by omega, by go_num, by rw [hs], by trivial⟩
      case measure => simp [intOf]; omega
    · obtain rfl : k = D := by omega
      by_cases h3 : u < 0
      · obtain ⟨rfl, rfl⟩ : N = 0 ∧ E = 1 := by rw [HH.out.1, HH.out.2, if_pos (.inl h3), if_pos (.inl h3)]; exact ⟨rfl, rfl⟩
        go_wp2
        go_ret2
        exact ⟨rfl, rfl⟩
      by_cases h4 : p16 k < u
      · obtain ⟨rfl, rfl⟩ : N = 0 ∧ E = 1 := by rw [HH.out.1, HH.out.2, if_pos (.inr h4), if_pos (.inr h4)]; exact ⟨rfl, rfl⟩
        go_wp2
        go_ret2
        exact ⟨rfl, rfl⟩
      obtain ⟨rfl, rfl⟩ : N = sm u k ∧ E = 0 := by rw [HH.out.1, HH.out.2, if_neg (by omega), if_neg (by omega)]; exact ⟨rfl, rfl⟩
      clear HH
      have hu : u ≤ 4096 := by have := p16_bd k hD; omega
      by_cases h5 : u = 0
      · subst h5
        have hz := sm_zero k hD
        go_wp2
        go_ret2
        try rw [hz]
        exact ⟨rfl, rfl⟩
      have h5b : (u == 0) = false := by simp [h5]
      go_wp2
      go_loopw [8, 9, 10] (fun n p i wr => ∃ j : Nat, j ≤ k ∧ i = .int .i64 j ∧ n = .int .i64 (sm u j) ∧ p = .int .i64 (p16 j) ∧ wr = w) (fun _ _ i _ => k - (intOf i).toNat)
      case atStart => exact ⟨0, Nat.zero_le _, rfl, rfl, rfl, rfl⟩
      case round =>
        obtain ⟨j, hj, rfl, rfl, rfl, hq⟩ := hrel
        obtain rfl := hq.symm
        by_cases hjt : j < k
        · have hi : (j : Int) < k := by omega
          have hb := sm_bd u (by omega) hu j (by omega)
          have hs : sm u (j + 1) = sm u j + 16 * (if p16 j < u then p16 j else u) := rfl
          have hp := p16_bd j (by omega)
          have hs2 : p16 (j + 1) = p16 j * 16 := rfl
          generalize sm u j = S at hb hs ⊢
          generalize p16 j = P at hp hs hs2 ⊢
          by_cases hlu : u < P
          · rw [if_neg (by omega)] at hs
            go_wp2
            go_roundw
            case rel => exact ⟨j + 1, by omega, by go_num, by rw [hs], by rw [hs2], by trivial⟩
            case measure => simp [intOf]; omega
          · have hs3 : sm u (j + 1) = S + 16 * P := by
              rw [hs]
              split
              · rfl
              · have : u = P := by omega
                rw [this]
            clear hs
            go_wp2
            go_roundw
            case rel => exact ⟨j + 1, by omega, by go_num, by rw [hs3], by rw [hs2], by trivial⟩
            case measure => simp [intOf]; omega
        · obtain rfl : j = k := by omega
          go_wp2
          go_ret2
          exact ⟨rfl, rfl⟩
end Go.Proofs.Ytmkmbnojgheabaa
