/-
  What leb.Decode answers, called with whatever bytes: what the plain function rd gives. Condition: the slice can be read, and its length is one that a machine has.
-/
import Derived.Test.YtokkhhekmebakaaGreatDoorNum
import Derived.Deep.Light
import Derived.Lib.EndianBits
namespace Go.Proofs.YtokkhhekmebakaaGreatDoor
open Go.RowKit
set_option linter.unusedVariables false

theorem or_group (X c : Int) (k : Nat) (hk : k ≤ 9) (hX0 : 0 ≤ X) (hX : X < 2 ^ (7 * k)) (h0 : 0 ≤ c) (h1 : c < 128) (h9 : k = 9 → c ≤ 1) :
    bits .or .u64 X (IntKind.u64.wrap (c * 2 ^ (7 * k))) = X + 2 ^ (7 * k) * c := by
  have hp := pow_pos2 (7 * k)
  have hm : 0 ≤ c * 2 ^ (7 * k) := Int.mul_nonneg h0 (by omega)
  have hb : c * 2 ^ (7 * k) < 18446744073709551616 := by
    by_cases hk9 : k = 9
    · subst hk9
      have := h9 rfl
      have e : (2 : Int) ^ (7 * 9) = 9223372036854775808 := by decide
      rw [e]; omega
    · have hle : (2 : Int) ^ (7 * k) ≤ 2 ^ 56 := by
        have : (2 : Nat) ^ (7 * k) ≤ 2 ^ 56 := Nat.pow_le_pow_right (by omega) (by omega)
        exact_mod_cast this
      have e : (2 : Int) ^ 56 = 72057594037927936 := by decide
      have := Int.mul_le_mul (Int.le_of_lt h1) hle (by omega) (by omega)
      rw [e] at this
      omega
  have hX64 : X < 18446744073709551616 := by
    have hle : (2 : Int) ^ (7 * k) ≤ 2 ^ 63 := by
      have : (2 : Nat) ^ (7 * k) ≤ 2 ^ 63 := Nat.pow_le_pow_right (by omega) (by omega)
      exact_mod_cast this
    have e : (2 : Int) ^ 63 = 9223372036854775808 := by decide
    omega
  rw [u64_wrap_id _ hm hb]
  have e64 : (2 : Int) ^ 64 = 18446744073709551616 := by decide
  rw [bits_join_low .u64 64 (by decide) wraps_u64 (7 * k) X (c * 2 ^ (7 * k)) hX0 hX (by rw [e64]; exact hX64) hm (Int.mul_emod_left _ _) (by rw [e64]; exact hb), Int.mul_comm c]

theorem or_val (xs : List Int) (X : Int) (k : Nat) (hk : k < xs.length) (hk9 : k ≤ 9) (hX : X = val (xs.take k)) (h0 : 0 ≤ xs[k]?.getD 0) (h9 : k = 9 → xs[k]?.getD 0 % 128 ≤ 1) :
    bits .or .u64 X (IntKind.u64.wrap (xs[k]?.getD 0 % 128 * 2 ^ (7 * k))) = val (xs.take (k + 1)) := by
  have hln : (xs.take k).length = k := by simp; omega
  have hlt := val_lt (xs.take k)
  have hn := val_nonneg (xs.take k)
  rw [hln] at hlt
  rw [or_group X _ k hk9 (by omega) (by omega) (by omega) (by omega) h9, take_snoc xs k hk, val_snoc, hln, hX]

theorem ret3 {k1 k2 k3 : IntKind} {a b c a' b' c' : Int} (h1 : a = a') (h2 : b = b') (h3 : c = c') : Ending.returned (.tuple #[.int k1 a, .int k2 b, .int k3 c]) = .returned (.tuple #[.int k1 a', .int k2 b', .int k3 c']) := by rw [h1, h2, h3]
theorem ret3rd {k1 k2 k3 : IntKind} {xs : List Int} {a b c : Int} (h : rd xs = (a, b, c)) : Ending.returned (.tuple #[.int k1 a, .int k2 b, .int k3 c]) = .returned (.tuple #[.int k1 (rd xs).1, .int k2 (rd xs).2.1, .int k3 (rd xs).2.2]) := by rw [h]

set_option maxHeartbeats 2000000 in
theorem decode_c (a : Option Addr) (len cap : Nat) (xs : List Int) (w : World) (h : Seg .u8 w a len xs) (hx : Bytes xs) (hcap : len ≤ cap) (hl : cap ≤ 9223372036854775807) :
    Calls Tryz.prog 204 #[.slice a len cap] w fun e w' => e = .returned (.tuple #[.int .u64 (rd xs).1, .int .i64 (rd xs).2.1, .int .i64 (rd xs).2.2]) ∧ w' = w := by
  obtain ⟨hlen, h⟩ := h
  rcases h with rfl | ⟨b, off, rfl, hbw, hc⟩
  · obtain rfl : xs = [] := List.eq_nil_of_length_eq_zero hlen
    go_enter Tryz.func204, Tryz.ntmps204
    go_wp2
    refine wp_loop_rounds 1 ?_
    rw [rounds_succ]
    go_wp2
    go_ret3
    exact ⟨rfl, rfl⟩
  · obtain ⟨N, hN, hN10, HN⟩ : ∃ N : Nat, N ≤ len ∧ N ≤ 10 ∧ Hid (N = len ∨ N = 10) := ⟨min len 10, by omega, by omega, by show _ ∨ _; omega⟩
    by_cases h10 : (len : Int) ≤ 10
    · obtain rfl : N = len := by have := HN.out; omega
      go_enter Tryz.func204, Tryz.ntmps204
      go_wp2
      go_loop [5, 14] (fun v i => ∃ (k : Nat) (X : Int), k ≤ N ∧ i = .int .i64 k ∧ v = .int .u64 X ∧ (k ≤ 9 → X = val (xs.take k)) ∧ ∀ j, j < k → 128 ≤ xs[j]?.getD 0) (fun _ i => N - (intOf i).toNat)
      case atStart => exact ⟨0, 0, Nat.zero_le _, rfl, rfl, fun _ => rfl, fun j hj => by omega⟩
      case round =>
        obtain ⟨k, X, hk, rfl, rfl, hX, hlead⟩ := hrel
        have HX : Hid (k ≤ 9 → X = val (xs.take k)) := hX
        have HL : Hid (∀ j, j < k → 128 ≤ xs[j]?.getD 0) := hlead
        have HE : Hid (xs.length = N) := hlen
        by_cases hlt : k < N
        · have hcell := hc k (by omega)
          have hxk := hx k (by omega)
          clear hc hx hX hlead hlen
          by_cases hc128 : 128 ≤ xs[k]?.getD 0
          · go_wp2
            go_round
            case rel =>
              go_light
              refine ⟨k + 1, _, by omega, by go_num, rfl, fun h9 => ?_, fun j hj => ?_⟩
              · exact or_val xs X k (by have := HE.out; omega) (by omega) (HX.out (by omega)) hxk.1 (fun h => by omega)
              · rcases Nat.lt_or_ge j k with h | h
                · exact HL.out j h
                · obtain rfl : j = k := by omega
                  exact hc128
            case measure => simp [intOf]; try omega
          · by_cases h91 : 9 ≤ k ∧ 1 < xs[k]?.getD 0
            · obtain ⟨h9, h1⟩ := h91
              go_wp2
              go_ret3
              go_light
              refine ⟨ret3rd ?_, rfl⟩
              obtain rfl : k = 9 := by omega
              exact rd_nine xs HL.out (by have := HE.out; omega) (by omega) h1
            · by_cases h0 : 0 < k ∧ xs[k]?.getD 0 ≤ 0
              · obtain ⟨hk0, h0⟩ := h0
                go_wp2
                all_goals go_ret3
                all_goals go_light
                all_goals exact ⟨ret3rd (rd_form xs k HL.out (by have := HE.out; omega) (by omega) hk0 (by omega)), rfl⟩
              · have HO : Hid (bits .or .u64 X (IntKind.u64.wrap (xs[k]?.getD 0 % 128 * 2 ^ (7 * k))) = val (xs.take (k + 1))) := or_val xs X k (by have := HE.out; omega) (by omega) (HX.out (by omega)) hxk.1 (fun h => by omega)
                have HR : Hid (rd xs = (val (xs.take (k + 1)), (k : Int) + 1, 0)) := rd_ok xs k HL.out (by have := HE.out; omega) (by omega) (by omega) (fun h => by omega) (fun h => by omega)
                go_wp2
                all_goals go_ret3
                all_goals go_light
                all_goals exact ⟨(ret3 HO.out (by omega) rfl).trans (ret3rd HR.out), rfl⟩
        · have HR : Hid (rd xs = (0, 0, if (N : Int) < 10 then 10 else 11)) := by
            show _ = _
            by_cases h : (N : Int) < 10
            · rw [if_pos h]; exact rd_short xs (fun j hj => hlead j (by omega)) (by omega)
            · rw [if_neg h]; exact rd_long xs (fun j hj => hlead j (by omega)) (by omega)
          clear hc hx hX hlead hlen
          go_wp2
          all_goals go_ret3
          all_goals go_light
          all_goals (refine ⟨ret3rd (HR.out.trans ?_), rfl⟩; first | rw [if_pos (by omega)] | rw [if_neg (by omega)])
    · obtain rfl : N = 10 := by have := HN.out; omega
      go_enter Tryz.func204, Tryz.ntmps204
      go_wp2
      go_loop [5, 14] (fun v i => ∃ (k : Nat) (X : Int), k ≤ 10 ∧ i = .int .i64 k ∧ v = .int .u64 X ∧ (k ≤ 9 → X = val (xs.take k)) ∧ ∀ j, j < k → 128 ≤ xs[j]?.getD 0) (fun _ i => 10 - (intOf i).toNat)
      case atStart => exact ⟨0, 0, Nat.zero_le _, rfl, rfl, fun _ => rfl, fun j hj => by omega⟩
      case round =>
        obtain ⟨k, X, hk, rfl, rfl, hX, hlead⟩ := hrel
        have HX : Hid (k ≤ 9 → X = val (xs.take k)) := hX
        have HL : Hid (∀ j, j < k → 128 ≤ xs[j]?.getD 0) := hlead
        have HE : Hid (xs.length = len) := hlen
        by_cases hlt : k < 10
        · have hcell := hc k (by omega)
          have hxk := hx k (by omega)
          clear hc hx hX hlead hlen
          by_cases hc128 : 128 ≤ xs[k]?.getD 0
          · go_wp2
            go_round
            case rel =>
              go_light
              refine ⟨k + 1, _, by omega, by go_num, rfl, fun h9 => ?_, fun j hj => ?_⟩
              · exact or_val xs X k (by have := HE.out; omega) (by omega) (HX.out (by omega)) hxk.1 (fun h => by omega)
              · rcases Nat.lt_or_ge j k with h | h
                · exact HL.out j h
                · obtain rfl : j = k := by omega
                  exact hc128
            case measure => simp [intOf]; try omega
          · by_cases h91 : 9 ≤ k ∧ 1 < xs[k]?.getD 0
            · obtain ⟨h9, h1⟩ := h91
              go_wp2
              go_ret3
              go_light
              refine ⟨ret3rd ?_, rfl⟩
              obtain rfl : k = 9 := by omega
              exact rd_nine xs HL.out (by have := HE.out; omega) (by omega) h1
            · by_cases h0 : 0 < k ∧ xs[k]?.getD 0 ≤ 0
              · obtain ⟨hk0, h0⟩ := h0
                go_wp2
                all_goals go_ret3
                all_goals go_light
                all_goals exact ⟨ret3rd (rd_form xs k HL.out (by have := HE.out; omega) (by omega) hk0 (by omega)), rfl⟩
              · have HO : Hid (bits .or .u64 X (IntKind.u64.wrap (xs[k]?.getD 0 % 128 * 2 ^ (7 * k))) = val (xs.take (k + 1))) := or_val xs X k (by have := HE.out; omega) (by omega) (HX.out (by omega)) hxk.1 (fun h => by omega)
                have HR : Hid (rd xs = (val (xs.take (k + 1)), (k : Int) + 1, 0)) := rd_ok xs k HL.out (by have := HE.out; omega) (by omega) (by omega) (fun h => by omega) (fun h => by omega)
                go_wp2
                all_goals go_ret3
                all_goals go_light
                all_goals exact ⟨(ret3 HO.out (by omega) rfl).trans (ret3rd HR.out), rfl⟩
        · have HR : Hid (rd xs = (0, 0, if (len : Int) < 10 then 10 else 11)) := by
            show _ = _
            rw [if_neg (by omega)]; exact rd_long xs (fun j hj => hlead j (by omega)) (by omega)
          clear hc hx hX hlead hlen
          go_wp2
          all_goals go_ret3
          all_goals go_light
          all_goals (refine ⟨ret3rd (HR.out.trans ?_), rfl⟩; first | rw [if_pos (by omega)] | rw [if_neg (by omega)])

end Go.Proofs.YtokkhhekmebakaaGreatDoor
