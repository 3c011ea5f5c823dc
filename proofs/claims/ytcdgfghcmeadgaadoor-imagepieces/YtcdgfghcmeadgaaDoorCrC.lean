/-
  What the document's timesX and Mul answer, called with whatever words. No condition.
  What the document's Power answers, called with whatever number. No condition.
  What the document's rem answers: the long division of whatever bytes that can be read. Condition: they are at most 2^50 bytes.
  What the document's Sum answers, called with whatever bytes. Condition: they can be read, and are at most 2^50.
-/
import Derived.Test.YtcdgfghcmeadgaaDoorFc
namespace Go.Proofs.YtcdgfghcmeadgaaDoor.Cr
set_option linter.unusedVariables false
open Go.RowKit

theorem rtimesX_c (a : Wd) (w : World) :
    Calls Tryd.prog 100 #[.int .u32 (W a)] w fun e w' => e = .returned (.int .u32 (W (tx a))) ∧ w' = w := by
  have h0 := W_nn a
  have h1 := W_lt a
  have hl := W_low a
  have hh := W_half a
  cases hb : a.getLsbD 0 with
  | false =>
    rw [hb] at hl
    have hc : (bits .and .u32 (W a) 1 == 1) = false := by rw [hl]; rfl
    clear hl
    go_enter Tryd.func100, Tryd.ntmps100
    go_wp2
    go_ret
    exact ⟨ret_int (by unfold tx; rw [hb]; rfl), rfl⟩
  | true =>
    rw [hb] at hl
    have hc : (bits .and .u32 (W a) 1 == 1) = true := by rw [hl]; rfl
    clear hl
    go_enter Tryd.func100, Tryd.ntmps100
    go_wp2
    go_ret
    exact ⟨ret_int (by rw [W_lit _ 2197175160 gen rfl]; unfold tx; rw [hb]; rfl), rfl⟩

theorem rmul_c (a b : Wd) (w : World) :
    Calls Tryd.prog 68 #[.int .u32 (W a), .int .u32 (W b)] w fun e w' => e = .returned (.int .u32 (W (mul b a))) ∧ w' = w := by
  go_enter Tryd.func68, Tryd.ntmps68
  go_wp2
  go_loop [0, 5, 6] (fun x s i => ∃ (k : Nat) (A S : Wd), k ≤ 32 ∧ i = .int .i64 ((k : Int) - 1) ∧ x = .int .u32 (W A) ∧ s = .int .u32 (W S) ∧ Hid (ms k (b <<< (32 - k)) A S = mul b a)) (fun _ _ i => (intOf i + 1).toNat)
  case atStart => exact ⟨32, a, 0, Nat.le_refl _, rfl, rfl, rfl, by show Hid (ms 32 (b <<< 0) a 0 = _); rw [BitVec.shiftLeft_zero]; exact rfl⟩
  case round =>
    obtain ⟨k, A, S, hk, rfl, rfl, rfl, hm⟩ := hrel
    have h0 := W_nn A
    have h1 := W_lt A
    have h2 := W_nn b
    have h3 := W_lt b
    have h4 := W_nn S
    have h5 := W_lt S
    have HX : Hid (bits .xor .u32 (W S) (W A) = W (S ^^^ A)) := W_xor S A
    cases k with
    | zero =>
      go_wp2
      go_ret
      exact ⟨ret_int (by have := hm.out; rw [← this]; rfl), rfl⟩
    | succ k =>
      have hm' := hm.out
      clear hm
      unfold ms at hm'
      have hs : b <<< (32 - (k + 1)) <<< 1 = b <<< (32 - k) := by
        rw [← BitVec.shiftLeft_add]; congr 1; omega
      have hb : (b <<< (32 - (k + 1))).msb = b.getLsbD k := by
        rw [BitVec.msb_eq_getLsbD_last, BitVec.getLsbD_shiftLeft]
        rw [show 32 - 1 - (32 - (k + 1)) = k from by omega]
        simp
      rw [hs, hb] at hm'
      clear hs hb
      have ht := W_bit b k (by omega)
      obtain ⟨K, hK⟩ : ∃ K : Int, K = ((k + 1 : Nat) : Int) - 1 := ⟨_, rfl⟩
      have K0 : 0 ≤ K := by omega
      have K1 : K ≤ 31 := by omega
      rw [← hK]
      have hT : k = K.toNat := by omega
      rw [hT] at ht
      have HK : Hid (K = ((k + 1 : Nat) : Int) - 1) := hK
      clear hK hT hk
      cases hb : b.getLsbD k with
      | false =>
        have HM : Hid (ms k (b <<< (32 - k)) (tx A) S = mul b a) := by rw [hb] at hm'; exact hm'
        have hc : (bits .and .u32 (W b / (2 : Int) ^ K.toNat) 1 == 1) = false := by rw [ht, ← show k = K.toNat from by have := HK.out; omega, hb]; rfl
        clear hm' ht hb
        go_wp2_with (go_at_call 100; go_must (refine (rtimesX_c _ _).mono ?_); rintro e w' ⟨rfl, rfl⟩)
        go_round
        case rel => exact ⟨k, tx A, S, by have := HK.out; omega, congrArg (Value.int .i64) (by have := HK.out; omega), rfl, rfl, HM⟩
        case measure => simp [intOf]; omega
      | true =>
        have HM : Hid (ms k (b <<< (32 - k)) (tx A) (S ^^^ A) = mul b a) := by rw [hb] at hm'; exact hm'
        have hc : (bits .and .u32 (W b / (2 : Int) ^ K.toNat) 1 == 1) = true := by rw [ht, ← show k = K.toNat from by have := HK.out; omega, hb]; rfl
        clear hm' ht hb
        go_wp2_with (go_at_call 100; go_must (refine (rtimesX_c _ _).mono ?_); rintro e w' ⟨rfl, rfl⟩)
        go_round
        case rel => exact ⟨k, tx A, S ^^^ A, by have := HK.out; omega, congrArg (Value.int .i64) (by have := HK.out; omega), rfl, congrArg (Value.int .u32) HX.out, HM⟩
        case measure => simp [intOf]; omega

end Go.Proofs.YtcdgfghcmeadgaaDoor.Cr
namespace Go.Proofs.YtcdgfghcmeadgaaDoor.Cr
set_option linter.unusedVariables false
open Go.RowKit

theorem rpower_c (n : Int) (h0 : 0 ≤ n) (h1 : n < 18446744073709551616) (w : World) :
    Calls Tryd.prog 69 #[.int .u64 n] w fun e w' => e = .returned (.int .u32 (W (pw n.toNat))) ∧ w' = w := by
  go_enter Tryd.func69, Tryd.ntmps69
  go_wp2
  go_loop [0, 3, 4] (fun m p x => ∃ (X P : Wd) (M : Int), x = .int .u32 (W X) ∧ m = .int .u64 M ∧ (0 ≤ M ∧ M < 18446744073709551616) ∧ p = .int .u32 (W P) ∧ Hid (mul P (wpow X M.toNat) = pw n.toNat)) (fun m _ _ => (intOf m).toNat)
  case atStart => exact ⟨pw 1, one, n, rfl, rfl, ⟨h0, h1⟩, rfl, by show _ = _; rw [one_mul, wpow_pw, Nat.one_mul]⟩
  case round =>
    obtain ⟨X, P, M, rfl, rfl, ⟨hM0, hM1⟩, rfl, hm⟩ := hrel
    clear h0 h1
    have h2 := W_nn X
    have h3 := W_lt X
    have h4 := W_nn P
    have h5 := W_lt P
    by_cases hz : 0 < M
    · rcases (show M % (2 : Int) = 0 ∨ M % (2 : Int) = 1 by omega) with hp | hp
      · have HM : Hid (mul P (wpow (mul X X) (M / 2).toNat) = pw n.toNat) := by
          have := wpow_even P X M.toNat (by omega)
          rw [show M.toNat / 2 = (M / 2).toNat from by omega, hm.out] at this; exact this
        clear hm
        go_wp2_with (go_at_call 68; go_must (refine (rmul_c _ _ _).mono ?_); rintro e w' ⟨rfl, rfl⟩)
        go_round
        case rel => exact ⟨mul X X, P, M / 2, rfl, rfl, ⟨by omega, by omega⟩, rfl, HM⟩
        case measure => simp [intOf]; omega
      · have HM : Hid (mul (mul X P) (wpow (mul X X) (M / 2).toNat) = pw n.toNat) := by
          have := wpow_odd P X M.toNat (by omega)
          rw [show M.toNat / 2 = (M / 2).toNat from by omega, hm.out, mul_comm P X] at this; exact this
        clear hm
        go_wp2_with (go_at_call 68; go_must (refine (rmul_c _ _ _).mono ?_); rintro e w' ⟨rfl, rfl⟩)
        go_round
        case rel => exact ⟨mul X X, mul X P, M / 2, rfl, rfl, ⟨by omega, by omega⟩, rfl, HM⟩
        case measure => simp [intOf]; omega
    · go_wp2
      go_ret
      exact ⟨ret_int (by have := hm.out; rw [show M.toNat = 0 from by omega] at this; rw [← this]; exact congrArg W (mul_one P).symm), rfl⟩

end Go.Proofs.YtcdgfghcmeadgaaDoor.Cr
namespace Go.Proofs.YtcdgfghcmeadgaaDoor.Cr
set_option linter.unusedVariables false
open Go.RowKit

theorem u8_bit (z : Int) (h0 : 0 ≤ z) (h1 : z < 256) (j : Nat) : bits .and .u8 (z / (2 : Int) ^ j) 1 = z / (2 : Int) ^ j % 2 := by
  have h2 : 0 ≤ z / (2 : Int) ^ j := Int.ediv_nonneg h0 (Int.le_of_lt (Int.pow_pos (by decide)))
  have h3 : z / (2 : Int) ^ j < 256 := Int.lt_of_le_of_lt (Int.ediv_le_self _ h0) h1
  have h := u8_and (z / (2 : Int) ^ j) 1 h2 h3 (by decide) (by decide)
  rw [h, show (1 : Int).toNat = 1 from rfl, Nat.and_one_is_mod]; omega
theorem hz_at (xs : List Int) (i : Nat) (h : i < 8 * xs.length) : hz xs (i + 1) = tx (hz xs i) ^^^ (if (xs[i / 8]?.getD 0) / 2 ^ (i % 8) % 2 = 1 then one else 0) := by
  rw [hz_succ]
  congr 1
  have e : xs.getD (i / 8) 0 = xs[i / 8]?.getD 0 := by simp [List.getD]
  rw [e]
  simp [h]
theorem hz_past (xs : List Int) (i : Nat) (h : ¬ i < 8 * xs.length) : hz xs (i + 1) = tx (hz xs i) := by
  rw [hz_succ, if_neg (fun hh => h hh.1)]
  exact BitVec.xor_zero

theorem rem_c (a : Option Addr) (len cap : Nat) (xs : List Int) (w : World) (h : Seg .u8 w a len xs) (hx : Bytes xs) (hl : len ≤ 1125899906842624) :
    Calls Tryd.prog 70 #[.slice a len cap] w fun e w' => e = .returned (.int .u32 (W (reg 0 xs))) ∧ w' = w := by
  obtain ⟨hlen, h⟩ := h
  have HE : Hid (hz xs (8 * len + 32) = reg 0 xs) := by rw [← hlen]; exact hz_end xs hx.mem
  have HL : Hid (xs.length = len) := hlen
  go_enter Tryd.func70, Tryd.ntmps70
  go_wp2
  go_loop [3, 4] (fun r i => ∃ k : Nat, k ≤ 8 * len + 32 ∧ i = .int .i64 k ∧ r = .int .u32 (W (hz xs k))) (fun _ i => 8 * len + 32 - (intOf i).toNat)
  case atStart => exact ⟨0, Nat.zero_le _, rfl, rfl⟩
  case round =>
    obtain ⟨k, hk, rfl, rfl⟩ := hrel
    by_cases hlt : k < 8 * len + 32
    · by_cases hin : k < 8 * len
      · obtain ⟨b, off, rfl, hbw, hc⟩ := h.resolve_left (by omega)
        have hcell := hc (k / 8) (by omega)
        have hxk := hx (k / 8) (by omega)
        have ht := u8_bit (xs[k / 8]?.getD 0) hxk.1 hxk.2 (k % 8)
        have hs := hz_at xs k (by omega)
        obtain ⟨T, hT⟩ : ∃ T, T = hz xs k := ⟨_, rfl⟩
        rw [← hT] at hs ⊢
        clear hc hx hlen hT
        by_cases hb : (xs[k / 8]?.getD 0) / (2 : Int) ^ (k % 8) % 2 = 1
        · have hc1 : (bits .and .u8 ((xs[k / 8]?.getD 0) / (2 : Int) ^ (k % 8)) 1 == 1) = true := by rw [ht, hb]; rfl
          rw [if_pos hb] at hs
          have HS : Hid (hz xs (k + 1) = tx T ^^^ one) := hs
          clear hs ht hb
          go_wp2_with (go_at_call 100; go_must (refine (rtimesX_c _ _).mono ?_); rintro e w' ⟨rfl, rfl⟩)
          go_round
          case rel => exact ⟨k + 1, by omega, by go_num, congrArg (Value.int .u32) (by rw [HS.out, W_lit _ 2147483648 one rfl])⟩
          case measure => simp [intOf]; omega
        · have hc1 : (bits .and .u8 ((xs[k / 8]?.getD 0) / (2 : Int) ^ (k % 8)) 1 == 1) = false := by rw [ht]; simpa using hb
          rw [if_neg hb] at hs
          have HS : Hid (hz xs (k + 1) = tx T) := hs.trans BitVec.xor_zero
          clear hs ht hb
          go_wp2_with (go_at_call 100; go_must (refine (rtimesX_c _ _).mono ?_); rintro e w' ⟨rfl, rfl⟩)
          go_round
          case rel => exact ⟨k + 1, by omega, by go_num, congrArg (Value.int .u32) (by rw [HS.out])⟩
          case measure => simp [intOf]; omega
      · have HS : Hid (hz xs (k + 1) = tx (hz xs k)) := hz_past xs k (by omega)
        obtain ⟨T, hT⟩ : ∃ T, T = hz xs k := ⟨_, rfl⟩
        rw [← hT] at HS ⊢
        clear h hx hlen hT
        go_wp2_with (go_at_call 100; go_must (refine (rtimesX_c _ _).mono ?_); rintro e w' ⟨rfl, rfl⟩)
        go_round
        case rel => exact ⟨k + 1, by omega, by go_num, congrArg (Value.int .u32) (by rw [HS.out])⟩
        case measure => simp [intOf]; omega
    · have hk' : k = 8 * len + 32 := by omega
      have HK : Hid (W (hz xs k) = W (reg 0 xs)) := by rw [hk']; exact congrArg W HE.out
      clear h hx hlen hk'
      go_wp2
      go_ret
      exact ⟨ret_int HK.out, rfl⟩

end Go.Proofs.YtcdgfghcmeadgaaDoor.Cr
namespace Go.Proofs.YtcdgfghcmeadgaaDoor.Cr
set_option linter.unusedVariables false
open Go.RowKit

theorem sum_is (xs : List Int) : (reg 0 xs ^^^ txn (8 * xs.length) ones) ^^^ ones = sum xs := by
  unfold sum
  rw [reg_zero ones xs, BitVec.xor_comm (reg 0 xs)]
  exact BitVec.xor_allOnes
theorem rsum_c (a : Option Addr) (len cap : Nat) (xs : List Int) (w : World) (hseg : Seg .u8 w a len xs) (hx : Bytes xs) (hl : len ≤ 1125899906842624) :
    Calls Tryd.prog 37 #[.slice a len cap] w fun e w' => e = .returned (.int .u32 (W (sum xs))) ∧ w' = w := by
  have HI := sum_is xs
  rw [hseg.1] at HI
  have CR := fun w' (h : Seg .u8 w' a len xs) => rem_c a len cap xs w' h hx hl
  have CM := fun w => rmul_c ones (pw (8 * len)) w
  rw [pw_mul] at CM
  have CP := fun w => rpower_c (8 * (len : Int)) (by omega) (by omega) w
  rw [show (8 * (len : Int)).toNat = 8 * len from by omega] at CP
  obtain ⟨P, hP⟩ : ∃ P, P = pw (8 * len) := ⟨_, rfl⟩
  obtain ⟨T, hT⟩ : ∃ T, T = txn (8 * len) ones := ⟨_, rfl⟩
  obtain ⟨R, hR⟩ : ∃ R, R = reg 0 xs := ⟨_, rfl⟩
  rw [← hP] at CP CM
  rw [← hT] at CM HI
  rw [← hR] at CR HI
  have HO : Hid ((4294967295 : Int) = W ones) := by show _ = _; decide +kernel
  rw [← HO.out] at CM
  have hx1 := W_xor R T
  have hx2 : bits .xor .u32 (W (R ^^^ T)) 4294967295 = W ((R ^^^ T) ^^^ ones) := W_lit _ 4294967295 ones HO.out
  rw [HI] at hx2
  obtain ⟨Z, hZ⟩ : ∃ Z, Z = sum xs := ⟨_, rfl⟩
  obtain ⟨Y, hY⟩ : ∃ Y, Y = R ^^^ T := ⟨_, rfl⟩
  rw [← hZ] at hx2 ⊢
  rw [← hY] at hx1 hx2
  replace CR : Hid _ := CR
  replace CM : Hid _ := CM
  replace CP : Hid _ := CP
  have HS : Hid (Seg .u8 w a len xs) := hseg
  clear hP hT hR hZ hY HI hseg hx
  go_enter Tryd.func37, Tryd.ntmps37
  go_wp2_with (first
    | (go_at_call 69; go_must (refine (CP.out _).mono ?_); rintro e w' ⟨rfl, rfl⟩)
    | (go_at_call 68; go_must (refine (CM.out _).mono ?_); rintro e w' ⟨rfl, rfl⟩)
    | (go_at_call 70; go_must (refine (CR.out _ HS.out).mono ?_); rintro e w' ⟨rfl, rfl⟩))
  go_ret
  exact ⟨rfl, rfl⟩

end Go.Proofs.YtcdgfghcmeadgaaDoor.Cr
