/-
  What the document's rem answers: the long division of whatever bytes that can be read. Condition: they are at most 2^50 bytes.
-/
import Derived.Test.YtegbgmihcokblaaDoorRows
import Derived.Test.YtegbgmihcokblaaDoorRMulC
import Derived.Test.YtegbgmihcokblaaDoorFa
namespace Go.Proofs.YtegbgmihcokblaaDoor
set_option linter.unusedVariables false
open Go.RowKit

theorem u8_bit (z : Int) (h0 : 0 ≤ z) (h1 : z < 256) (j : Nat) : bits .and .u8 (z / (2 : Int) ^ j) 1 = z / (2 : Int) ^ j % 2 := by
  have h2 : 0 ≤ z / (2 : Int) ^ j := Int.ediv_nonneg h0 (Int.le_of_lt (Int.pow_pos (by decide)))
  have h3 : z / (2 : Int) ^ j < 256 := Int.lt_of_le_of_lt (Int.ediv_le_self _ h0) h1
  have h := u8_and (z / (2 : Int) ^ j) 1 h2 h3 (by decide) (by decide)
  rw [h, show (1 : Int).toNat = 1 from rfl, Nat.and_one_is_mod]; omega
theorem hz_at (xs : List Int) (i : Nat) (h : i < 8 * xs.length) : hz xs (i + 1) = tx (hz xs i) ^^^ (if (xs[i / 8]?.getD 0) / 2 ^ (i % 8) % 2 = 1 then one else 0) := by
  rw [hz_succ]
  congr 1
  have e : xs.getD (i / 8) 0 = xs[i / 8]?.getD 0 := by simp [List.getD]
  rw [e]
  simp [h]
theorem hz_past (xs : List Int) (i : Nat) (h : ¬ i < 8 * xs.length) : hz xs (i + 1) = tx (hz xs i) := by
  rw [hz_succ, if_neg (fun hh => h hh.1)]
  exact BitVec.xor_zero

theorem rem_c (a : Option Addr) (len cap : Nat) (xs : List Int) (w : World) (h : Seg .u8 w a len xs) (hx : Bytes xs) (hl : len ≤ 1125899906842624) :
    Calls Tryd.prog 65 #[.slice a len cap] w fun e w' => e = .returned (.int .u32 (W (reg 0 xs))) ∧ w' = w := by
  obtain ⟨hlen, h⟩ := h
  have HE : Hid (hz xs (8 * len + 32) = reg 0 xs) := by rw [← hlen]; exact hz_end xs hx.mem
  have HL : Hid (xs.length = len) := hlen
  go_enter Tryd.func65, Tryd.ntmps65
  go_wp2
  go_loop [3, 4] (fun r i => ∃ k : Nat, k ≤ 8 * len + 32 ∧ i = .int .i64 k ∧ r = .int .u32 (W (hz xs k))) (fun _ i => 8 * len + 32 - (intOf i).toNat)
  case atStart => exact ⟨0, Nat.zero_le _, rfl, rfl⟩
  case round =>
    obtain ⟨k, hk, rfl, rfl⟩ := hrel
    by_cases hlt : k < 8 * len + 32
    · by_cases hin : k < 8 * len
      · obtain ⟨b, off, rfl, hbw, hc⟩ := h.resolve_left (by omega)
        have hcell := hc (k / 8) (by omega)
        have hxk := hx (k / 8) (by omega)
        have ht := u8_bit (xs[k / 8]?.getD 0) hxk.1 hxk.2 (k % 8)
        have hs := hz_at xs k (by omega)
        obtain ⟨T, hT⟩ : ∃ T, T = hz xs k := ⟨_, rfl⟩
        rw [← hT] at hs ⊢
        clear hc hx hlen hT
        by_cases hb : (xs[k / 8]?.getD 0) / (2 : Int) ^ (k % 8) % 2 = 1
        · have hc1 : (bits .and .u8 ((xs[k / 8]?.getD 0) / (2 : Int) ^ (k % 8)) 1 == 1) = true := by rw [ht, hb]; rfl
          rw [if_pos hb] at hs
          have HS : Hid (hz xs (k + 1) = tx T ^^^ one) := hs
          clear hs ht hb
          go_wp2_with (go_at_call 68; go_must (refine (rtimesX_c _ _).mono ?_); rintro e w' ⟨rfl, rfl⟩)
          go_round
          case rel => exact ⟨k + 1, by omega, by go_num, congrArg (Value.int .u32) (by rw [HS.out, W_lit _ 2147483648 one rfl])⟩
          case measure => simp [intOf]; omega
        · have hc1 : (bits .and .u8 ((xs[k / 8]?.getD 0) / (2 : Int) ^ (k % 8)) 1 == 1) = false := by rw [ht]; simpa using hb
          rw [if_neg hb] at hs
          have HS : Hid (hz xs (k + 1) = tx T) := hs.trans BitVec.xor_zero
          clear hs ht hb
          go_wp2_with (go_at_call 68; go_must (refine (rtimesX_c _ _).mono ?_); rintro e w' ⟨rfl, rfl⟩)
          go_round
          case rel => exact ⟨k + 1, by omega, by go_num, congrArg (Value.int .u32) (by rw [HS.out])⟩
          case measure => simp [intOf]; omega
      · have HS : Hid (hz xs (k + 1) = tx (hz xs k)) := hz_past xs k (by omega)
        obtain ⟨T, hT⟩ : ∃ T, T = hz xs k := ⟨_, rfl⟩
        rw [← hT] at HS ⊢
        clear h hx hlen hT
        go_wp2_with (go_at_call 68; go_must (refine (rtimesX_c _ _).mono ?_); rintro e w' ⟨rfl, rfl⟩)
        go_round
        case rel => exact ⟨k + 1, by omega, by go_num, congrArg (Value.int .u32) (by rw [HS.out])⟩
        case measure => simp [intOf]; omega
    · have hk' : k = 8 * len + 32 := by omega
      have HK : Hid (W (hz xs k) = W (reg 0 xs)) := by rw [hk']; exact congrArg W HE.out
      clear h hx hlen hk'
      go_wp2
      go_ret
      exact ⟨ret_int HK.out, rfl⟩

end Go.Proofs.YtegbgmihcokblaaDoor
