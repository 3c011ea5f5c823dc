/-
  What the document's timesX and Mul answer, called with whatever words. No condition.
-/
import Derived.Test.YtegbgmihcokblaaDoorRows
import Derived.Test.YtegbgmihcokblaaDoorFa
namespace Go.Proofs.YtegbgmihcokblaaDoor
set_option linter.unusedVariables false
open Go.RowKit

theorem rtimesX_c (a : Wd) (w : World) :
    Calls Tryd.prog 68 #[.int .u32 (W a)] w fun e w' => e = .returned (.int .u32 (W (tx a))) ∧ w' = w := by
  have h0 := W_nn a
  have h1 := W_lt a
  have hl := W_low a
  have hh := W_half a
  cases hb : a.getLsbD 0 with
  | false =>
    rw [hb] at hl
    have hc : (bits .and .u32 (W a) 1 == 1) = false := by rw [hl]; rfl
    clear hl
    go_enter Tryd.func68, Tryd.ntmps68
    go_wp2
    go_ret
    exact ⟨ret_int (by unfold tx; rw [hb]; rfl), rfl⟩
  | true =>
    rw [hb] at hl
    have hc : (bits .and .u32 (W a) 1 == 1) = true := by rw [hl]; rfl
    clear hl
    go_enter Tryd.func68, Tryd.ntmps68
    go_wp2
    go_ret
    exact ⟨ret_int (by rw [W_lit _ 2197175160 gen rfl]; unfold tx; rw [hb]; rfl), rfl⟩

theorem rmul_c (a b : Wd) (w : World) :
    Calls Tryd.prog 63 #[.int .u32 (W a), .int .u32 (W b)] w fun e w' => e = .returned (.int .u32 (W (mul b a))) ∧ w' = w := by
  go_enter Tryd.func63, Tryd.ntmps63
  go_wp2
  go_loop [0, 5, 6] (fun x s i => ∃ (k : Nat) (A S : Wd), k ≤ 32 ∧ i = .int .i64 ((k : Int) - 1) ∧ x = .int .u32 (W A) ∧ s = .int .u32 (W S) ∧ Hid (ms k (b <<< (32 - k)) A S = mul b a)) (fun _ _ i => (intOf i + 1).toNat)
  case atStart => exact ⟨32, a, 0, Nat.le_refl _, rfl, rfl, rfl, by show Hid (ms 32 (b <<< 0) a 0 = _); rw [BitVec.shiftLeft_zero]; exact rfl⟩
  case round =>
    obtain ⟨k, A, S, hk, rfl, rfl, rfl, hm⟩ := hrel
    have h0 := W_nn A
    have h1 := W_lt A
    have h2 := W_nn b
    have h3 := W_lt b
    have h4 := W_nn S
    have h5 := W_lt S
    have HX : Hid (bits .xor .u32 (W S) (W A) = W (S ^^^ A)) := W_xor S A
    cases k with
    | zero =>
      go_wp2
      go_ret
      exact ⟨ret_int (by have := hm.out; rw [← this]; rfl), rfl⟩
    | succ k =>
      have hm' := hm.out
      clear hm
      unfold ms at hm'
      have hs : b <<< (32 - (k + 1)) <<< 1 = b <<< (32 - k) := by
        rw [← BitVec.shiftLeft_add]; congr 1; omega
      have hb : (b <<< (32 - (k + 1))).msb = b.getLsbD k := by
        rw [BitVec.msb_eq_getLsbD_last, BitVec.getLsbD_shiftLeft]
        rw [show 32 - 1 - (32 - (k + 1)) = k from by omega]
        simp
      rw [hs, hb] at hm'
      clear hs hb
      have ht := W_bit b k (by omega)
      obtain ⟨K, hK⟩ : ∃ K : Int, K = ((k + 1 : Nat) : Int) - 1 := ⟨_, rfl⟩
      have K0 : 0 ≤ K := by omega
      have K1 : K ≤ 31 := by omega
      rw [← hK]
      have hT : k = K.toNat := by omega
      rw [hT] at ht
      have HK : Hid (K = ((k + 1 : Nat) : Int) - 1) := hK
      clear hK hT hk
      cases hb : b.getLsbD k with
      | false =>
        have HM : Hid (ms k (b <<< (32 - k)) (tx A) S = mul b a) := by rw [hb] at hm'; exact hm'
        have hc : (bits .and .u32 (W b / (2 : Int) ^ K.toNat) 1 == 1) = false := by rw [ht, ← show k = K.toNat from by have := HK.out; omega, hb]; rfl
        clear hm' ht hb
        go_wp2_with (go_at_call 68; go_must (refine (rtimesX_c _ _).mono ?_); rintro e w' ⟨rfl, rfl⟩)
        go_round
        case rel => exact ⟨k, tx A, S, by have := HK.out; omega, congrArg (Value.int .i64) (by have := HK.out; omega), rfl, rfl, HM⟩
        case measure => simp [intOf]; omega
      | true =>
        have HM : Hid (ms k (b <<< (32 - k)) (tx A) (S ^^^ A) = mul b a) := by rw [hb] at hm'; exact hm'
        have hc : (bits .and .u32 (W b / (2 : Int) ^ K.toNat) 1 == 1) = true := by rw [ht, ← show k = K.toNat from by have := HK.out; omega, hb]; rfl
        clear hm' ht hb
        go_wp2_with (go_at_call 68; go_must (refine (rtimesX_c _ _).mono ?_); rintro e w' ⟨rfl, rfl⟩)
        go_round
        case rel => exact ⟨k, tx A, S ^^^ A, by have := HK.out; omega, congrArg (Value.int .i64) (by have := HK.out; omega), rfl, congrArg (Value.int .u32) HX.out, HM⟩
        case measure => simp [intOf]; omega

end Go.Proofs.YtegbgmihcokblaaDoor
