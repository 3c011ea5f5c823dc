/-
  What crc.timesX and crc.Mul answer, called with whatever words. No condition.
-/
import Derived.Test.YtbfbehjldloeoaaDoorRows
import Derived.Test.YtbfbehjldloeoaaDoorFa
namespace Go.Proofs.YtbfbehjldloeoaaDoor
set_option linter.unusedVariables false
open Go.RowKit

theorem timesX_c (a : Wd) (w : World) :
    Calls Tryd.prog 47 #[.int .u32 (W a)] w fun e w' => e = .returned (.int .u32 (W (tx a))) ∧ w' = w := by
  have h0 := W_nn a
  have h1 := W_lt a
  have hl := W_low a
  have hh := W_half a
  cases hb : a.getLsbD 0 with
  | false =>
    rw [hb] at hl
    have hc : (bits .and .u32 (W a) 1 == 0) = true := by rw [hl]; rfl
    clear hl
    go_enter Tryd.func47, Tryd.ntmps47
    go_wp2
    go_ret
    exact ⟨ret_int (by unfold tx; rw [hb]; rfl), rfl⟩
  | true =>
    rw [hb] at hl
    have hc : (bits .and .u32 (W a) 1 == 0) = false := by rw [hl]; rfl
    clear hl
    go_enter Tryd.func47, Tryd.ntmps47
    go_wp2
    go_ret
    exact ⟨ret_int (by rw [W_lit _ 2197175160 gen rfl]; unfold tx; rw [hb]; rfl), rfl⟩
theorem mul_c (a b : Wd) (w : World) :
    Calls Tryd.prog 45 #[.int .u32 (W a), .int .u32 (W b)] w fun e w' => e = .returned (.int .u32 (W (mul a b))) ∧ w' = w := by
  go_enter Tryd.func45, Tryd.ntmps45
  go_wp2
  go_loop [0, 1, 5] (fun x y s => ∃ (k : Nat) (A B S : Wd), x = .int .u32 (W A) ∧ y = .int .u32 (W B) ∧ s = .int .u32 (W S) ∧ Hid (A <<< k = 0) ∧ Hid (ms k A B S = mul a b)) (fun x _ _ => cnt 32 (BitVec.ofInt 32 (intOf x)))
  case atStart => exact ⟨32, a, b, 0, rfl, rfl, rfl, by apply BitVec.eq_of_getLsbD_eq; intro i hi; simp, rfl⟩
  case round =>
    obtain ⟨k, A, B, S, rfl, rfl, rfl, hk, hm⟩ := hrel
    have h0 := W_nn A
    have h1 := W_lt A
    have h2 := W_nn B
    have h3 := W_lt B
    have h4 := W_nn S
    have h5 := W_lt S
    have HD : Hid (W A * (2 : Int) % (4294967296 : Int) = W (A <<< 1)) := W_dbl A
    have HX : Hid (bits .xor .u32 (W S) (W B) = W (S ^^^ B)) := W_xor S B
    by_cases hz : A = 0
    · have hc : (W A != 0) = false := by rw [(W_zero A).2 hz]; rfl
      have HZ : Hid (A = 0) := hz
      clear hz
      go_wp2
      go_ret
      exact ⟨ret_int (by have := hm.out; rw [HZ.out, ms_nil] at this; rw [this]), rfl⟩
    · have hc : (W A != 0) = true := by
        have : W A ≠ 0 := fun h => hz ((W_zero A).1 h)
        simpa using this
      have HZ : Hid (A ≠ 0) := hz
      clear hz
      obtain ⟨k', rfl⟩ : ∃ k', k = k' + 1 := by
        cases k with
        | zero => exact absurd (show A = 0 by simpa using hk.out) HZ.out
        | succ k => exact ⟨k, rfl⟩
      have HK : Hid (A <<< 1 <<< k' = 0) := by
        have := hk.out; rw [Nat.add_comm, BitVec.shiftLeft_add] at this; exact this
      have hm' := hm.out
      unfold ms at hm'
      have ht := W_top A
      cases hb : A.msb with
      | false =>
        rw [hb] at hm' ht
        have hc2 : (bits .and .u32 (W A) 2147483648 != 0) = false := by rw [ht]; rfl
        have HM : Hid (ms k' (A <<< 1) (tx B) S = mul a b) := hm'
        clear hm' ht hm hb
        go_wp2_with (go_at_call 47; go_must (refine (timesX_c _ _).mono ?_); rintro e w' ⟨rfl, rfl⟩)
        go_round
        case rel => exact ⟨k', A <<< 1, tx B, S, congrArg (Value.int .u32) HD.out, rfl, rfl, HK, HM⟩
        case measure => simp only [intOf]; rw [HD.out, ofI_W, ofI_W]; exact cnt_less A HZ.out
      | true =>
        rw [hb] at hm' ht
        have hc2 : (bits .and .u32 (W A) 2147483648 != 0) = true := by rw [ht]; rfl
        have HM : Hid (ms k' (A <<< 1) (tx B) (S ^^^ B) = mul a b) := hm'
        clear hm' ht hm hb
        go_wp2_with (go_at_call 47; go_must (refine (timesX_c _ _).mono ?_); rintro e w' ⟨rfl, rfl⟩)
        go_round
        case rel => exact ⟨k', A <<< 1, tx B, S ^^^ B, congrArg (Value.int .u32) HD.out, rfl, congrArg (Value.int .u32) HX.out, HK, HM⟩
        case measure => simp only [intOf]; rw [HD.out, ofI_W, ofI_W]; exact cnt_less A HZ.out

end Go.Proofs.YtbfbehjldloeoaaDoor
