/-
  What crc.Tail and the document's Tail answer, called with whatever words. No condition.
-/
import Derived.Test.YtlfijnegmnploabDoorRows
import Derived.Test.YtlfijnegmnploabDoorLaidC
namespace Go.Proofs.YtlfijnegmnploabDoor
set_option linter.unusedVariables false
open Go.RowKit

theorem W_or1 (a : Wd) : bits .or .u32 (W (a <<< 1)) 1 = W ((a <<< 1) ||| 1#32) := by
  have h := u32_or (W (a <<< 1)) 1 (W_nn _) (W_lt _) (by decide) (by decide)
  rw [h]; unfold W; rw [BitVec.toNat_or]; rfl
theorem overX_c (a : Wd) (w : World) :
    Calls Tryd.prog 14 #[.int .u32 (W a)] w fun e w' => e = .returned (.int .u32 (W (ux a))) ∧ w' = w := by
  have hl := W_top a
  have hd := W_dbl a
  have hd2 := W_dbl (a ^^^ gen)
  have hx := W_lit a 2197175160 gen rfl
  have ho := W_or1 (a ^^^ gen)
  cases hb : a.msb with
  | false =>
    rw [hb] at hl
    have hc : (bits .and .u32 (W a) 2147483648 == 0) = true := by rw [hl]; rfl
    have HE : Hid (W a * (2 : Int) % (4294967296 : Int) = W (ux a)) := by rw [hd]; unfold ux; rw [hb]; rfl
    clear hl hd2 hx ho hb hd
    go_enter Tryd.func14, Tryd.ntmps14
    go_wp2
    go_ret
    exact ⟨ret_int HE.out, rfl⟩
  | true =>
    rw [hb] at hl
    have hc : (bits .and .u32 (W a) 2147483648 == 0) = false := by rw [hl]; rfl
    have HE : Hid (((a ^^^ gen) <<< 1) ||| 1#32 = ux a) := by unfold ux; rw [hb]; rfl
    rw [HE.out] at ho
    obtain ⟨X, hX⟩ : ∃ X, X = a ^^^ gen := ⟨_, rfl⟩
    obtain ⟨Y, hY⟩ : ∃ Y, Y = (a ^^^ gen) <<< 1 := ⟨_, rfl⟩
    obtain ⟨U, hU⟩ : ∃ U, U = ux a := ⟨_, rfl⟩
    rw [← hY] at ho hd2
    rw [← hX] at hx hd2
    rw [← hU] at ho ⊢
    clear hl hd hb HE hX hY hU
    go_enter Tryd.func14, Tryd.ntmps14
    go_wp2
    go_ret
    exact ⟨rfl, rfl⟩

/-- The four bytes that lead from one sum to another one. -/
def tail (c v : Wd) : Wd := uxn 32 (~~~ v) ^^^ ~~~ c
theorem tail_c (c v : Wd) (w : World) :
    Calls Tryd.prog 6 #[.int .u32 (W c), .int .u32 (W v)] w fun e w' => e = .returned (arr4 (tail c v)) ∧ Below w.heap.size w w' := by
  have hn := W_com c
  have hn2 := W_com v
  have hm := W_neg v
  go_enter Tryd.func6, Tryd.ntmps6
  go_wp2
  go_loop [5, 8] (fun r i => ∃ k : Nat, k ≤ 32 ∧ i = .int .i64 k ∧ r = .int .u32 (W (uxn k (~~~ v)))) (fun _ i => 32 - (intOf i).toNat)
  case atStart => exact ⟨0, Nat.zero_le _, rfl, rfl⟩
  case round =>
    obtain ⟨k, hk, rfl, rfl⟩ := hrel
    by_cases hlt : k < 32
    · go_wp2_with (go_at_call 14; go_must (refine (overX_c _ _).mono ?_); rintro e w' ⟨rfl, rfl⟩)
      go_round
      case rel => exact ⟨k + 1, by omega, by go_num, rfl⟩
      case measure => simp [intOf]; omega
    · obtain rfl : k = 32 := by omega
      have hx := W_xor (uxn 32 (~~~ v)) (~~~ c)
      rw [show uxn 32 (~~~ v) ^^^ ~~~ c = tail c v from rfl] at hx
      obtain ⟨T, hT⟩ : ∃ T, T = tail c v := ⟨_, rfl⟩
      rw [← hT] at hx
      have HT : Hid (T = tail c v) := hT
      clear hlt hk hn2 hT
      obtain ⟨b0, b1, b2, b3, hA, hB⟩ := arr4_ex T
      replace hA : Hid _ := hA
      go_wp2_with (go_at_call 15; go_must (refine (laid_c _ _).mono ?_); rintro e w2 ⟨rfl, hb2⟩; rw [hA.out]; have hv := var4 hb2 rfl; obtain ⟨c0, f0⟩ := hv 0 (by omega); obtain ⟨c1, f1⟩ := hv 1 (by omega); obtain ⟨c2, f2⟩ := hv 2 (by omega); obtain ⟨c3, f3⟩ := hv 3 (by omega); replace hb2 : Hid _ := hb2; clear hv)
      refine bodyPost_ret (v := .agg #[.int .u8 b0, .int .u8 b1, .int .u8 b2, .int .u8 b3]) (by simp [results, Tryd.results6, go_sem, c0, c1, c2, c3]) rfl ⟨?_, ?_⟩
      · rw [← hA.out, HT.out]
      · exact (((((((Below.refl _ _).alloc (Nat.le_refl _) _).trans (hb2.out.mono (by simp))).setCell (Nat.le_refl _) _).setCell (Nat.le_refl _) _).setCell (Nat.le_refl _) _).setCell (Nat.le_refl _) _)
theorem W_topbit (a : Wd) : W a / (2147483648 : Int) = (if a.msb then 1 else 0) := by
  have h := a.isLt
  have hm := BitVec.msb_eq_decide a
  rw [hm]
  unfold W
  by_cases hb : 2 ^ (32 - 1) ≤ a.toNat
  · simp only [hb, decide_true, if_true]; omega
  · simp only [hb, decide_false]; simp; omega
theorem rtail_c (c v : Wd) (w : World) :
    Calls Tryd.prog 7 #[.int .u32 (W c), .int .u32 (W v)] w fun e w' => e = .returned (arr4 (tail c v)) ∧ Below w.heap.size w w' := by
  have hn2 : bits .xor .u32 (W v) 4294967295 = W (~~~ v) := by
    rw [W_lit v 4294967295 (BitVec.allOnes 32) rfl, BitVec.xor_allOnes]
  go_enter Tryd.func7, Tryd.ntmps7
  go_wp2
  go_loop [5, 6] (fun r i => ∃ k : Nat, k ≤ 32 ∧ i = .int .i64 k ∧ r = .int .u32 (W (uxn k (~~~ v)))) (fun _ i => 32 - (intOf i).toNat)
  case atStart => exact ⟨0, Nat.zero_le _, rfl, rfl⟩
  case round =>
    obtain ⟨k, hk, rfl, rfl⟩ := hrel
    by_cases hlt : k < 32
    · obtain ⟨R, hR⟩ : ∃ R, R = uxn k (~~~ v) := ⟨_, rfl⟩
      have HE : Hid (uxn (k + 1) (~~~ v) = ux R) := by rw [hR]; exact rfl
      rw [← hR]
      have ht := W_topbit R
      have hd := W_dbl R
      have hd2 := W_dbl (R ^^^ gen)
      have hx := W_lit R 2197175160 gen rfl
      have ho := W_or1 (R ^^^ gen)
      clear hR hn2
      cases hb : R.msb with
      | true =>
        rw [hb] at ht
        have hc : (W R / (2147483648 : Int) == 1) = true := by rw [ht]; rfl
        rw [show ((R ^^^ gen) <<< 1) ||| 1#32 = ux R from by unfold ux; rw [hb]; rfl] at ho
        obtain ⟨X, hX⟩ : ∃ X, X = R ^^^ gen := ⟨_, rfl⟩
        obtain ⟨Y, hY⟩ : ∃ Y, Y = (R ^^^ gen) <<< 1 := ⟨_, rfl⟩
        obtain ⟨U, hU⟩ : ∃ U, U = ux R := ⟨_, rfl⟩
        rw [← hY] at ho hd2
        rw [← hX] at hx hd2
        rw [← hU] at ho HE
        clear ht hd hb hX hY hU
        go_wp2
        go_round
        case rel => exact ⟨k + 1, by omega, by go_num, congrArg (Value.int .u32) (by rw [HE.out])⟩
        case measure => simp [intOf]; omega
      | false =>
        rw [hb] at ht
        have hc : (W R / (2147483648 : Int) == 1) = false := by rw [ht]; rfl
        rw [show R <<< 1 = ux R from by unfold ux; rw [hb]; rfl] at hd
        obtain ⟨U, hU⟩ : ∃ U, U = ux R := ⟨_, rfl⟩
        rw [← hU] at hd HE
        clear ht hd2 hb hx ho hU
        go_wp2
        go_round
        case rel => exact ⟨k + 1, by omega, by go_num, congrArg (Value.int .u32) (by rw [HE.out, ← hd])⟩
        case measure => simp [intOf]; omega
    · obtain rfl : k = 32 := by omega
      have hx := W_xor (uxn 32 (~~~ v)) c
      have hx2 := W_lit (uxn 32 (~~~ v) ^^^ c) 4294967295 (BitVec.allOnes 32) rfl
      have e : (uxn 32 (~~~ v) ^^^ c) ^^^ BitVec.allOnes 32 = tail c v := by
        unfold tail; rw [BitVec.xor_assoc, BitVec.xor_allOnes]
      rw [e] at hx2
      obtain ⟨T, hT⟩ : ∃ T, T = tail c v := ⟨_, rfl⟩
      obtain ⟨Y, hY⟩ : ∃ Y, Y = uxn 32 (~~~ v) ^^^ c := ⟨_, rfl⟩
      rw [← hT] at hx2
      rw [← hY] at hx hx2
      have HT : Hid (T = tail c v) := hT
      obtain ⟨V, hV⟩ : ∃ V : Int, V = W T := ⟨_, rfl⟩
      have h0 := W_nn T
      have h1 := W_lt T
      rw [← hV] at h0 h1 hx2
      have HV : Hid (V = W T) := hV
      clear hlt hk hn2 hT hY e hV
      go_wp2
      refine bodyPost_ret (v := .agg #[.int .u8 (V % 256), .int .u8 (V / 256 % 256), .int .u8 (V / 65536 % 256), .int .u8 (V / 16777216)]) (by simp [results, Tryd.results7, go_sem]) rfl ⟨?_, (Below.refl _ _).alloc (Nat.le_refl _) _⟩
      rw [← HT.out, arr4_is T V HV.out]

end Go.Proofs.YtlfijnegmnploabDoor
