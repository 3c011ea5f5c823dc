/-
  What crc.Turned and the document's Turned answer, called with whatever word, numbers and byte. No condition.
-/
import Derived.Test.YtlfijnegmnploabRows
import Derived.Test.YtlfijnegmnploabMovC
import Derived.Test.YtlfijnegmnploabEigC
import Derived.Test.YtlfijnegmnploabRemC
import Derived.Below
namespace Go.Proofs.Ytlfijnegmnploab
set_option linter.unusedVariables false
open Go.RowKit

theorem byte_up (z : Int) (h0 : 0 ≤ z) (h1 : z < 256) : z * (16777216 : Int) = W (wb z <<< 24) := by
  obtain ⟨n, rfl⟩ := Int.eq_ofNat_of_zero_le h0
  unfold W
  rw [wb_nat, BitVec.toNat_shiftLeft, BitVec.toNat_ofNat, Nat.shiftLeft_eq]
  omega
theorem byte_word (z : Int) (h0 : 0 ≤ z) (h1 : z < 256) : z = W (wb z) := by
  obtain ⟨n, rfl⟩ := Int.eq_ofNat_of_zero_le h0
  unfold W
  rw [wb_nat, BitVec.toNat_ofNat]
  omega
/-- What both answer of a place within. -/
def turned (c : Wd) (m : Nat) (z : Int) : Wd := c ^^^ txn (8 * m) (txn 8 (wb z))
theorem turned_is (c : Wd) (m : Nat) (z : Int) (h0 : 0 ≤ z) (h1 : z < 256) : c ^^^ txn (8 * (m + 4)) (wb z <<< 24) = turned c m z := by
  obtain ⟨n, rfl⟩ := Int.eq_ofNat_of_zero_le h0
  unfold turned
  rw [Nat.mul_add, txn_add, wb_up n (by omega)]

theorem turned_c (c : Wd) (size at' z : Int) (hs1 : size ≤ 9223372036854775807) (ha0 : 0 ≤ at') (ha1 : at' < size) (h0 : 0 ≤ z) (h1 : z < 256) (w : World) :
    Calls Try.prog 9 #[.int .u32 (W c), .int .i64 size, .int .i64 at', .int .u8 z] w fun e w' => e = .returned (.tuple #[.int .u32 (W (turned c (size - 1 - at').toNat z)), .int .i64 0]) ∧ w' = w := by
  have HT := turned_is c (size - 1 - at').toNat z h0 h1
  have HB := byte_up z h0 h1
  have HC := fun w => moved_c (wb z <<< 24) (size - 1 - at' + 4) (by omega) (by omega) w
  rw [show (size - 1 - at' + 4).toNat = (size - 1 - at').toNat + 4 from by omega] at HC
  obtain ⟨T, hT⟩ : ∃ T, T = txn (8 * ((size - 1 - at').toNat + 4)) (wb z <<< 24) := ⟨_, rfl⟩
  rw [← hT] at HC HT
  rw [← HT]
  obtain ⟨U, hU⟩ : ∃ U, U = wb z <<< 24 := ⟨_, rfl⟩
  rw [← hU] at HC HB
  replace HC : Hid _ := HC
  clear HT hT hU
  go_enter Try.func9, Try.ntmps9
  go_wp2_with (go_at_call 13; go_must (refine (HC.out _).mono ?_); rintro e w' ⟨rfl, rfl⟩)
  go_ret2
  rw [W_xor]
  exact ⟨rfl, rfl⟩
theorem turned_neg (c : Wd) (size at' z : Int) (hs : size < 0) (w : World) :
    Calls Try.prog 9 #[.int .u32 (W c), .int .i64 size, .int .i64 at', .int .u8 z] w fun e w' => e = .returned (.tuple #[.int .u32 0, .int .i64 1]) ∧ w' = w := by
  go_enter Try.func9, Try.ntmps9
  go_wp2
  go_ret2
  exact ⟨rfl, rfl⟩
theorem turned_out (c : Wd) (size at' z : Int) (hs : 0 ≤ size) (ha : at' < 0 ∨ size ≤ at') (w : World) :
    Calls Try.prog 9 #[.int .u32 (W c), .int .i64 size, .int .i64 at', .int .u8 z] w fun e w' => e = .returned (.tuple #[.int .u32 0, .int .i64 20]) ∧ w' = w := by
  go_enter Try.func9, Try.ntmps9
  rcases ha with ha | ha
  all_goals go_wp2
  all_goals go_ret2
  all_goals exact ⟨rfl, rfl⟩

theorem rturned_c (c : Wd) (size at' z : Int) (hs1 : size ≤ 9223372036854775807) (ha0 : 0 ≤ at') (ha1 : at' < size) (h0 : 0 ≤ z) (h1 : z < 256) (w : World) :
    Calls Try.prog 10 #[.int .u32 (W c), .int .i64 size, .int .i64 at', .int .u8 z] w fun e w' => e = .returned (.tuple #[.int .u32 (W (turned c (size - 1 - at').toNat z)), .int .i64 0]) ∧ Below w.heap.size w w' := by
  have HR : Hid (reg 0 [z] = txn 8 (wb z)) := by
    show txn 8 (0 ^^^ wb z) = _
    rw [show (0 : Wd) ^^^ wb z = wb z from BitVec.zero_xor]
  have HE := pw_mul (txn 8 (wb z)) (8 * (size - 1 - at').toNat)
  have HC := fun w => eights_c (size - 1 - at') (by omega) (by omega) w
  have HM := fun w => rmul_c (txn 8 (wb z)) (pw (8 * (size - 1 - at').toNat)) w
  rw [HE] at HM
  have HX : Hid (c ^^^ txn (8 * (size - 1 - at').toNat) (txn 8 (wb z)) = turned c (size - 1 - at').toNat z) := rfl
  have HY : Hid (Bytes [z]) := bytes_of_mem (by intro y hy; rw [List.mem_singleton] at hy; rw [hy]; exact ⟨h0, h1⟩)
  obtain ⟨T, hT⟩ : ∃ T, T = txn (8 * (size - 1 - at').toNat) (txn 8 (wb z)) := ⟨_, rfl⟩
  obtain ⟨P, hP⟩ : ∃ P, P = pw (8 * (size - 1 - at').toNat) := ⟨_, rfl⟩
  obtain ⟨M, hM⟩ : ∃ M, M = txn 8 (wb z) := ⟨_, rfl⟩
  obtain ⟨U, hU⟩ : ∃ U, U = turned c (size - 1 - at').toNat z := ⟨_, rfl⟩
  rw [← hT] at HM HX
  rw [← hP] at HC HM
  rw [← hM] at HM HR
  rw [← hU] at HX ⊢
  clear hT hP HE hM hU
  replace HC : Hid _ := HC
  replace HM : Hid _ := HM
  go_enter Try.func10, Try.ntmps10
  go_wp2_with (first
    | (go_at_call 15; refine (rem_c _ 1 1 [z] _ ?_ HY.out (by omega)).mono ?_; exact seg_new _ _ _ _ _ _ rfl rfl; rintro e w' ⟨rfl, rfl⟩; rw [HR.out])
    | (go_at_call 14; go_must (refine (HC.out _).mono ?_); rintro e w' ⟨rfl, rfl⟩)
    | (go_at_call 12; go_must (refine (HM.out _).mono ?_); rintro e w' ⟨rfl, rfl⟩))
  go_ret2
  rw [W_xor, HX.out]
  exact ⟨rfl, (Below.refl _ _).alloc (Nat.le_refl _) _⟩
theorem rturned_neg (c : Wd) (size at' z : Int) (hs : size < 0) (w : World) :
    Calls Try.prog 10 #[.int .u32 (W c), .int .i64 size, .int .i64 at', .int .u8 z] w fun e w' => e = .returned (.tuple #[.int .u32 0, .int .i64 1]) ∧ w' = w := by
  go_enter Try.func10, Try.ntmps10
  go_wp2
  go_ret2
  exact ⟨rfl, rfl⟩
theorem rturned_out (c : Wd) (size at' z : Int) (hs : 0 ≤ size) (ha : at' < 0 ∨ size ≤ at') (w : World) :
    Calls Try.prog 10 #[.int .u32 (W c), .int .i64 size, .int .i64 at', .int .u8 z] w fun e w' => e = .returned (.tuple #[.int .u32 0, .int .i64 20]) ∧ w' = w := by
  go_enter Try.func10, Try.ntmps10
  rcases ha with ha | ha
  all_goals go_wp2
  all_goals go_ret2
  all_goals exact ⟨rfl, rfl⟩

end Go.Proofs.Ytlfijnegmnploab
