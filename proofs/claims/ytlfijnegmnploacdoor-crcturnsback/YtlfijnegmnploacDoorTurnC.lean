/-
  What crc.Turned answers, called with whatever word, numbers and byte. No condition.
-/
import Derived.Test.YtlfijnegmnploacDoorRows
import Derived.Test.YtlfijnegmnploacDoorMovC
import Derived.Test.YtlfijnegmnploacDoorReg
namespace Go.Proofs.YtlfijnegmnploacDoor
set_option linter.unusedVariables false
open Go.RowKit

theorem byte_up (z : Int) (h0 : 0 ≤ z) (h1 : z < 256) : z * (16777216 : Int) = W (wb z <<< 24) := by
  obtain ⟨n, rfl⟩ := Int.eq_ofNat_of_zero_le h0
  unfold W
  rw [wb_nat, BitVec.toNat_shiftLeft, BitVec.toNat_ofNat, Nat.shiftLeft_eq]
  omega
theorem byte_word (z : Int) (h0 : 0 ≤ z) (h1 : z < 256) : z = W (wb z) := by
  obtain ⟨n, rfl⟩ := Int.eq_ofNat_of_zero_le h0
  unfold W
  rw [wb_nat, BitVec.toNat_ofNat]
  omega
/-- What both answer of a place within. -/
def turned (c : Wd) (m : Nat) (z : Int) : Wd := c ^^^ txn (8 * m) (txn 8 (wb z))
theorem turned_is (c : Wd) (m : Nat) (z : Int) (h0 : 0 ≤ z) (h1 : z < 256) : c ^^^ txn (8 * (m + 4)) (wb z <<< 24) = turned c m z := by
  obtain ⟨n, rfl⟩ := Int.eq_ofNat_of_zero_le h0
  unfold turned
  rw [Nat.mul_add, txn_add, wb_up n (by omega)]

theorem turned_c (c : Wd) (size at' z : Int) (hs1 : size ≤ 9223372036854775807) (ha0 : 0 ≤ at') (ha1 : at' < size) (h0 : 0 ≤ z) (h1 : z < 256) (w : World) :
    Calls Tryd.prog 16 #[.int .u32 (W c), .int .i64 size, .int .i64 at', .int .u8 z] w fun e w' => e = .returned (.tuple #[.int .u32 (W (turned c (size - 1 - at').toNat z)), .int .i64 0]) ∧ w' = w := by
  have HT := turned_is c (size - 1 - at').toNat z h0 h1
  have HB := byte_up z h0 h1
  have HC := fun w => moved_c (wb z <<< 24) (size - 1 - at' + 4) (by omega) (by omega) w
  rw [show (size - 1 - at' + 4).toNat = (size - 1 - at').toNat + 4 from by omega] at HC
  obtain ⟨T, hT⟩ : ∃ T, T = txn (8 * ((size - 1 - at').toNat + 4)) (wb z <<< 24) := ⟨_, rfl⟩
  rw [← hT] at HC HT
  rw [← HT]
  obtain ⟨U, hU⟩ : ∃ U, U = wb z <<< 24 := ⟨_, rfl⟩
  rw [← hU] at HC HB
  replace HC : Hid _ := HC
  clear HT hT hU
  go_enter Tryd.func16, Tryd.ntmps16
  go_wp2_with (go_at_call 21; go_must (refine (HC.out _).mono ?_); rintro e w' ⟨rfl, rfl⟩)
  go_ret2
  rw [W_xor]
  exact ⟨rfl, rfl⟩
theorem turned_neg (c : Wd) (size at' z : Int) (hs : size < 0) (w : World) :
    Calls Tryd.prog 16 #[.int .u32 (W c), .int .i64 size, .int .i64 at', .int .u8 z] w fun e w' => e = .returned (.tuple #[.int .u32 0, .int .i64 1]) ∧ w' = w := by
  go_enter Tryd.func16, Tryd.ntmps16
  go_wp2
  go_ret2
  exact ⟨rfl, rfl⟩
theorem turned_out (c : Wd) (size at' z : Int) (hs : 0 ≤ size) (ha : at' < 0 ∨ size ≤ at') (w : World) :
    Calls Tryd.prog 16 #[.int .u32 (W c), .int .i64 size, .int .i64 at', .int .u8 z] w fun e w' => e = .returned (.tuple #[.int .u32 0, .int .i64 20]) ∧ w' = w := by
  go_enter Tryd.func16, Tryd.ntmps16
  rcases ha with ha | ha
  all_goals go_wp2
  all_goals go_ret2
  all_goals exact ⟨rfl, rfl⟩

end Go.Proofs.YtlfijnegmnploacDoor
