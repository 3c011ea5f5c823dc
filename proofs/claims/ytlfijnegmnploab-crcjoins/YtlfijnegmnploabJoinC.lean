/-
  What crc.Join and the document's Join answer, called with whatever words and number. No condition.
-/
import Derived.Test.YtlfijnegmnploabRows
import Derived.Test.YtlfijnegmnploabMovC
import Derived.Test.YtlfijnegmnploabEigC
namespace Go.Proofs.Ytlfijnegmnploab
set_option linter.unusedVariables false
open Go.RowKit

theorem join_c (a b : Wd) (n : Int) (h0 : 0 ≤ n) (h1 : n ≤ 9223372036854775807) (w : World) :
    Calls Try.prog 6 #[.int .u32 (W a), .int .u32 (W b), .int .i64 n] w fun e w' => e = .returned (.tuple #[.int .u32 (W (txn (8 * n.toNat) a ^^^ b)), .int .i64 0]) ∧ w' = w := by
  have hc : decide (n < 0) = false := by simpa using h0
  obtain ⟨T, hT⟩ : ∃ T, T = txn (8 * n.toNat) a := ⟨_, rfl⟩
  have HC := fun w => moved_c a n h0 (by omega) w
  rw [← hT] at HC ⊢
  clear hT
  have HC : Hid _ := HC
  go_enter Try.func6, Try.ntmps6
  go_wp2_with (go_at_call 13; go_must (refine (HC.out _).mono ?_); rintro e w' ⟨rfl, rfl⟩)
  go_ret2
  rw [W_xor]
  exact ⟨rfl, rfl⟩
theorem join_neg (a b : Wd) (n : Int) (h0 : n < 0) (h1 : -9223372036854775808 ≤ n) (w : World) :
    Calls Try.prog 6 #[.int .u32 (W a), .int .u32 (W b), .int .i64 n] w fun e w' => e = .returned (.tuple #[.int .u32 0, .int .i64 1]) ∧ w' = w := by
  go_enter Try.func6, Try.ntmps6
  go_wp2
  go_ret2
  exact ⟨rfl, rfl⟩
theorem rjoin_c (a b : Wd) (n : Int) (h0 : 0 ≤ n) (h1 : n ≤ 9223372036854775807) (w : World) :
    Calls Try.prog 7 #[.int .u32 (W a), .int .u32 (W b), .int .i64 n] w fun e w' => e = .returned (.tuple #[.int .u32 (W (txn (8 * n.toNat) a ^^^ b)), .int .i64 0]) ∧ w' = w := by
  have hc : decide (n < 0) = false := by simpa using h0
  have HE := pw_mul a (8 * n.toNat)
  have HC := fun w => eights_c n h0 h1 w
  have HM := fun w => rmul_c a (pw (8 * n.toNat)) w
  rw [HE] at HM
  obtain ⟨T, hT⟩ : ∃ T, T = txn (8 * n.toNat) a := ⟨_, rfl⟩
  obtain ⟨P, hP⟩ : ∃ P, P = pw (8 * n.toNat) := ⟨_, rfl⟩
  rw [← hT] at HM ⊢
  rw [← hP] at HC HM
  clear hT hP HE
  have HC : Hid _ := HC
  have HM : Hid _ := HM
  go_enter Try.func7, Try.ntmps7
  go_wp2_with (first
    | (go_at_call 14; go_must (refine (HC.out _).mono ?_); rintro e w' ⟨rfl, rfl⟩)
    | (go_at_call 12; go_must (refine (HM.out _).mono ?_); rintro e w' ⟨rfl, rfl⟩))
  go_ret2
  rw [W_xor]
  exact ⟨rfl, rfl⟩
theorem rjoin_neg (a b : Wd) (n : Int) (h0 : n < 0) (h1 : -9223372036854775808 ≤ n) (w : World) :
    Calls Try.prog 7 #[.int .u32 (W a), .int .u32 (W b), .int .i64 n] w fun e w' => e = .returned (.tuple #[.int .u32 0, .int .i64 1]) ∧ w' = w := by
  go_enter Try.func7, Try.ntmps7
  go_wp2
  go_ret2
  exact ⟨rfl, rfl⟩

end Go.Proofs.Ytlfijnegmnploab
