/-
  What crc.Zeros and the document's Zeros answer, called with whatever word and number. No condition.
-/
import Derived.Test.YtlfijnegmnploaaDoorRows
import Derived.Test.YtlfijnegmnploaaDoorMovC
import Derived.Test.YtlfijnegmnploaaDoorEigC
import Derived.Test.YtlfijnegmnploaaDoorReg
namespace Go.Proofs.YtlfijnegmnploaaDoor
set_option linter.unusedVariables false
open Go.RowKit

def zeros (c : Wd) (n : Nat) : Wd := ~~~ (txn (8 * n) (~~~ c))
theorem zeros_reg (c : Wd) (n : Nat) : ~~~ (reg (~~~ c) (List.replicate n 0)) = zeros c n := by
  have : ∀ (n : Nat) (r : Wd), reg r (List.replicate n 0) = txn (8 * n) r := by
    intro n
    induction n with
    | zero => intro r; rfl
    | succ n ih =>
      intro r
      rw [List.replicate_succ, reg_cons, ih, Nat.mul_succ, txn_add]
      congr 1
      show txn 8 (r ^^^ wb 0) = txn 8 r
      rw [show wb 0 = 0#32 from by decide]
      congr 1
      exact BitVec.xor_zero
  unfold zeros
  rw [this]
theorem zeros_c (c : Wd) (n : Int) (h0 : 0 ≤ n) (h1 : n ≤ 9223372036854775807) (w : World) :
    Calls Tryd.prog 17 #[.int .u32 (W c), .int .i64 n] w fun e w' => e = .returned (.tuple #[.int .u32 (W (zeros c n.toNat)), .int .i64 0]) ∧ w' = w := by
  have hc : decide (n < 0) = false := by simpa using h0
  have CM := fun w => moved_c (~~~ c) n h0 (by omega) w
  have hz := W_com (txn (8 * n.toNat) (~~~ c))
  rw [show ~~~ (txn (8 * n.toNat) (~~~ c)) = zeros c n.toNat from rfl] at hz
  have hn := W_com c
  obtain ⟨T, hT⟩ : ∃ T, T = txn (8 * n.toNat) (~~~ c) := ⟨_, rfl⟩
  obtain ⟨N, hN⟩ : ∃ N, N = ~~~ c := ⟨_, rfl⟩
  obtain ⟨Z, hZ⟩ : ∃ Z, Z = zeros c n.toNat := ⟨_, rfl⟩
  rw [← hT] at CM hz
  rw [← hN] at CM hn
  rw [← hZ] at hz ⊢
  replace CM : Hid _ := CM
  clear hT hN hZ
  go_enter Tryd.func17, Tryd.ntmps17
  go_wp2_with (go_at_call 22; go_must (refine (CM.out _).mono ?_); rintro e w' ⟨rfl, rfl⟩)
  go_ret2
  exact ⟨rfl, rfl⟩
theorem zeros_neg (c : Wd) (n : Int) (h0 : n < 0) (w : World) :
    Calls Tryd.prog 17 #[.int .u32 (W c), .int .i64 n] w fun e w' => e = .returned (.tuple #[.int .u32 0, .int .i64 1]) ∧ w' = w := by
  go_enter Tryd.func17, Tryd.ntmps17
  go_wp2
  go_ret2
  exact ⟨rfl, rfl⟩
theorem rzeros_c (c : Wd) (n : Int) (h0 : 0 ≤ n) (h1 : n ≤ 9223372036854775807) (w : World) :
    Calls Tryd.prog 18 #[.int .u32 (W c), .int .i64 n] w fun e w' => e = .returned (.tuple #[.int .u32 (W (zeros c n.toNat)), .int .i64 0]) ∧ w' = w := by
  have hc : decide (n < 0) = false := by simpa using h0
  have CE := fun w => eights_c n h0 h1 w
  have CM := fun w => rmul_c (~~~ c) (pw (8 * n.toNat)) w
  rw [pw_mul] at CM
  have hz : bits .xor .u32 (W (txn (8 * n.toNat) (~~~ c))) 4294967295 = W (zeros c n.toNat) := by
    rw [W_lit _ 4294967295 (BitVec.allOnes 32) rfl, BitVec.xor_allOnes]; rfl
  have hn : bits .xor .u32 (W c) 4294967295 = W (~~~ c) := by
    rw [W_lit c 4294967295 (BitVec.allOnes 32) rfl, BitVec.xor_allOnes]
  obtain ⟨T, hT⟩ : ∃ T, T = txn (8 * n.toNat) (~~~ c) := ⟨_, rfl⟩
  obtain ⟨N, hN⟩ : ∃ N, N = ~~~ c := ⟨_, rfl⟩
  obtain ⟨P, hP⟩ : ∃ P, P = pw (8 * n.toNat) := ⟨_, rfl⟩
  obtain ⟨Z, hZ⟩ : ∃ Z, Z = zeros c n.toNat := ⟨_, rfl⟩
  rw [← hT] at CM hz
  rw [← hN] at CM hn
  rw [← hP] at CM CE
  rw [← hZ] at hz ⊢
  replace CM : Hid _ := CM
  replace CE : Hid _ := CE
  clear hT hN hZ hP
  go_enter Tryd.func18, Tryd.ntmps18
  go_wp2_with (first
    | (go_at_call 23; go_must (refine (CE.out _).mono ?_); rintro e w' ⟨rfl, rfl⟩)
    | (go_at_call 19; go_must (refine (CM.out _).mono ?_); rintro e w' ⟨rfl, rfl⟩))
  go_ret2
  exact ⟨rfl, rfl⟩
theorem rzeros_neg (c : Wd) (n : Int) (h0 : n < 0) (w : World) :
    Calls Tryd.prog 18 #[.int .u32 (W c), .int .i64 n] w fun e w' => e = .returned (.tuple #[.int .u32 0, .int .i64 1]) ∧ w' = w := by
  go_enter Tryd.func18, Tryd.ntmps18
  go_wp2
  go_ret2
  exact ⟨rfl, rfl⟩

end Go.Proofs.YtlfijnegmnploaaDoor
