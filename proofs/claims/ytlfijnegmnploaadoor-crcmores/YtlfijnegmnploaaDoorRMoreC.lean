/-
  What the document's More answers, called with whatever word and bytes. Condition: the bytes can be read, and are at most 2^50.
-/
import Derived.Test.YtlfijnegmnploaaDoorRows
import Derived.Test.YtlfijnegmnploaaDoorRemC
import Derived.Test.YtlfijnegmnploaaDoorRPowC
namespace Go.Proofs.YtlfijnegmnploaaDoor
set_option linter.unusedVariables false
open Go.RowKit

theorem more_is (c : Wd) (xs : List Int) : (reg 0 xs ^^^ txn (8 * xs.length) (~~~ c)) ^^^ BitVec.allOnes 32 = ~~~ (reg (~~~ c) xs) := by
  rw [reg_zero (~~~ c) xs, BitVec.xor_comm (reg 0 xs), BitVec.xor_allOnes]
theorem rmore_c (c : Wd) (a : Option Addr) (len cap : Nat) (xs : List Int) (w : World) (hseg : Seg .u8 w a len xs) (hx : Bytes xs) (hl : len ≤ 1125899906842624) :
    Calls Tryd.prog 15 #[.int .u32 (W c), .slice a len cap] w fun e w' => e = .returned (.int .u32 (W (~~~ (reg (~~~ c) xs)))) ∧ w' = w := by
  have HI := more_is c xs
  rw [hseg.1] at HI
  have CR := fun w' (h : Seg .u8 w' a len xs) => rem_c a len cap xs w' h hx hl
  have CM := fun w => rmul_c (~~~ c) (pw (8 * len)) w
  rw [pw_mul] at CM
  have CP := fun w => rpower_c (8 * (len : Int)) (by omega) (by omega) w
  rw [show (8 * (len : Int)).toNat = 8 * len from by omega] at CP
  obtain ⟨P, hP⟩ : ∃ P, P = pw (8 * len) := ⟨_, rfl⟩
  obtain ⟨T, hT⟩ : ∃ T, T = txn (8 * len) (~~~ c) := ⟨_, rfl⟩
  obtain ⟨R, hR⟩ : ∃ R, R = reg 0 xs := ⟨_, rfl⟩
  obtain ⟨N, hN⟩ : ∃ N, N = ~~~ c := ⟨_, rfl⟩
  have hn : bits .xor .u32 (W c) 4294967295 = W N := by
    rw [W_lit c 4294967295 (BitVec.allOnes 32) rfl, BitVec.xor_allOnes, hN]
  rw [← hP] at CP CM
  rw [← hT] at CM HI
  rw [← hN] at CM
  rw [← hR] at CR HI
  have hx1 := W_xor R T
  have hx2 : bits .xor .u32 (W (R ^^^ T)) 4294967295 = W ((R ^^^ T) ^^^ BitVec.allOnes 32) := W_lit _ 4294967295 (BitVec.allOnes 32) rfl
  rw [HI] at hx2
  obtain ⟨Z, hZ⟩ : ∃ Z, Z = ~~~ (reg (~~~ c) xs) := ⟨_, rfl⟩
  obtain ⟨Y, hY⟩ : ∃ Y, Y = R ^^^ T := ⟨_, rfl⟩
  rw [← hZ] at hx2 ⊢
  rw [← hY] at hx1 hx2
  replace CR : Hid _ := CR
  replace CM : Hid _ := CM
  replace CP : Hid _ := CP
  have HS : Hid (Seg .u8 w a len xs) := hseg
  clear hP hT hR hN hZ hY HI hseg hx
  go_enter Tryd.func15, Tryd.ntmps15
  go_wp2_with (first
    | (go_at_call 20; go_must (refine (CP.out _).mono ?_); rintro e w' ⟨rfl, rfl⟩)
    | (go_at_call 19; go_must (refine (CM.out _).mono ?_); rintro e w' ⟨rfl, rfl⟩)
    | (go_at_call 21; go_must (refine (CR.out _ HS.out).mono ?_); rintro e w' ⟨rfl, rfl⟩))
  go_ret
  exact ⟨rfl, rfl⟩

end Go.Proofs.YtlfijnegmnploaaDoor
