/-
  What the document's Sum answers, called with whatever bytes. Condition: they can be read, and are at most 2^50.
-/
import Derived.Test.YtegbgmihcokblaaDoorRows
import Derived.Test.YtegbgmihcokblaaDoorRemC
import Derived.Test.YtegbgmihcokblaaDoorRPowC
import Derived.Test.YtegbgmihcokblaaDoorFa
namespace Go.Proofs.YtegbgmihcokblaaDoor
set_option linter.unusedVariables false
open Go.RowKit

theorem sum_is (xs : List Int) : (reg 0 xs ^^^ txn (8 * xs.length) ones) ^^^ ones = sum xs := by
  unfold sum
  rw [reg_zero ones xs, BitVec.xor_comm (reg 0 xs)]
  exact BitVec.xor_allOnes
theorem rsum_c (a : Option Addr) (len cap : Nat) (xs : List Int) (w : World) (hseg : Seg .u8 w a len xs) (hx : Bytes xs) (hl : len ≤ 1125899906842624) :
    Calls Tryd.prog 55 #[.slice a len cap] w fun e w' => e = .returned (.int .u32 (W (sum xs))) ∧ w' = w := by
  have HI := sum_is xs
  rw [hseg.1] at HI
  have CR := fun w' (h : Seg .u8 w' a len xs) => rem_c a len cap xs w' h hx hl
  have CM := fun w => rmul_c ones (pw (8 * len)) w
  rw [pw_mul] at CM
  have CP := fun w => rpower_c (8 * (len : Int)) (by omega) (by omega) w
  rw [show (8 * (len : Int)).toNat = 8 * len from by omega] at CP
  obtain ⟨P, hP⟩ : ∃ P, P = pw (8 * len) := ⟨_, rfl⟩
  obtain ⟨T, hT⟩ : ∃ T, T = txn (8 * len) ones := ⟨_, rfl⟩
  obtain ⟨R, hR⟩ : ∃ R, R = reg 0 xs := ⟨_, rfl⟩
  rw [← hP] at CP CM
  rw [← hT] at CM HI
  rw [← hR] at CR HI
  have HO : Hid ((4294967295 : Int) = W ones) := by show _ = _; decide +kernel
  rw [← HO.out] at CM
  have hx1 := W_xor R T
  have hx2 : bits .xor .u32 (W (R ^^^ T)) 4294967295 = W ((R ^^^ T) ^^^ ones) := W_lit _ 4294967295 ones HO.out
  rw [HI] at hx2
  obtain ⟨Z, hZ⟩ : ∃ Z, Z = sum xs := ⟨_, rfl⟩
  obtain ⟨Y, hY⟩ : ∃ Y, Y = R ^^^ T := ⟨_, rfl⟩
  rw [← hZ] at hx2 ⊢
  rw [← hY] at hx1 hx2
  replace CR : Hid _ := CR
  replace CM : Hid _ := CM
  replace CP : Hid _ := CP
  have HS : Hid (Seg .u8 w a len xs) := hseg
  clear hP hT hR hZ hY HI hseg hx
  go_enter Tryd.func55, Tryd.ntmps55
  go_wp2_with (first
    | (go_at_call 64; go_must (refine (CP.out _).mono ?_); rintro e w' ⟨rfl, rfl⟩)
    | (go_at_call 63; go_must (refine (CM.out _).mono ?_); rintro e w' ⟨rfl, rfl⟩)
    | (go_at_call 65; go_must (refine (CR.out _ HS.out).mono ?_); rintro e w' ⟨rfl, rfl⟩))
  go_ret
  exact ⟨rfl, rfl⟩

end Go.Proofs.YtegbgmihcokblaaDoor
