/-
  What the document's Low answers: a word's four bytes, the lowest first. No condition.
-/
import Derived.Test.YtegbgmihcokblaaDoorRows
import Derived.Test.YtegbgmihcokblaaDoorFa
namespace Go.Proofs.YtegbgmihcokblaaDoor
set_option linter.unusedVariables false
open Go.RowKit

theorem low_c (t : Wd) (w : World) :
    Calls Tryd.prog 54 #[.int .u32 (W t)] w fun e w' => e = .returned (arr4 t) ∧ Below w.heap.size w w' := by
  obtain ⟨V, hV⟩ : ∃ V : Int, V = W t := ⟨_, rfl⟩
  have h0 := W_nn t
  have h1 := W_lt t
  rw [← hV] at h0 h1 ⊢
  have HV : Hid (V = W t) := hV
  clear hV
  go_enter Tryd.func54, Tryd.ntmps54
  go_wp2
  refine bodyPost_ret (v := .agg #[.int .u8 (V % 256), .int .u8 (V / 256 % 256), .int .u8 (V / 65536 % 256), .int .u8 (V / 16777216)]) (by simp [results, Tryd.results54, go_sem]) rfl ⟨?_, (Below.refl _ _).alloc (Nat.le_refl _) _⟩
  rw [arr4_is t V HV.out]

end Go.Proofs.YtegbgmihcokblaaDoor
