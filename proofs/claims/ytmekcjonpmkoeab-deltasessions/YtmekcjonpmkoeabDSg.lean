/-
  What the document's Session answers: the same text as delta's. No condition.
-/
import Derived.Test.YtmekcjonpmkoeabDSe
namespace Go.Proofs.Ytmekcjonpmkoeab.Dl
open Go.RowKit
set_option linter.unusedVariables false

set_option maxRecDepth 20000 in
theorem gsession_c (c : Int) (w : World) : Calls Try.prog 8 #[.int .i64 c] w fun r w' => r = .returned (.tuple #[.string (sesT c), .int .i64 (sesE c)]) ∧ w.grownBy w' none := by
  unfold sesT sesE
  by_cases h : c < 1
  · rw [if_pos (.inl h), if_pos (.inl h)]
    go_enter Try.func8, Try.ntmps8
    go_wp2
    go_ret2
    exact ⟨rfl, gb_refl _⟩
  by_cases h2 : 16 < c
  · rw [if_pos (.inr h2), if_pos (.inr h2)]
    go_enter Try.func8, Try.ntmps8
    go_wp2
    go_ret2
    exact ⟨rfl, gb_refl _⟩
  rw [if_neg (by omega), if_neg (by omega)]
  have hw8 := wrap8 c (by omega) (by omega)
  have hss := ses_str c (by omega) (by omega) w
  have HG : Hid (w.grownBy (w.alloc (.cells #[.int .u8 0, .int .u8 115, .int .u8 c] 5 (0, 0))) none) := World.grownBy_alloc _ _ _
  go_enter Try.func8, Try.ntmps8
  go_wp2
  go_ret2
  exact ⟨rfl, HG.out⟩
end Go.Proofs.Ytmekcjonpmkoeab.Dl
