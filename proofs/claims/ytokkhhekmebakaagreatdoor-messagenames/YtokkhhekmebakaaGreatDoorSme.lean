/-
  What the document's Same answers of two lists of bytes. No condition of its own.
-/
import Derived.Test.YtokkhhekmebakaaGreatDoorStr
namespace Go.Proofs.YtokkhhekmebakaaGreatDoor
open Go.RowKit
set_option linter.unusedVariables false

theorem same_c (a b : Option Addr) (la ca lb cb : Nat) (xs ys : List Int) (w : World) (h1 : Seg .u8 w a la xs) (h2 : Seg .u8 w b lb ys) (hx : Bytes xs) (hy : Bytes ys) :
    Calls Tryz.prog 17 #[.slice a la ca, .slice b lb cb] w fun e w' => e = .returned (.bool (decide (xs = ys))) ∧ w' = w := by
  have r1 := seg_string (P := Tryz.prog) 56 9 5 ca h1 Tryz.underlying56 Tryz.underlying5 Tryz.underlying9
  have r2 := seg_string (P := Tryz.prog) 56 9 5 cb h2 Tryz.underlying56 Tryz.underlying5 Tryz.underlying9
  have HE : Hid (((strOfNums xs).toList == (strOfNums ys).toList) = decide (xs = ys)) := str_eq hx hy
  clear h1 h2 hx hy
  go_enter Tryz.func17, Tryz.ntmps17
  go_wp2
  go_ret
  exact ⟨by rw [← HE.out]; rfl, rfl⟩
end Go.Proofs.YtokkhhekmebakaaGreatDoor
