/-
  What the laws' awake answers: true. Condition: the table lies in memory as the program's text lays it.
-/
import Derived.Test.YtlfijnegmnploacDoorRows
import Derived.Test.YtlfijnegmnploacDoorSumC
import Derived.Lib.SlBytesConst
namespace Go.Proofs.YtlfijnegmnploacDoor
set_option linter.unusedVariables false
open Go.RowKit

def nine : List Int := [49, 50, 51, 52, 53, 54, 55, 56, 57]
theorem sum_nine : W (sum [nine].flatten) = 3808858755 := by decide +kernel
theorem sum_none : W (sum ([] : List (List Int)).flatten) = 0 := by decide +kernel
theorem bytes_nine : Bytes nine := bytes_of_mem (by decide)

theorem awake_c (w : World) (ht : Tab w) :
    Calls Tryd.prog 8 #[] w fun e w' => e = .returned (.bool true) ∧ Below w.heap.size w w' := by
  have HT : Hid (Tab w) := ht
  clear ht
  have kc := fun (w : World) (C : Array Value) (n c : Nat) => Lib.run_convert_bytes_const (P := Tryd.prog) w 22 5 C n c Tryd.underlying22 Tryd.underlying5
  go_enter Tryd.func8, Tryd.ntmps8
  go_wp2_with fail
  refine (sum_c _ 1 1 [nine] _ ?_ (HT.out.below (((Below.refl _ _).alloc (Nat.le_refl _) _).alloc (by simp) _)) (by omega)).mono ?_
  · exact segs_at _ _ (by simp) (seg_mark _ _ _ _ _ _ _ _ rfl rfl rfl) bytes_nine (by decide)
  rintro e w' ⟨rfl, rfl⟩
  rw [sum_nine]
  go_wp2_with fail
  refine (sum_c _ 0 0 [] _ (segs_nil _ _) (HT.out.below (((Below.refl _ _).alloc (Nat.le_refl _) _).alloc (by simp) _)) (by omega)).mono ?_
  rintro e w' ⟨rfl, rfl⟩
  rw [sum_none]
  go_wp2
  go_ret
  exact ⟨rfl, ((Below.refl _ _).alloc (Nat.le_refl _) _).alloc (by simp) _⟩

end Go.Proofs.YtlfijnegmnploacDoor
