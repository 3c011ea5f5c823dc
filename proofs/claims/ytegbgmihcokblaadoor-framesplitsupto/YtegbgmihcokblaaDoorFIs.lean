/-
  What the laws' may and is answer, called with whatever frames. Condition: the bytes can be read.
-/
import Derived.Test.YtegbgmihcokblaaDoorRows
import Derived.Test.YtegbgmihcokblaaDoorFCu
import Derived.Test.YtegbgmihcokblaaDoorFa
namespace Go.Proofs.YtegbgmihcokblaaDoor
set_option linter.unusedVariables false
open Go.RowKit

theorem below_of {w W : World} {o : Obj} (h : w.alloc o = W) : Below w.heap.size w W := by rw [← h]; exact (Below.refl _ _).alloc (Nat.le_refl _) _
theorem bk_of {w W : World} {T : TypeId} {cs : Array Value} {N : Nat} (h : w.alloc (.cells cs T) = W) (hN : N = w.heap.size) : Bk T W N cs := by subst hN; rw [← h]; exact heap_new w _
/-- May a frame be? -/
def fmay (t : Int) (n : Nat) : Bool := decide (1 ≤ t ∧ t ≤ 255 ∧ n ≤ 1048576)
set_option maxHeartbeats 1000000 in
theorem may_c (t : Int) (a : Option Addr) (len cap : Nat) (w : World) (b : Bool) (hb : fmay t len = b) :
    Calls Tryd.prog 23 #[.agg #[.int .i64 t, .slice a len cap]] w fun r w' => r = .returned (.bool b) ∧ Below w.heap.size w w' := by
  by_cases h1 : 1 ≤ t
  · by_cases h2 : t ≤ 255
    · by_cases h3 : len ≤ 1048576
      · obtain rfl : b = true := by rw [← hb]; exact decide_eq_true ⟨h1, h2, h3⟩
        go_enter Tryd.func23, Tryd.ntmps23
        go_wp2
        go_ret
        exact ⟨by first | rfl | exact congrArg (fun b => Ending.returned (Value.bool b)) (decide_eq_true (p := (len : Int) ≤ 1048576) (by omega)), (Below.refl _ _).alloc (Nat.le_refl _) _⟩
      · obtain rfl : b = false := by rw [← hb]; exact decide_eq_false (fun h => h3 h.2.2)
        go_enter Tryd.func23, Tryd.ntmps23
        go_wp2
        go_ret
        exact ⟨by first | rfl | exact congrArg (fun b => Ending.returned (Value.bool b)) (decide_eq_false (p := (len : Int) ≤ 1048576) (by omega)), (Below.refl _ _).alloc (Nat.le_refl _) _⟩
    · obtain rfl : b = false := by rw [← hb]; exact decide_eq_false (fun h => h2 h.2.1)
      go_enter Tryd.func23, Tryd.ntmps23
      go_wp2
      go_ret
      exact ⟨by first | rfl | exact congrArg (fun b => Ending.returned (Value.bool b)) (decide_eq_false (p := t ≤ 255) (by omega)), (Below.refl _ _).alloc (Nat.le_refl _) _⟩
  · obtain rfl : b = false := by rw [← hb]; exact decide_eq_false (fun h => h1 h.1)
    go_enter Tryd.func23, Tryd.ntmps23
    go_wp2
    go_ret
    exact ⟨by first | rfl | exact congrArg (fun b => Ending.returned (Value.bool b)) (decide_eq_false (p := 1 ≤ t) (by omega)), (Below.refl _ _).alloc (Nat.le_refl _) _⟩

set_option maxHeartbeats 1000000 in
theorem is_c (t : Int) (a b : Option Addr) (la ca lb cb : Nat) (xs : List Int) (w : World) (h1 : Seg .u8 w a la xs) (h2 : Seg .u8 w b lb xs) (hx : Bytes xs) :
    Calls Tryd.prog 26 #[.agg #[.int .i64 t, .slice a la ca], .agg #[.int .i64 t, .slice b lb cb]] w fun r w' => r = .returned (.bool true) ∧ Below w.heap.size w w' := by
  obtain ⟨W1, hW1⟩ : ∃ W1, W1 = (w.alloc (.cells #[.int .i64 t, .slice a la ca] 42)).alloc (.cells #[.int .i64 t, .slice b lb cb] 42) := ⟨_, rfl⟩
  have HB : Hid (Below w.heap.size w W1) := by rw [hW1]; exact ((Below.refl _ _).alloc (Nat.le_refl _) _).alloc (by simp) _
  have r1 := seg_string (P := Tryd.prog) 28 9 5 ca (h1.below HB.out) Tryd.underlying28 Tryd.underlying5 Tryd.underlying9
  have r2 := seg_string (P := Tryd.prog) 28 9 5 cb (h2.below HB.out) Tryd.underlying28 Tryd.underlying5 Tryd.underlying9
  rw [hW1] at r1 r2 HB
  clear h1 h2 hx hW1
  go_enter Tryd.func26, Tryd.ntmps26
  go_wp2
  go_ret
  exact ⟨rfl, HB.out⟩
end Go.Proofs.YtegbgmihcokblaaDoor
