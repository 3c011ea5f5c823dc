/-
  What delta's Session answers, and the document's: the same text. No condition.
-/
import Derived.Test.YtmekcjonpmkoeabDWi
import Derived.Test.YtmekcjonpmkoeabStr
namespace Go.Proofs.Ytmekcjonpmkoeab.Dl
open Go.RowKit
set_option linter.unusedVariables false

/-- The key of a client's session, and the error. -/
def sesT (c : Int) : ByteArray := if c < 1 ∨ 16 < c then .empty else strOfNums [0, 115, c]
def sesE (c : Int) : Int := if c < 1 ∨ 16 < c then 83 else 0
theorem ses_lit (c : Int) (h0 : 1 ≤ c) (h1 : c ≤ 16) (w : World) : Seg .u8 (w.alloc (.cells #[.int .u8 0, .int .u8 115, .int .u8 c] 5 (0, 0))) (some ⟨w.heap.size, 0, none⟩) 3 [0, 115, c] := by
  refine ⟨rfl, .inr ⟨w.heap.size, 0, rfl, by simp, fun i hi => ?_⟩⟩
  rw [Nat.zero_add, cell_of_row _ _ i _ _ _ (heap_new w _)]
  rcases (by omega : i = 0 ∨ i = 1 ∨ i = 2) with rfl | rfl | rfl <;> rfl
theorem ses_str (c : Int) (h0 : 1 ≤ c) (h1 : c ≤ 16) (w : World) : (convert 64 9 (.slice (some ⟨w.heap.size, 0, none⟩) 3 3)).run Try.prog (w.alloc (.cells #[.int .u8 0, .int .u8 115, .int .u8 c] 5 (0, 0))) = .ok (.string (strOfNums [0, 115, c])) (w.alloc (.cells #[.int .u8 0, .int .u8 115, .int .u8 c] 5 (0, 0))) := by
  have h := ses_lit c h0 h1 w
  exact seg_string (P := Try.prog) 64 9 5 3 h Try.underlying64 Try.underlying5 Try.underlying9
theorem wrap8 (c : Int) (h0 : 1 ≤ c) (h1 : c ≤ 16) : IntKind.u8.wrap c = c := by
  have : c = 1 ∨ c = 2 ∨ c = 3 ∨ c = 4 ∨ c = 5 ∨ c = 6 ∨ c = 7 ∨ c = 8 ∨ c = 9 ∨ c = 10 ∨ c = 11 ∨ c = 12 ∨ c = 13 ∨ c = 14 ∨ c = 15 ∨ c = 16 := by omega
  rcases this with rfl | rfl | rfl | rfl | rfl | rfl | rfl | rfl | rfl | rfl | rfl | rfl | rfl | rfl | rfl | rfl <;> rfl
set_option maxRecDepth 20000 in
theorem session_c (c : Int) (w : World) : Calls Try.prog 7 #[.int .i64 c] w fun r w' => r = .returned (.tuple #[.string (sesT c), .int .i64 (sesE c)]) ∧ w.grownBy w' none := by
  have HW : Hid (∀ W, Calls Try.prog 27 #[.int .i64 c, .int .i64 1, .int .i64 16] W fun r w' => r = .returned (.bool (decide (1 ≤ c) && decide (c ≤ 16))) ∧ w' = W) := within_c c _ _
  unfold sesT sesE
  by_cases h : c < 1 ∨ 16 < c
  · rw [if_pos h, if_pos h]
    have e : (decide (1 ≤ c) && decide (c ≤ 16)) = false := by
      rcases h with q | q
      · rw [decide_eq_false (by omega)]; rfl
      · rw [decide_eq_false (p := c ≤ 16) (by omega)]; simp
    rw [e] at HW
    clear h e
    go_enter Try.func7, Try.ntmps7
    go_wp2_with (go_at_call 27; refine (Calls.mono (HW.out _) ?_); rintro e wq ⟨rfl, hq⟩; obtain rfl := hq.symm)
    go_ret2
    exact ⟨rfl, gb_refl _⟩
  · rw [if_neg h, if_neg h]
    have e : (decide (1 ≤ c) && decide (c ≤ 16)) = true := by
      rw [decide_eq_true (by omega), decide_eq_true (p := c ≤ 16) (by omega)]; rfl
    rw [e] at HW
    have hw8 := wrap8 c (by omega) (by omega)
    have hss := ses_str c (by omega) (by omega) w
    have HG : Hid (w.grownBy (w.alloc (.cells #[.int .u8 0, .int .u8 115, .int .u8 c] 5 (0, 0))) none) := World.grownBy_alloc _ _ _
    clear h e
    go_enter Try.func7, Try.ntmps7
    go_wp2_with (go_at_call 27; refine (Calls.mono (HW.out _) ?_); rintro e wq ⟨rfl, hq⟩; obtain rfl := hq.symm)
    go_ret2
    exact ⟨rfl, HG.out⟩
end Go.Proofs.Ytmekcjonpmkoeab.Dl
