/-
  That the program holds one small message without lists for the same as itself. No condition.
-/
import Derived.Test.YtokkhhekmebakaaGreatDoorEAl
namespace Go.Proofs.YtokkhhekmebakaaGreatDoor
open Go.RowKit
set_option linter.unusedVariables false

theorem eqi0 (w : World) : Calls Tryz.prog 48 #[.slice none 0 0, .slice none 0 0] w fun r w' => r = .returned (.bool true) ∧ w' = w := by
  go_enter Tryz.func48, Tryz.ntmps48
  go_wp2
  refine wp_loop_rounds 1 ?_
  rw [rounds_succ]
  go_wp2
  go_ret
  exact ⟨rfl, rfl⟩
theorem eqd0 (w : World) : Calls Tryz.prog 49 #[.slice none 0 0, .slice none 0 0] w fun r w' => r = .returned (.bool true) ∧ w' = w := by
  go_enter Tryz.func49, Tryz.ntmps49
  go_wp2
  refine wp_loop_rounds 1 ?_
  rw [rounds_succ]
  go_wp2
  go_ret
  exact ⟨rfl, rfl⟩
theorem eqp0 (f : Value) (w : World) : Calls Tryz.prog 87 #[.slice none 0 0, .slice none 0 0, f] w fun r w' => r = .returned (.bool true) ∧ w' = w := by
  go_enter Tryz.func87, Tryz.ntmps87
  go_wp2
  refine wp_loop_rounds 1 ?_
  rw [rounds_succ]
  go_wp2
  go_ret
  exact ⟨rfl, rfl⟩
theorem gb_two {w : World} {T1 T2 : TypeId} {c1 c2 : Array Value} : w.grownBy ((w.alloc (.cells c1 T1)).alloc (.cells c2 T2)) none := (two_new w T1 T2 c1 c2).2.2.1
theorem alc0 (w : World) : Calls Tryz.prog 50 #[.agg #[.int .i64 0, .bool false, .slice none 0 0], .agg #[.int .i64 0, .bool false, .slice none 0 0]] w fun r w' => r = .returned (.bool true) ∧ w.grownBy w' none := by
  have HE : Hid (∀ f w, _) := fun f w => eqp0 f w
  go_enter Tryz.func50, Tryz.ntmps50
  go_wp2_with (go_at_call 87; go_must (refine (Calls.mono (HE.out _ _) ?_)); rintro r wq ⟨rfl, hq⟩; obtain rfl := hq.symm; clear hq)
  go_ret
  exact ⟨rfl, gb_two⟩
def LvM : Msg := { zMsg with kind := 10, frm := 3, to := 2, epoch := 1, seq := 4, number := 6 }
theorem alike0 (w : World) : Calls Tryz.prog 24 #[.agg LvM.cells, .agg LvM.cells] w fun r w' => r = .returned (.bool true) ∧ w.grownBy w' none := by
  have h0 : ∀ W : World, W.grownBy W none := fun W => ⟨rfl, rfl, rfl, Nat.le_refl _, fun _ _ _ => rfl⟩
  have hi : ∀ W, w.grownBy W none → Calls Tryz.prog 48 #[.slice none 0 0, .slice none 0 0] W fun r w' => r = .returned (.bool true) ∧ W.grownBy w' none := fun W _ => (eqi0 W).mono (by rintro r w' ⟨rfl, rfl⟩; exact ⟨rfl, h0 _⟩)
  have hd : ∀ W, w.grownBy W none → Calls Tryz.prog 49 #[.slice none 0 0, .slice none 0 0] W fun r w' => r = .returned (.bool true) ∧ W.grownBy w' none := fun W _ => (eqd0 W).mono (by rintro r w' ⟨rfl, rfl⟩; exact ⟨rfl, h0 _⟩)
  have := alike_c LvM LvM true true true true w hi hi hd (fun W _ => alc0 W)
  exact this
end Go.Proofs.YtokkhhekmebakaaGreatDoor
