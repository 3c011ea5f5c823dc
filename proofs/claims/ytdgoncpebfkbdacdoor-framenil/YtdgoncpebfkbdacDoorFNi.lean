/-
  What the methods of a frame.Splitter answer that no call made: nothing, and 0. No condition of its own.
-/
import Derived.Test.YtdgoncpebfkbdacDoorRows
import Derived.Test.YtdgoncpebfkbdacDoorFBk
import Derived.BigQuiet
namespace Go.Proofs.YtdgoncpebfkbdacDoor
set_option linter.unusedVariables false
open Go.RowKit

/-- A Splitter that no call made: nil, or a zero value. -/
def Unmade (w : World) (p : Value) : Prop := p = .pointer none ∨ ∃ Z, p = .pointer (some ⟨Z, 0, none⟩) ∧ w.cell? ⟨Z, 0, none⟩ = some (.pointer none)

theorem Unmade.below {w w' : World} {p : Value} (h : Unmade w p) (hb : Below w.heap.size w w') : Unmade w' p := by
  rcases h with h | ⟨Z, h1, h2⟩
  · exact .inl h
  · refine .inr ⟨Z, h1, (hb.cell (p := ⟨Z, 0, none⟩) ?_).trans h2⟩
    rcases Nat.lt_or_ge Z w.heap.size with h' | h'
    · exact h'
    · simp [World.cell?, h'] at h2
set_option maxHeartbeats 1000000 in
theorem made_no (p : Value) (w : World) (h : Unmade w p) : Calls Tryd.prog 28 #[p] w fun r w' => r = .returned (.bool false) ∧ w' = w := by
  rcases h with rfl | ⟨Z, rfl, hc⟩
  · go_enter Tryd.func28, Tryd.ntmps28
    go_wp2
    go_ret
    exact ⟨rfl, rfl⟩
  · go_enter Tryd.func28, Tryd.ntmps28
    go_wp2
    go_ret
    exact ⟨rfl, rfl⟩

set_option maxHeartbeats 2000000 in
theorem feed_no (p : Value) (a : Option Addr) (len cap : Nat) (w : World) (h : Unmade w p) : Calls Tryd.prog 13 #[p, .slice a len cap] w fun r w' => r = .returned (.slice none 0 0) ∧ Below w.heap.size w w' := by
  have HC : Hid (∀ o, Calls Tryd.prog 28 #[p] (w.alloc o) fun r w' => r = .returned (.bool false) ∧ w' = w.alloc o) := fun o => made_no p _ (h.below ((Below.refl _ _).alloc (Nat.le_refl _) _))
  obtain ⟨q, rfl⟩ : ∃ q, p = .pointer q := by
    rcases h with h | ⟨Z, h, _⟩
    · exact ⟨_, h⟩
    · exact ⟨_, h⟩
  clear h
  go_enter Tryd.func13, Tryd.ntmps13
  go_wp2_with (go_at_call 28; go_must (refine (Calls.mono (HC.out _) ?_)); rintro r w1 ⟨rfl, rfl⟩)
  go_ret
  exact ⟨rfl, (Below.refl _ _).alloc (Nat.le_refl _) _⟩

set_option maxHeartbeats 2000000 in
theorem end_no (p : Value) (w : World) (h : Unmade w p) : Calls Tryd.prog 11 #[p] w fun r w' => r = .returned (.slice none 0 0) ∧ w' = w := by
  have HC : Hid _ := made_no p w h
  clear h
  go_enter Tryd.func11, Tryd.ntmps11
  go_wp2_with (go_at_call 28; refine (Calls.mono HC.out ?_); rintro r w1 ⟨rfl, rfl⟩)
  go_ret
  exact ⟨rfl, rfl⟩

theorem waits_no (p : Value) (w : World) (h : Unmade w p) : Calls Tryd.prog 17 #[p] w fun r w' => r = .returned (.int .i64 0) ∧ w' = w := by
  have HC : Hid _ := made_no p w h
  clear h
  go_enter Tryd.func17, Tryd.ntmps17
  go_wp2_with (go_at_call 28; refine (Calls.mono HC.out ?_); rintro r w1 ⟨rfl, rfl⟩)
  go_ret
  exact ⟨rfl, rfl⟩

theorem junk_no (p : Value) (w : World) (h : Unmade w p) : Calls Tryd.prog 18 #[p] w fun r w' => r = .returned (.int .i64 0) ∧ w' = w := by
  have HC : Hid _ := made_no p w h
  clear h
  go_enter Tryd.func18, Tryd.ntmps18
  go_wp2_with (go_at_call 28; refine (Calls.mono HC.out ?_); rintro r w1 ⟨rfl, rfl⟩)
  go_ret
  exact ⟨rfl, rfl⟩

theorem lost_no (p : Value) (w : World) (h : Unmade w p) : Calls Tryd.prog 19 #[p] w fun r w' => r = .returned (.int .i64 0) ∧ w' = w := by
  have HC : Hid _ := made_no p w h
  clear h
  go_enter Tryd.func19, Tryd.ntmps19
  go_wp2_with (go_at_call 28; refine (Calls.mono HC.out ?_); rintro r w1 ⟨rfl, rfl⟩)
  go_ret
  exact ⟨rfl, rfl⟩

end Go.Proofs.YtdgoncpebfkbdacDoor
