/-
  What the methods of an image.Opener answer that no call made: nothing, and ErrMade. No condition of its own.
-/
import Derived.Test.YteilmkibbdlnoabDoorRows
import Derived.Test.YteilmkibbdlnoabDoorFBk
import Derived.BigQuiet
import Derived.Defers
import Derived.Recover
namespace Go.Proofs.YteilmkibbdlnoabDoor
set_option linter.unusedVariables false
open Go.RowKit

/-- An Opener that no call made: nil, or a zero value. -/
def Unmade (w : World) (p : Value) : Prop := p = .pointer none ∨ ∃ Z, p = .pointer (some ⟨Z, 0, none⟩) ∧ w.cell? ⟨Z, 0, none⟩ = some (.bool false)
theorem Unmade.below {w w' : World} {p : Value} (h : Unmade w p) (hb : Below w.heap.size w w') : Unmade w' p := by
  rcases h with h | ⟨Z, h1, h2⟩
  · exact .inl h
  · refine .inr ⟨Z, h1, (hb.cell (p := ⟨Z, 0, none⟩) ?_).trans h2⟩
    rcases Nat.lt_or_ge Z w.heap.size with h' | h'
    · exact h'
    · simp [World.cell?, h'] at h2
theorem made_no (p : Value) (w : World) (h : Unmade w p) : Calls Tryd.prog 38 #[p] w fun r w' => r = .returned (.bool false) ∧ w' = w := by
  rcases h with rfl | ⟨Z, rfl, hc⟩
  · go_enter Tryd.func38, Tryd.ntmps38
    go_wp2
    go_ret
    exact ⟨rfl, rfl⟩
  · go_enter Tryd.func38, Tryd.ntmps38
    go_wp2
    go_ret
    exact ⟨rfl, rfl⟩
theorem shut_no (p : Value) (w : World) (h : Unmade w p) : Calls Tryd.prog 34 #[p] w fun r w' => r = .returned (.int .i64 2) ∧ w' = w := by
  have HC : Hid _ := made_no p w h
  clear h
  go_enter Tryd.func34, Tryd.ntmps34
  go_wp2_with (go_at_call 38; refine (Calls.mono HC.out ?_); rintro r w1 ⟨rfl, rfl⟩)
  go_ret
  exact ⟨rfl, rfl⟩
theorem iend_no (p : Value) (w : World) (h : Unmade w p) : Calls Tryd.prog 17 #[p] w fun r w' => r = .returned (.tuple #[.int .i64 0, .int .i64 2]) ∧ w' = w := by
  have HC : Hid _ := made_no p w h
  clear h
  go_enter Tryd.func17, Tryd.ntmps17
  go_wp2_with (go_at_call 38; refine (Calls.mono HC.out ?_); rintro r w1 ⟨rfl, rfl⟩)
  go_ret2
  exact ⟨rfl, rfl⟩
theorem three_below (w : World) (o p q : Obj) : Below w.heap.size w (((w.alloc o).alloc p).alloc q) := (((Below.refl _ _).alloc (Nat.le_refl _) _).alloc (by simp) _).alloc (by simp; omega) _
theorem results_two {fn : Func} {p q : Tmp} {ty ty2 : TypeId} (h : fn.results = #[.cell p ty, .cell q ty2]) (tmps : Array Value) (P : Program) (w : World) (ad ad2 : Addr) (v v2 : Value)
    (hp : tmps.getD p undef = .pointer (some ad)) (hq : tmps.getD q undef = .pointer (some ad2)) (hl : (loadVar ty ad).run P w = .ok v w) (hl2 : (loadVar ty2 ad2).run P w = .ok v2 w) : (results fn tmps).run P w = .ok (.tuple #[v, v2]) w := by
  have hp' : tmps[p]?.getD undef = .pointer (some ad) := by simpa using hp
  have hq' : tmps[q]?.getD undef = .pointer (some ad2) := by simpa using hq
  simp only [results, h]
  simp [hp', hq', asAddr, hl, hl2]
theorem ierr_load {w : World} {ad : Addr} {e : Int} (h : w.cell? ad = some (.int .i64 e)) : (loadVar 26 ad).run Tryd.prog w = .ok (.int .i64 e) w := by
  simp [loadVar, h]
theorem irows_load {w : World} {ad : Addr} {a : Option Addr} {n c : Nat} (h : w.cell? ad = some (.slice a n c)) : (loadVar 23 ad).run Tryd.prog w = .ok (.slice a n c) w := by
  simp [loadVar, h]
set_option maxHeartbeats 2000000 in
theorem write_no (p : Value) (a : Option Addr) (len cap : Nat) (w : World) (h : Unmade w p) : Calls Tryd.prog 16 #[p, .slice a len cap] w fun r w' => r = .returned (.tuple #[.slice none 0 0, .int .i64 2]) ∧ Below w.heap.size w w' := by
  have HC : Hid (∀ W, Below w.heap.size w W → Calls Tryd.prog 34 #[p] W fun r w' => r = .returned (.int .i64 2) ∧ w' = W) := fun W hW => shut_no p _ (h.below hW)
  obtain ⟨q, rfl⟩ : ∃ q, p = .pointer q := by
    rcases h with h | ⟨Z, h, _⟩
    · exact ⟨_, h⟩
    · exact ⟨_, h⟩
  clear h
  go_enter_defers Tryd.func16, Tryd.ntmps16
  go_wp2_with (go_at_call 34; go_must (refine (Calls.mono (HC.out _ (three_below _ _ _ _)) ?_)); rintro r w1 ⟨rfl, rfl⟩)
  refine ⟨_, results_two Tryd.results16 _ _ _ ⟨w.heap.size + 1, 0, none⟩ ⟨w.heap.size + 1 + 1, 0, none⟩ _ _ rfl rfl (irows_load ?_) (ierr_load ?_), rfl, three_below _ _ _ _⟩
  · rw [World.cell?_alloc_past _ _ _ (by simp), World.cell?_alloc_at _ _ _ _ (by simp)]; rfl
  · rw [World.cell?_alloc_at _ _ _ _ (by simp)]; rfl
end Go.Proofs.YteilmkibbdlnoabDoor
