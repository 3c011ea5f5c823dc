/-
  What the methods of pack's 'trouble' answer, called with the place of one error's number in memory. Condition: that place can be read and written.
-/
import Derived.Test.YtekefbbjocekiabRd
import Derived.Test.YtekefbbjocekiabRow
import Derived.Deep.Light
namespace Go.Proofs.Ytekefbbjocekiab
open Go.RowKit
set_option linter.unusedVariables false

theorem well_c (g : Nat) (e : Int) (w : World) (h : w.cell? ⟨g, 0, none⟩ = some (.int .i64 e)) :
    Calls Try.prog 58 #[.pointer (some ⟨g, 0, none⟩)] w fun r w' => r = .returned (.bool (e == 0)) ∧ w' = w := by
  go_enter Try.func58, Try.ntmps58
  go_wp2
  go_ret
  exact ⟨rfl, rfl⟩

theorem fail_ok (g : Nat) (x : Int) (w : World) (h : w.cell? ⟨g, 0, none⟩ = some (.int .i64 0)) (hf : w.frozen? ⟨g, 0, none⟩ = false) :
    Calls Try.prog 60 #[.pointer (some ⟨g, 0, none⟩), .int .i64 x] w fun r w' => r = .returned (.tuple #[]) ∧ w' = w.setCell ⟨g, 0, none⟩ (.int .i64 x) := by
  go_enter Try.func60, Try.ntmps60
  go_wp2_with fail
  refine (well_c g 0 w h).mono ?_
  rintro e w1 ⟨rfl, rfl⟩
  go_wp2
  go_end0
  exact ⟨rfl, rfl⟩

theorem fail_no (g : Nat) (e x : Int) (w : World) (h : w.cell? ⟨g, 0, none⟩ = some (.int .i64 e)) (he : (e == 0) = false) :
    Calls Try.prog 60 #[.pointer (some ⟨g, 0, none⟩), .int .i64 x] w fun r w' => r = .returned (.tuple #[]) ∧ w' = w := by
  go_enter Try.func60, Try.ntmps60
  go_wp2_with fail
  refine (well_c g e w h).mono ?_
  rintro e w1 ⟨rfl, rfl⟩
  go_wp2
  go_end0
  exact ⟨rfl, rfl⟩

theorem must_so (g : Nat) (e x : Int) (w : World) (h : w.cell? ⟨g, 0, none⟩ = some (.int .i64 e)) :
    Calls Try.prog 50 #[.pointer (some ⟨g, 0, none⟩), .bool true, .int .i64 x] w fun r w' => r = .returned (.bool (e == 0)) ∧ w' = w := by
  go_enter Try.func50, Try.ntmps50
  go_wp2_with fail
  refine (well_c g e w h).mono ?_
  rintro e w1 ⟨rfl, rfl⟩
  go_wp2
  go_ret
  exact ⟨rfl, rfl⟩

theorem must_no (g : Nat) (e x : Int) (w : World) (h : w.cell? ⟨g, 0, none⟩ = some (.int .i64 e)) (he : (e == 0) = false) :
    Calls Try.prog 50 #[.pointer (some ⟨g, 0, none⟩), .bool false, .int .i64 x] w fun r w' => r = .returned (.bool false) ∧ w' = w := by
  go_enter Try.func50, Try.ntmps50
  go_wp2_with fail
  refine (fail_no g e x w h he).mono ?_
  rintro e w1 ⟨rfl, rfl⟩
  go_wp2_with fail
  refine (well_c g _ _ h).mono ?_
  rintro e w2 ⟨rfl, rfl⟩
  go_wp2
  go_ret
  exact ⟨rfl, rfl⟩

theorem must_ok (g : Nat) (x : Int) (w : World) (h : w.cell? ⟨g, 0, none⟩ = some (.int .i64 0)) (hf : w.frozen? ⟨g, 0, none⟩ = false) (hx : (x == 0) = false) :
    Calls Try.prog 50 #[.pointer (some ⟨g, 0, none⟩), .bool false, .int .i64 x] w fun r w' => r = .returned (.bool false) ∧ w' = w.setCell ⟨g, 0, none⟩ (.int .i64 x) := by
  have h2 : (w.setCell ⟨g, 0, none⟩ (.int .i64 x)).cell? ⟨g, 0, none⟩ = some (.int .i64 x) := World.cell?_setCell_same w _ _ h
  go_enter Try.func50, Try.ntmps50
  go_wp2_with fail
  refine (fail_ok g x w h hf).mono ?_
  rintro e w1 ⟨rfl, rfl⟩
  go_wp2_with fail
  refine (well_c g x _ h2).mono ?_
  rintro e w1 ⟨rfl, rfl⟩
  go_wp2
  go_ret
  exact ⟨rfl, rfl⟩
end Go.Proofs.Ytekefbbjocekiab
