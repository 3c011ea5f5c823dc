/-
  What the Reader's Fail does, called with whatever error. No condition of its own.
-/
import Derived.Test.YtdedmmodlbnnfaaPInt
namespace Go.Proofs.Ytdedmmodlbnnfaa
open Go.RowKit
set_option linter.unusedVariables false

theorem rfail_c (g : Nat) (a : Option Addr) (len cap : Nat) (xs : List Int) (e x : Int) (p : Nat) (w : World) (h : RS w g a len cap xs e p) :
    Calls Try.prog 48 #[.pointer (some ⟨g, 0, none⟩), .int .i64 x] w fun r w' => r = .returned (.tuple #[]) ∧ RS w' g a len cap xs (if e = 0 then x else e) p ∧ w.grownBy w' (some g) := by
  have HR : Hid (RS w g a len cap xs e p) := h
  clear h
  by_cases he : e = 0
  · subst he
    go_enter Try.func48, Try.ntmps48
    go_wp2_with fail
    refine (ready_c g 0 _ _ w HR.out.rdr).mono ?_
    rintro r w1 ⟨rfl, rfl⟩
    go_wp2_with fail
    refine (rfail_ok g a len cap xs p x _ HR.out).mono ?_
    rintro r w2 ⟨rfl, h1, h2⟩
    have H1 : Hid (RS w2 g a len cap xs x p ∧ w1.grownBy w2 (some g)) := ⟨h1, h2⟩
    clear h1 h2
    go_wp2
    go_end0
    exact ⟨rfl, H1.out.1, H1.out.2⟩
  · have hb : (e == 0) = false := by simp [he]
    have HE : Hid ((if e = 0 then x else e) = e) := by show _ = _; simp [he]
    rw [HE.out]
    clear he HE
    go_enter Try.func48, Try.ntmps48
    go_wp2_with fail
    refine (ready_c g e _ _ w HR.out.rdr).mono ?_
    rintro r w1 ⟨rfl, rfl⟩
    go_wp2
    go_end0
    exact ⟨rfl, HR.out, World.grownBy.refl _ _⟩

end Go.Proofs.Ytdedmmodlbnnfaa
