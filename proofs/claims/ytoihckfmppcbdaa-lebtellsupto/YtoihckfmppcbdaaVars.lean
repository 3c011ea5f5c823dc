/-
  Variables of one cell that a closure shares with a loop: what is read there, what a store leaves. No condition of its own.
-/
import Derived.Test.YtoihckfmppcbdaaIter
import Derived.Deep.Light
namespace Go.Proofs.Ytoihckfmppcbdaa
open Go.RowKit Go.Shelf
set_option linter.unusedVariables false
attribute [local go_sem] Oper.semAt_some

/-- The place behind so many numbers, and the error's number. -/
def skipped (xs : List Int) (N : Int) : Int × Int := if N < 0 then (0, 1) else skp xs N.toNat 0
theorem ret2 {k1 k2 : IntKind} {a b a' b' : Int} (h1 : a = a') (h2 : b = b') : Ending.returned (.tuple #[.int k1 a, .int k2 b]) = .returned (.tuple #[.int k1 a', .int k2 b']) := by rw [h1, h2]

theorem block_kept {W W' : World} {row : Option Nat} {B : Nat} {c : Array Value} {T : TypeId} {fr : Nat × Nat} (h : W.heap[B]? = some (.cells c T fr)) (hg : W.grownBy W' row) (hr : ∀ r, row = some r → ∃ o : Obj, W.heap[r]? = some o ∧ o.isCells = false) : W'.heap[B]? = some (.cells c T fr) :=
  (hg.block B (lt_of_block h) (fun e => by obtain ⟨o, ho, hc⟩ := hr B e.symm; rw [h] at ho; cases ho; simp [Obj.isCells] at hc)).trans h
theorem keep_b {n₀ Bs : Nat} {w : World} (hn : n₀ ≤ w.heap.size) (hBs : Bs < w.heap.size) (W : World) (l : Nat) (o o' : Obj) (hl : w.heap.size ≤ l) (h : W.heap[l]? = some o) (h1 : o.isCells = false) (h2 : o.isWalk = false) : Keep n₀ Bs W (W.putObj l o') :=
  ⟨belowK_b hn W l o o' hl h h1 h2, World.putObj_heap_other (by omega)⟩
theorem one64 (a : Int) (h : 0 ≤ a ∧ a < 18446744073709551616) : Bits64 [a] := fun i hi => by
  simp at hi; subst hi; simpa using h
theorem szs_one (a : Int) : szs [a] = sz a := by simp [szs]
/-- One variable in a block of its own. -/
def Var (W : World) (B : Nat) (x : Int) : Prop := W.heap[B]? = some (.cells #[.int .i64 x] 3 (0, 0))
theorem Var.cell {W : World} {B : Nat} {x : Int} (h : Var W B x) : W.cell? ⟨B, 0, none⟩ = some (.int .i64 x) := by rw [cell_of_row W B 0 _ _ _ h]; rfl
theorem Var.free {W : World} {B : Nat} {x : Int} (h : Var W B x) : W.frozen? ⟨B, 0, none⟩ = false := frozen_of_row W B 0 _ _ h
theorem Var.set {W : World} {B : Nat} {x : Int} (h : Var W B x) (y : Int) : Var (W.setCell ⟨B, 0, none⟩ (.int .i64 y)) B y := by
  unfold Var; rw [heap_setCell_same W B 0 _ _ _ h]; rfl
theorem Var.other {W : World} {B C : Nat} {x : Int} (h : Var W B x) (hn : B ≠ C) (u : Value) : Var (W.setCell ⟨C, 0, none⟩ u) B x := (Below.heap_setCell W ⟨C, 0, none⟩ u B hn).trans h
theorem Var.alloc {W : World} {B : Nat} {x : Int} (h : Var W B x) (o : Obj) : Var (W.alloc o) B x := (Below.heap_alloc W o B (lt_of_block h)).trans h
theorem Var.kept {W W' : World} {row : Option Nat} {B : Nat} {x : Int} (h : Var W B x) (hg : W.grownBy W' row) (hr : ∀ r, row = some r → ∃ o : Obj, W.heap[r]? = some o ∧ o.isCells = false) : Var W' B x := block_kept h hg hr

end Go.Proofs.Ytoihckfmppcbdaa
