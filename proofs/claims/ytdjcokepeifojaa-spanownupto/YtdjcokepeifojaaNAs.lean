/-
  What a loop over span's All may count on: each bucket with its range comes, from 0 on, all of them, or those up to the one at which the loop was left. No condition.
-/
import Derived.Test.YtdjcokepeifojaaNAl
namespace Go.Proofs.Ytdjcokepeifojaa
open Go.RowKit Go.Shelf
set_option linter.unusedVariables false

def encK (d : Int) {N : Nat} (k : Fin N) : Array Value := #[.int .i64 (k.val : Int), rv (ofR d (k.val : Int))]
/-- What a loop's body keeps: the iterator's block. -/
def BsK (Bs : Nat) (A B : World) : Prop := B.heap[Bs]? = A.heap[Bs]?
theorem BsK.trans {Bs : Nat} {A B C : World} (h : BsK Bs A B) (k : BsK Bs B C) : BsK Bs A C := Eq.trans (show C.heap[Bs]? = B.heap[Bs]? from k) h
theorem BsK.put {Bs : Nat} {w : World} (hBs : Bs < w.heap.size) (W : World) (l : Nat) (o o' : Obj) (hl : w.heap.size ≤ l) (h : W.heap[l]? = some o) (h1 : o.isCells = false) (h2 : o.isWalk = false) : BsK Bs W (W.putObj l o') :=
  World.putObj_heap_other (by omega)
theorem cell_one {W : World} {B : Nat} {v : Value} {t : TypeId} (h : W.heap[B]? = some (.cells #[v] t (0, 0))) : W.cell? ⟨B, 0, none⟩ = some v := by
  have := cell_of_row W B 0 #[v] t (0, 0) h
  simpa using this
theorem all_stops (n : Nat) (hn : 1 ≤ n) (Bs : Nat) (d : Int) (N : Nat) (hN : nbk d = (N : Int)) (w : World) (hBs : Bs < w.heap.size) (hc : w.heap[Bs]? = some (.cells #[.int .i64 d] 3 (0, 0))) :
    SeqStopsK Fence.wide n Try.prog 29 #[.pointer (some ⟨Bs, 0, none⟩)] (encK d (N := N)) (BsK Bs) (fun xs => xs.map Fin.val = List.range N) (fun pre => ∃ k, k < N ∧ pre.map Fin.val = List.range (k + 1)) N w := fun l J Jx W hW hJ hJx hY h0 => by
  refine (all1_in n hn l Bs d N hN (fun k W' => ∃ pre : List (Fin N), pre.map Fin.val = List.range k ∧ J pre W' ∧ W'.heap[Bs]? = some (.cells #[.int .i64 d] 3 (0, 0))) (fun k W' => ∃ pre : List (Fin N), pre.map Fin.val = List.range (k + 1) ∧ Jx pre W') ?_ ?_ ?_ W ⟨[], rfl, h0, (hW.block _ hBs).trans hc⟩).mono ?_
  · rintro k A B ⟨pre, h1, h2, h3⟩ hg
    exact ⟨pre, h1, hJ _ A B none h2 hg (fun r e => by cases e), (hg.block Bs (Array.getElem?_eq_some_iff.1 h3).1 (fun e => by cases e)).trans h3⟩
  · rintro k A ⟨pre, h1, h2, h3⟩
    exact cell_one h3
  · rintro k W1 ⟨pre, h1, h2, h3⟩ hk
    have hl : pre.length = k := by have := congrArg List.length h1; simpa using this
    refine (hY pre ⟨k, hk⟩ W1 h2 (by omega)).mono ?_
    rintro e W' (⟨he, hj, hkp⟩ | ⟨he, hj⟩)
    · exact .inl ⟨he, pre ++ [⟨k, hk⟩], by simp [h1, List.range_succ], hj, Eq.trans hkp h3⟩
    · exact .inr ⟨he, pre ++ [⟨k, hk⟩], by simp [h1, List.range_succ], hj⟩
  · rintro e W' ⟨he, h⟩
    refine ⟨he, ?_⟩
    rcases h with ⟨pre, h1, h2, _⟩ | ⟨k, hk, pre, h1, h2⟩
    · exact .inl ⟨pre, h1, h2⟩
    · exact .inr ⟨pre, ⟨k, hk, h1⟩, h2⟩
end Go.Proofs.Ytdjcokepeifojaa
