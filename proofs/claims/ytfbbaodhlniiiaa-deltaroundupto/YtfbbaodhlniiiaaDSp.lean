/-
  What delta's Split answers of bytes: updates whose stream is a beginning of them, up to where none follows. Condition: at most 2^37 bytes.
-/
import Derived.Test.YtfbbaodhlniiiaaDSt
import Derived.Deep.AppendLies
namespace Go.Proofs.Ytfbbaodhlniiiaa.Dl
open Go.RowKit
set_option linter.unusedVariables false

/-- Updates one behind the other, in memory of one's own. -/
def UOwn (B : Nat) (w : World) (v : Value) (X : List Upd) : Prop := w.ownsRow B 27 7 v X.length (X.flatMap Upd.cells)
theorem infoU7 : (Try.prog.info? 27).map (fun i => (i.zero, i.size, i.bytes)) = some (some (.agg noUpd), 7, 72) := by kernel_rfl
theorem uown_nil (B : Nat) (w : World) : UOwn B w (.slice none 0 0) [] := ⟨rfl, .inl ⟨rfl, rfl⟩⟩
theorem UOwn.gb {B : Nat} {w w' : World} {v : Value} {X : List Upd} {row : Option Nat} (h : UOwn B w v X) (hg : w.grownBy w' row) (hr : ∀ k, row = some k → k < B) : UOwn B w' v X := by
  refine ⟨h.1, ?_⟩
  rcases h.2 with q | ⟨g, cap, cur, q1, q2, q3, q4⟩
  · exact .inl q
  · exact .inr ⟨g, cap, cur, q1, q2, (hg.block g (lt_of_block q3) (fun e => by have := hr g e.symm; omega)).trans q3, q4⟩
theorem UOwn.lo {B : Nat} {w : World} {v : Value} {X : List Upd} (h : UOwn B w v X) : ∀ g, v.ownBlock = some g → B ≤ g := by
  intro g hg
  rcases h.2 with ⟨rfl, _⟩ | ⟨g', cap, cur, rfl, hB, _⟩
  · cases hg
  · cases hg; exact hB
/-- One update appended. -/
theorem wpList_upd {ops : Array Oper} {rest : List Oper} {o : Oper} {a : Act} {w0 : World} {Q : Exit → Act → World → Prop} (hgd : o.guard = none) (s x : Operand)
    (ho : o.op = .call { callee := .builtin .append, args := #[s, x], argTypes := #[22, 22] }) (B : Nat) (v : Value) (X : List Upd) (u : Upd) (hs : a.eval s = v) (hown : UOwn B w0 v X)
    (hx : a.eval x = .slice (some ⟨w0.heap.size, 0, none⟩) 1 1) (hn : X.length ≤ 137438953472) (hB : B ≤ w0.heap.size)
    (h : ∀ v' w', UOwn B w' v' (X ++ [u]) → w0.grownBy w' v.ownBlock → (v'.ownBlock = v.ownBlock ∨ ∃ g, v'.ownBlock = some g ∧ w0.heap.size ≤ g) → wpList Try.prog ops Q rest (a.put o.dst v') w') :
    wpList Try.prog ops Q (o :: rest) a (w0.alloc (.cells u.cells.toArray 27)) := by
  obtain ⟨i, hi, hz, h4, h5⟩ := info_parts infoU7
  have ho' : UOwn B (w0.alloc (.cells u.cells.toArray 27)) v X := hown.gb (gb_alloc _ _) (fun k hk => by cases hk)
  refine wpList_append_lies _ hgd s x 22 ho B 27 i (.agg noUpd) 7 72 Try.underlying22 hi hz h4 h5 rfl (by omega) v X.length _ hs ho' ⟨w0.heap.size, 0, none⟩ 1 1 u.cells hx rfl (World.news_of_block (heap_new w0 _)) (by intro z hz; simp [Upd.cells] at hz; rcases hz with rfl | rfl | rfl | rfl | rfl | rfl | rfl <;> rfl) (by omega) (by unfold maxLen; omega) (by omega) (Nat.le_trans hB (gb_alloc w0 _).size) _ rfl ?_
  intro g cap w' k1 k2 k3 k4
  refine h _ w' ?_ (gb_trans (gb_wide (gb_alloc w0 _) _) k2) ?_
  · unfold UOwn
    rw [List.length_append, List.flatMap_append]
    simpa using k1
  · rcases k3 with e | e
    · exact .inl e.symm
    · exact .inr ⟨g, rfl, by rw [e]; exact (gb_alloc w0 _).size⟩
end Go.Proofs.Ytfbbaodhlniiiaa.Dl
