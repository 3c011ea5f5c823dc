/-
  What disk's copied answers of no files, and New of none; the methods of a disk that no call made. Condition: the room is 0 to 67108864.
-/
import Derived.Test.YtadnececnaciiaaRows
import Derived.Test.YtadnececnaciiaaFBk
import Derived.Laws.IdiomRangeMap
import Derived.BigQuiet
import Derived.LoopN
namespace Go.Proofs.Ytadnececnaciiaa
open Go.RowKit
set_option linter.unusedVariables false

/-- A map without entries. -/
def Mp0 (w : World) (b : Nat) : Prop := ∃ c, w.heap[b]? = some (.map #[] c)
theorem Mp0.grew {w w' : World} {b : Nat} (h : Mp0 w b) (hg : w.grownBy w' none) : Mp0 w' b := by
  obtain ⟨c, h⟩ := h
  exact ⟨c, (hg.block b (lt_of_block h) (by simp)).trans h⟩
theorem len_map0 (w : World) (b c : Nat) (h : w.heap[b]? = some (.map #[] c)) : (Builtin.len_ #[49] 3 #[.map (some b)]).run Try.prog w = .ok (.int .i64 0) w := by
  simp [Builtin.len_, run_underlying Try.underlying49, MapKept.run_getObj_map h]
  rfl
theorem make_map0 (w : World) : (Instr.makeMap 49 (some (.int .i64 0))).run Try.prog w = .ok (.map (some w.heap.size)) (w.alloc (.map #[] 0)) := by
  simp [Instr.makeMap, asInt]
  rfl
theorem range_map0 (w : World) (b c : Nat) (h : w.heap[b]? = some (.map #[] c)) : (Instr.range 49 (.map (some b))).run Try.prog w = .ok (.pointer (some ⟨w.heap.size, 0, none⟩)) (w.alloc (.mapIter (some b) c #[] c)) := run_range_map w 49 _ _ b #[] c Try.underlying49 h
theorem next_map0 (w : World) (ty : TypeId) (b c : Nat) (h : w.heap[b]? = some (.map #[] c)) : (Instr.next (.pointer (some ⟨w.heap.size, 0, none⟩)) false ty).run Try.prog (w.alloc (.mapIter (some b) c #[] c)) = .ok (.tuple #[.bool false]) (w.alloc (.mapIter (some b) c #[] c)) := by
  rcases run_next_map (P := Try.prog) w ty b c c #[] #[] c h (by simp) (Nat.le_refl _) with h1 | ⟨e, he, _⟩
  · exact h1.2
  · simp [leftOf] at he
theorem copied_c (b : Nat) (w : World) (h : Mp0 w b) : Calls Try.prog 38 #[.map (some b)] w fun r w' => ∃ m, r = .returned (.map (some m)) ∧ Mp0 w' m ∧ w.heap.size ≤ m ∧ w.grownBy w' none := by
  obtain ⟨c, hb⟩ := h
  have h1 := len_map0 w b c hb
  have h2 := make_map0 w
  have hb2 : (w.alloc (.map #[] 0)).heap[b]? = some (.map #[] c) := by rw [heap_alloc_old w _ (lt_of_block hb)]; exact hb
  have h3 := range_map0 (w.alloc (.map #[] 0)) b c hb2
  have h4 := next_map0 (w.alloc (.map #[] 0))
  have HF : Hid (Mp0 ((w.alloc (.map #[] 0)).alloc (.mapIter (some b) c #[] c)) w.heap.size ∧ w.grownBy ((w.alloc (.map #[] 0)).alloc (.mapIter (some b) c #[] c)) none) := by
    have g1 := World.grownBy_alloc w (.map #[] 0) none
    have g2 := World.grownBy_alloc (w.alloc (.map #[] 0)) (.mapIter (some b) c #[] c) none
    exact ⟨Mp0.grew ⟨0, heap_alloc_new w _⟩ g2, World.grownBy.trans g1 g2⟩
  replace h4 := fun ty => h4 ty b c hb2
  rw [World.size_alloc] at h4
  clear hb hb2
  go_enter Try.func38, Try.ntmps38
  go_wp2
  refine wp_loop_rounds 1 ?_
  rw [rounds_succ]
  go_wp2
  go_ret
  exact ⟨_, rfl, HF.out.1, Nat.le_refl _, HF.out.2⟩
end Go.Proofs.Ytadnececnaciiaa
