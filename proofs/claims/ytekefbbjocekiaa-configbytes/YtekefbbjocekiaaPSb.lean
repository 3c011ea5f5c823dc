/-
  A string as bytes of one's own. No condition of its own.
-/
import Derived.Test.YtekefbbjocekiaaWPu
import Derived.Test.YtekefbbjocekiaaBrow
import Derived.Test.YtekefbbjocekiaaBk
namespace Go.Proofs.Ytekefbbjocekiaa
open Go.RowKit
set_option linter.unusedVariables false

/-- A string as bytes of one's own. -/
theorem str_bytes (s : ByteArray) (w : World) (hl : s.size ≤ 140737488355328) : ∃ W C, (convert 9 49 (.string s)).run Try.prog w = .ok (.slice (some ⟨w.heap.size, 0, none⟩) s.size C) W ∧ Mine W w.heap.size w.heap.size s.size C (sb s) ∧ Below w.heap.size w W := by
  have r2 := run_bytes_of_string (P := Try.prog) w 9 49 5 s Try.underlying9 Try.underlying49 Try.underlying5
  obtain ⟨C, hC⟩ : ∃ C, C = grownCap w s.size 0 5 := ⟨_, rfl⟩
  have hge : s.size ≤ C := by rw [hC]; exact grownCap_ge _ _ _ _
  have hmx : C ≤ maxLen := by rw [hC]; exact grownCap_le_maxLen _ _ _ _ (by unfold maxLen; omega)
  rw [← hC, bytesRow_size _ _ hge] at r2
  refine ⟨_, C, r2, ?_, (Below.refl _ _).drew.alloc (Nat.le_refl _) _⟩
  have hcl : ∀ i, (w.drew.alloc (.cells (bytesRow s C) 5 (C, C + 1))).cell? ⟨w.heap.size, i, none⟩ = (bytesRow s C)[i]? := fun i => World.cell?_alloc_mark w.drew _ _ _ i
  refine ⟨sb_length s, hge, hmx, Nat.le_refl _, by simp, fun i hi => ?_, fun i hi => ?_, fun i hi => ?_⟩
  · rw [hcl]
    have := strOfNums_at (sb s) (sb_bytes s) C i (by rw [sb_length]; exact hi)
    rw [str_sb] at this
    exact this
  · rw [hcl]
    simp [bytesRow_size _ _ hge, hi]
  · have := World.frozen?_alloc_mark w.drew (bytesRow s C) 5 C (C + 1) i
    refine Eq.trans this ?_
    simp; omega
theorem Mine.later {w w' : World} {B b n cap : Nat} {xs : List Int} (h : Mine w B b n cap xs) (hb : Below w.heap.size w w') : Mine w' B b n cap xs := h.keep hb h.lt
end Go.Proofs.Ytekefbbjocekiaa
