/-
  What the document's Copy answers of whatever bytes: the same bytes in memory of one's own. Condition: they can be read, and their length is one that a machine has.
-/
import Derived.Test.YtcdgfghcmeadgaaDoorFa
import Derived.Laws.IdiomStrings
namespace Go.Proofs.YtcdgfghcmeadgaaDoor
open Go.RowKit
set_option linter.unusedVariables false

set_option maxHeartbeats 400000 in
theorem copy_c (a : Option Addr) (len cap : Nat) (xs : List Int) (w : World) (h : Seg .u8 w a len xs) (hx : Bytes xs) (hl : len ≤ 140737488355328) :
    Calls Tryd.prog 32 #[.slice a len cap] w fun e w' => ∃ g cap', e = .returned (.slice (some ⟨g, 0, none⟩) len cap') ∧ Mine w' w.heap.size g len cap' xs ∧ Below w.heap.size w w' := by
  have r1 := seg_string (P := Tryd.prog) 27 9 5 cap h Tryd.underlying27 Tryd.underlying5 Tryd.underlying9
  have r2 := run_bytes_of_string (P := Tryd.prog) w 9 27 5 (strOfNums xs) Tryd.underlying9 Tryd.underlying27 Tryd.underlying5
  have hsz := strOfNums_size xs
  rw [h.1] at hsz
  obtain ⟨C, hC⟩ : ∃ C, C = grownCap w (strOfNums xs).size 0 5 := ⟨_, rfl⟩
  have hge : len ≤ C := by rw [hC, ← hsz]; exact grownCap_ge _ _ _ _
  have hmx : C ≤ maxLen := by rw [hC]; exact grownCap_le_maxLen _ _ _ _ (by rw [hsz]; unfold maxLen; omega)
  rw [← hC, hsz, bytesRow_size _ _ (by rw [hsz]; exact hge)] at r2
  have HC : Hid (Mine (w.drew.alloc (.cells (bytesRow (strOfNums xs) C) 5 (C, C + 1))) w.heap.size w.heap.size len C xs) := by
    have hcl : ∀ i, (w.drew.alloc (.cells (bytesRow (strOfNums xs) C) 5 (C, C + 1))).cell? ⟨w.heap.size, i, none⟩ = (bytesRow (strOfNums xs) C)[i]? := fun i => World.cell?_alloc_mark w.drew _ _ _ i
    refine ⟨h.1, hge, hmx, Nat.le_refl _, by simp, fun i hi => ?_, fun i hi => ?_, fun i hi => ?_⟩
    · rw [hcl, strOfNums_at xs hx C i (by rw [h.1]; exact hi)]
    · rw [hcl]
      simp [bytesRow_size _ _ (show (strOfNums xs).size ≤ C by rw [hsz]; exact hge), hi]
    · have := World.frozen?_alloc_mark w.drew (bytesRow (strOfNums xs) C) 5 C (C + 1) i
      refine Eq.trans this ?_
      simp; omega
  clear hC hsz h hx
  go_enter Tryd.func32, Tryd.ntmps32
  go_wp2
  go_ret
  exact ⟨_, C, rfl, HC.out, (Below.refl _ _).drew.alloc (Nat.le_refl _) _⟩
end Go.Proofs.YtcdgfghcmeadgaaDoor
