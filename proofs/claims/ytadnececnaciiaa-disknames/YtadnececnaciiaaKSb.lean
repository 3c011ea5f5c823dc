/-
  A string as bytes in memory of one's own. No condition of its own.
-/
import Derived.Test.YtadnececnaciiaaSBr
import Derived.Test.YtadnececnaciiaaFBk
namespace Go.Proofs.Ytadnececnaciiaa
open Go.RowKit
set_option linter.unusedVariables false

def sb (s : ByteArray) : List Int := s.data.toList.map fun c => (c.toNat : Int)
theorem sb_length (s : ByteArray) : (sb s).length = s.size := by simp [sb]
theorem sb_bytes (s : ByteArray) : Bytes (sb s) := bytes_of_mem (fun c hc => by
  obtain ⟨u, _, rfl⟩ := List.mem_map.1 hc
  have := u.toNat_lt
  omega)
theorem str_sb (s : ByteArray) : strOfNums (sb s) = s := by
  have h : (strOfNums (sb s)).data.toList = s.data.toList := by
    rw [strOfNums_data]
    simp only [sb, List.map_map]
    conv => rhs; rw [← List.map_id s.data.toList]
    apply List.map_congr_left
    intro u _
    simp
  cases s with
  | mk d =>
    have h2 : (strOfNums (sb ⟨d⟩)).data = d := by
      apply Array.ext'
      exact h
    cases h3 : strOfNums (sb ⟨d⟩)
    rw [h3] at h2
    rw [← h2]
/-- A string as bytes of one's own. -/
theorem str_bytesK (s : ByteArray) (w : World) (hl : s.size ≤ 140737488355328) : ∃ W C, (convert 9 57 (.string s)).run Try.prog w = .ok (.slice (some ⟨w.heap.size, 0, none⟩) s.size C) W ∧ Seg .u8 W (some ⟨w.heap.size, 0, none⟩) s.size (sb s) ∧ Below w.heap.size w W := by
  have r2 := run_bytes_of_string (P := Try.prog) w 9 57 5 s Try.underlying9 Try.underlying57 Try.underlying5
  obtain ⟨C, hC⟩ : ∃ C, C = grownCap w s.size 0 5 := ⟨_, rfl⟩
  have hge : s.size ≤ C := by rw [hC]; exact grownCap_ge _ _ _ _
  rw [← hC, bytesRow_size _ _ hge] at r2
  refine ⟨_, C, r2, ?_, (Below.refl _ _).drew.alloc (Nat.le_refl _) _⟩
  have hcl : ∀ i, (w.drew.alloc (.cells (bytesRow s C) 5 (C, C + 1))).cell? ⟨w.heap.size, i, none⟩ = (bytesRow s C)[i]? := fun i => World.cell?_alloc_mark w.drew _ _ _ i
  refine ⟨sb_length s, .inr ⟨w.heap.size, 0, rfl, by simp, fun i hi => ?_⟩⟩
  rw [Nat.zero_add, hcl]
  have := strOfNums_at (sb s) (sb_bytes s) C i (by rw [sb_length]; exact hi)
  rw [str_sb] at this
  exact this
end Go.Proofs.Ytadnececnaciiaa
