/-
  What disk's New answers of no files: a disk. Condition: the room is at most 67108864.
-/
import Derived.Test.YteoohgjoffpmkaaKCr
namespace Go.Proofs.Yteoohgjoffpmkaa
open Go.RowKit
set_option linter.unusedVariables false

theorem mp0_mps {w : World} {b : Nat} (h : Mp0 w b) : MpS w b (fun _ => none) := by
  obtain ⟨c, h⟩ := h
  exact ⟨#[], c, h, MapKept.stamped_empty c, by simp, by simp⟩
/-- A disk without files. -/
def dk0 (room : Nat) : Dk := ⟨room, room, fun _ => none, fun _ => none, [], 0, 0, false⟩
theorem bnd0 : bnd (fun _ => none) := fun s xs hs => (by cases hs)
theorem dok0 (room : Nat) (h : room ≤ 67108864) : Dok (dk0 room) where
  ok := trivial
  bn := bnd0
  se := rfl
  tot := ⟨0, tot_none, rfl⟩
  room := h
  nm := fun s xs hs => (by cases hs)
  all := fun k => ⟨0, tot_none, Nat.zero_le _, bnd0⟩
theorem new0_m (room : Nat) (w : World) (h : room ≤ 67108864) : Calls Try.prog 10 #[.int .i64 (room : Int), .slice none 0 0] w fun r w' => ∃ g, r = .returned (.tuple #[.pointer (some ⟨g, 0, none⟩), .int .i64 0]) ∧ DkM (fun k => w.heap.size ≤ k ∧ k < w'.heap.size) w' g (dk0 room) ∧ Below w.heap.size w w' := by
  refine Calls.mono (new0_c (room : Int) w (by omega) (by omega)) ?_
  rintro r w' ⟨g, s, l, rfl, k1, k2, k3, k4, k5, k6, k7, k8⟩
  have hs := (mp0_mps k2)
  have hl := (mp0_mps k3)
  have hgs : s ≠ g := by
    rintro rfl
    obtain ⟨c, q⟩ := k2
    unfold Bk at k1
    rw [q] at k1; cases k1
  have hgl : l ≠ g := by
    rintro rfl
    obtain ⟨c, q⟩ := k3
    unfold Bk at k1
    rw [q] at k1; cases k1
  have hg := lt_of_block k1
  have z1 := hs.lt
  have z2 := hl.lt
  refine ⟨g, rfl, ⟨s, l, .slice none 0 0, fun _ => none, fun _ => none, [], fun k => k = s, fun k => k = l, fun _ => False, ⟨k1, fl_none hs rfl, fl_none hl rfl, ⟨rfl, .inl ⟨rfl, rfl⟩⟩, ⟨rfl, fun i v p hv => by simp at hv⟩, ?_, ?_, fun k hk => hk.elim, by simp [Value.ownBlock]⟩, ?_⟩, gbK_below k8⟩
  · rintro k rfl
    exact ⟨z1, hgs, k4, fun z => z, by simp [Value.ownBlock]⟩
  · rintro k rfl
    exact ⟨z2, hgl, fun z => z, by simp [Value.ownBlock]⟩
  · rintro k (rfl | rfl | rfl | hk | hk)
    · exact ⟨k5, hg⟩
    · exact ⟨k6, z1⟩
    · exact ⟨k7, z2⟩
    · exact hk.elim
    · simp [Value.ownBlock] at hk
end Go.Proofs.Yteoohgjoffpmkaa
