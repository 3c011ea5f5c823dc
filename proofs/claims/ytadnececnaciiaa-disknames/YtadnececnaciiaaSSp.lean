/-
  What sha's spread answers: the words of a block, one a round. Condition: the block has 64 bytes.
-/
import Derived.Test.YtadnececnaciiaaSBl
namespace Go.Proofs.Ytadnececnaciiaa
set_option linter.unusedVariables false
open Go.RowKit

theorem spr_len (bs : List Int) (k : Nat) : (spr bs k).length = k := by
  induction k with
  | zero => rfl
  | succ k ih => simp [spr, ext, ih]
/-- The words so far, and zeros. -/
def spz (bs : List Int) (k : Nat) : List Wd := spr bs k ++ List.replicate (64 - k) 0
theorem spz_len (bs : List Int) (k : Nat) (h : k ≤ 64) : (spz bs k).length = 64 := by simp [spz, spr_len]; omega
theorem spz_set (bs : List Int) (k : Nat) (h : k < 64) : (spz bs k).set k (nxt bs (spr bs k)) = spz bs (k + 1) := by
  unfold spz
  rw [List.set_append_right _ _ (by rw [spr_len]; exact Nat.le_refl _), spr_len, Nat.sub_self, show 64 - k = (64 - (k + 1)) + 1 from by omega, List.replicate_succ, List.set_cons_zero]
  show _ = ext bs (spr bs k) ++ _
  simp [ext]
theorem spz_get (bs : List Int) (k i : Nat) (h : i < k) : (spz bs k).getD i 0 = (spr bs k).getD i 0 := by
  unfold spz
  simp only [List.getD_eq_getElem?_getD]
  rw [List.getElem?_append_left (by rw [spr_len]; exact h)]
theorem spz_end (bs : List Int) : spz bs 64 = spr bs 64 := by simp [spz]
theorem nxt_low (bs : List Int) (k : Nat) (h : k < 16) : nxt bs (spr bs k) = wd4 bs k := by unfold nxt; rw [spr_len, if_pos h]
theorem nxt_high (bs : List Int) (k : Nat) (h : ¬ k < 16) : nxt bs (spr bs k) = (spr bs k).getD (k - 16) 0 + s0 ((spr bs k).getD (k - 15) 0) + (spr bs k).getD (k - 7) 0 + s1 ((spr bs k).getD (k - 2) 0) := by unfold nxt; rw [spr_len, if_neg h]

theorem cell_set16 {w : World} {b j : Nat} {u u1 u2 : Value} (h1 : w.cell? ⟨b, j, none⟩ = some u1) (h2 : w.cell? ⟨b, j + 9, none⟩ = some u2) : (w.setCell ⟨b, j + 16, none⟩ u).cell? ⟨b, j, none⟩ = some u1 ∧ (w.setCell ⟨b, j + 16, none⟩ u).cell? ⟨b, j + 9, none⟩ = some u2 :=
  ⟨(World.cell?_setCell_other _ _ _ _ (fun e => by simp at e)).trans h1, (World.cell?_setCell_other _ _ _ _ (fun e => by simp at e)).trans h2⟩
end Go.Proofs.Ytadnececnaciiaa
