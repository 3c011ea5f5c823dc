/-
  What the document's Own answers of three lists of one's own, as it is called: true. Condition: each of at most 2^46 bytes.
-/
import Derived.Test.YtlmjgjimmbadeaaDoorOwC
namespace Go.Proofs.YtlmjgjimmbadeaaDoor
open Go.RowKit
set_option linter.unusedVariables false

def tri {α : Type} (a b c : α) (i : Nat) : α := if i = 0 then a else if i = 1 then b else c
theorem three {i : Nat} (h : i < 3) : i = 0 ∨ i = 1 ∨ i = 2 := by omega
theorem fam3 {B : Nat} {w : World} {P : Nat} {v0 v1 v2 : Value} {l0 l1 l2 : Nat} {x0 x1 x2 : List Int} (o0 : Own B w v0 l0 x0) (o1 : Own B w v1 l1 x1) (o2 : Own B w v2 l2 x2)
    (d01 : ∀ g, v0.ownBlock = some g → v1.ownBlock ≠ some g) (d02 : ∀ g, v0.ownBlock = some g → v2.ownBlock ≠ some g) (d12 : ∀ g, v1.ownBlock = some g → v2.ownBlock ≠ some g) (p0 : v0.ownBlock ≠ some P) (p1 : v1.ownBlock ≠ some P) (p2 : v2.ownBlock ≠ some P) :
    Fam B w (fun g => g = P) 3 (tri v0 v1 v2) (tri v0 v1 v2) (tri l0 l1 l2) (tri l0 l1 l2) (tri x0 x1 x2) (tri x0 x1 x2) := by
  have hv : ∀ i, i < 3 → Own B w (tri v0 v1 v2 i) (tri l0 l1 l2 i) (tri x0 x1 x2 i) := fun i hi => by
    rcases three hi with rfl | rfl | rfl
    · exact o0
    · exact o1
    · exact o2
  have ha : ∀ i j g, i < 3 → j < 3 → i ≠ j → (tri v0 v1 v2 i).ownBlock = some g → (tri v0 v1 v2 j).ownBlock ≠ some g := fun i j g hi hj hne e => by
    rcases three hi with rfl | rfl | rfl <;> rcases three hj with rfl | rfl | rfl
    · exact absurd rfl hne
    · exact d01 g e
    · exact d02 g e
    · exact fun q => d01 g q e
    · exact absurd rfl hne
    · exact d12 g e
    · exact fun q => d02 g q e
    · exact fun q => d12 g q e
    · exact absurd rfl hne
  refine ⟨hv, hv, fun i j g hi hj hne hb => ?_, fun i g hi hb => ?_⟩
  · have hb' : (tri v0 v1 v2 i).ownBlock = some g := by rcases hb with q | q <;> exact q
    exact ⟨ha i j g hi hj hne hb', ha i j g hi hj hne hb'⟩
  · have hb' : (tri v0 v1 v2 i).ownBlock = some g := by rcases hb with q | q <;> exact q
    rintro rfl
    rcases three hi with rfl | rfl | rfl
    · exact p0 hb'
    · exact p1 hb'
    · exact p2 hb'
theorem own3_c (B : Nat) (w : World) (v0 v1 v2 : Value) (l0 l1 l2 : Nat) (x0 x1 x2 : List Int) (o0 : Own B w v0 l0 x0) (o1 : Own B w v1 l1 x1) (o2 : Own B w v2 l2 x2)
    (d01 : ∀ g, v0.ownBlock = some g → v1.ownBlock ≠ some g) (d02 : ∀ g, v0.ownBlock = some g → v2.ownBlock ≠ some g) (d12 : ∀ g, v1.ownBlock = some g → v2.ownBlock ≠ some g) (h0 : l0 ≤ 70368744177664) (h1 : l1 ≤ 70368744177664) (h2 : l2 ≤ 70368744177664) (hB : B ≤ w.heap.size) :
    Calls Tryd.prog 16 #[.slice (some ⟨w.heap.size, 0, none⟩) 3 3] (w.alloc (.cells #[v0, v1, v2] 27)) fun r w' => r = .returned (.bool true) ∧ Gr (fun g => v0.ownBlock = some g ∨ v1.ownBlock = some g ∨ v2.ownBlock = some g) w w' := by
  have hg := World.grownBy_alloc w (.cells #[v0, v1, v2] 27) none
  have hk := heap_new w (.cells #[v0, v1, v2] 27)
  have hn : ∀ {v l x}, Own B w v l x → v.ownBlock ≠ some w.heap.size := fun ho e => by have := (ho.lo _ e).2; omega
  have hF := fam3 (P := w.heap.size) (o0.grown hg (fun _ _ e => by cases e)) (o1.grown hg (fun _ _ e => by cases e)) (o2.grown hg (fun _ _ e => by cases e)) d01 d02 d12 (hn o0) (hn o1) (hn o2)
  refine (own_c B w.heap.size 3 (fun g => g = w.heap.size) _ _ _ _ hF (fun i hi => ?_) rfl (fun g e => by rw [e]; simp) (by omega) (fun i hi => ?_) (by simp; omega)).mono ?_
  · rw [cell_of_row _ _ i _ _ _ hk]
    rcases three hi with rfl | rfl | rfl <;> rfl
  · rcases three hi with rfl | rfl | rfl
    · exact h0
    · exact h1
    · exact h2
  · rintro r w' ⟨hr, hb⟩
    refine ⟨hr, (Gr.of hg (by simp)).trans (hb.wide (fun g _ hb => ?_))⟩
    obtain ⟨i, hi, e⟩ := hb
    rcases three hi with rfl | rfl | rfl
    · exact .inl e
    · exact .inr (.inl e)
    · exact .inr (.inr e)
theorem own_of_row {B w g xs} (h : Row .u8 5 w g xs) (hB : B ≤ g) (hm : xs.length ≤ maxLen) (n : Nat) (hn : n = xs.length) : Own B w (.slice (some ⟨g, 0, none⟩) n n) n xs := by
  subst hn
  exact ⟨by simp, .inr ⟨g, xs.length, _, rfl, hB, h, Nat.le_refl _, hm, by simp, by rw [Nat.mul_one, List.take_of_length_le (by simp)]⟩⟩
end Go.Proofs.YtlmjgjimmbadeaaDoor
