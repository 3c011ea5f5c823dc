/-
  Some facts on the going over of edges, and on rows of ranges of one's own. No condition of its own.
-/
import Derived.Test.YtdjcokepeifojaaNLy
namespace Go.Proofs.Ytdjcokepeifojaa
set_option linter.unusedVariables false
open Go.RowKit

theorem eds_step (A B : List Rg) : ∀ e ∈ edsL 0 A ++ edsL 1 B, e.2.2 = 1 ∨ e.2.2 = -1 := by
  have : ∀ (k : Int) (A : List Rg), ∀ e ∈ edsL k A, e.2.2 = 1 ∨ e.2.2 = -1 := by
    intro k A e he
    obtain ⟨r, _, hr⟩ := List.mem_flatMap.1 he
    unfold eds at hr
    by_cases h1 : rEmpty r = true
    · rw [if_pos h1] at hr; cases hr
    · rw [if_neg h1] at hr
      by_cases h2 : r.2 = .empty
      · rw [if_pos h2] at hr; simp at hr; rw [hr]; simp
      · rw [if_neg h2] at hr; simp at hr; rcases hr with rfl | rfl <;> simp
  intro e he
  rcases List.mem_append.1 he with he | he
  · exact this 0 A e he
  · exact this 1 B e he
theorem lstep_o (f : Bool → Bool → Bool) (s : LS) (e : Ed) (b : Bool) : (lstep f s e b).2.1 = o0' s e ∧ (lstep f s e b).2.2.1 = o1' s e := by
  unfold lstep
  cases b <;> cases s.2.2.2.1 <;> cases f (decide (0 < o0' s e)) (decide (0 < o1' s e)) <;> exact ⟨rfl, rfl⟩
theorem lw_bd (f : Bool → Bool → Bool) (E : List Ed) (h : ∀ e ∈ E, e.2.2 = 1 ∨ e.2.2 = -1) : ∀ k, k ≤ E.length → (-(k : Int) ≤ (lw f E k).2.1 ∧ (lw f E k).2.1 ≤ k) ∧ (-(k : Int) ≤ (lw f E k).2.2.1 ∧ (lw f E k).2.2.1 ≤ k)
  | 0, _ => by simp [lw]
  | k + 1, hk => by
    have ih := lw_bd f E h k (by omega)
    have hmem : E.getD k ed0 ∈ E := by
      have : E.getD k ed0 = E[k] := by simp [show k < E.length by omega]
      rw [this]; exact List.getElem_mem _
    have hs := h _ hmem
    have := lstep_o f (lw f E k) (E.getD k ed0) (sameN E k)
    rw [lw, this.1, this.2]
    unfold o0' o1'
    split <;> omega
theorem lstep_len (f : Bool → Bool → Bool) (s : LS) (e : Ed) (b : Bool) : (lstep f s e b).1.length ≤ s.1.length + 1 := by
  unfold lstep
  cases b <;> cases s.2.2.2.1 <;> cases f (decide (0 < o0' s e)) (decide (0 < o1' s e)) <;> simp
theorem lw_len (f : Bool → Bool → Bool) (E : List Ed) : ∀ k, (lw f E k).1.length ≤ k
  | 0 => by simp [lw]
  | k + 1 => by have := lw_len f E k; have := lstep_len f (lw f E k) (E.getD k ed0) (sameN E k); rw [lw]; omega
theorem infoRange : (Try.prog.info? 39).map (fun i => (i.zero, i.size, i.bytes)) = some (some (.agg #[.string .empty, .string .empty]), 2, 32) := by kernel_rfl
theorem infoGrange : (Try.prog.info? 68).map (fun i => (i.zero, i.size, i.bytes)) = some (some (.agg #[.string .empty, .string .empty]), 2, 32) := by kernel_rfl
theorem range_one (r : Rg) : ∀ u ∈ (rC r).toArray.toList, u.oneCell' = true := fun u hu => by
  simp only [rC, List.mem_cons, List.not_mem_nil, or_false] at hu
  rcases hu with rfl | rfl <;> rfl
theorem flR_snoc (A : List Rg) (r : Rg) : flR (A ++ [r]) = flR A ++ (rC r).toArray.toList := by rw [flR_app]; simp [flR]
/-- What an edge of a row reads. -/
theorem cells_ed {w : World} {g : Nat} {E : List Ed} (h : Cells w (some ⟨g, 0, none⟩) (flE E)) (i : Nat) (hi : i < E.length) : w.cell? ⟨g, i * 3, none⟩ = some (.string (E.getD i ed0).1) ∧ w.cell? ⟨g, i * 3 + 1, none⟩ = some (.int .i64 (E.getD i ed0).2.1) ∧ w.cell? ⟨g, i * 3 + 2, none⟩ = some (.int .i64 (E.getD i ed0).2.2) := by
  rcases h with h | ⟨b, off, ha, hb, hc⟩
  · have e : (flE E).length = 0 := by rw [h]; rfl
    rw [flE_len] at e; omega
  · cases ha
    have g0 := hc (i * 3) (.string (E.getD i ed0).1) (by have := flE_at E i 0 hi (by omega); rw [Nat.add_zero] at this; rw [this]; rfl)
    have g1 := hc (i * 3 + 1) (.int .i64 (E.getD i ed0).2.1) (by rw [flE_at E i 1 hi (by omega)]; rfl)
    have g2 := hc (i * 3 + 2) (.int .i64 (E.getD i ed0).2.2) (by rw [flE_at E i 2 hi (by omega)]; rfl)
    rw [Nat.zero_add] at g0 g1 g2
    exact ⟨g0, g1, g2⟩
/-- However a region is gone through, it ends so. -/
def eqA (A : Act) (W : World) (e : Exit) (a : Act) (w : World) : Prop := e = .normal ∧ a = A ∧ w = W
theorem eqA_intro (A : Act) (W : World) : eqA A W .normal A W := ⟨rfl, rfl, rfl⟩
theorem wp_eqA {P : Program} {c : Code} {Q : Exit → Act → World → Prop} {a A : Act} {w W : World} (h : c.wp P (eqA A W) a w) (k : Q .normal A W) : c.wp P Q a w :=
  Code.wp_mono (fun e a w ⟨h1, h2, h3⟩ => by subst h1 h2 h3; exact k) h
theorem held_set2 {w : World} {a b c : Addr} {x y v : Value} (h : w.cell? a = some x ∧ w.cell? b = some y) (hn : c.block ≠ a.block) (hab : a.block = b.block := by rfl) : (w.setCell c v).cell? a = some x ∧ (w.setCell c v).cell? b = some y := by
  rw [World.cell?_setCell_far _ _ _ _ hn, World.cell?_setCell_far _ _ _ _ (by rw [← hab]; exact hn)]; exact h
/-- A row of one's own, where another block is written. -/
theorem own_far {w w' : World} {B N : Nat} {e : TypeId} {size : Nat} {v : Value} {n : Nat} {xs : List Value} (h : w.ownsRow B e size v n xs) (hg : w.grownBy w' (some N)) (hN : N < B) : w'.ownsRow B e size v n xs := by
  refine ⟨h.1, ?_⟩
  rcases h.2 with h0 | ⟨g, cap, cur, rfl, hB, hb, r⟩
  · exact .inl h0
  · exact .inr ⟨g, cap, cur, rfl, hB, (hg.block g (lt_of_block hb) (fun e => by have := Option.some.inj e; omega)).trans hb, r⟩
theorem gb_set (w : World) (b i : Nat) (v : Value) : w.grownBy (w.setCell ⟨b, i, none⟩ v) (some b) := ⟨rfl, rfl, rfl, by simp, fun k _ hk => Below.heap_setCell _ _ _ _ (fun e => hk (by rw [e]))⟩
theorem gb_drew1 (w : World) : w.grownBy w.drew none := ⟨rfl, rfl, rfl, Nat.le_refl _, fun _ _ _ => rfl⟩
theorem same_yes {E : List Ed} {k : Nat} (h : k + 1 < E.length) (e : (E.getD (k + 1) ed0).1 = (E.getD k ed0).1) : sameN E k = true := by unfold sameN; simp only [h, e]; rfl
theorem same_no {E : List Ed} {k : Nat} (h : k + 1 < E.length) (e : ¬ (E.getD (k + 1) ed0).1 = (E.getD k ed0).1) : sameN E k = false := by unfold sameN; simp only [h, e]; rfl
theorem same_end {E : List Ed} {k : Nat} (h : ¬ k + 1 < E.length) : sameN E k = false := by unfold sameN; simp only [h]; rfl
theorem lstep_0 (f : Bool → Bool → Bool) (out : List Rg) (x y : Int) (i : Bool) (fr q : ByteArray) (st : Int) (b : Bool) : lstep f (out, x, y, i, fr) (q, 0, st) b =
    (if b = true then (out, x + st, y, i, fr) else if i = true then (if f (decide (0 < x + st)) (decide (0 < y)) = true then (out, x + st, y, true, fr) else (out ++ [(fr, q)], x + st, y, false, fr)) else (if f (decide (0 < x + st)) (decide (0 < y)) = true then (out, x + st, y, true, q) else (out, x + st, y, false, fr))) := rfl
theorem lstep_1 (f : Bool → Bool → Bool) (out : List Rg) (x y : Int) (i : Bool) (fr q : ByteArray) (st : Int) (b : Bool) : lstep f (out, x, y, i, fr) (q, 1, st) b =
    (if b = true then (out, x, y + st, i, fr) else if i = true then (if f (decide (0 < x)) (decide (0 < y + st)) = true then (out, x, y + st, true, fr) else (out ++ [(fr, q)], x, y + st, false, fr)) else (if f (decide (0 < x)) (decide (0 < y + st)) = true then (out, x, y + st, true, q) else (out, x, y + st, false, fr))) := rfl
end Go.Proofs.Ytdjcokepeifojaa
