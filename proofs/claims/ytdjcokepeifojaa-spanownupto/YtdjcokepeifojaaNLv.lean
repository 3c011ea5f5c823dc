/-
  Lists of ranges that lie somewhere and stay; append of a list to a row of one's own; a range written into a row of one's own. No condition of its own.
-/
import Derived.Test.YtdjcokepeifojaaNLq
namespace Go.Proofs.Ytdjcokepeifojaa
set_option linter.unusedVariables false
open Go.RowKit

/-- These lists can be read. -/
def Live (w : World) (l : List (Option Addr × List Rg)) : Prop := ∀ p ∈ l, Cells w p.1 (flR p.2)
theorem Live.gb {w w' : World} {l : List (Option Addr × List Rg)} (h : Live w l) (hg : w.grownBy w' none) : Live w' l := fun p hp => (h p hp).gb hg
theorem Live.cons {w : World} {a : Option Addr} {A : List Rg} {l : List (Option Addr × List Rg)} (h : Live w l) (k : Cells w a (flR A)) : Live w ((a, A) :: l) := fun p hp => by
  rcases List.mem_cons.1 hp with rfl | hp
  · exact k
  · exact h p hp
theorem Live.sub {w : World} {l m : List (Option Addr × List Rg)} (h : Live w l) (hs : ∀ p ∈ m, p ∈ l) : Live w m := fun p hp => h p (hs p hp)
/-- append(s, t...) over whatever elements, s nil or one's own. -/
theorem wpList_cat {ops : Array Oper} {rest : List Oper} {o : Oper} {a : Act} {w : World} {Q : Exit → Act → World → Prop} (hgd : o.guard = none) (s x : Operand) (t : TypeId)
    (ho : o.op = .call { callee := .builtin .append, args := #[s, x], argTypes := #[t, t] })
    (base : Nat) (e : TypeId) (z : Value) (size bytes : Nat) (ht : Try.prog.underlying t = some (.slice e)) (hi : (Try.prog.info? e).map (fun i => (i.zero, i.size, i.bytes)) = some (some z, size, bytes)) (hzs : z.cells.size = size) (hsz : 0 < size)
    (v : Value) (n : Nat) (xs : List Value) (hs : a.eval s = v) (hown : w.ownsRow base e size v n xs)
    (ao : Option Addr) (m c : Nat) (ys : List Value) (hx : a.eval x = .slice ao m c) (hao : ao = none → c = 0) (hl : ys.length = m * size) (hy : Cells w ao ys) (h1 : ∀ u ∈ ys, u.oneCell' = true)
    (h63 : n + m ≤ maxLen) (hbytes : (n + m) * bytes ≤ 140737488355328) (hbase : base ≤ w.heap.size)
    (h : ∀ v' w', w'.ownsRow base e size v' (n + m) (xs ++ ys) → Below base w w' → w.grownBy w' v.ownBlock → wpList Try.prog ops Q rest (a.put o.dst v') w') :
    wpList Try.prog ops Q (o :: rest) a w := by
  obtain ⟨i, hi, hz, h4, h5⟩ := info_parts' hi
  cases ao with
  | none =>
    have hys : ys = [] := by
      rcases hy with h0 | ⟨_, _, h0, _⟩
      · exact h0
      · cases h0
    subst hys
    have hm : m = 0 := by
      rcases Nat.eq_zero_or_pos m with h0 | h0
      · exact h0
      · have := Nat.mul_pos h0 hsz; simp at hl; omega
    subst hm
    have hc0 := hao rfl
    subst hc0
    refine wpList_append_own_none hgd s x t ho base e i size ht hi v n xs hs hown hx ?_
    exact h v w (by simpa using hown) (Below.refl _ _) ⟨rfl, rfl, rfl, Nat.le_refl _, fun _ _ _ => rfl⟩
  | some ad =>
    refine wpList_append_own w hgd s x t ho base e i z size bytes ht hi hz h4 h5 hzs hsz v n xs hs hown ad m c ys hx hl hy.news h1 h63 hbytes hbase ?_
    intro v' w' k1 k2 _
    exact h v' w' k1 (gb_own hown k2 hbase) k2
/-- append of some new elements to a row of one's own, as a step of a region that draws. -/
theorem step_litN {ops : Array Oper} {o : Oper} {a : Act} {w : World} {K : Act → World → Prop} {Q : Exit → Act → World → Prop} {E : Prop} (hgd : o.guard = none) (s x : Operand) (t : TypeId)
    (ho : o.op = .call { callee := .builtin .append, args := #[s, x], argTypes := #[t, t] })
    (base : Nat) (e : TypeId) (z : Value) (size bytes m : Nat) (hm : 0 < m) (ht : Try.prog.underlying t = some (.slice e)) (hi : (Try.prog.info? e).map (fun i => (i.zero, i.size, i.bytes)) = some (some z, size, bytes)) (hzs : z.cells.size = size) (hsz : 0 < size)
    (w0 : World) (cs : Array Value) (hw : w = w0.drew.alloc (.cells cs e)) (v : Value) (n : Nat) (xs : List Value) (hs : a.eval s = v) (hown : w0.ownsRow base e size v n xs)
    (hx : a.eval x = .slice (some ⟨w0.heap.size, 0, none⟩) m m) (hl : cs.size = m * size) (h1 : ∀ u ∈ cs.toList, u.oneCell' = true)
    (h63 : n + m ≤ maxLen) (hbytes : (n + m) * bytes ≤ 140737488355328) (hbase : base ≤ w0.heap.size)
    (h : ∀ g cap w', w'.ownsRow base e size (.slice (some ⟨g, 0, none⟩) (n + m) cap) (n + m) (xs ++ cs.toList) → Below base w0 w' → K (a.put o.dst (.slice (some ⟨g, 0, none⟩) (n + m) cap)) w') :
    if Region.wanted o (yielded ops a.tmps) = true then Oper.wp Try.prog o a w K Q else E := by
  subst hw
  obtain ⟨i, hi, hz, h4, h5⟩ := info_parts' hi
  have ho' := own_gb hown (gb_da w0 (.cells cs e))
  refine step_append_lies _ hgd s x t ho base e i z size bytes ht hi hz h4 h5 hzs hsz v n xs hs ho' ⟨w0.heap.size, 0, none⟩ m m cs.toList hx (by rw [Array.length_toList, hl]) (World.news_of_block (heap_new w0.drew _)) h1 hm h63 hbytes (Nat.le_trans hbase (gb_da w0 _).size) _ rfl ?_
  intro g cap w' k1 k2 _ _
  exact h g cap w' k1 (((Below.refl base w0).grown (gb_da w0 (.cells cs e)) hbase (fun k hk => by cases hk)).trans (gb_own ho' k2 (Nat.le_trans hbase (gb_da w0 _).size)))
theorem flR_set : ∀ (T : List Rg) (i : Nat) (r : Rg), ((flR T).set (i * 2) (.string r.1)).set (i * 2 + 1) (.string r.2) = flR (T.set i r)
  | [], i, r => by simp [flR]
  | x :: T, 0, r => by simp [flR, rC]
  | x :: T, i + 1, r => by
    have := flR_set T i r
    simp only [flR, List.flatMap_cons, List.set_cons_succ, rC] at this ⊢
    rw [← this]
    simp [show (i + 1) * 2 = i * 2 + 1 + 1 from by omega]
theorem own_set2 {w : World} {B : Nat} {g n cap : Nat} {T : List Rg} {e : TypeId} (h : w.ownsRow B e 2 (.slice (some ⟨g, 0, none⟩) n cap) n (flR T)) (i : Nat) (hi : i < n) (r : Rg) :
    ((w.setCell ⟨g, i * 2, none⟩ (.string r.1)).setCell ⟨g, i * 2 + 1, none⟩ (.string r.2)).ownsRow B e 2 (.slice (some ⟨g, 0, none⟩) n cap) n (flR (T.set i r)) := by
  refine ⟨by have := h.1; rw [flR_len] at this ⊢; simpa using this, .inr ?_⟩
  rcases h.2 with ⟨h', _⟩ | ⟨g', cap', cur, h', hB, hg, hn, hm, hsz, htake⟩
  · simp at h'
  · simp only [Value.slice.injEq, Option.some.injEq, Addr.mk.injEq, and_true, true_and] at h'
    obtain ⟨rfl, rfl⟩ := h'
    refine ⟨g, cap, (cur.setIfInBounds (i * 2) (.string r.1)).setIfInBounds (i * 2 + 1) (.string r.2), rfl, hB, ?_, hn, hm, by simpa using hsz, ?_⟩
    · rw [heap_setCell_same _ g _ _ e _ (heap_setCell_same w g _ _ e _ hg)]
    · rw [Array.toList_setIfInBounds, Array.toList_setIfInBounds, List.take_set, List.take_set, htake, flR_set]
theorem own_cell2 {w : World} {B : Nat} {g n cap : Nat} {T : List Rg} {e : TypeId} (h : w.ownsRow B e 2 (.slice (some ⟨g, 0, none⟩) n cap) n (flR T)) (i : Nat) (hi : i < n) : (∃ u, w.cell? ⟨g, i * 2, none⟩ = some u) ∧ (∃ u, w.cell? ⟨g, i * 2 + 1, none⟩ = some u) ∧ ∀ j, w.frozen? ⟨g, j, none⟩ = false := by
  rcases h.2 with ⟨h', _⟩ | ⟨g', cap', cur, h', hB, hg, hn, hm, hsz, htake⟩
  · simp at h'
  · simp only [Value.slice.injEq, Option.some.injEq, Addr.mk.injEq, and_true, true_and] at h'
    obtain ⟨rfl, rfl⟩ := h'
    refine ⟨⟨_, by rw [cell_of_row w g _ _ _ _ hg]; exact Array.getElem?_eq_getElem (by omega)⟩, ⟨_, by rw [cell_of_row w g _ _ _ _ hg]; exact Array.getElem?_eq_getElem (by omega)⟩, fun j => frozen_of_row _ _ j _ _ hg⟩
theorem own_set1b {w : World} {B : Nat} {g n cap : Nat} {T : List Rg} {a b u : ByteArray} {e : TypeId} (h : w.ownsRow B e 2 (.slice (some ⟨g, 0, none⟩) n cap) n (flR (T ++ [(a, b)]))) (hn : n = T.length + 1) :
    (w.setCell ⟨g, T.length * 2 + 1, none⟩ (.string u)).ownsRow B e 2 (.slice (some ⟨g, 0, none⟩) n cap) n (flR (T ++ [(a, u)])) := by
  have hl : flR (T ++ [(a, u)]) = (flR (T ++ [(a, b)])).set (T.length * 2 + 1) (.string u) := by
    rw [flR_app, flR_app, List.set_append_right _ _ (by rw [flR_len]; omega), flR_len, Nat.add_sub_cancel_left]
    rfl
  rw [hl]
  refine ⟨by have := h.1; simpa using this, .inr ?_⟩
  rcases h.2 with ⟨h', _⟩ | ⟨g', cap', cur, h', hB, hg, hn', hm, hsz, htake⟩
  · simp at h'
  · simp only [Value.slice.injEq, Option.some.injEq, Addr.mk.injEq, and_true, true_and] at h'
    obtain ⟨rfl, rfl⟩ := h'
    refine ⟨g, cap, cur.setIfInBounds (T.length * 2 + 1) (.string u), rfl, hB, ?_, hn', hm, by simpa using hsz, ?_⟩
    · rw [heap_setCell_same w g _ _ e _ hg]
    · rw [Array.toList_setIfInBounds, List.take_set, htake]
theorem own_cellb {w : World} {B : Nat} {g n cap : Nat} {xs : List Value} {e : TypeId} (h : w.ownsRow B e 2 (.slice (some ⟨g, 0, none⟩) n cap) n xs) (i : Nat) (hi : i < n * 2) : (∃ u, w.cell? ⟨g, i, none⟩ = some u) ∧ w.frozen? ⟨g, i, none⟩ = false := by
  rcases h.2 with ⟨h', _⟩ | ⟨g', cap', cur, h', hB, hg, hn, hm, hsz, htake⟩
  · simp at h'
  · simp only [Value.slice.injEq, Option.some.injEq, Addr.mk.injEq, and_true, true_and] at h'
    obtain ⟨rfl, rfl⟩ := h'
    exact ⟨⟨_, by rw [cell_of_row w g _ _ _ _ hg]; exact Array.getElem?_eq_getElem (by omega)⟩, frozen_of_row _ _ i _ _ hg⟩
end Go.Proofs.Ytdjcokepeifojaa
