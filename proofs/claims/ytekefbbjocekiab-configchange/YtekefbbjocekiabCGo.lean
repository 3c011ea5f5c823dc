/-
  Lists of whole numbers of one's own, and append to them. Condition of append: both together at most 2^40 numbers.
-/
import Derived.Test.YtekefbbjocekiabWOwn
import Derived.Test.YtekefbbjocekiabBk
namespace Go.Proofs.Ytekefbbjocekiab
open Go.RowKit
set_option linter.unusedVariables false

theorem Try.infoI64 : (Try.prog.info? 3).map (fun i => (i.zero, i.size, i.bytes)) = some (some (.int .i64 0), 1, 8) := by kernel_rfl
/-- Whole numbers of one's own: nil, or a block from B on. -/
def OwI (B : Nat) (w : World) (v : Value) (n : Nat) (xs : List Int) : Prop := w.ownsRow B 3 1 v n (xs.map (Value.int .i64))
theorem owI_nil (B : Nat) (w : World) : OwI B w (.slice none 0 0) 0 [] := ⟨rfl, .inl ⟨rfl, rfl⟩⟩
theorem OwI.seg {B : Nat} {w : World} {v : Value} {n : Nat} {xs : List Int} (h : OwI B w v n xs) : ∃ a cap, v = .slice a n cap ∧ Seg .i64 w a n xs ∧ (a = none → cap = 0) ∧ n ≤ cap := by
  have hlen : xs.length = n := by have := h.1; simpa using this
  rcases h.2 with ⟨rfl, rfl⟩ | ⟨g, cap, cur, rfl, hB, hg, hn, hm, hsz, htake⟩
  · exact ⟨none, 0, rfl, ⟨hlen, .inl rfl⟩, fun _ => rfl, Nat.le_refl _⟩
  · refine ⟨_, cap, rfl, ⟨hlen, ?_⟩, (fun h => by cases h), hn⟩
    refine .inr ⟨g, 0, rfl, lt_of_block hg, fun i hi => ?_⟩
    rw [Nat.zero_add, h.cellAt i (by omega)]
    simp only [List.getElem?_map, List.getElem?_eq_getElem (show i < xs.length by omega)]; rfl
theorem OwI.form {B : Nat} {w : World} {v : Value} {n : Nat} {xs : List Int} (h : OwI B w v n xs) (hn : 0 < n) : ∃ g cap, v = .slice (some ⟨g, 0, none⟩) n cap ∧ B ≤ g ∧ n ≤ cap := by
  rcases h.2 with ⟨rfl, rfl⟩ | ⟨g, cap, cur, rfl, hB, _, hc, _⟩
  · omega
  · exact ⟨g, cap, rfl, hB, hc⟩
theorem OwI.cell {B : Nat} {w : World} {g n cap : Nat} {xs : List Int} (h : OwI B w (.slice (some ⟨g, 0, none⟩) n cap) n xs) (i : Nat) (hi : i < n) : w.cell? ⟨g, i, none⟩ = some (.int .i64 (xs[i]?.getD 0)) ∧ w.frozen? ⟨g, i, none⟩ = false := by
  have hlen : xs.length = n := by have := h.1; simpa using this
  refine ⟨?_, ?_⟩
  · rw [h.cellAt i (by omega)]
    simp only [List.getElem?_map, List.getElem?_eq_getElem (show i < xs.length by omega)]; rfl
  · rcases h.2 with ⟨h', _⟩ | ⟨g', cap', cur, h', hB, hg, _⟩
    · simp at h'
    · simp only [Value.slice.injEq, Option.some.injEq, Addr.mk.injEq, and_true, true_and] at h'
      obtain ⟨rfl, rfl⟩ := h'
      exact frozen_of_row _ _ _ _ _ hg
theorem OwI.set {B : Nat} {w : World} {g n cap : Nat} {xs : List Int} (h : OwI B w (.slice (some ⟨g, 0, none⟩) n cap) n xs) (i : Nat) (hi : i < n) (y : Int) : OwI B (w.setCell ⟨g, i, none⟩ (.int .i64 y)) (.slice (some ⟨g, 0, none⟩) n cap) n (xs.set i y) := by
  refine ⟨by have := h.1; simpa using this, .inr ?_⟩
  rcases h.2 with ⟨h', _⟩ | ⟨g', cap', cur, h', hB, hg, hn, hm, hsz, htake⟩
  · simp at h'
  · simp only [Value.slice.injEq, Option.some.injEq, Addr.mk.injEq, and_true, true_and] at h'
    obtain ⟨rfl, rfl⟩ := h'
    refine ⟨g, cap, cur.setIfInBounds i (.int .i64 y), rfl, hB, ?_, hn, hm, by simpa using hsz, ?_⟩
    · rw [heap_setCell_same w g i _ 3 _ hg]
    · rw [Array.toList_setIfInBounds, List.take_set, htake, List.map_set]
theorem OwI.below {B : Nat} {w w' : World} {v : Value} {n : Nat} {xs : List Int} (h : OwI B w v n xs) (hb : Below w.heap.size w w') : OwI B w' v n xs := by
  refine ⟨h.1, ?_⟩
  rcases h.2 with h0 | ⟨g, cap, cur, rfl, hB, hg, r⟩
  · exact .inl h0
  · exact .inr ⟨g, cap, cur, rfl, hB, (hb.block g (lt_of_block hg)).trans hg, r⟩
theorem OwI.base {B C : Nat} {w : World} {v : Value} {n : Nat} {xs : List Int} (h : OwI B w v n xs) (hc : C ≤ B) : OwI C w v n xs := by
  refine ⟨h.1, ?_⟩
  rcases h.2 with h0 | ⟨g, cap, cur, rfl, hB, r⟩
  · exact .inl h0
  · exact .inr ⟨g, cap, cur, rfl, Nat.le_trans hc hB, r⟩
theorem wpList_append_growI (w : World) {ops : Array Oper} {rest : List Oper} {o : Oper} {a : Act} {Q : Exit → Act → World → Prop}
    (hg : o.guard = none) (s x : Operand) (hop : o.op = Op.call { callee := Callee.builtin Builtin.append, args := #[s, x], argTypes := #[23, 23] })
    (B n : Nat) (v : Value) (xs : List Int) (hs : a.eval s = v) (hown : OwI B w v n xs)
    (ao : Option Addr) (m c : Nat) (ys : List Int) (hx : a.eval x = .slice ao m c) (hao : ao = none → c = 0) (hy : Seg .i64 w ao m ys) (hb : n + m ≤ 17592186044416) (hbase : B ≤ w.heap.size)
    (hK : ∀ v' w', OwI B w' v' (n + m) (xs ++ ys) → Below B w w' → wpList Try.prog ops Q rest (a.put o.dst v') w') :
    wpList Try.prog ops Q (o :: rest) a w := by
  obtain ⟨i, hi, hz, h4, h5⟩ := info_parts Try.infoI64
  cases ao with
  | none =>
    have hm0 : m = 0 := by
      rcases hy.2 with h0 | ⟨_, _, h, _⟩
      · exact h0
      · cases h
    subst hm0
    obtain rfl : ys = [] := List.eq_nil_of_length_eq_zero hy.1
    have hc0 := hao rfl
    subst hc0
    refine wpList_append_own_none hg s x 23 hop B 3 i 1 Try.underlying23 hi v n (xs.map (Value.int .i64)) hs hown hx ?_
    exact hK v w (by simpa using hown) (Below.refl _ _)
  | some ad =>
    refine wpList_append_own w hg s x 23 hop B 3 i (.int .i64 0) 1 8 Try.underlying23 hi hz h4 h5 rfl (by decide) v n (xs.map (Value.int .i64)) hs hown ad m c (ys.map (Value.int .i64)) hx (by simp [hy.1]) (seg_news' hy ad rfl) ?_ (by unfold maxLen; omega) (by omega) hbase ?_
    · intro u hu; obtain ⟨z, _, rfl⟩ := List.mem_map.1 hu; rfl
    · intro v' w' hown' hgrow _
      refine hK v' w' (by unfold OwI; rw [List.map_append]; exact hown') ((Below.refl _ _).grown hgrow hbase ?_)
      intro k hk
      rcases hown.2 with ⟨rfl, _⟩ | ⟨g, cap, cur, rfl, hB, _⟩
      · cases hk
      · cases hk; exact hB

theorem wpList_append_apartI (w : World) {ops : Array Oper} {rest : List Oper} {o : Oper} {a : Act} {Q : Exit → Act → World → Prop}
    (hg : o.guard = none) (s x : Operand) (hop : o.op = Op.call { callee := Callee.builtin Builtin.append, args := #[s, x], argTypes := #[23, 23] })
    (B n : Nat) (v : Value) (xs : List Int) (hs : a.eval s = v) (hown : OwI B w v n xs)
    (ao : Option Addr) (m c : Nat) (ys : List Int) (hx : a.eval x = .slice ao m c) (hao : ao = none → c = 0) (hy : Seg .i64 w ao m ys) (hb : n + m ≤ 17592186044416) (hbase : B ≤ w.heap.size)
    (hK : ∀ v' w', OwI B w' v' (n + m) (xs ++ ys) → w.grownBy w' v.ownBlock → (v'.ownBlock = v.ownBlock ∨ v'.ownBlock = some w.heap.size) → wpList Try.prog ops Q rest (a.put o.dst v') w') :
    wpList Try.prog ops Q (o :: rest) a w := by
  obtain ⟨i, hi, hz, h4, h5⟩ := info_parts Try.infoI64
  cases ao with
  | none =>
    have hm0 : m = 0 := by
      rcases hy.2 with h0 | ⟨_, _, h, _⟩
      · exact h0
      · cases h
    subst hm0
    obtain rfl : ys = [] := List.eq_nil_of_length_eq_zero hy.1
    have hc0 := hao rfl
    subst hc0
    refine wpList_append_own_none hg s x 23 hop B 3 i 1 Try.underlying23 hi v n (xs.map (Value.int .i64)) hs hown hx ?_
    exact hK v w (by simpa using hown) ⟨rfl, rfl, rfl, Nat.le_refl _, fun _ _ _ => rfl⟩ (.inl rfl)
  | some ad =>
    refine wpList_append_own_at w hg s x 23 hop B 3 i (.int .i64 0) 1 8 Try.underlying23 hi hz h4 h5 rfl (by decide) v n (xs.map (Value.int .i64)) hs hown ad m c (ys.map (Value.int .i64)) hx (by simp [hy.1]) (seg_news' hy ad rfl) ?_ (by unfold maxLen; omega) (by omega) hbase ?_
    · intro u hu; obtain ⟨z, _, rfl⟩ := List.mem_map.1 hu; rfl
    · intro v' w' hown' hgrow _ hat
      exact hK v' w' (by unfold OwI; rw [List.map_append]; exact hown') hgrow hat
/-- What lies in another block stays. -/
theorem OwI.grown {B : Nat} {w w' : World} {u : Value} {n : Nat} {ys : List Int} {row : Option Nat} (h : OwI B w u n ys) (hg : w.grownBy w' row) (hne : ∀ g, u.ownBlock = some g → row ≠ some g) : OwI B w' u n ys := by
  refine ⟨h.1, ?_⟩
  rcases h.2 with h0 | ⟨g, cap, cur, rfl, hB, hgb, r⟩
  · exact .inl h0
  · exact .inr ⟨g, cap, cur, rfl, hB, (hg.block g (lt_of_block hgb) (fun e => hne g rfl e.symm)).trans hgb, r⟩
theorem OwI.lo {B : Nat} {w : World} {u : Value} {n : Nat} {ys : List Int} (h : OwI B w u n ys) : ∀ g, u.ownBlock = some g → B ≤ g ∧ g < w.heap.size := by
  intro g hg
  rcases h.2 with ⟨rfl, _⟩ | ⟨g', cap, cur, rfl, hB, hgb, _⟩
  · cases hg
  · cases hg; exact ⟨hB, lt_of_block hgb⟩
end Go.Proofs.Ytekefbbjocekiab
