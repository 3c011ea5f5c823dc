/-
  Lists of updates as rows of cells; a list that came in appended to none; two updates appended. Condition: at most 2^20 updates.
-/
import Derived.Test.YtmekcjonpmkoeaaDSu
namespace Go.Proofs.Ytmekcjonpmkoeaa.Dl
open Go.RowKit
set_option linter.unusedVariables false
theorem fm : ∀ (X : List Upd) (j : Nat), (X.flatMap Upd.cells)[j]? = X[j / 7]?.bind (fun u => u.cells[j % 7]?)
  | [], j => by simp
  | u :: X, j => by
    rw [List.flatMap_cons]
    rcases Nat.lt_or_ge j 7 with h | h
    · rw [List.getElem?_append_left (by rw [Upd.cells_length]; exact h), show j / 7 = 0 by omega, show j % 7 = j by omega]
      simp
    · rw [List.getElem?_append_right (by rw [Upd.cells_length]; exact h), Upd.cells_length, fm X (j - 7), show j / 7 = (j - 7) / 7 + 1 by omega, show j % 7 = (j - 7) % 7 by omega]
      simp
theorem fm_len : ∀ (X : List Upd), (X.flatMap Upd.cells).length = X.length * 7
  | [] => by simp
  | u :: X => by rw [List.flatMap_cons, List.length_append, Upd.cells_length, fm_len X, List.length_cons]; omega
theorem fm_one (X : List Upd) : ∀ z ∈ X.flatMap Upd.cells, z.oneCell' = true := by
  intro z hz
  obtain ⟨u, _, hz⟩ := List.mem_flatMap.1 hz
  simp [Upd.cells] at hz
  rcases hz with rfl | rfl | rfl | rfl | rfl | rfl | rfl <;> rfl
theorem upds_news {w : World} {ad : Addr} {n : Nat} {X : List Upd} (h : Upds w (some ad) n X) : ∀ j u, (X.flatMap Upd.cells)[j]? = some u → w.cell? (ad.add j) = some u := by
  intro j v hv
  rw [fm] at hv
  cases hx : X[j / 7]? with
  | none => rw [hx] at hv; cases hv
  | some u =>
    rw [hx] at hv
    have hlt : j / 7 < n := by
      rw [← h.1]
      exact (List.getElem?_eq_some_iff.1 hx).1
    rcases h.2 with z | ⟨b, off, ha, hb, hc⟩
    · omega
    · cases ha
      have := hc (j / 7) hlt (j % 7) v (by unfold upAt; rw [hx]; exact hv)
      rw [add_plainD]
      have e : off + j / 7 * 7 + j % 7 = off + j := by omega
      rw [e] at this
      exact this
/-- What is owned can be read. -/
theorem own_row7 {w : World} {B : Nat} {T : TypeId} {g n cap : Nat} {X : List Upd} (h : w.ownsRow B T 7 (.slice (some ⟨g, 0, none⟩) n cap) n (X.flatMap Upd.cells)) (i : Nat) (u : Upd) (hi : X[i]? = some u) : w.rangeAt g (i * 7) u.cells := by
  intro j v hv
  have hj : j < 7 := (List.getElem?_eq_some_iff.1 hv).1
  have hk : (X.flatMap Upd.cells)[i * 7 + j]? = some v := by
    rw [fm, show (i * 7 + j) / 7 = i by omega, show (i * 7 + j) % 7 = j by omega, hi]
    exact hv
  rcases h.2 with ⟨q, _⟩ | ⟨g', cap', cur, q, hB, hg, hn, hm, hsz, htake⟩
  · cases q
  · cases q
    rw [cell_of_row w g _ _ _ _ hg]
    rw [← htake] at hk
    have hjl : i * 7 + j < n * 7 := by
      rcases Nat.lt_or_ge (i * 7 + j) (n * 7) with h | h
      · exact h
      · rw [List.getElem?_eq_none (by rw [List.length_take]; omega)] at hk; cases hk
    rw [List.getElem?_take_of_lt hjl] at hk
    simpa using hk
theorem own_upds {w : World} {B : Nat} {T : TypeId} {v : Value} {X : List Upd} (h : w.ownsRow B T 7 v X.length (X.flatMap Upd.cells)) : ∃ a cap, v = .slice a X.length cap ∧ Upds w a X.length X := by
  rcases h.2 with ⟨q, e⟩ | ⟨g, cap, cur, q, hB, hg, hn, hm, hsz, htake⟩
  · exact ⟨none, 0, by rw [q, e], rfl, .inl e⟩
  · subst q
    refine ⟨_, cap, rfl, rfl, .inr ⟨g, 0, rfl, lt_of_block hg, fun i hi => ?_⟩⟩
    have := own_row7 h i (upAt X i) (by unfold upAt; rw [List.getElem?_eq_getElem hi]; rfl)
    rw [Nat.zero_add]
    exact this
/-- A list that came in, appended to none. -/
theorem wpList_all {ops : Array Oper} {rest : List Oper} {o : Oper} {a : Act} {w : World} {Q : Exit → Act → World → Prop} (hgd : o.guard = none) (s x : Operand)
    (ho : o.op = .call { callee := .builtin .append, args := #[s, x], argTypes := #[54, 54] }) (X : List Upd) (ao : Option Addr) (n c : Nat) (hs : a.eval s = .slice none 0 0)
    (hx : a.eval x = .slice ao n c) (hao : ao = none → c = 0) (hX : Upds w ao n X) (hn : n ≤ 1048576)
    (h : ∀ v' w', UOwn w.heap.size w' v' X → w.grownBy w' none → wpList Try.prog ops Q rest (a.put o.dst v') w') :
    wpList Try.prog ops Q (o :: rest) a w := by
  obtain ⟨i, hi, hz, h4, h5⟩ := info_parts infoU7
  cases ao with
  | none =>
    have hm0 : n = 0 := by
      rcases hX.2 with h0 | ⟨_, _, h, _⟩
      · exact h0
      · cases h
    subst hm0
    obtain rfl : X = [] := List.eq_nil_of_length_eq_zero hX.1
    have hc0 := hao rfl
    subst hc0
    refine wpList_append_own_none hgd s x 54 ho w.heap.size 33 i 7 Try.underlying54 hi (.slice none 0 0) 0 [] hs ⟨rfl, .inl ⟨rfl, rfl⟩⟩ hx ?_
    exact h _ w (uown_nil _ _) ⟨rfl, rfl, rfl, Nat.le_refl _, fun _ _ _ => rfl⟩
  | some ad =>
    refine wpList_append_own_at w hgd s x 54 ho w.heap.size 33 i (.agg noUpd) 7 72 Try.underlying54 hi hz h4 h5 rfl (by decide) (.slice none 0 0) 0 [] hs ⟨rfl, .inl ⟨rfl, rfl⟩⟩ ad n c (X.flatMap Upd.cells) hx (by rw [fm_len, hX.1]) (upds_news hX) (fm_one X) (by unfold maxLen; omega) (by omega) (Nat.le_refl _) ?_
    intro v' w' hown' hgrow _ hat
    rw [Nat.zero_add, List.nil_append, ← hX.1] at hown'
    exact h v' w' hown' hgrow
/-- Two updates appended. -/
theorem wpList_two {ops : Array Oper} {rest : List Oper} {o : Oper} {a : Act} {w0 : World} {Q : Exit → Act → World → Prop} (hgd : o.guard = none) (s x : Operand)
    (ho : o.op = .call { callee := .builtin .append, args := #[s, x], argTypes := #[54, 54] }) (B : Nat) (v : Value) (X : List Upd) (u u' : Upd) (hs : a.eval s = v) (hown : UOwn B w0 v X)
    (hx : a.eval x = .slice (some ⟨w0.heap.size, 0, none⟩) 2 2) (hn : X.length ≤ 1048576) (hB : B ≤ w0.heap.size)
    (h : ∀ g cap w', UOwn B w' (.slice (some ⟨g, 0, none⟩) (X.length + 2) cap) (X ++ [u, u']) → w0.grownBy w' v.ownBlock → X.length + 2 ≤ cap → cap ≤ maxLen → wpList Try.prog ops Q rest (a.put o.dst (.slice (some ⟨g, 0, none⟩) (X.length + 2) cap)) w') :
    wpList Try.prog ops Q (o :: rest) a (w0.alloc (.cells (u.cells ++ u'.cells).toArray 33)) := by
  obtain ⟨i, hi, hz, h4, h5⟩ := info_parts infoU7
  have ho' : UOwn B (w0.alloc (.cells (u.cells ++ u'.cells).toArray 33)) v X := hown.gb (gb_alloc _ _) (fun k hk => by cases hk)
  refine wpList_append_lies _ hgd s x 54 ho B 33 i (.agg noUpd) 7 72 Try.underlying54 hi hz h4 h5 rfl (by omega) v X.length _ hs ho' ⟨w0.heap.size, 0, none⟩ 2 2 (u.cells ++ u'.cells) hx rfl (World.news_of_block (heap_new w0 _)) (by have := fm_one [u, u']; simpa using this) (by omega) (by unfold maxLen; omega) (by omega) (Nat.le_trans hB (gb_alloc w0 _).size) _ rfl ?_
  intro g cap w' k1 k2 k3 k4
  have hc : X.length + 2 ≤ cap ∧ cap ≤ maxLen := by
    rcases k1.2 with ⟨q, _⟩ | ⟨g', cap', cur, q, _, _, hn, hm, _⟩
    · cases q
    · cases q; exact ⟨hn, hm⟩
  refine h g cap w' ?_ (gb_trans (gb_wide (gb_alloc w0 _) _) k2) hc.1 hc.2
  unfold UOwn
  rw [List.length_append, List.flatMap_append]
  simpa using k1
end Go.Proofs.Ytmekcjonpmkoeaa.Dl
