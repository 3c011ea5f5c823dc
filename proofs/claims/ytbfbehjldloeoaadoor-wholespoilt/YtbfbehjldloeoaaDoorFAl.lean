/-
  What the law's all and alike answer: what a Splitter finds of pieces, and whether two lists of frames are the same. Condition: the pieces can be read, are at most 2^38 bytes in all, and lie in memory; the table of package crc does, too.
-/
import Derived.Test.YtbfbehjldloeoaaDoorFFg
import Derived.Test.YtbfbehjldloeoaaDoorFIs
import Derived.Test.YtbfbehjldloeoaaDoorFPt
namespace Go.Proofs.YtbfbehjldloeoaaDoor
set_option linter.unusedVariables false
open Go.RowKit

theorem SS.mono {G : Nat → Prop} {w : World} {S B B' : Nat} {ys : List Int} {most j l : Nat} {fv : Value} {L : List FrM} (h : SS G w S B ys most j l fv L) (hB : B ≤ B') : SS G w S B' ys most j l fv L := by
  obtain ⟨T, v, xs, a, O, F, u, M, h1, h2, h3⟩ := h
  exact ⟨T, v, xs, a, O, F, u, M, h1, h2, by omega⟩
theorem flat_len (X : List (List Int)) (k : Nat) : (X.take k).flatten.length ≤ X.flatten.length := by
  conv => rhs; rw [← List.take_append_drop k X]
  rw [List.flatten_append, List.length_append]
  omega
/-- Frames behind frames. -/
theorem frl_cat {F F2 : Nat → Prop} {w1 w2 : World} {v v2 v' : Value} {L L2 : List FrM} (h : FrL F w1 v L) (h2 : FrL F2 w1 v2 L2) (hd : ∀ k, F2 k → ¬ F k) (hg : w1.grownBy w2 v.ownBlock) (ho : w2.ownsRow 0 29 2 v' (L ++ L2).length (flF (L ++ L2))) (hv : v'.ownBlock = v.ownBlock ∨ v'.ownBlock = some w1.heap.size) :
    FrL (fun k => F k ∨ F2 k ∨ w1.heap.size ≤ k) w2 v' (L ++ L2) := by
  have hG : Gr (fun k => v.ownBlock = some k) w1 w2 := Gr.of hg (fun k hk => .inl hk)
  have hvb : ∀ k, v'.ownBlock = some k → v.ownBlock = some k ∨ k = w1.heap.size := fun k hk => by
    rcases hv with z | z
    · exact .inl (by rw [← z]; exact hk)
    · rw [z] at hk; cases hk; exact .inr rfl
  refine ⟨ho, fun k hk => (hvb k hk).elim (fun z => .inl (h.fv k z)) (fun z => .inr (.inr (by omega))), fun f hf => ?_, ?_⟩
  · rcases List.mem_append.1 hf with z | z
    · have q := h.body f z
      refine ⟨own_gr q.1 hG (fun k hk => (q.2 k hk).2), fun k hk => ⟨.inl (q.2 k hk).1, fun e => ?_⟩⟩
      rcases hvb k e with z2 | z2
      · exact (q.2 k hk).2 z2
      · have := (own_lt q.1 k hk).2; omega
    · have q := h2.body f z
      refine ⟨own_gr q.1 hG (fun k hk e => hd k (q.2 k hk).1 (h.fv k e)), fun k hk => ⟨.inr (.inl (q.2 k hk).1), fun e => ?_⟩⟩
      rcases hvb k e with z2 | z2
      · exact hd k (q.2 k hk).1 (h.fv k z2)
      · have := (own_lt q.1 k hk).2; omega
  · rw [List.pairwise_append]
    exact ⟨h.apart, h2.apart, fun f hf g hg k hk e => hd k ((h2.body g hg).2 k e).1 ((h.body f hf).2 k hk).1⟩
theorem wpList_catF {ops : Array Oper} {rest : List Oper} {o : Oper} {a : Act} {w : World} {Q : Exit → Act → World → Prop} (hgd : o.guard = none) (s x : Operand)
    (ho : o.op = .call { callee := .builtin .append, args := #[s, x], argTypes := #[37, 37] }) (F F2 : Nat → Prop) (v v2 : Value) (L L2 : List FrM) (hs : a.eval s = v) (hx : a.eval x = v2) (h : FrL F w v L) (h2 : FrL F2 w v2 L2) (hd : ∀ k, F2 k → ¬ F k) (hn : (L.length + L2.length) * 32 ≤ 140737488355328)
    (K : ∀ fa fc w', FrL (fun k => F k ∨ F2 k ∨ w.heap.size ≤ k) w' (.slice fa (L ++ L2).length fc) (L ++ L2) → w.grownBy w' v.ownBlock → wpList Tryd.prog ops Q rest (a.put o.dst (.slice fa (L ++ L2).length fc)) w') :
    wpList Tryd.prog ops Q (o :: rest) a w := by
  obtain ⟨i, hi, hz, h4, h5⟩ := info_parts' Tryd.infoFrm
  have hK : ∀ v' w', w'.ownsRow 0 29 2 v' (L ++ L2).length (flF (L ++ L2)) → w.grownBy w' v.ownBlock → (v'.ownBlock = v.ownBlock ∨ v'.ownBlock = some w.heap.size) → wpList Tryd.prog ops Q rest (a.put o.dst v') w' := fun v' w' k1 k2 k3 => by
    obtain ⟨fa, fc, rfl⟩ := (own_shape k1).1
    exact K fa fc w' (frl_cat h h2 hd k2 k1 k3) k2
  rcases h2.own.2 with ⟨rfl, hl0⟩ | ⟨g, cap, cur, rfl, _⟩
  · have hL2 : L2 = [] := List.length_eq_zero_iff.1 hl0
    subst hL2
    refine wpList_append_own_none hgd s x 37 ho 0 29 i 2 Tryd.underlying37 hi v L.length (flF L) hs h.own hx ?_
    exact hK v w (by rw [List.append_nil]; exact h.own) ⟨rfl, rfl, rfl, Nat.le_refl _, fun _ _ _ => rfl⟩ (.inl rfl)
  · refine wpList_append_own_at w hgd s x 37 ho 0 29 i (.agg #[.int .i64 0, .slice none 0 0]) 2 32 Tryd.underlying37 hi hz h4 h5 rfl (by decide) v L.length (flF L) hs h.own ⟨g, 0, none⟩ L2.length cap (flF L2) hx h2.own.1 (h2.own.cells rfl) (fun u hu => ?_) (by unfold maxLen; omega) (by omega) (Nat.zero_le _) ?_
    · unfold flF at hu
      obtain ⟨f, hf, hu⟩ := List.mem_flatMap.1 hu
      obtain ⟨ua, uc, e⟩ := (own_shape (h2.body f hf).1).1
      simp only [List.mem_cons, List.not_mem_nil, or_false] at hu
      rcases hu with rfl | rfl
      · rfl
      · rw [e]; rfl
    · intro v' w' k1 k2 _ k4
      exact hK v' w' (by rw [List.length_append, flF_app]; exact k1) k2 k4
/-- What all has found of the first pieces. -/
def AllI (most : Nat) (w : World) (S : Nat) (zs : List Int) (wr : World) (lv : Value) (L : List FrM) (Q F : Nat → Prop) : Prop :=
  L.map FrM.fr = (fseen most false zs).frames ∧ SS Q wr S 2097180 (fseen most false zs).rest most (fseen most false zs).junk (fseen most false zs).lost (.slice none 0 0) [] ∧ FrL F wr lv L ∧ (∀ k, Q k → w.heap.size ≤ k ∧ k < wr.heap.size) ∧ (∀ k, F k → w.heap.size ≤ k ∧ k < wr.heap.size) ∧ (∀ k, F k → ¬ Q k) ∧ Below w.heap.size w wr
theorem alli_next {most : Nat} {w w0 w1 w2 : World} {S : Nat} {zs cs : List Int} {lv : Value} {L L2 : List FrM} {Q F Q2 F2 : Nat → Prop} {fa : Option Addr} {fc : Nat} (h : AllI most w S zs w0 lv L Q F)
    (e2 : L2.map FrM.fr = (fseen most false ((fseen most false zs).rest ++ cs)).frames) (hS : SS Q2 w1 S 2097180 (fseen most false ((fseen most false zs).rest ++ cs)).rest most ((fseen most false zs).junk + (fseen most false ((fseen most false zs).rest ++ cs)).junk) ((fseen most false zs).lost + (fseen most false ((fseen most false zs).rest ++ cs)).lost) (.slice none 0 0) [])
    (hQ : ∀ k, Q2 k → (Q k ∨ w0.heap.size ≤ k) ∧ k < w1.heap.size) (hF : ∀ k, F2 k → (Q k ∨ w0.heap.size ≤ k) ∧ k < w1.heap.size) (hFQ : ∀ k, F2 k → ¬ Q2 k) (hg1 : Gr Q w0 w1) (h3 : FrL (fun k => F k ∨ F2 k ∨ w1.heap.size ≤ k) w2 (.slice fa (L ++ L2).length fc) (L ++ L2)) (hg2 : w1.grownBy w2 lv.ownBlock) :
    AllI most w S (zs ++ cs) w2 (.slice fa (L ++ L2).length fc) (L ++ L2) Q2 (fun k => (F k ∨ F2 k ∨ w1.heap.size ≤ k) ∧ k < w2.heap.size) := by
  obtain ⟨a1, a2, a3, a4, a5, a6, a7⟩ := h
  have e := fseen_app most _ zs (Nat.le_refl _) cs
  have hs0 := a7.size
  have hs1 := hg1.size
  have hs2 := hg2.size
  have hlo : ∀ k, lv.ownBlock = some k → F k := a3.fv
  have hG2 : Gr (fun k => lv.ownBlock = some k) w1 w2 := Gr.of hg2 (fun k hk => .inl hk)
  have hQF : ∀ k, Q2 k → ¬ F k := fun k hk z => by
    rcases (hQ k hk).1 with q | q
    · exact a6 k z q
    · have := (a5 k z).2; omega
  refine ⟨?_, ?_, h3.weak (fun k hk z => ⟨z, hk⟩), fun k hk => ⟨?_, by have := (hQ k hk).2; omega⟩, fun k hk => ⟨?_, hk.2⟩, ?_, ?_⟩
  · rw [e, List.map_append, a1, e2]; rfl
  · rw [e]
    exact hS.gr hG2 (fun k hk z => hQF k hk (hlo k z))
  · exact (hQ k hk).1.elim (fun z => (a4 k z).1) (fun z => by omega)
  · rcases hk.1 with z | z | z
    · exact (a5 k z).1
    · exact (hF k z).1.elim (fun q => (a4 k q).1) (fun q => by omega)
    · omega
  · rintro k ⟨z | z | z, _⟩ q
    · exact hQF k q z
    · exact hFQ k z q
    · have := (hQ k q).2; omega
  · refine a7.trans ⟨hG2.os.trans hg1.os, hG2.tape.trans hg1.tape, hG2.output.trans hg1.output, by omega, fun k hk => ?_⟩
    refine (hG2.block k (by omega) (fun z => ?_)).trans (hg1.block k (by omega) (fun z => ?_))
    · have := (a5 k (hlo k z)).1; omega
    · have := (a4 k z).1; omega
end Go.Proofs.YtbfbehjldloeoaaDoor
