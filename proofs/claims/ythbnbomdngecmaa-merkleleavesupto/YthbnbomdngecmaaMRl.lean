/-
  Rows of one's own: some appended, and what can be read of them. No condition of its own.
-/
import Derived.Test.YthbnbomdngecmaaMSq
import Derived.Test.YthbnbomdngecmaaSEq
import Derived.Test.YthbnbomdngecmaaSGv
namespace Go.Proofs.Ythbnbomdngecmaa
open Go.RowKit
set_option linter.unusedVariables false

def flW : List Rw → List Value
  | [] => []
  | r :: l => .string r.1 :: .string r.2.1 :: .int .i64 r.2.2 :: flW l
theorem flW_len (X : List Rw) : (flW X).length = X.length * 3 := by
  induction X with
  | nil => rfl
  | cons r l ih => simp only [flW, List.length_cons, ih]; omega
theorem flW_app (X Y : List Rw) : flW (X ++ Y) = flW X ++ flW Y := by
  induction X with
  | nil => rfl
  | cons r l ih => simp only [List.cons_append, flW, ih]
theorem flW_one (X : List Rw) : ∀ u ∈ flW X, u.oneCell' = true := by
  induction X with
  | nil => intro u hu; cases hu
  | cons r l ih =>
    intro u hu
    simp only [flW, List.mem_cons] at hu
    rcases hu with rfl | rfl | rfl | hu
    · rfl
    · rfl
    · rfl
    · exact ih u hu
theorem flW_get (X : List Rw) (i : Nat) (h : i < X.length) : (flW X)[i * 3]? = some (.string (X.getD i rw0).1) ∧ (flW X)[i * 3 + 1]? = some (.string (X.getD i rw0).2.1) ∧ (flW X)[i * 3 + 2]? = some (.int .i64 (X.getD i rw0).2.2) := by
  induction X generalizing i with
  | nil => simp at h
  | cons r l ih =>
    cases i with
    | zero => exact ⟨rfl, rfl, rfl⟩
    | succ i =>
      have := ih i (by simpa using h)
      rw [show (i + 1) * 3 = i * 3 + 3 from by omega]
      simpa [flW, Nat.add_assoc] using this
theorem infoRow3 : (Try.prog.info? 30).map (fun i => (i.zero, i.size, i.bytes)) = some (some (.agg #[.string .empty, .string .empty, .int .i64 0]), 3, 40) := by kernel_rfl
/-- What rows that came in are, cell by cell. -/
theorem rws_news {n0 : Nat} {w : World} {ad : Addr} {X : List Rw} (h : Rws n0 w (some ad) X) : ∀ j u, (flW X)[j]? = some u → w.cell? (ad.add j) = some u := by
  intro j u hj
  have hlt : j < X.length * 3 := by have := (List.getElem?_eq_some_iff.1 hj).1; rwa [flW_len] at this
  rcases h with h | ⟨b, off, ha, _, hc⟩
  · subst h; simp [flW] at hj
  · cases ha
    have hg := flW_get X (j / 3) (by omega)
    have hcc := hc (j / 3) (by omega)
    rw [Go.WideShapes.add_plain]
    rcases (show j = j / 3 * 3 ∨ j = j / 3 * 3 + 1 ∨ j = j / 3 * 3 + 2 by omega) with e | e | e
    · rw [e] at hj ⊢
      rw [hg.1] at hj
      rw [hcc.1]; exact hj
    · rw [e] at hj ⊢
      rw [hg.2.1] at hj
      rw [← Nat.add_assoc, hcc.2.1]; exact hj
    · rw [e] at hj ⊢
      rw [hg.2.2] at hj
      rw [← Nat.add_assoc, hcc.2.2]; exact hj
theorem own_cellR {B : Nat} {w : World} {g m c : Nat} {Y : List Rw} (h : w.ownsRow B 30 3 (.slice (some ⟨g, 0, none⟩) m c) m (flW Y)) (q : Nat) (hq : q < m * 3) : w.cell? ⟨g, q, none⟩ = (flW Y)[q]? := by
  rcases h.2 with ⟨h0, _⟩ | ⟨g', cap', cur, hv, _, hb, _, _, _, ht⟩
  · cases h0
  · cases hv
    rw [cell_of_row w g q _ _ _ hb, ← ht, List.getElem?_take, if_pos hq]
    simp
theorem own_rws {B : Nat} {w : World} {g m c : Nat} {X Y : List Rw} (h : w.ownsRow B 30 3 (.slice (some ⟨g, 0, none⟩) m c) m (flW (X ++ Y))) (hm : (X ++ Y).length = m) : Rws w.heap.size w (some ⟨g, 0, none⟩) X := by
  by_cases hX : X = []
  · exact .inl hX
  · have hlt : g < w.heap.size := by
      rcases h.2 with ⟨h0, _⟩ | ⟨g', cap', cur, hv, _, hb, _⟩
      · cases h0
      · cases hv; exact lt_of_block hb
    rw [List.length_append] at hm
    refine .inr ⟨g, 0, rfl, hlt, fun i hi => ?_⟩
    have e : (X ++ Y).getD i rw0 = X.getD i rw0 := by simp only [List.getD_eq_getElem?_getD, List.getElem?_append_left hi]
    have hg := flW_get (X ++ Y) i (by rw [List.length_append]; omega)
    rw [e] at hg
    rw [Nat.zero_add]
    exact ⟨(own_cellR h _ (by omega)).trans hg.1, (own_cellR h _ (by omega)).trans hg.2.1, (own_cellR h _ (by omega)).trans hg.2.2⟩
theorem wpList_catR {ops : Array Oper} {rest : List Oper} {o : Oper} {a : Act} {w : World} {Q : Exit → Act → World → Prop} (hgd : o.guard = none) (s x : Operand)
    (ho : o.op = .call { callee := .builtin .append, args := #[s, x], argTypes := #[28, 28] }) (base : Nat)
    (v : Value) (X : List Rw) (hs : a.eval s = v) (hown : w.ownsRow base 30 3 v X.length (flW X))
    (ao : Option Addr) (c : Nat) (Y : List Rw) (hx : a.eval x = .slice ao Y.length c) (hao : ao = none → c = 0 ∧ Y = []) (hy : ∀ ad, ao = some ad → ∀ j u, (flW Y)[j]? = some u → w.cell? (ad.add j) = some u)
    (hn : X.length + Y.length ≤ 1048600) (hbase : base ≤ w.heap.size)
    (h : ∀ v' w', w'.ownsRow base 30 3 v' (X ++ Y).length (flW (X ++ Y)) → w.grownBy w' v.ownBlock → wpList Try.prog ops Q rest (a.put o.dst v') w') :
    wpList Try.prog ops Q (o :: rest) a w := by
  obtain ⟨i, hi, hz, h4, h5⟩ := info_parts' infoRow3
  cases ao with
  | none =>
    obtain ⟨rfl, rfl⟩ := hao rfl
    refine wpList_append_own_none hgd s x 28 ho base 30 i 3 Try.underlying28 hi v X.length (flW X) hs hown hx ?_
    exact h v w (by simpa using hown) ⟨rfl, rfl, rfl, Nat.le_refl _, fun _ _ _ => rfl⟩
  | some ad =>
    refine wpList_append_own w hgd s x 28 ho base 30 i (.agg #[.string .empty, .string .empty, .int .i64 0]) 3 40 Try.underlying28 hi hz h4 h5 rfl (by decide) v X.length (flW X) hs hown ad Y.length c (flW Y) hx (flW_len Y) (hy ad rfl) (flW_one Y) (by unfold maxLen; omega) (by omega) hbase ?_
    intro v' w' k1 k2 _
    exact h v' w' (by rw [List.length_append, flW_app]; exact k1) k2
theorem slice_rh (b len cap p : Nat) (hp : p ≤ cap) (W : World) : (Instr.slice 28 (.slice (some ⟨b, 0, none⟩) len cap) none (some (.int .i64 (p : Int))) none).run Try.prog W = .ok (.slice (some ⟨b, 0, none⟩) p cap) W := by
  have hel : Try.prog.elem 28 = 30 := by simp [Program.elem]
  have hsz : (sizeOf 30).run Try.prog W = .ok 3 W := by kernel_rfl
  rw [run_slice_h W 28 (some ⟨b, 0, none⟩) len cap (by rw [hel]; exact Try.underlying28) .i64 p (by omega) (by omega)]
  rw [hel, hsz]
  simp [sliced, Addr.add]
end Go.Proofs.Ythbnbomdngecmaa
