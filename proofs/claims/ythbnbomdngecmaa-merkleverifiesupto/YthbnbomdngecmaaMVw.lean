/-
  What the law of Verify needs: its arguments laid in a block, a list of digests appended to nothing. No condition of its own.
-/
import Derived.Test.YthbnbomdngecmaaMVs
import Derived.Test.YthbnbomdngecmaaMPp
import Derived.Laws.AppendOwnNone
namespace Go.Proofs.Ythbnbomdngecmaa
set_option linter.unusedVariables false
open Go.RowKit

theorem pcs_size {root leaf : List Int} (h1 : root.length = 32) (h2 : leaf.length = 32) (d b : Int) (a : Option Addr) (n cap : Nat) : (pcs root d b leaf a n cap).size = 67 := by simp [pcs, h1, h2]
theorem pcs_int {root leaf : List Int} (h1 : root.length = 32) (h2 : leaf.length = 32) (d b : Int) (a : Option Addr) (n cap : Nat) : (pcs root d b leaf a n cap)[32]? = some (.int .i64 d) ∧ (pcs root d b leaf a n cap)[33]? = some (.int .i64 b) ∧ (pcs root d b leaf a n cap)[66]? = some (.slice a n cap) := by
  have l1 : (root.map (Value.int .u8)).length = 32 := by simp [h1]
  have l2 : (leaf.map (Value.int .u8)).length = 32 := by simp [h2]
  unfold pcs
  simp only [List.getElem?_toArray]
  refine ⟨?_, ?_, ?_⟩
  · rw [List.getElem?_append_right (by omega), l1]; rfl
  · rw [List.getElem?_append_right (by omega), l1]; rfl
  · rw [List.getElem?_append_right (by omega), l1, List.getElem?_append_right (by simp), List.getElem?_append_right (by simp [h2]), l2]; rfl
theorem pcs_root {w : World} {P : Nat} {root leaf : List Int} {d b : Int} {a : Option Addr} {n cap : Nat} (h : Bk 39 w P (pcs root d b leaf a n cap)) : w.rangeAt P 0 (u8s root).toList := fun j v hv => by
  rw [Nat.zero_add, h.cell]
  unfold pcs
  rw [List.getElem?_toArray, List.getElem?_append_left (by have := (List.getElem?_eq_some_iff.1 hv).1; simpa [u8s] using this)]
  simpa [u8s] using hv
theorem pcs_leaf {w : World} {P : Nat} {root leaf : List Int} {d b : Int} {a : Option Addr} {n cap : Nat} (h1 : root.length = 32) (h : Bk 39 w P (pcs root d b leaf a n cap)) : w.rangeAt P 34 (u8s leaf).toList := fun j v hv => by
  have l1 : (root.map (Value.int .u8)).length = 32 := by simp [h1]
  rw [h.cell]
  unfold pcs
  rw [List.getElem?_toArray, List.getElem?_append_right (by omega), l1, List.getElem?_append_right (by simp; omega), List.getElem?_append_left (by have := (List.getElem?_eq_some_iff.1 hv).1; simp [u8s] at this ⊢; omega)]
  have e : 34 + j - 32 - [Value.int IntKind.i64 d, Value.int IntKind.i64 b].length = j := by simp; omega
  rw [e]
  simpa [u8s] using hv
theorem wpList_load_rg {ops : Array Oper} {rest : List Oper} {op : Oper} {a : Act} {w : World} {Q : Exit → Act → World → Prop} (hgd : op.guard = none) (x : Operand) (ho : op.op = .load 25 x)
    (b off : Nat) (d : List Int) (hl : d.length = 32) (hx : a.eval x = .pointer (some ⟨b, off, none⟩)) (h : w.rangeAt b off (u8s d).toList)
    (K : wpList Try.prog ops Q rest (a.put op.dst (.agg (u8s d))) w) : wpList Try.prog ops Q (op :: rest) a w :=
  wpList_load_mid hgd 25 x ho b off hx (u8s d).toList _ h Try.underlying25 rfl (by rw [infoDs]; simp [u8s, hl]) (by simpa using K)
theorem infoDg3 : (Try.prog.info? 25).map (fun i => (i.zero, i.size, i.bytes)) = some (some (.agg (u8s dz32)), 32, 32) := by kernel_rfl
theorem own_segD {B : Nat} {w : World} {v : Value} {n : Nat} {ps : List Int} (h : w.ownsRow B 25 32 v n (ps.map (Value.int .u8))) : ∃ a c, v = .slice a n c ∧ Seg .u8 w a (32 * n) ps ∧ n ≤ c ∧ c ≤ maxLen := by
  obtain ⟨h1, h2⟩ := h
  rw [List.length_map] at h1
  rcases h2 with ⟨rfl, rfl⟩ | ⟨g, cap', cur, rfl, _, hb, hc, hcm, _, ht⟩
  · exact ⟨none, 0, rfl, ⟨by omega, .inl rfl⟩, Nat.le_refl _, Nat.zero_le _⟩
  · refine ⟨some ⟨g, 0, none⟩, cap', rfl, ⟨by omega, .inr ⟨g, 0, rfl, lt_of_block hb, fun i hi => ?_⟩⟩, hc, hcm⟩
    rw [Nat.zero_add, cell_of_row w g i _ _ _ hb]
    have e : (ps.map (Value.int .u8))[i]? = some (.int .u8 (ps[i]?.getD 0)) := by
      have : i < ps.length := by omega
      simp [this]
    rw [← ht, List.getElem?_take, if_pos (by omega)] at e
    simpa using e
theorem wpList_allD {ops : Array Oper} {rest : List Oper} {o : Oper} {a : Act} {w : World} {Q : Exit → Act → World → Prop} (hgd : o.guard = none) (s x : Operand)
    (ho : o.op = .call { callee := .builtin .append, args := #[s, x], argTypes := #[37, 37] })
    (hs : a.eval s = .slice none 0 0) (ao : Option Addr) (n c : Nat) (ps : List Int) (hx : a.eval x = .slice ao n c) (hao : ao = none → c = 0) (hlc : n ≤ c) (hy : Seg .u8 w ao (32 * n) ps) (hn : n ≤ 1048576)
    (h : ∀ a' c' w', Seg .u8 w' a' (32 * n) ps → n ≤ c' → c' ≤ maxLen → w.grownBy w' none → wpList Try.prog ops Q rest (a.put o.dst (.slice a' n c')) w') :
    wpList Try.prog ops Q (o :: rest) a w := by
  obtain ⟨i, hi, hz, h4, h5⟩ := info_parts' infoDg3
  have hown : w.ownsRow w.heap.size 25 32 (.slice none 0 0) 0 [] := ⟨rfl, .inl ⟨rfl, rfl⟩⟩
  cases ao with
  | none =>
    have hc0 := hao rfl
    have hn0 : n = 0 := by omega
    subst hc0 hn0
    have hps : ps = [] := List.eq_nil_of_length_eq_zero hy.1
    subst hps
    refine wpList_append_own_none hgd s x 37 ho w.heap.size 25 i 32 Try.underlying37 hi (.slice none 0 0) 0 [] hs hown hx ?_
    exact h none 0 w hy (Nat.le_refl _) (Nat.zero_le _) ⟨rfl, rfl, rfl, Nat.le_refl _, fun _ _ _ => rfl⟩
  | some ad =>
    refine wpList_append_own w hgd s x 37 ho w.heap.size 25 i (.agg (u8s dz32)) 32 32 Try.underlying37 hi hz h4 h5 rfl (by decide) (.slice none 0 0) 0 [] hs hown ad n c (ps.map (Value.int .u8)) hx (by rw [List.length_map, hy.1, Nat.mul_comm]) (seg_news' hy ad rfl) (fun u hu => by obtain ⟨z, _, rfl⟩ := List.mem_map.1 hu; rfl) (by unfold maxLen; omega) (by omega) (Nat.le_refl _) ?_
    intro v' w' k1 k2 _
    rw [Nat.zero_add, List.nil_append] at k1
    obtain ⟨a', c', rfl, e1, e2, e3⟩ := own_segD k1
    exact h a' c' w' e1 e2 e3 k2
theorem num_c (e : Int) (w : World) : Calls Try.prog 7 #[.int .i64 e] w fun r w' => r = .returned (.int .i64 e) ∧ w' = w := by
  go_enter Try.func7, Try.ntmps7
  go_wp2
  go_ret
  exact ⟨rfl, rfl⟩
end Go.Proofs.Ythbnbomdngecmaa
