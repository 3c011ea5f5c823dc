/-
  Rows of texts of one's own: what reads them, append of a list to them; the law's lend and same over texts; texts that came in. No condition of its own.
-/
import Derived.Test.YtfnfkcafjfhnlaaTxS
import Derived.Test.YtfnfkcafjfhnlaaPRs
import Derived.Laws.AppendOwnNone
import Derived.Deep.Strs
namespace Go.Proofs.Ytfnfkcafjfhnlaa
open Go.RowKit
set_option linter.unusedVariables false

def SOwn (B : Nat) (w : World) (v : Value) (n : Nat) (X : List ByteArray) : Prop := w.ownsRow B 9 1 v n (X.map Value.string)
theorem infoStr : (Try.prog.info? 9).map (fun i => (i.zero, i.size, i.bytes)) = some (some (.string .empty), 1, 16) := by kernel_rfl
theorem SOwn.str {B w v n X} (h : SOwn B w v n X) : ∃ a cap, v = .slice a n cap ∧ StrS w a n X ∧ (a = none → cap = 0) ∧ n ≤ cap := by
  have hl : X.length = n := by have := h.1; simpa using this
  rcases h.2 with ⟨rfl, rfl⟩ | ⟨g, cap, cur, rfl, hB, hg, hn, hm, hsz, htake⟩
  · exact ⟨none, 0, rfl, ⟨hl, .inl rfl⟩, fun _ => rfl, Nat.le_refl _⟩
  · refine ⟨_, cap, rfl, ⟨hl, .inr ⟨g, 0, rfl, lt_of_block hg, fun i hi => ?_⟩⟩, (fun h => by cases h), hn⟩
    rw [Nat.zero_add, cell_of_row w g i _ _ _ hg]
    have e : (cur.toList.take (n * 1))[i]? = (X.map Value.string)[i]? := by rw [htake]
    rw [List.getElem?_take_of_lt (by omega)] at e
    have hx : X[i]? = some (X[i]'(by omega)) := List.getElem?_eq_getElem (by omega)
    rw [List.getElem?_map, hx] at e
    rw [hx]
    simpa using e
theorem SOwn.form {B w v n X} (h : SOwn B w v n X) (hn : 0 < n) : ∃ g cap, v = .slice (some ⟨g, 0, none⟩) n cap ∧ B ≤ g ∧ n ≤ cap := by
  rcases h.2 with ⟨rfl, rfl⟩ | ⟨g, cap, cur, rfl, hB, hg, hc, _⟩
  · omega
  · exact ⟨g, cap, rfl, hB, hc⟩
theorem SOwn.gb {B w w' v n X} (h : SOwn B w v n X) (hb : w.grownBy w' none) : SOwn B w' v n X := by
  refine ⟨h.1, ?_⟩
  rcases h.2 with h0 | ⟨g, cap, cur, rfl, hB, hg, r⟩
  · exact .inl h0
  · exact .inr ⟨g, cap, cur, rfl, hB, (hb.block g (lt_of_block hg) (by simp)).trans hg, r⟩
theorem SOwn.lo {B w v n X} (h : SOwn B w v n X) : ∀ g, v.ownBlock = some g → B ≤ g := by
  intro g hg
  rcases h.2 with ⟨rfl, _⟩ | ⟨g', cap, cur, rfl, hB, _⟩
  · cases hg
  · cases hg; exact hB
theorem sown_none (w : World) : SOwn w.heap.size (w.alloc (.cells #[] 9 (0, 0))) (.slice (some ⟨w.heap.size, 0, none⟩) 0 0) 0 [] :=
  ⟨rfl, .inr ⟨w.heap.size, 0, #[], rfl, Nat.le_refl _, heap_new w _, Nat.le_refl _, Nat.zero_le _, rfl, rfl⟩⟩
theorem StrS.news {w a n X} (h : StrS w (some a) n X) : ∀ j u, (X.map Value.string)[j]? = some u → w.cell? (a.add j) = some u := by
  intro j u hu
  have hl := h.1
  have hj : j < n := by
    rcases Nat.lt_or_ge j n with q | q
    · exact q
    · rw [List.getElem?_eq_none (by simpa using (by omega : X.length ≤ j))] at hu; cases hu
  rcases h.2 with h0 | ⟨b, off, ha, hb, hc⟩
  · omega
  · obtain rfl : a = ⟨b, off, none⟩ := Option.some.inj ha
    rw [Go.WideShapes.add_plain, hc j hj]
    have hx : X[j]? = some (X[j]'(by omega)) := List.getElem?_eq_getElem (by omega)
    rw [List.getElem?_map, hx] at hu
    rw [hx]
    simpa using hu
theorem StrS.pre {w a n m X Y} (h : StrS w a n X) (hm : m ≤ n) (hy : X.take m = Y) : StrS w a m Y := by
  subst hy
  refine ⟨by rw [List.length_take, h.1]; omega, ?_⟩
  rcases h.2 with h0 | ⟨b, off, ha, hb, hc⟩
  · exact .inl (by omega)
  · exact .inr ⟨b, off, ha, hb, fun i hi => by rw [hc i (by omega), List.getElem?_take_of_lt hi]⟩
/-- append(s, t...) of texts, s of one's own, under a guard that says yes. -/
theorem wpList_catS {ops : Array Oper} {rest : List Oper} {o : Oper} {a : Act} {w : World} {Q : Exit → Act → World → Prop} (hgd : Region.wanted o (yielded ops a.tmps) = true) (s x : Operand)
    (ho : o.op = .call { callee := .builtin .append, args := #[s, x], argTypes := #[68, 68] }) (B n : Nat) (v : Value) (X : List ByteArray) (hs : a.eval s = v) (hown : SOwn B w v n X)
    (ao : Option Addr) (m c : Nat) (Y : List ByteArray) (hx : a.eval x = .slice ao m c) (hao : ao = none → c = 0) (hy : StrS w ao m Y) (hb : n + m ≤ 1125899906842) (hB : B ≤ w.heap.size)
    (h : ∀ v' w', SOwn B w' v' (n + m) (X ++ Y) → Below B w w' → wpList Try.prog ops Q rest (a.put o.dst v') w') : wpList Try.prog ops Q (o :: rest) a w := by
  obtain ⟨i, hi, hz, h4, h5⟩ := info_parts infoStr
  unfold wpList
  rw [if_pos hgd]
  left
  cases ao with
  | none =>
    have hm : m = 0 := by
      rcases hy.2 with h0 | ⟨_, _, h0, _⟩
      · exact h0
      · cases h0
    have hc := hao rfl
    subst hm hc
    obtain rfl : Y = [] := List.eq_nil_of_length_eq_zero hy.1
    have hr := run_append_owned_none (P := Try.prog) w B 68 o.type 9 i 1 Try.underlying68 hi v n _ hown
    unfold Oper.wp execOp
    simp only [ho, resolve, invoke, builtin, Sem.run_bind, Sem.run_pure, Result.andThen_ok, List.map_toArray, List.map_cons, List.map_nil, hs, hx, hr]
    exact h v w (by simpa using hown) (Below.refl _ _)
  | some ad =>
    obtain ⟨v', w', hr, h1, h2, _, _⟩ := run_append_own_at (P := Try.prog) w B 68 o.type 9 i (.string .empty) 1 16 Try.underlying68 hi hz h4 h5 rfl (by decide) v n (X.map Value.string) hown ad m c (Y.map Value.string) (by rw [List.length_map, hy.1, Nat.mul_one]) hy.news (by intro u hu; obtain ⟨z, _, rfl⟩ := List.mem_map.1 hu; rfl) (by unfold maxLen; omega) (by omega) hB
    unfold Oper.wp execOp
    simp only [ho, resolve, invoke, builtin, Sem.run_bind, Sem.run_pure, Result.andThen_ok, List.map_toArray, List.map_cons, List.map_nil, hs, hx, hr]
    exact h v' w' (by unfold SOwn; rw [List.map_append]; exact h1) ((Below.refl B w).grown h2 hB (fun k hk => hown.lo k hk))
def sX : ByteArray := { data := #[120] }
def sY : ByteArray := { data := #[121] }
theorem strs_lit (w : World) : StrS (w.alloc (.cells #[.string sX, .string sY] 9 (0, 0))) (some ⟨w.heap.size, 0, none⟩) 2 [sX, sY] := by
  refine ⟨rfl, .inr ⟨w.heap.size, 0, rfl, by simp, fun i hi => ?_⟩⟩
  rw [Nat.zero_add, cell_of_row _ _ i _ _ _ (heap_new w _)]
  rcases (by omega : i = 0 ∨ i = 1) with rfl | rfl <;> rfl
end Go.Proofs.Ytfnfkcafjfhnlaa
