/-
  A law for 'append(s, t...)' over bytes, s nil or in memory that the call made itself, that also says which memory may have changed. It speaks of every program. Condition: both together take at most 2^47 bytes.
-/
import Derived.Test.YtegbgmihcokblaaDoorFa
import Derived.Maps.AppendAt
namespace Go.Proofs.YtegbgmihcokblaaDoor
open Go.RowKit
set_option linter.unusedVariables false

theorem wpList_append_apart (w : World) {ops : Array Oper} {rest : List Oper} {o : Oper} {a : Act} {Q : Exit → Act → World → Prop}
    (hg : o.guard = none) (s x : Operand) (hop : o.op = Op.call { callee := Callee.builtin Builtin.append, args := #[s, x], argTypes := #[28, 28] })
    (B n : Nat) (v : Value) (xs : List Int) (hs : a.eval s = v) (hown : Own B w v n xs)
    (ao : Option Addr) (m c : Nat) (ys : List Int) (hx : a.eval x = .slice ao m c) (hao : ao = none → c = 0) (hy : Seg .u8 w ao m ys) (hb : n + m ≤ 140737488355328) (hbase : B ≤ w.heap.size)
    (hK : ∀ v' w', Own B w' v' (n + m) (xs ++ ys) → w.grownBy w' v.ownBlock → (v'.ownBlock = v.ownBlock ∨ v'.ownBlock = some w.heap.size) → wpList Tryd.prog ops Q rest (a.put o.dst v') w') :
    wpList Tryd.prog ops Q (o :: rest) a w := by
  obtain ⟨i, hi, hz, h4, h5⟩ := info_parts' Tryd.infoU8
  cases ao with
  | none =>
    have hm0 : m = 0 := by
      rcases hy.2 with h0 | ⟨_, _, h, _⟩
      · exact h0
      · cases h
    subst hm0
    obtain rfl : ys = [] := List.eq_nil_of_length_eq_zero hy.1
    have hc0 := hao rfl
    subst hc0
    refine wpList_append_own_none hg s x 28 hop B 5 i 1 Tryd.underlying28 hi v n (xs.map (Value.int .u8)) hs hown hx ?_
    exact hK v w (by simpa using hown) ⟨rfl, rfl, rfl, Nat.le_refl _, fun _ _ _ => rfl⟩ (.inl rfl)
  | some ad =>
    refine wpList_append_own_at w hg s x 28 hop B 5 i (.int .u8 0) 1 1 Tryd.underlying28 hi hz h4 h5 rfl (by decide) v n (xs.map (Value.int .u8)) hs hown ad m c (ys.map (Value.int .u8)) hx (by simp [hy.1]) (seg_news' hy ad rfl) ?_ (by unfold maxLen; omega) (by omega) hbase ?_
    · intro u hu; obtain ⟨z, _, rfl⟩ := List.mem_map.1 hu; rfl
    · intro v' w' hown' hgrow _ hat
      exact hK v' w' (by unfold Own; rw [List.map_append]; exact hown') hgrow hat
/-- What lies in another block stays. -/
theorem Own.grown {B : Nat} {w w' : World} {u : Value} {n : Nat} {ys : List Int} {row : Option Nat} (h : Own B w u n ys) (hg : w.grownBy w' row) (hne : ∀ g, u.ownBlock = some g → row ≠ some g) : Own B w' u n ys := by
  refine ⟨h.1, ?_⟩
  rcases h.2 with h0 | ⟨g, cap, cur, rfl, hB, hgb, r⟩
  · exact .inl h0
  · exact .inr ⟨g, cap, cur, rfl, hB, (hg.block g (lt_of_block hgb) (fun e => hne g rfl e.symm)).trans hgb, r⟩
theorem Seg.grown {w w' : World} {g len : Nat} {xs : List Int} {row : Option Nat} (h : Seg .u8 w (some ⟨g, 0, none⟩) len xs) (hg : w.grownBy w' row) (hne : row ≠ some g) : Seg .u8 w' (some ⟨g, 0, none⟩) len xs := by
  refine ⟨h.1, ?_⟩
  rcases h.2 with h0 | ⟨b, off, ha, hw, hc⟩
  · exact .inl h0
  · cases ha
    exact .inr ⟨g, 0, rfl, Nat.lt_of_lt_of_le hw hg.size, fun i hi => (World.cell?_of_block (w := w) (w' := w') (a := ⟨g, 0 + i, none⟩) (hg.block g hw (Ne.symm hne))).trans (hc i hi)⟩
theorem Own.lo {B : Nat} {w : World} {u : Value} {n : Nat} {ys : List Int} (h : Own B w u n ys) : ∀ g, u.ownBlock = some g → B ≤ g ∧ g < w.heap.size := by
  intro g hg
  rcases h.2 with ⟨rfl, _⟩ | ⟨g', cap, cur, rfl, hB, hgb, _⟩
  · cases hg
  · cases hg; exact ⟨hB, lt_of_block hgb⟩
theorem Below.grew {B : Nat} {a w w' : World} {row : Option Nat} (h : Below B a w) (hg : w.grownBy w' row) (hB : B ≤ w.heap.size) (hr : ∀ k, row = some k → B ≤ k) : Below B a w' := h.grown hg hB hr
end Go.Proofs.YtegbgmihcokblaaDoor
