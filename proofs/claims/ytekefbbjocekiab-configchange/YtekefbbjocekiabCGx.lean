/-
  What the document's Without and With answer. Conditions: the chain can be read, and has at most 2^43 nodes.
-/
import Derived.Test.YtekefbbjocekiabCGw
namespace Go.Proofs.Ytekefbbjocekiab
open Go.RowKit Go.ChangeShapes Go.WideShapes
set_option linter.unusedVariables false

/-- append of numbers that can be read to numbers of one's own, in a region that draws its order. -/
theorem step_growI {ops : Array Oper} {o : Oper} {a : Act} {w : World} {K : Act → World → Prop} {Q : Exit → Act → World → Prop} {E : Prop} (hgd : o.guard = none) (s x : Operand)
    (hop : o.op = Op.call { callee := Callee.builtin Builtin.append, args := #[s, x], argTypes := #[23, 23] }) (B n : Nat) (v : Value) (xs : List Int) (hs : a.eval s = v) (hown : OwI B w v n xs)
    (ad : Addr) (m c : Nat) (ys : List Int) (hx : a.eval x = .slice (some ad) m c) (hy : Seg .i64 w (some ad) m ys) (hm : 0 < n + m) (hb : n + m ≤ 17592186044416) (hbase : B ≤ w.heap.size)
    (hK : ∀ a' c' w', OwI B w' (.slice a' (n + m) c') (n + m) (xs ++ ys) → Below B w w' → K (a.put o.dst (.slice a' (n + m) c')) w') :
    if Region.wanted o (yielded ops a.tmps) = true then Oper.wp Try.prog o a w K Q else E := by
  have hw : Region.wanted o (yielded ops a.tmps) = true := by simp [Region.wanted, hgd]
  rw [if_pos hw]
  obtain ⟨i, hi, hz, h4, h5⟩ := info_parts Try.infoI64
  refine wp_append_own w s x 23 hop B 3 i (.int .i64 0) 1 8 Try.underlying23 hi hz h4 h5 rfl (by decide) v n (xs.map (Value.int .i64)) hs hown ad m c (ys.map (Value.int .i64)) hx (by simp [hy.1]) (seg_news' hy ad rfl) ?_ (by unfold maxLen; omega) (by omega) hbase ?_
  · intro u hu; obtain ⟨z, _, rfl⟩ := List.mem_map.1 hu; rfl
  · intro v' w' hown' hg _
    have ho : OwI B w' v' (n + m) (xs ++ ys) := by unfold OwI; rw [List.map_append]; exact hown'
    obtain ⟨a', c', rfl, _⟩ := ho.seg
    refine hK a' c' w' ho ((Below.refl _ _).grown hg hbase ?_)
    intro k hk
    exact (OwI.lo (show OwI B w v n xs from hown) k hk).1
theorem Cf2.belowB {T U : TypeId} {w wr w' : World} {N B : Nat} {e f : Int} {u v : Value} (h : Cf2 T U w wr N e f u v) (hb : Below B wr w') (h1 : N + 1 < B) (h2 : w.heap.size ≤ B) : Cf2 T U w w' N e f u v :=
  ⟨(hb.block N (by omega)).trans h.l, (hb.block (N + 1) h1).trans h.r, h.b.trans (hb.mono h2)⟩
end Go.Proofs.Ytekefbbjocekiab
