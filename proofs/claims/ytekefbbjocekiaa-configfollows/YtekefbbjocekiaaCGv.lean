/-
  Two twins made side by side, their order drawn: what holds while some of it is done. No condition of its own.
-/
import Derived.Test.YtekefbbjocekiaaCGz
import Derived.Test.YtekefbbjocekiaaRLo
import Derived.Test.YtekefbbjocekiaaTSk
namespace Go.Proofs.Ytekefbbjocekiaa
open Go.RowKit
set_option linter.unusedVariables false

/-- What holds of the two twins while the operations b0 to b7 are done or not; v0 to v5 is what they yielded. -/
structure FoI (w W : World) (e f : Int) (SA SB : Value) (n m : Nat) (xs ys : List Int) (b0 b1 b2 b3 b4 b5 b6 b7 : Bool) (v0 v1 v2 v3 v4 v5 : Value) : Prop where
  k : Kn [(w.heap.size + 1, 27, f, SB), (w.heap.size, 27, e, SA)] w W
  h0 : b0 = true → v0 = .agg #[.int .i64 e, SA]
  h2 : b2 = true → v2 = .agg #[.int .i64 f, SB]
  h1 : b1 = true → ∃ g cap, v1 = .agg #[.int .i64 e, .slice (some ⟨g, 0, none⟩) n cap] ∧ n + 3 ≤ cap ∧ OwI 0 W (.slice (some ⟨g, 0, none⟩) (n + 3) cap) (n + 3) (xs ++ [-71, -72, -73])
  h3 : b3 = true → ∃ g cap, v3 = .agg #[.int .i64 f, .slice (some ⟨g, 0, none⟩) m cap] ∧ m + 3 ≤ cap ∧ OwI 0 W (.slice (some ⟨g, 0, none⟩) (m + 3) cap) (m + 3) (ys ++ [-71, -72, -73])
  h4 : b4 = true → ∃ P, v4 = .pointer (some ⟨P, 0, none⟩) ∧ w.heap.size + 2 ≤ P ∧ ∃ e0 u0, CfB 27 W P e0 u0 ∧ (b6 = true → v1 = .agg #[.int .i64 e0, u0])
  h5 : b5 = true → ∃ P, v5 = .pointer (some ⟨P, 0, none⟩) ∧ w.heap.size + 2 ≤ P ∧ ∃ e0 u0, CfB 27 W P e0 u0 ∧ (b7 = true → v3 = .agg #[.int .i64 e0, u0])
  ne : b4 = true → b5 = true → v4 ≠ v5
  c6 : b6 = true → b4 = true ∧ b1 = true
  c7 : b7 = true → b5 = true ∧ b3 = true
theorem FoI.below {w W W' e f SA SB n m xs ys b0 b1 b2 b3 b4 b5 b6 b7 v0 v1 v2 v3 v4 v5} (h : FoI w W e f SA SB n m xs ys b0 b1 b2 b3 b4 b5 b6 b7 v0 v1 v2 v3 v4 v5) (hb : Below W.heap.size W W') : FoI w W' e f SA SB n m xs ys b0 b1 b2 b3 b4 b5 b6 b7 v0 v1 v2 v3 v4 v5 := by
  refine ⟨h.k.below hb, h.h0, h.h2, fun z => ?_, fun z => ?_, fun z => ?_, fun z => ?_, h.ne, h.c6, h.c7⟩
  · obtain ⟨g, cap, h1, h2, h3⟩ := h.h1 z; exact ⟨g, cap, h1, h2, h3.below hb⟩
  · obtain ⟨g, cap, h1, h2, h3⟩ := h.h3 z; exact ⟨g, cap, h1, h2, h3.below hb⟩
  · obtain ⟨P, h1, h2, e0, u0, h3, h4⟩ := h.h4 z; exact ⟨P, h1, h2, e0, u0, h3.below hb, h4⟩
  · obtain ⟨P, h1, h2, e0, u0, h3, h4⟩ := h.h5 z; exact ⟨P, h1, h2, e0, u0, h3.below hb, h4⟩
/-- A list of numbers does not lie in a configuration's block. -/
theorem own_off {W : World} {g n cap P : Nat} {xs : List Int} {e : Int} {v : Value} (h : OwI 0 W (.slice (some ⟨g, 0, none⟩) n cap) n xs) (hc : CfB 27 W P e v) : g ≠ P := by
  intro q
  subst q
  rcases h.2 with ⟨z, _⟩ | ⟨g', cap', cur, e1, _, hgb, _⟩
  · cases z
  · simp only [Value.slice.injEq, Option.some.injEq, Addr.mk.injEq, and_true, true_and] at e1
    obtain ⟨rfl, rfl⟩ := e1
    have hc' : W.heap[g]? = some (.cells #[.int .i64 e, v] 27 (0, 0)) := hc
    rw [hgb] at hc'
    injection hc' with hc'
    injection hc' with _ hc'
    exact absurd hc' (by decide)
theorem own_st {W W' : World} {g n cap P : Nat} {xs : List Int} {e : Int} {v : Value} (h : OwI 0 W (.slice (some ⟨g, 0, none⟩) n cap) n xs) (hc : CfB 27 W P e v) (hg : W.grownBy W' (some P)) : OwI 0 W' (.slice (some ⟨g, 0, none⟩) n cap) n xs :=
  h.grown hg (fun q hq z => own_off h hc (by have e1 : g = q := Option.some.inj hq; have e2 : P = q := Option.some.inj z; omega))
theorem kn_st {w W W' : World} {l : List (Nat × TypeId × Int × Value)} {P : Nat} (h : Kn l w W) (hg : W.grownBy W' (some P)) (hP : w.heap.size ≤ P) (hl : ∀ x ∈ l, x.1 ≠ P) : Kn l w W' := by
  refine ⟨fun x hx => (hg.block x.1 (lt_of_block (h.1 x hx)) (fun e => hl x hx (by injection e))).trans (h.1 x hx), h.2.grown hg h.2.size (fun q hq => by cases hq; exact hP)⟩
/-- The first store. -/
theorem FoI.st6 {w W W' e f SA SB n m xs ys b0 b2 b3 b5 b7 v0 v1 v2 v3 v5} {P : Nat} {e1 : Int} {u1 : Value} (h : FoI w W e f SA SB n m xs ys b0 true b2 b3 true b5 false b7 v0 v1 v2 v3 (.pointer (some ⟨P, 0, none⟩)) v5) (hv : v1 = .agg #[.int .i64 e1, u1])
    (hP : w.heap.size + 2 ≤ P) (hbk : CfB 27 W' P e1 u1) (hg : W.grownBy W' (some P)) : FoI w W' e f SA SB n m xs ys b0 true b2 b3 true b5 true b7 v0 v1 v2 v3 (.pointer (some ⟨P, 0, none⟩)) v5 := by
  obtain ⟨P', q1, q2, e0, u0, q3, q4⟩ := h.h4 rfl
  obtain rfl : P = P' := by injection q1 with q1; injection q1 with q1; injection q1
  refine ⟨kn_st h.k hg (by omega) (fun x hx => by simp at hx; rcases hx with rfl | rfl <;> simp <;> omega), h.h0, h.h2, fun z => ?_, fun z => ?_, fun z => ⟨P, rfl, q2, e1, u1, hbk, fun _ => hv⟩, fun z => ?_, h.ne, fun _ => ⟨rfl, rfl⟩, h.c7⟩
  · obtain ⟨g, cap, h1, h2, h3⟩ := h.h1 z; exact ⟨g, cap, h1, h2, own_st h3 q3 hg⟩
  · obtain ⟨g, cap, h1, h2, h3⟩ := h.h3 z; exact ⟨g, cap, h1, h2, own_st h3 q3 hg⟩
  · obtain ⟨Q, h1, h2, e2, u2, h3, h4⟩ := h.h5 z
    refine ⟨Q, h1, h2, e2, u2, ?_, h4⟩
    have hne := h.ne rfl z
    exact (hg.block Q h3.lt (fun q => hne (by rw [h1]; injection q with q; rw [q]))).trans h3
/-- The second store. -/
theorem FoI.st7 {w W W' e f SA SB n m xs ys b0 b1 b2 b4 b6 v0 v1 v2 v3 v4} {P : Nat} {e1 : Int} {u1 : Value} (h : FoI w W e f SA SB n m xs ys b0 b1 b2 true b4 true b6 false v0 v1 v2 v3 v4 (.pointer (some ⟨P, 0, none⟩))) (hv : v3 = .agg #[.int .i64 e1, u1])
    (hP : w.heap.size + 2 ≤ P) (hbk : CfB 27 W' P e1 u1) (hg : W.grownBy W' (some P)) : FoI w W' e f SA SB n m xs ys b0 b1 b2 true b4 true b6 true v0 v1 v2 v3 v4 (.pointer (some ⟨P, 0, none⟩)) := by
  obtain ⟨P', q1, q2, e0, u0, q3, q4⟩ := h.h5 rfl
  obtain rfl : P = P' := by injection q1 with q1; injection q1 with q1; injection q1
  refine ⟨kn_st h.k hg (by omega) (fun x hx => by simp at hx; rcases hx with rfl | rfl <;> simp <;> omega), h.h0, h.h2, fun z => ?_, fun z => ?_, fun z => ?_, fun z => ⟨P, rfl, q2, e1, u1, hbk, fun _ => hv⟩, h.ne, h.c6, fun _ => ⟨rfl, rfl⟩⟩
  · obtain ⟨g, cap, h1, h2, h3⟩ := h.h1 z; exact ⟨g, cap, h1, h2, own_st h3 q3 hg⟩
  · obtain ⟨g, cap, h1, h2, h3⟩ := h.h3 z; exact ⟨g, cap, h1, h2, own_st h3 q3 hg⟩
  · obtain ⟨Q, h1, h2, e2, u2, h3, h4⟩ := h.h4 z
    refine ⟨Q, h1, h2, e2, u2, ?_, h4⟩
    have hne := h.ne z rfl
    exact (hg.block Q h3.lt (fun q => hne (by rw [h1]; injection q with q; rw [q]))).trans h3
theorem range2 {W : World} {T : TypeId} {N : Nat} {e : Int} {v : Value} (h : CfB T W N e v) : W.rangeAt N 0 [.int .i64 e, v] := fun j u hj => by
  match j, hj with
  | 0, hj => cases hj; exact h.c0
  | 1, hj => cases hj; exact h.c1
  | j + 2, hj => simp at hj
theorem ph_allocC {ops : Array Oper} {o : Oper} {a : Act} {w : World} {K : Act → World → Prop} {Q : Exit → Act → World → Prop} {E : Prop} (hgd : o.guard = none) (ho : o.op = .alloc 27)
    (k : K (a.put o.dst (.pointer (some ⟨w.heap.size, 0, none⟩))) (w.alloc (.cells #[.int .i64 0, .slice none 0 0] 27))) : if Region.wanted o (yielded ops a.tmps) = true then Oper.wp Try.prog o a w K Q else E := by
  have hwt : Region.wanted o (yielded ops a.tmps) = true := by simp [Region.wanted, hgd]
  rw [if_pos hwt]
  have := k
  go_simp
  exact this
end Go.Proofs.Ytekefbbjocekiaa
