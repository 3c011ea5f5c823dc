/-
  Frames put behind frames as one step of a drawn region; what stands while two calls of Feed are made and their answers are put together. No condition of its own.
-/
import Derived.Test.YtbfbehjldloeoaaDoorWSb
import Derived.Test.YtbfbehjldloeoaaDoorFAl
import Derived.Test.YtbfbehjldloeoaaDoorFSq
import Derived.Test.YtbfbehjldloeoaaDoorRLc
namespace Go.Proofs.YtbfbehjldloeoaaDoor
open Go.RowKit
set_option linter.unusedVariables false

theorem step_catF {ops : Array Oper} {o : Oper} {a : Act} {w : World} {K : Act → World → Prop} {Q : Exit → Act → World → Prop} {E : Prop} (hgd : o.guard = none) (s x : Operand)
    (ho : o.op = .call { callee := .builtin .append, args := #[s, x], argTypes := #[37, 37] }) (F F2 : Nat → Prop) (v v2 : Value) (L L2 : List FrM) (hs : a.eval s = v) (hx : a.eval x = v2) (h : FrL F w v L) (h2 : FrL F2 w v2 L2) (hd : ∀ k, F2 k → ¬ F k) (hn : (L.length + L2.length) * 32 ≤ 140737488355328)
    (hK : ∀ fa fc w', FrL (fun k => F k ∨ F2 k ∨ w.heap.size ≤ k) w' (.slice fa (L ++ L2).length fc) (L ++ L2) → w.grownBy w' v.ownBlock → K (a.put o.dst (.slice fa (L ++ L2).length fc)) w') :
    if Region.wanted o (yielded ops a.tmps) = true then Oper.wp Tryd.prog o a w K Q else E := by
  have hw : Region.wanted o (yielded ops a.tmps) = true := by simp [Region.wanted, hgd]
  rw [if_pos hw]
  obtain ⟨i, hi, hz, h4, h5⟩ := info_parts' Tryd.infoFrm
  have hK' : ∀ v' w', w'.ownsRow 0 29 2 v' (L ++ L2).length (flF (L ++ L2)) → w.grownBy w' v.ownBlock → (v'.ownBlock = v.ownBlock ∨ v'.ownBlock = some w.heap.size) → K (a.put o.dst v') w' := fun v' w' k1 k2 k3 => by
    obtain ⟨fa, fc, rfl⟩ := (own_shape k1).1
    exact hK fa fc w' (frl_cat h h2 hd k2 k1 k3) k2
  rcases h2.own.2 with ⟨rfl, hl0⟩ | ⟨g, cap, cur, rfl, _⟩
  · have hL2 : L2 = [] := List.length_eq_zero_iff.1 hl0
    subst hL2
    have hrun := run_append_owned_none (P := Tryd.prog) (w := w) 0 37 o.type 29 i 2 Tryd.underlying37 hi v L.length (flF L) h.own
    unfold Oper.wp
    simp [execOp, ho, resolve, invoke, builtin, hs, hx, hrun, Result.andThen]
    exact hK' v w (by rw [List.append_nil]; exact h.own) ⟨rfl, rfl, rfl, Nat.le_refl _, fun _ _ _ => rfl⟩ (.inl rfl)
  · obtain ⟨v', w', hr, k1, k2, _, k4⟩ := run_append_own_at (P := Tryd.prog) w 0 37 o.type 29 i (.agg #[.int .i64 0, .slice none 0 0]) 2 32 Tryd.underlying37 hi hz h4 h5 rfl (by decide) v L.length (flF L) h.own ⟨g, 0, none⟩ L2.length cap (flF L2) h2.own.1 (h2.own.cells rfl) (fun u hu => by
      unfold flF at hu
      obtain ⟨f, hf, hu⟩ := List.mem_flatMap.1 hu
      obtain ⟨ua, uc, e⟩ := (own_shape (h2.body f hf).1).1
      simp only [List.mem_cons, List.not_mem_nil, or_false] at hu
      rcases hu with rfl | rfl
      · rfl
      · rw [e]; rfl) (by unfold maxLen; omega) (by omega) (Nat.zero_le _)
    unfold Oper.wp execOp
    simp only [ho, resolve, invoke, builtin, Sem.run_bind, Sem.run_pure, Result.andThen_ok, List.map_toArray, List.map_cons, List.map_nil, hs, hx, hr]
    exact hK' v' w' (by rw [List.length_append, flF_app]; exact k1) k2 k4
/-- What stands at which time. -/
def SpSt (A0 : World → Prop) (A1 : Value → World → Prop) (A2 : Value → Value → World → Prop) (A3 : Value → World → Prop) (q : Nat → Bool) (f : Nat → Value) (W : World) : Prop :=
  (q 4 = false ∧ q 9 = false ∧ q 10 = false ∧ q 11 = false ∧ A0 W) ∨ (q 4 = true ∧ q 9 = false ∧ q 10 = false ∧ q 11 = false ∧ A1 (f 4) W) ∨ (q 4 = true ∧ q 9 = true ∧ q 10 = false ∧ q 11 = false ∧ A2 (f 4) (f 9) W) ∨ (q 4 = true ∧ q 9 = true ∧ q 10 = true ∧ (q 11 = true → f 11 = f 10) ∧ A3 (f 10) W)
def SpIv (SP CV KV S1 S2 : Value) (A0 : World → Prop) (A1 : Value → World → Prop) (A2 : Value → Value → World → Prop) (A3 : Value → World → Prop) (q : Nat → Bool) (f : Nat → Value) (W : World) : Prop :=
  (q 0 = true → f 0 = SP) ∧ (q 1 = true → f 1 = CV) ∧ (q 2 = true → f 2 = KV) ∧ (q 3 = true → f 3 = S1) ∧ (q 5 = true → f 5 = SP) ∧ (q 6 = true → f 6 = CV) ∧ (q 7 = true → f 7 = KV) ∧ (q 8 = true → f 8 = S2) ∧ SpSt A0 A1 A2 A3 q f W
theorem spst_pure {A0 : World → Prop} {A1 : Value → World → Prop} {A2 : Value → Value → World → Prop} {A3 : Value → World → Prop} {q : Nat → Bool} {f : Nat → Value} {W : World} (h : SpSt A0 A1 A2 A3 q f W) (i : Nat) (v : Value) (h4 : ¬ 4 = i) (h9 : ¬ 9 = i) (h10 : ¬ 10 = i) (h11 : ¬ 11 = i) : SpSt A0 A1 A2 A3 (fun j => if j = i then true else q j) (fun j => if j = i then v else f j) W := by
  unfold SpSt at *
  simp only [if_neg h4, if_neg h9, if_neg h10, if_neg h11]
  exact h
/-- What the first call found, and what lies ahead. -/
def Sp1 (w : World) (S : Nat) (zs : List Int) (v : Value) (W : World) : Prop := ∃ fa cn fc L Q F, v = .slice fa cn fc ∧ L.length = cn ∧ AllI 1048576 w S zs W (.slice fa cn fc) L Q F
/-- What Feed answers of what comes behind. -/
structure CallB (w0 : World) (S : Nat) (zs ys : List Int) (W : World) (v2 : Value) (L2 : List FrM) (Q Q2 F2 : Nat → Prop) : Prop where
  e2 : L2.map FrM.fr = (fseen 1048576 false ((fseen 1048576 false zs).rest ++ ys)).frames
  hS : SS Q2 W S 2097180 (fseen 1048576 false ((fseen 1048576 false zs).rest ++ ys)).rest 1048576 ((fseen 1048576 false zs).junk + (fseen 1048576 false ((fseen 1048576 false zs).rest ++ ys)).junk) ((fseen 1048576 false zs).lost + (fseen 1048576 false ((fseen 1048576 false zs).rest ++ ys)).lost) (.slice none 0 0) []
  fr : FrL F2 W v2 L2
  hQ : ∀ k, Q2 k → (Q k ∨ w0.heap.size ≤ k) ∧ k < W.heap.size
  hF : ∀ k, F2 k → (Q k ∨ w0.heap.size ≤ k) ∧ k < W.heap.size
  hFQ : ∀ k, F2 k → ¬ Q2 k
  hg : Gr Q w0 W
/-- What both calls found. -/
def Sp2 (w : World) (S : Nat) (zs ys : List Int) (v v2 : Value) (W : World) : Prop := ∃ (w0 : World) (fa : Option Addr) (cn fc : Nat) (L : List FrM) (Q F : Nat → Prop) (fb : Option Addr) (cm fd : Nat) (L2 : List FrM) (Q2 F2 : Nat → Prop), v = .slice fa cn fc ∧ L.length = cn ∧ AllI 1048576 w S zs w0 (.slice fa cn fc) L Q F ∧ v2 = .slice fb cm fd ∧ L2.length = cm ∧ CallB w0 S zs ys W (.slice fb cm fd) L2 Q Q2 F2
end Go.Proofs.YtbfbehjldloeoaaDoor
