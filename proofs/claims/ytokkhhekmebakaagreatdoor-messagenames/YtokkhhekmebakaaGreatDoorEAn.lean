/-
  Laws for a long row of comparisons joined by 'and': each is carried out where all ahead of it held. They speak of every program. No condition.
-/
import Derived.Test.YtokkhhekmebakaaGreatDoorRows
import Derived.RowKit
import Derived.WalkKit
import Derived.BigFrame
import Derived.Tactics2
namespace Go.Proofs.YtokkhhekmebakaaGreatDoor
open Go.RowKit
set_option linter.unusedVariables false

theorem put_same (a : Act) (d : Nat) (v : Value) (h : d < a.tmps.size) : (a.put (some d) v).eval (.tmp d) = v := by
  show (a.tmps.setIfInBounds d v).getD d undef = v
  simp [Array.getD, h]
theorem put_other (a : Act) (d s : Nat) (v : Value) (h : s ≠ d) : (a.put (some d) v).eval (.tmp s) = a.eval (.tmp s) := by
  show (a.tmps.setIfInBounds d v).getD s undef = a.tmps.getD s undef
  simp [Array.getD_eq_getD_getElem?, Array.getElem?_setIfInBounds_ne (Ne.symm h)]
theorem put_size (a : Act) (d : Nat) (v : Value) : (a.put (some d) v).tmps.size = a.tmps.size := by
  show (a.tmps.setIfInBounds d v).size = _
  simp
theorem wanted_of {ops : Array Oper} {o : Oper} {a : Act} {gi s : Nat} {b : Bool} (hg : o.guard = some (gi, true)) (hs : (ops[gi]?).bind (·.dst) = some s) (hl : s < a.tmps.size) (hb : a.eval (.tmp s) = .bool b) : Region.wanted o (yielded ops a.tmps) = b := by
  have h1 : a.tmps[s]? = some (.bool b) := by
    have : a.tmps.getD s undef = .bool b := hb
    rw [Array.getD_eq_getD_getElem?, Array.getElem?_eq_getElem hl, Option.getD_some] at this
    rw [Array.getElem?_eq_getElem hl, this]
  cases b <;> simp [Region.wanted, hg, yielded, hs, h1]
section
variable {P : Program} {ops : Array Oper} {Q : Exit → Act → World → Prop} {rest : List Oper} {o : Oper} {a : Act} {w : World}
theorem wpList_val (hw : Region.wanted o (yielded ops a.tmps) = true) {v : Value} (hx : (execOp a.eval o).run P w = .ok (.value v) w) (k : wpList P ops Q rest (a.put o.dst v) w) : wpList P ops Q (o :: rest) a w :=
  BigFrame.wpList_want hw fun K hK => by
    unfold Oper.wp
    rw [hx]
    exact hK _ _ k
theorem wanted_none (hg : o.guard = none) : Region.wanted o (yielded ops a.tmps) = true := by simp [Region.wanted, hg]
/-- An operation that is carried out where b holds. -/
theorem gop {gi s d : Nat} {b : Bool} {v : Value} (hg : o.guard = some (gi, true)) (hs : (ops[gi]?).bind (·.dst) = some s) (hl : s < a.tmps.size) (hb : a.eval (.tmp s) = .bool b) (hd : o.dst = some d) (hx : b = true → (execOp a.eval o).run P w = .ok (.value v) w)
    (k : wpList P ops Q rest (a.put (some d) (if b then v else undef)) w) : wpList P ops Q (o :: rest) a w := by
  cases b with
  | true => exact wpList_val (wanted_of hg hs hl hb) (hx rfl) (by rw [hd]; exact k)
  | false => exact wpList_skip (wanted_of hg hs hl hb) (by rw [hd]; exact k)
/-- A call that is carried out where b holds: it answers a Bool. -/
theorem gcall {gi s d : Nat} {b c : Bool} {f : FuncId} {args : Array Value} (hg : o.guard = some (gi, true)) (hs : (ops[gi]?).bind (·.dst) = some s) (hl : s < a.tmps.size) (hb : a.eval (.tmp s) = .bool b) (hd : o.dst = some d) (hx : b = true → (execOp a.eval o).run P w = .ok (.enter f args) w)
    (hc : b = true → Calls P f args w fun r w' => r = .returned (.bool c) ∧ w.grownBy w' none) (k : ∀ w', w.grownBy w' none → wpList P ops Q rest (a.put (some d) (if b then .bool c else undef)) w') : wpList P ops Q (o :: rest) a w := by
  cases b with
  | true =>
    refine BigFrame.wpList_want (wanted_of hg hs hl hb) fun K hK => ?_
    unfold Oper.wp
    rw [hx rfl, Oper.upon_enter]
    refine Calls.mono (hc rfl) ?_
    rintro e w' ⟨rfl, h⟩
    rw [hd]
    exact hK _ _ (k w' h)
  | false => exact wpList_skip (wanted_of hg hs hl hb) (by rw [hd]; exact k w ⟨rfl, rfl, rfl, Nat.le_refl _, fun _ _ _ => rfl⟩)
end
/-- The frame between two comparisons: b in slot s. -/
structure Fx (a : Act) (n : Nat) (p1 p2 : Value) (s : Nat) (b : Bool) : Prop where
  t2 : a.eval (.tmp 2) = p1
  t3 : a.eval (.tmp 3) = p2
  sz : a.tmps.size = n
  df : a.defers = []
  bv : a.eval (.tmp s) = .bool b
section
variable {P : Program} {ops : Array Oper} {Q : Exit → Act → World → Prop} {rest : List Oper} {a : Act} {w : World} {n : Nat} {p1 p2 : Value} {s d gi : Nat} {b c : Bool}
/-- Pick and move: what holds behind. -/
theorem gend {o6 o7 : Oper} (h : Fx a n p1 p2 s b) (cv : a.eval (.tmp d) = if b then .bool c else undef) (hsd : s < d) (h3 : 3 < d) (hn : d + 2 < n) (g6 : o6.guard = none) (g7 : o7.guard = none) (d6 : o6.dst = some (d + 1)) (d7 : o7.dst = some (d + 2)) (x6 : o6.op = .pick (.tmp s) (.tmp d) (.const (.bool false))) (x7 : o7.op = .move (.tmp (d + 1)))
    (k : ∀ a', Fx a' n p1 p2 (d + 2) (b && c) → wpList P ops Q rest a' w) : wpList P ops Q (o6 :: o7 :: rest) a w := by
  have hcn : a.eval (.const (.bool false)) = .bool false := rfl
  have hbv := h.bv
  have hx6 : (execOp a.eval o6).run P w = .ok (.value (.bool (b && c))) w := by
    cases b <;> simp [execOp, x6, hbv, cv, hcn, asBool]
  refine wpList_val (v := .bool (b && c)) (wanted_none g6) hx6 ?_
  rw [d6]
  have e1 : (a.put (some (d + 1)) (.bool (b && c))).eval (.tmp (d + 1)) = .bool (b && c) := put_same _ _ _ (by rw [h.sz]; omega)
  refine wpList_val (v := .bool (b && c)) (wanted_none g7) (by simp [execOp, x7, e1]) ?_
  rw [d7]
  refine k _ ⟨?_, ?_, ?_, ?_, ?_⟩
  · rw [put_other _ _ _ _ (by omega), put_other _ _ _ _ (by omega)]; exact h.t2
  · rw [put_other _ _ _ _ (by omega), put_other _ _ _ _ (by omega)]; exact h.t3
  · rw [put_size, put_size]; exact h.sz
  · exact h.df
  · exact put_same _ _ _ (by rw [put_size, h.sz]; omega)
end
theorem ex_field {P : Program} {o : Oper} {ρ : Operand → Value} {w : World} {T : TypeId} {x : Operand} {j : Nat} {u v : Value} (ho : o.op = .fieldAddr T x j) (hx : ρ x = u) (hr : (Instr.fieldAt T u j).run P w = .ok v w) : (execOp ρ o).run P w = .ok (.value v) w := by
  simp [execOp, ho, hx, hr]
theorem ex_load {P : Program} {o : Oper} {ρ : Operand → Value} {w : World} {T : TypeId} {x : Operand} {ad : Addr} {v : Value} (ho : o.op = .load T x) (hx : ρ x = .pointer (some ad)) (hr : (Instr.loadAt T (.pointer (some ad))).run P w = .ok v w) : (execOp ρ o).run P w = .ok (.value v) w := by
  simp [execOp, ho, hx, hr]
theorem ex_eq {P : Program} {o : Oper} {ρ : Operand → Value} {w : World} {T T' : TypeId} {x y : Operand} {u v : Value} {c : Bool} (ho : o.op = .binOp .eql T x y T') (hx : ρ x = u) (hy : ρ y = v) (h1 : (eqGuard .eql T x y u v).run P w = .ok () w) (h2 : (binOp .eql T u v).run P w = .ok (.bool c) w) : (execOp ρ o).run P w = .ok (.value (.bool c)) w := by
  simp [execOp, ho, hx, hy, h1, h2]
theorem ex_call2 {P : Program} {o : Oper} {a : Act} {w : World} {g : FuncId} {x y : Operand} {ty : Array TypeId} {u v : Value} (ho : o.op = .call { callee := .value (.func g), args := #[x, y], argTypes := ty }) (hx : a.eval x = u) (hy : a.eval y = v) (hc : (callFunc g #[u, v]).run P w = .ok (.enter g #[u, v]) w) : (execOp a.eval o).run P w = .ok (.enter g #[u, v]) w := by
  have e1 : a.eval (.func g) = .func (.func g) #[] #[] := rfl
  simp [execOp, ho, resolve, Deferred.ofValue, invoke, e1, hx, hy, hc]
section
/-- A block of operations behind an 'and'. -/
theorem blk_none : True := trivial
variable {P : Program} {ops : Array Oper} {Q : Exit → Act → World → Prop} {rest : List Oper} {a : Act} {w : World} {n : Nat} {p1 p2 : Value} {s d gi : Nat} {b c : Bool}
theorem gopF {o : Oper} {v : Value} (h : Fx a n p1 p2 s b) (hg : o.guard = some (gi, true)) (hs : (ops[gi]?).bind (·.dst) = some s) (hd : o.dst = some d) (hn : d < n ∧ s < n) (h1 : d ≠ s) (h2 : d ≠ 2) (h3 : d ≠ 3) (hx : b = true → (execOp a.eval o).run P w = .ok (.value v) w)
    (k : ∀ a', Fx a' n p1 p2 s b → a'.eval (.tmp d) = (if b then v else undef) → (∀ t, t ≠ d → a'.eval (.tmp t) = a.eval (.tmp t)) → wpList P ops Q rest a' w) : wpList P ops Q (o :: rest) a w :=
  gop hg hs (by rw [h.sz]; omega) h.bv hd hx (k _ ⟨(put_other _ _ _ _ (Ne.symm h2)).trans h.t2, (put_other _ _ _ _ (Ne.symm h3)).trans h.t3, (put_size _ _ _).trans h.sz, h.df, (put_other _ _ _ _ (Ne.symm h1)).trans h.bv⟩ (put_same _ _ _ (by rw [h.sz]; omega)) (fun t ht => put_other _ _ _ _ ht))
theorem gcallF {o : Oper} {f : FuncId} {args : Array Value} (h : Fx a n p1 p2 s b) (hg : o.guard = some (gi, true)) (hs : (ops[gi]?).bind (·.dst) = some s) (hd : o.dst = some d) (hn : d < n ∧ s < n) (h1 : d ≠ s) (h2 : d ≠ 2) (h3 : d ≠ 3) (hx : b = true → (execOp a.eval o).run P w = .ok (.enter f args) w)
    (hc : b = true → Calls P f args w fun r w' => r = .returned (.bool c) ∧ w.grownBy w' none)
    (k : ∀ w' a', w.grownBy w' none → Fx a' n p1 p2 s b → a'.eval (.tmp d) = (if b then .bool c else undef) → (∀ t, t ≠ d → a'.eval (.tmp t) = a.eval (.tmp t)) → wpList P ops Q rest a' w') : wpList P ops Q (o :: rest) a w :=
  gcall hg hs (by rw [h.sz]; omega) h.bv hd hx hc (fun w' hg => k w' _ hg ⟨(put_other _ _ _ _ (Ne.symm h2)).trans h.t2, (put_other _ _ _ _ (Ne.symm h3)).trans h.t3, (put_size _ _ _).trans h.sz, h.df, (put_other _ _ _ _ (Ne.symm h1)).trans h.bv⟩ (put_same _ _ _ (by rw [h.sz]; omega)) (fun t ht => put_other _ _ _ _ ht))
theorem gendA {o6 o7 : Oper} (h : Fx a n p1 p2 s b) (cv : a.eval (.tmp d) = if b then .bool c else undef) (hsd : s < d) (h3 : 3 < d) (hn : d + 2 < n + 1) (g6 : o6.guard = none) (g7 : o7.guard = none) (d6 : o6.dst = some (d + 1)) (d7 : o7.dst = some 4) (x6 : o6.op = .pick (.tmp s) (.tmp d) (.const (.bool false))) (x7 : o7.op = .assign (.tmp (d + 1)))
    (k : ∀ a', a'.defers = [] → a'.eval (.tmp 4) = .bool (b && c) → wpList P ops Q rest a' w) : wpList P ops Q (o6 :: o7 :: rest) a w := by
  have hcn : a.eval (.const (.bool false)) = .bool false := rfl
  have hbv := h.bv
  have hx6 : (execOp a.eval o6).run P w = .ok (.value (.bool (b && c))) w := by
    cases b <;> simp [execOp, x6, hbv, cv, hcn, asBool]
  refine wpList_val (v := .bool (b && c)) (wanted_none g6) hx6 ?_
  rw [d6]
  have e1 : (a.put (some (d + 1)) (.bool (b && c))).eval (.tmp (d + 1)) = .bool (b && c) := put_same _ _ _ (by rw [h.sz]; omega)
  refine wpList_val (v := .bool (b && c)) (wanted_none g7) (by simp [execOp, x7, e1]) ?_
  rw [d7]
  exact k _ h.df (put_same _ _ _ (by rw [put_size, h.sz]; omega))
theorem val7 {o0 o1 o2 o3 o4 o5 o6 : Oper} {v0 v1 v2 v3 : Value} (h : Fx a n p1 p2 s b) (hsd : s + 1 = d) (h3 : 3 < s) (hn : d + 6 < n) (hs : (ops[gi]?).bind (·.dst) = some s) (g0 : o0.guard = some (gi, true)) (d0 : o0.dst = some d) (g1 : o1.guard = some (gi, true)) (d1 : o1.dst = some (d + 1)) (g2 : o2.guard = some (gi, true)) (d2 : o2.dst = some (d + 2)) (g3 : o3.guard = some (gi, true)) (d3 : o3.dst = some (d + 3)) (g4 : o4.guard = some (gi, true)) (d4 : o4.dst = some (d + 4)) (g5 : o5.guard = none) (d5 : o5.dst = some (d + 5)) (g6 : o6.guard = none) (d6 : o6.dst = some (d + 6)) (x5 : o5.op = .pick (.tmp s) (.tmp (d + 4)) (.const (.bool false))) (x6 : o6.op = .move (.tmp (d + 5))) (x0 : ∀ ac : Act, ac.eval (.tmp 2) = p1 → (execOp ac.eval o0).run P w = .ok (.value v0) w) (x1 : ∀ ac : Act, ac.eval (.tmp d) = v0 → (execOp ac.eval o1).run P w = .ok (.value v1) w) (x2 : ∀ ac : Act, ac.eval (.tmp 3) = p2 → (execOp ac.eval o2).run P w = .ok (.value v2) w) (x3 : ∀ ac : Act, ac.eval (.tmp (d + 2)) = v2 → (execOp ac.eval o3).run P w = .ok (.value v3) w) (x4 : ∀ ac : Act, ac.eval (.tmp (d + 1)) = v1 → ac.eval (.tmp (d + 3)) = v3 → (execOp ac.eval o4).run P w = .ok (.value (.bool c)) w)
    (k : ∀ a', Fx a' n p1 p2 (d + 6) (b && c) → wpList P ops Q rest a' w) : wpList P ops Q (o0 :: o1 :: o2 :: o3 :: o4 :: o5 :: o6 :: rest) a w := by
  refine gopF (v := v0) h g0 hs d0 (by omega) (by omega) (by omega) (by omega) (fun hb => x0 _ h.t2) ?_
  intro a0 h0 e0 t0
  refine gopF (v := v1) h0 g1 hs d1 (by omega) (by omega) (by omega) (by omega) (fun hb => x1 _ (e0.trans (if_pos hb))) ?_
  intro a1 h1 e1 t1
  have e0_1 := (t1 d (by omega)).trans e0
  refine gopF (v := v2) h1 g2 hs d2 (by omega) (by omega) (by omega) (by omega) (fun hb => x2 _ h1.t3) ?_
  intro a2 h2 e2 t2
  have e0_2 := (t2 d (by omega)).trans e0_1
  have e1_2 := (t2 (d + 1) (by omega)).trans e1
  refine gopF (v := v3) h2 g3 hs d3 (by omega) (by omega) (by omega) (by omega) (fun hb => x3 _ (e2.trans (if_pos hb))) ?_
  intro a3 h3 e3 t3
  have e0_3 := (t3 d (by omega)).trans e0_2
  have e1_3 := (t3 (d + 1) (by omega)).trans e1_2
  have e2_3 := (t3 (d + 2) (by omega)).trans e2
  refine gopF (v := .bool c) h3 g4 hs d4 (by omega) (by omega) (by omega) (by omega) (fun hb => x4 _ (e1_3.trans (if_pos hb)) (e3.trans (if_pos hb))) ?_
  intro a4 h4 e4 t4
  have e0_4 := (t4 d (by omega)).trans e0_3
  have e1_4 := (t4 (d + 1) (by omega)).trans e1_3
  have e2_4 := (t4 (d + 2) (by omega)).trans e2_3
  have e3_4 := (t4 (d + 3) (by omega)).trans e3
  exact gend h4 e4 (by omega) (by omega) (by omega) g5 g6 d5 d6 x5 x6 k
theorem val9 {o0 o1 o2 o3 o4 o5 o6 o7 o8 : Oper} {v0 v1 v2 v3 v4 v5 : Value} (h : Fx a n p1 p2 s b) (hsd : s + 1 = d) (h3 : 3 < s) (hn : d + 8 < n) (hs : (ops[gi]?).bind (·.dst) = some s) (g0 : o0.guard = some (gi, true)) (d0 : o0.dst = some d) (g1 : o1.guard = some (gi, true)) (d1 : o1.dst = some (d + 1)) (g2 : o2.guard = some (gi, true)) (d2 : o2.dst = some (d + 2)) (g3 : o3.guard = some (gi, true)) (d3 : o3.dst = some (d + 3)) (g4 : o4.guard = some (gi, true)) (d4 : o4.dst = some (d + 4)) (g5 : o5.guard = some (gi, true)) (d5 : o5.dst = some (d + 5)) (g6 : o6.guard = some (gi, true)) (d6 : o6.dst = some (d + 6)) (g7 : o7.guard = none) (d7 : o7.dst = some (d + 7)) (g8 : o8.guard = none) (d8 : o8.dst = some (d + 8)) (x7 : o7.op = .pick (.tmp s) (.tmp (d + 6)) (.const (.bool false))) (x8 : o8.op = .move (.tmp (d + 7))) (x0 : ∀ ac : Act, ac.eval (.tmp 2) = p1 → (execOp ac.eval o0).run P w = .ok (.value v0) w) (x1 : ∀ ac : Act, ac.eval (.tmp d) = v0 → (execOp ac.eval o1).run P w = .ok (.value v1) w) (x2 : ∀ ac : Act, ac.eval (.tmp (d + 1)) = v1 → (execOp ac.eval o2).run P w = .ok (.value v2) w) (x3 : ∀ ac : Act, ac.eval (.tmp 3) = p2 → (execOp ac.eval o3).run P w = .ok (.value v3) w) (x4 : ∀ ac : Act, ac.eval (.tmp (d + 3)) = v3 → (execOp ac.eval o4).run P w = .ok (.value v4) w) (x5 : ∀ ac : Act, ac.eval (.tmp (d + 4)) = v4 → (execOp ac.eval o5).run P w = .ok (.value v5) w) (x6 : ∀ ac : Act, ac.eval (.tmp (d + 2)) = v2 → ac.eval (.tmp (d + 5)) = v5 → (execOp ac.eval o6).run P w = .ok (.value (.bool c)) w)
    (k : ∀ a', Fx a' n p1 p2 (d + 8) (b && c) → wpList P ops Q rest a' w) : wpList P ops Q (o0 :: o1 :: o2 :: o3 :: o4 :: o5 :: o6 :: o7 :: o8 :: rest) a w := by
  refine gopF (v := v0) h g0 hs d0 (by omega) (by omega) (by omega) (by omega) (fun hb => x0 _ h.t2) ?_
  intro a0 h0 e0 t0
  refine gopF (v := v1) h0 g1 hs d1 (by omega) (by omega) (by omega) (by omega) (fun hb => x1 _ (e0.trans (if_pos hb))) ?_
  intro a1 h1 e1 t1
  have e0_1 := (t1 d (by omega)).trans e0
  refine gopF (v := v2) h1 g2 hs d2 (by omega) (by omega) (by omega) (by omega) (fun hb => x2 _ (e1.trans (if_pos hb))) ?_
  intro a2 h2 e2 t2
  have e0_2 := (t2 d (by omega)).trans e0_1
  have e1_2 := (t2 (d + 1) (by omega)).trans e1
  refine gopF (v := v3) h2 g3 hs d3 (by omega) (by omega) (by omega) (by omega) (fun hb => x3 _ h2.t3) ?_
  intro a3 h3 e3 t3
  have e0_3 := (t3 d (by omega)).trans e0_2
  have e1_3 := (t3 (d + 1) (by omega)).trans e1_2
  have e2_3 := (t3 (d + 2) (by omega)).trans e2
  refine gopF (v := v4) h3 g4 hs d4 (by omega) (by omega) (by omega) (by omega) (fun hb => x4 _ (e3.trans (if_pos hb))) ?_
  intro a4 h4 e4 t4
  have e0_4 := (t4 d (by omega)).trans e0_3
  have e1_4 := (t4 (d + 1) (by omega)).trans e1_3
  have e2_4 := (t4 (d + 2) (by omega)).trans e2_3
  have e3_4 := (t4 (d + 3) (by omega)).trans e3
  refine gopF (v := v5) h4 g5 hs d5 (by omega) (by omega) (by omega) (by omega) (fun hb => x5 _ (e4.trans (if_pos hb))) ?_
  intro a5 h5 e5 t5
  have e0_5 := (t5 d (by omega)).trans e0_4
  have e1_5 := (t5 (d + 1) (by omega)).trans e1_4
  have e2_5 := (t5 (d + 2) (by omega)).trans e2_4
  have e3_5 := (t5 (d + 3) (by omega)).trans e3_4
  have e4_5 := (t5 (d + 4) (by omega)).trans e4
  refine gopF (v := .bool c) h5 g6 hs d6 (by omega) (by omega) (by omega) (by omega) (fun hb => x6 _ (e2_5.trans (if_pos hb)) (e5.trans (if_pos hb))) ?_
  intro a6 h6 e6 t6
  have e0_6 := (t6 d (by omega)).trans e0_5
  have e1_6 := (t6 (d + 1) (by omega)).trans e1_5
  have e2_6 := (t6 (d + 2) (by omega)).trans e2_5
  have e3_6 := (t6 (d + 3) (by omega)).trans e3_5
  have e4_6 := (t6 (d + 4) (by omega)).trans e4_5
  have e5_6 := (t6 (d + 5) (by omega)).trans e5
  exact gend h6 e6 (by omega) (by omega) (by omega) g7 g8 d7 d8 x7 x8 k
theorem call7 {o0 o1 o2 o3 o4 o5 o6 : Oper} {v0 v1 v2 v3 : Value} {f : FuncId} {args : Array Value} (h : Fx a n p1 p2 s b) (hsd : s + 1 = d) (h3 : 3 < s) (hn : d + 6 < n) (hs : (ops[gi]?).bind (·.dst) = some s) (g0 : o0.guard = some (gi, true)) (d0 : o0.dst = some d) (g1 : o1.guard = some (gi, true)) (d1 : o1.dst = some (d + 1)) (g2 : o2.guard = some (gi, true)) (d2 : o2.dst = some (d + 2)) (g3 : o3.guard = some (gi, true)) (d3 : o3.dst = some (d + 3)) (g4 : o4.guard = some (gi, true)) (d4 : o4.dst = some (d + 4)) (g5 : o5.guard = none) (d5 : o5.dst = some (d + 5)) (g6 : o6.guard = none) (d6 : o6.dst = some (d + 6)) (x5 : o5.op = .pick (.tmp s) (.tmp (d + 4)) (.const (.bool false))) (x6 : o6.op = .move (.tmp (d + 5))) (x0 : ∀ ac : Act, ac.eval (.tmp 2) = p1 → (execOp ac.eval o0).run P w = .ok (.value v0) w) (x1 : ∀ ac : Act, ac.eval (.tmp d) = v0 → (execOp ac.eval o1).run P w = .ok (.value v1) w) (x2 : ∀ ac : Act, ac.eval (.tmp 3) = p2 → (execOp ac.eval o2).run P w = .ok (.value v2) w) (x3 : ∀ ac : Act, ac.eval (.tmp (d + 2)) = v2 → (execOp ac.eval o3).run P w = .ok (.value v3) w) (x4 : ∀ ac : Act, ac.eval (.tmp (d + 1)) = v1 → ac.eval (.tmp (d + 3)) = v3 → (execOp ac.eval o4).run P w = .ok (.enter f args) w) (hc : Calls P f args w fun r w' => r = .returned (.bool c) ∧ w.grownBy w' none)
    (k : ∀ w' a', w.grownBy w' none → Fx a' n p1 p2 (d + 6) (b && c) → wpList P ops Q rest a' w') : wpList P ops Q (o0 :: o1 :: o2 :: o3 :: o4 :: o5 :: o6 :: rest) a w := by
  refine gopF (v := v0) h g0 hs d0 (by omega) (by omega) (by omega) (by omega) (fun hb => x0 _ h.t2) ?_
  intro a0 h0 e0 t0
  refine gopF (v := v1) h0 g1 hs d1 (by omega) (by omega) (by omega) (by omega) (fun hb => x1 _ (e0.trans (if_pos hb))) ?_
  intro a1 h1 e1 t1
  have e0_1 := (t1 d (by omega)).trans e0
  refine gopF (v := v2) h1 g2 hs d2 (by omega) (by omega) (by omega) (by omega) (fun hb => x2 _ h1.t3) ?_
  intro a2 h2 e2 t2
  have e0_2 := (t2 d (by omega)).trans e0_1
  have e1_2 := (t2 (d + 1) (by omega)).trans e1
  refine gopF (v := v3) h2 g3 hs d3 (by omega) (by omega) (by omega) (by omega) (fun hb => x3 _ (e2.trans (if_pos hb))) ?_
  intro a3 h3 e3 t3
  have e0_3 := (t3 d (by omega)).trans e0_2
  have e1_3 := (t3 (d + 1) (by omega)).trans e1_2
  have e2_3 := (t3 (d + 2) (by omega)).trans e2
  refine gcallF (c := c) (f := f) (args := args) h3 g4 hs d4 (by omega) (by omega) (by omega) (by omega) (fun hb => x4 _ (e1_3.trans (if_pos hb)) (e3.trans (if_pos hb))) (fun _ => hc) ?_
  intro w' a4 hg h4 e4 t4
  have e0_4 := (t4 d (by omega)).trans e0_3
  have e1_4 := (t4 (d + 1) (by omega)).trans e1_3
  have e2_4 := (t4 (d + 2) (by omega)).trans e2_3
  have e3_4 := (t4 (d + 3) (by omega)).trans e3
  exact gend h4 e4 (by omega) (by omega) (by omega) g5 g6 d5 d6 x5 x6 (fun a' h' => k w' a' hg h')
theorem call9 {o0 o1 o2 o3 o4 o5 o6 o7 o8 : Oper} {v0 v1 v2 v3 v4 v5 : Value} {f : FuncId} {args : Array Value} (h : Fx a n p1 p2 s b) (hsd : s + 1 = d) (h3 : 3 < s) (hn : d + 8 < n) (hs : (ops[gi]?).bind (·.dst) = some s) (g0 : o0.guard = some (gi, true)) (d0 : o0.dst = some d) (g1 : o1.guard = some (gi, true)) (d1 : o1.dst = some (d + 1)) (g2 : o2.guard = some (gi, true)) (d2 : o2.dst = some (d + 2)) (g3 : o3.guard = some (gi, true)) (d3 : o3.dst = some (d + 3)) (g4 : o4.guard = some (gi, true)) (d4 : o4.dst = some (d + 4)) (g5 : o5.guard = some (gi, true)) (d5 : o5.dst = some (d + 5)) (g6 : o6.guard = some (gi, true)) (d6 : o6.dst = some (d + 6)) (g7 : o7.guard = none) (d7 : o7.dst = some (d + 7)) (g8 : o8.guard = none) (d8 : o8.dst = some (d + 8)) (x7 : o7.op = .pick (.tmp s) (.tmp (d + 6)) (.const (.bool false))) (x8 : o8.op = .move (.tmp (d + 7))) (x0 : ∀ ac : Act, ac.eval (.tmp 2) = p1 → (execOp ac.eval o0).run P w = .ok (.value v0) w) (x1 : ∀ ac : Act, ac.eval (.tmp d) = v0 → (execOp ac.eval o1).run P w = .ok (.value v1) w) (x2 : ∀ ac : Act, ac.eval (.tmp (d + 1)) = v1 → (execOp ac.eval o2).run P w = .ok (.value v2) w) (x3 : ∀ ac : Act, ac.eval (.tmp 3) = p2 → (execOp ac.eval o3).run P w = .ok (.value v3) w) (x4 : ∀ ac : Act, ac.eval (.tmp (d + 3)) = v3 → (execOp ac.eval o4).run P w = .ok (.value v4) w) (x5 : ∀ ac : Act, ac.eval (.tmp (d + 4)) = v4 → (execOp ac.eval o5).run P w = .ok (.value v5) w) (x6 : ∀ ac : Act, ac.eval (.tmp (d + 2)) = v2 → ac.eval (.tmp (d + 5)) = v5 → (execOp ac.eval o6).run P w = .ok (.enter f args) w) (hc : Calls P f args w fun r w' => r = .returned (.bool c) ∧ w.grownBy w' none)
    (k : ∀ w' a', w.grownBy w' none → Fx a' n p1 p2 (d + 8) (b && c) → wpList P ops Q rest a' w') : wpList P ops Q (o0 :: o1 :: o2 :: o3 :: o4 :: o5 :: o6 :: o7 :: o8 :: rest) a w := by
  refine gopF (v := v0) h g0 hs d0 (by omega) (by omega) (by omega) (by omega) (fun hb => x0 _ h.t2) ?_
  intro a0 h0 e0 t0
  refine gopF (v := v1) h0 g1 hs d1 (by omega) (by omega) (by omega) (by omega) (fun hb => x1 _ (e0.trans (if_pos hb))) ?_
  intro a1 h1 e1 t1
  have e0_1 := (t1 d (by omega)).trans e0
  refine gopF (v := v2) h1 g2 hs d2 (by omega) (by omega) (by omega) (by omega) (fun hb => x2 _ (e1.trans (if_pos hb))) ?_
  intro a2 h2 e2 t2
  have e0_2 := (t2 d (by omega)).trans e0_1
  have e1_2 := (t2 (d + 1) (by omega)).trans e1
  refine gopF (v := v3) h2 g3 hs d3 (by omega) (by omega) (by omega) (by omega) (fun hb => x3 _ h2.t3) ?_
  intro a3 h3 e3 t3
  have e0_3 := (t3 d (by omega)).trans e0_2
  have e1_3 := (t3 (d + 1) (by omega)).trans e1_2
  have e2_3 := (t3 (d + 2) (by omega)).trans e2
  refine gopF (v := v4) h3 g4 hs d4 (by omega) (by omega) (by omega) (by omega) (fun hb => x4 _ (e3.trans (if_pos hb))) ?_
  intro a4 h4 e4 t4
  have e0_4 := (t4 d (by omega)).trans e0_3
  have e1_4 := (t4 (d + 1) (by omega)).trans e1_3
  have e2_4 := (t4 (d + 2) (by omega)).trans e2_3
  have e3_4 := (t4 (d + 3) (by omega)).trans e3
  refine gopF (v := v5) h4 g5 hs d5 (by omega) (by omega) (by omega) (by omega) (fun hb => x5 _ (e4.trans (if_pos hb))) ?_
  intro a5 h5 e5 t5
  have e0_5 := (t5 d (by omega)).trans e0_4
  have e1_5 := (t5 (d + 1) (by omega)).trans e1_4
  have e2_5 := (t5 (d + 2) (by omega)).trans e2_4
  have e3_5 := (t5 (d + 3) (by omega)).trans e3_4
  have e4_5 := (t5 (d + 4) (by omega)).trans e4
  refine gcallF (c := c) (f := f) (args := args) h5 g6 hs d6 (by omega) (by omega) (by omega) (by omega) (fun hb => x6 _ (e2_5.trans (if_pos hb)) (e5.trans (if_pos hb))) (fun _ => hc) ?_
  intro w' a6 hg h6 e6 t6
  have e0_6 := (t6 d (by omega)).trans e0_5
  have e1_6 := (t6 (d + 1) (by omega)).trans e1_5
  have e2_6 := (t6 (d + 2) (by omega)).trans e2_5
  have e3_6 := (t6 (d + 3) (by omega)).trans e3_5
  have e4_6 := (t6 (d + 4) (by omega)).trans e4_5
  have e5_6 := (t6 (d + 5) (by omega)).trans e5
  exact gend h6 e6 (by omega) (by omega) (by omega) g7 g8 d7 d8 x7 x8 (fun a' h' => k w' a' hg h')
theorem call7A {o0 o1 o2 o3 o4 o5 o6 : Oper} {v0 v1 v2 v3 : Value} {f : FuncId} {args : Array Value} (h : Fx a n p1 p2 s b) (hsd : s + 1 = d) (h3 : 3 < s) (hn : d + 5 < n) (hs : (ops[gi]?).bind (·.dst) = some s) (g0 : o0.guard = some (gi, true)) (d0 : o0.dst = some d) (g1 : o1.guard = some (gi, true)) (d1 : o1.dst = some (d + 1)) (g2 : o2.guard = some (gi, true)) (d2 : o2.dst = some (d + 2)) (g3 : o3.guard = some (gi, true)) (d3 : o3.dst = some (d + 3)) (g4 : o4.guard = some (gi, true)) (d4 : o4.dst = some (d + 4)) (g5 : o5.guard = none) (d5 : o5.dst = some (d + 5)) (g6 : o6.guard = none) (d6 : o6.dst = some 4) (x5 : o5.op = .pick (.tmp s) (.tmp (d + 4)) (.const (.bool false))) (x6 : o6.op = .assign (.tmp (d + 5))) (x0 : ∀ ac : Act, ac.eval (.tmp 2) = p1 → (execOp ac.eval o0).run P w = .ok (.value v0) w) (x1 : ∀ ac : Act, ac.eval (.tmp d) = v0 → (execOp ac.eval o1).run P w = .ok (.value v1) w) (x2 : ∀ ac : Act, ac.eval (.tmp 3) = p2 → (execOp ac.eval o2).run P w = .ok (.value v2) w) (x3 : ∀ ac : Act, ac.eval (.tmp (d + 2)) = v2 → (execOp ac.eval o3).run P w = .ok (.value v3) w) (x4 : ∀ ac : Act, ac.eval (.tmp (d + 1)) = v1 → ac.eval (.tmp (d + 3)) = v3 → (execOp ac.eval o4).run P w = .ok (.enter f args) w) (hc : Calls P f args w fun r w' => r = .returned (.bool c) ∧ w.grownBy w' none)
    (k : ∀ w' a', w.grownBy w' none → a'.defers = [] → a'.eval (.tmp 4) = .bool (b && c) → wpList P ops Q rest a' w') : wpList P ops Q (o0 :: o1 :: o2 :: o3 :: o4 :: o5 :: o6 :: rest) a w := by
  refine gopF (v := v0) h g0 hs d0 (by omega) (by omega) (by omega) (by omega) (fun hb => x0 _ h.t2) ?_
  intro a0 h0 e0 t0
  refine gopF (v := v1) h0 g1 hs d1 (by omega) (by omega) (by omega) (by omega) (fun hb => x1 _ (e0.trans (if_pos hb))) ?_
  intro a1 h1 e1 t1
  have e0_1 := (t1 d (by omega)).trans e0
  refine gopF (v := v2) h1 g2 hs d2 (by omega) (by omega) (by omega) (by omega) (fun hb => x2 _ h1.t3) ?_
  intro a2 h2 e2 t2
  have e0_2 := (t2 d (by omega)).trans e0_1
  have e1_2 := (t2 (d + 1) (by omega)).trans e1
  refine gopF (v := v3) h2 g3 hs d3 (by omega) (by omega) (by omega) (by omega) (fun hb => x3 _ (e2.trans (if_pos hb))) ?_
  intro a3 h3 e3 t3
  have e0_3 := (t3 d (by omega)).trans e0_2
  have e1_3 := (t3 (d + 1) (by omega)).trans e1_2
  have e2_3 := (t3 (d + 2) (by omega)).trans e2
  refine gcallF (c := c) (f := f) (args := args) h3 g4 hs d4 (by omega) (by omega) (by omega) (by omega) (fun hb => x4 _ (e1_3.trans (if_pos hb)) (e3.trans (if_pos hb))) (fun _ => hc) ?_
  intro w' a4 hg h4 e4 t4
  have e0_4 := (t4 d (by omega)).trans e0_3
  have e1_4 := (t4 (d + 1) (by omega)).trans e1_3
  have e2_4 := (t4 (d + 2) (by omega)).trans e2_3
  have e3_4 := (t4 (d + 3) (by omega)).trans e3
  exact gendA h4 e4 (by omega) (by omega) (by omega) g5 g6 d5 d6 x5 x6 (fun a' h1 h2 => k w' a' hg h1 h2)
end
end Go.Proofs.YtokkhhekmebakaaGreatDoor
