/-
  Steps for regions that draw their order (RPh): what an operation reads of the frame. It speaks of every program. No condition of its own.
-/
import Derived.Test.YtekefbbjocekiaaRPk
namespace Go.Proofs.Ytekefbbjocekiaa
open Go.RowKit
set_option linter.unusedVariables false

theorem ev_in {a A : Act} {D : List Nat} {f : Nat → Value} (hA : A = putAll a D f) (s i : Nat) (h1 : decide (s ∈ D) = true) (h2 : D.idxOf s = i) (h3 : decide (s < a.tmps.size) = true) : A.eval (.tmp s) = f i := by
  have h1 := of_decide_eq_true h1
  have h3 := of_decide_eq_true h3
  subst hA h2
  show (putL D f 0 a.tmps.toList).toArray.getD s undef = _
  rw [Array.getD_eq_getD_getElem?, List.getElem?_toArray, putL_get, Nat.zero_add]
  simp [h1, h3]
theorem ev_out {a A : Act} {D : List Nat} {f : Nat → Value} (hA : A = putAll a D f) (s : Nat) (h1 : decide (s ∈ D) = false) : A.eval (.tmp s) = a.eval (.tmp s) := by
  have h1 := of_decide_eq_false h1
  subst hA
  show (putL D f 0 a.tmps.toList).toArray.getD s undef = a.tmps.getD s undef
  rw [Array.getD_eq_getD_getElem?, List.getElem?_toArray, putL_get, Nat.zero_add, Array.getD_eq_getD_getElem?]
  simp [h1]
theorem tmps_in {a A : Act} {D : List Nat} {f : Nat → Value} (hA : A = putAll a D f) {s : Nat} (h3 : decide (s < a.tmps.size) = true) {v : Value} (hv : A.eval (.tmp s) = v) : A.tmps[s]? = some v := by
  have h3 := of_decide_eq_true h3
  have hl : s < A.tmps.size := by
    subst hA
    show s < (putL D f 0 a.tmps.toList).toArray.size
    rw [List.size_toArray, putL_len, Array.length_toList]; exact h3
  have : A.tmps.getD s undef = v := hv
  rw [Array.getD_eq_getD_getElem?, Array.getElem?_eq_getElem hl, Option.getD_some] at this
  rw [Array.getElem?_eq_getElem hl, this]
theorem wanted_in {ops : Array Oper} {o : Oper} {a A : Act} {D : List Nat} {f : Nat → Value} (hA : A = putAll a D f) (j : Nat) (b : Bool) (hg : o.guard = some (j, b)) (s : Nat) (hd : ((ops[j]?).bind (·.dst)) = some s) (h3 : decide (s < a.tmps.size) = true) (hv : A.eval (.tmp s) = .bool b) : Region.wanted o (yielded ops A.tmps) = true := by
  simp [Region.wanted, hg, yielded, hd, tmps_in hA h3 hv]
theorem wanted_out {ops : Array Oper} {o : Oper} {a A : Act} {D : List Nat} {f : Nat → Value} (hA : A = putAll a D f) (j : Nat) (b : Bool) (hg : o.guard = some (j, b)) (s : Nat) (hd : ((ops[j]?).bind (·.dst)) = some s) (h3 : decide (s < a.tmps.size) = true) (hv : A.eval (.tmp s) = .bool (!b)) : Region.wanted o (yielded ops A.tmps) = false := by
  cases b <;> simp [Region.wanted, hg, yielded, hd, tmps_in hA h3 hv]
theorem ph_skip {P : Program} {ops : Array Oper} {o : Oper} {A : Act} {W : World} {K : Act → World → Prop} {Q : Exit → Act → World → Prop} (h : Region.wanted o (yielded ops A.tmps) = false) (k : K (A.put o.dst undef) W) : if Region.wanted o (yielded ops A.tmps) = true then Oper.wp P o A W K Q else K (A.put o.dst undef) W := by
  rw [if_neg (by rw [h]; exact Bool.false_ne_true)]
  exact k
theorem ph_sem {P : Program} {ops : Array Oper} {o : Oper} {A : Act} {W : World} {K : Act → World → Prop} {Q : Exit → Act → World → Prop} {E : Prop} {ρ : Operand → Value} (hρ : A.eval = ρ) (hwt : Region.wanted o (yielded ops A.tmps) = true) {r : Result Next} (hr : (execOp ρ o).run P W = r) (h : o.upon P A K Q r) :
    if Region.wanted o (yielded ops A.tmps) = true then Oper.wp P o A W K Q else E := by
  rw [if_pos hwt]
  unfold Oper.wp
  rw [hρ, hr]
  exact h
theorem ph_load {P : Program} {ops : Array Oper} {o : Oper} {A : Act} {W : World} {K : Act → World → Prop} {Q : Exit → Act → World → Prop} {E : Prop} (hwt : Region.wanted o (yielded ops A.tmps) = true) (T : TypeId) (x : Operand) (ho : o.op = .load T x)
    {d : TypeDesc} (hu : P.underlying T = some d) (hd : d.isRow = true) (b off : Nat) (cs : List Value) (hi : (P.info? T).map (·.size) = some cs.length) (hx : A.eval x = .pointer (some ⟨b, off, none⟩)) (h : W.rangeAt b off cs)
    (k : K (A.put o.dst (.agg cs.toArray)) W) : if Region.wanted o (yielded ops A.tmps) = true then Oper.wp P o A W K Q else E := by
  rw [if_pos hwt]
  exact wp_load_mid T x ho b off hx cs d h hu hd hi k
theorem ph_call {P : Program} {ops : Array Oper} {o : Oper} {A : Act} {W : World} {K : Act → World → Prop} {Q : Exit → Act → World → Prop} {E : Prop} {ρ : Operand → Value} (hρ : A.eval = ρ) (hwt : Region.wanted o (yielded ops A.tmps) = true) {f : FuncId} {args : Array Value} (hr : (execOp ρ o).run P W = .ok (.enter f args) W)
    (h : Calls P f args W fun e W' => ∃ v, e = .returned v ∧ K (A.put o.dst v) W') : if Region.wanted o (yielded ops A.tmps) = true then Oper.wp P o A W K Q else E := by
  refine ph_sem hρ hwt hr ?_
  refine Calls.mono h ?_
  rintro e W' ⟨v, rfl, hk⟩
  exact hk
section
variable {P : Program} {ops : Array Oper} {o : Oper} {A : Act} {W : World} {K : Act → World → Prop} {Q : Exit → Act → World → Prop} {E : Prop}
theorem ph_move (x : Operand) (ho : o.op = .move x) (hwt : Region.wanted o (yielded ops A.tmps) = true) (v : Value) (hx : A.eval x = v) (k : K (A.put o.dst v) W) : if Region.wanted o (yielded ops A.tmps) = true then Oper.wp P o A W K Q else E :=
  ph_sem rfl hwt (r := .ok (.value v) W) (by simp [execOp, ho, hx]) k
theorem ph_assign (x : Operand) (ho : o.op = .assign x) (hwt : Region.wanted o (yielded ops A.tmps) = true) (v : Value) (hx : A.eval x = v) (k : K (A.put o.dst v) W) : if Region.wanted o (yielded ops A.tmps) = true then Oper.wp P o A W K Q else E :=
  ph_sem rfl hwt (r := .ok (.value v) W) (by simp [execOp, ho, hx]) k
theorem ph_nil (x : Operand) (ho : o.op = .nilCheck x) (hwt : Region.wanted o (yielded ops A.tmps) = true) (ad : Addr) (hx : A.eval x = .pointer (some ad)) (k : K (A.put o.dst (.pointer (some ad))) W) : if Region.wanted o (yielded ops A.tmps) = true then Oper.wp P o A W K Q else E :=
  ph_sem rfl hwt (r := .ok (.value (.pointer (some ad))) W) (by simp [execOp, ho, hx]) k
theorem ph_field (T : TypeId) (x : Operand) (j : Nat) (ho : o.op = .fieldAddr T x j) (hwt : Region.wanted o (yielded ops A.tmps) = true) (u v : Value) (hx : A.eval x = u) (hr : (Instr.fieldAt T u j).run P W = .ok v W) (k : K (A.put o.dst v) W) : if Region.wanted o (yielded ops A.tmps) = true then Oper.wp P o A W K Q else E :=
  ph_sem rfl hwt (r := .ok (.value v) W) (by simp [execOp, ho, hx, hr]) k
theorem ph_pick (c x y : Operand) (ho : o.op = .pick c x y) (hwt : Region.wanted o (yielded ops A.tmps) = true) (b : Bool) (u v : Value) (hc : A.eval c = .bool b) (hx : A.eval x = u) (hy : A.eval y = v) (k : K (A.put o.dst (if b = true then u else v)) W) : if Region.wanted o (yielded ops A.tmps) = true then Oper.wp P o A W K Q else E :=
  ph_sem rfl hwt (r := .ok (.value (if b = true then u else v)) W) (by simp [execOp, ho, hc, hx, hy, asBool]) k
theorem ph_fn (g : FuncId) (args : Array Operand) (ty : Array TypeId) (ho : o.op = .call { callee := .value (.func g), args := args, argTypes := ty }) (hwt : Region.wanted o (yielded ops A.tmps) = true) (vs : Array Value) (hv : args.map A.eval = vs) (hc : (callFunc g vs).run P W = .ok (.enter g vs) W)
    (h : Calls P g vs W fun e W' => ∃ v, e = .returned v ∧ K (A.put o.dst v) W') : if Region.wanted o (yielded ops A.tmps) = true then Oper.wp P o A W K Q else E :=
  ph_call rfl hwt (f := g) (args := vs) (by
    have e1 : A.eval (.func g) = .func (.func g) #[] #[] := rfl
    simp [execOp, ho, resolve, Deferred.ofValue, invoke, e1, hv, hc]) h
theorem ph_inv (x : Operand) (name : String) (ty : Array TypeId) (ho : o.op = .call { callee := .invoke x name, args := #[], argTypes := ty }) (hwt : Region.wanted o (yielded ops A.tmps) = true) (u : Value) (hx : A.eval x = u) (g : FuncId) (vs : Array Value) (hc : (callMethod u name #[]).run P W = .ok (.enter g vs) W)
    (h : Calls P g vs W fun e W' => ∃ v, e = .returned v ∧ K (A.put o.dst v) W') : if Region.wanted o (yielded ops A.tmps) = true then Oper.wp P o A W K Q else E :=
  ph_call rfl hwt (f := g) (args := vs) (by
    simp [execOp, ho, resolve, invoke, hx, hc]) h
end
theorem putAll_lit {a : Act} {D : List Nat} {f : Nat → Value} (cs : List Value) (h : ∀ j, j < D.length → f j = cs.getD j undef) : putAll a D f = putAll a D (fun j => cs.getD j undef) := by
  have e : putL D f 0 a.tmps.toList = putL D (fun j => cs.getD j undef) 0 a.tmps.toList := by
    apply List.ext_getElem?
    intro k
    rw [putL_get, putL_get]
    congr 1
    funext x
    by_cases hm : 0 + k ∈ D
    · rw [if_pos hm, if_pos hm]
      exact h _ (List.idxOf_lt_length_of_mem hm)
    · rw [if_neg hm, if_neg hm]
  unfold putAll
  rw [e]
theorem ret_ph {P : Program} {fn : Func} {R : Ending → World → Prop} {a A : Act} {D : List Nat} {f : Nat → Value} {W : World} {v : Value} (hA : A = putAll a D f) (s : Tmp) (hr : fn.results = #[.tmp s]) (hd : a.defers = []) (hv : A.eval (.tmp s) = v) (h : R (.returned v) W) : bodyPost P fn R .ret A W := by
  refine bodyPost_ret (v := v) ?_ (by rw [hA]; exact hd) h
  rw [results_tmp hr]
  rw [← hv]; rfl
theorem ph_store {P : Program} {ops : Array Oper} {o : Oper} {A : Act} {W : World} {K : Act → World → Prop} {Q : Exit → Act → World → Prop} {E : Prop} (T : TypeId) (x y : Operand) (ho : o.op = .store T x y) (hwt : Region.wanted o (yielded ops A.tmps) = true) (ad : Addr) (v : Value) (hx : A.eval x = .pointer (some ad)) (hy : A.eval y = v) (W' : World) (hst : (storeVar T ad v).run P W = .ok () W') (k : K (A.put o.dst undef) W') :
    if Region.wanted o (yielded ops A.tmps) = true then Oper.wp P o A W K Q else E :=
  ph_sem rfl hwt (r := .ok .skip W') (by simp [execOp, ho, hx, hy, Instr.storeAt, Instr.sureAddr, hst]) k
theorem bk_store {P : Program} {T : TypeId} {W : World} {b n : Nat} {cs es : Array Value} (hi : (P.info? T).map (·.size) = some n) (h : Bk T W b cs) (hl : cs.size = n) (hl2 : es.size = n) (h1 : es.all (·.oneCell') = true) : ∃ W', (storeVar T ⟨b, 0, none⟩ (.agg es)).run P W = .ok () W' ∧ Bk T W' b es ∧ W.grownBy W' (some b) := by
  have hst := run_storeVar_row (P := P) W b T T cs es h (by rw [hi, hl2]) (by rw [hl, hl2]) h1
  refine ⟨_, hst, ?_, ?_⟩
  · unfold Bk World.setRow
    simp only [Array.getElem?_modify]
    rw [if_pos trivial, h]; rfl
  · exact ⟨rfl, rfl, rfl, by simp [World.setRow], fun k _ hk => setRow_other W b k _ (fun e => hk (by rw [e]))⟩
theorem wr64 (x : Int) (h : -9223372036854775808 ≤ x ∧ x ≤ 9223372036854775807) : IntKind.i64.wrap x = x := by
  have h1 : IntKind.i64.wrap x = wrap64 x := by simp [wrap64, IntKind.wrap, IntKind.signed, IntKind.bits]; try omega
  rw [h1]; exact IntWalk.wrap64_in x h
theorem gb_rr (W : World) (row : Option Nat) : W.grownBy W row := ⟨rfl, rfl, rfl, Nat.le_refl _, fun _ _ _ => rfl⟩
end Go.Proofs.Ytekefbbjocekiaa
