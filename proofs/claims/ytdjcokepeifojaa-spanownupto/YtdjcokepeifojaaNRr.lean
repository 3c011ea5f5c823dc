/-
  A region that draws the order of its operations, inside a round of a range over a function, whose operations only read and whose callees lay blocks of their own alone; what such a loop's body owes. It speaks of every program. No condition of its own.
-/
import Derived.Test.YtdjcokepeifojaaNLv
import Derived.Test.YtdjcokepeifojaaNAs
import Derived.Deep.Quiet
import Derived.RangeFuncNested
import Derived.RangeFuncCalls
import Derived.OrdersIn
import Derived.OwnWalkIn
import Derived.Deep.MidRow
namespace Go.Proofs.Ytdjcokepeifojaa
set_option linter.unusedVariables false
open Go.RowKit

theorem oper_in {P : Program} {l0 m0 : Nat} {o : Oper} {a : Act} {w : World} {K : Act → World → Prop} {Q : Exit → Act → World → Prop} (hd : ∀ c, o.op ≠ .defer c) (h : Oper.wp P o a w K Q) : Oper.wpIn (Fence.wide.inRound l0) m0 P o a w K Q := by
  refine ⟨fun _ _ => trivial, ?_⟩
  rw [show (Fence.wide.inRound l0).round = some l0 from rfl, Oper.semAt_some l0 _ o hd]
  unfold Oper.wp at h
  generalize (execOp a.eval o).run P w = r at h ⊢
  match r, h with
  | .ok (.value v) w', h => exact h
  | .ok .skip w', h => exact h
  | .ok (.defer d) w', h => exact h
  | .ok (.enter f args) w', h => exact ⟨fun hh => (by cases hh), CallsIn.inRound l0 (callsIn_wide.2 h)⟩
  | .ok (.row row args) w', h =>
    refine ⟨fun hh => (by cases hh), fun c cs _ => ?_⟩
    obtain ⟨v, w'', r, s⟩ := h c cs
    exact ⟨v, w'', r, stepsIn_wide.2 s⟩
  | .halt (.panic v) w', h => exact h
/-- No operation defers. -/
def noDefer (ops : Array Oper) : Bool := ops.all fun o => match o.op with | .defer _ => false | _ => true
theorem noDefer_spec {ops : Array Oper} (h : noDefer ops = true) : ∀ o ∈ ops, ∀ c, o.op ≠ .defer c := fun o ho c e => by
  have := (Array.all_eq_true_iff_forall_mem.1 h) o ho
  rw [e] at this; cases this
theorem wpOpIn_of_qOp {P : Program} {ops : Array Oper} {C : World → Prop} {l0 m0 i : Nat} {a : Act} {K : Act → Prop} {K' : Act → World → Prop} {Q' : Exit → Act → World → Prop} {w : World} (hd : ∀ o ∈ ops, ∀ c, o.op ≠ .defer c) (hC : C w) (h : ∀ a w', C w' → K a → K' a w') (hh : qOp P ops C i K a) : wpOpIn (Fence.wide.inRound l0) m0 P ops Q' i K' a w := by
  unfold qOp at hh
  unfold wpOpIn
  split
  · rename_i ho; simp only [ho] at hh; exact h _ _ hC hh
  · rename_i o ho
    simp only [ho] at hh
    split
    · rename_i hw; simp only [hw, if_true] at hh; exact oper_in (hd o (Array.mem_of_getElem? ho)) (Oper.wp_of_quiet hC h hh)
    · rename_i hw; simp only [hw] at hh; exact ⟨fun _ _ => trivial, h _ _ hC hh⟩
theorem wpAnyIn_of_quietR {P : Program} {md : Region.Mode} {ops : Array Oper} {C : World → Prop} {l0 m0 : Nat} (hd : ∀ o ∈ ops, ∀ c, o.op ≠ .defer c) {Q : Act → Prop} {Q' : Exit → Act → World → Prop} (hQ : ∀ a w, C w → Q a → Q' .normal a w) : ∀ (fuel : Nat) (listed : Array Bool) (a : Act) (w : World), C w →
    wpAnyQ P md ops C Q fuel listed a → wpAnyIn (Fence.wide.inRound l0) m0 P md ops Q' fuel listed a w
  | 0, _, _, _, hw, h => ⟨h.1, hQ _ _ hw h.2⟩
  | fuel + 1, _, _, _, hw, h => ⟨fun h0 => hQ _ _ hw (h.1 h0), fun i hi => wpOpIn_of_qOp hd hw (fun a' w' hw' => wpAnyIn_of_quietR hd hQ fuel _ a' w' hw') (h.2 i hi)⟩
theorem wpIn_region_quietR {P : Program} {ops : Array Oper} {C : World → Prop} {l0 m0 id : Nat} {Q : Exit → Act → World → Prop} {a : Act} {w : World} (hd : noDefer ops = true) (hm : P.follows .mixedOrders = true) (hB : Region.lexB .any ops = true) (hC : C { w with drawn := w.drawn + 1 })
    (h : wpQuiet P ops C (fun a' => ∀ w', C w' → Q .normal a' w') ops.toList a) : (Code.region id ops true).wpIn (Fence.wide.inRound l0) m0 P Q a w := by
  simp only [Region.lexB, Bool.and_eq_true] at hB
  refine wpIn_region_any hm (wpAnyIn_of_quietR (noDefer_spec hd) (Q := fun a' => ∀ w', C w' → Q .normal a' w') (fun _ w' hw' h => h w' hw') _ _ _ _ hC ?_)
  have := wpAnyQ_lex (C := C) (md := .any) hB.1 ops.toList 0 (Array.replicate ops.size false) a (by simp) (by simpa using hB.2) h
  simpa using this
theorem wpIn_region_gbR {P : Program} {id l0 m0 : Nat} {Q : Exit → Act → World → Prop} {a : Act} {w : World} {l : List Oper} (hd : noDefer l.toArray = true) (hm : P.follows .mixedOrders = true) (hB : Region.lexB .any l.toArray = true)
    (h : wpQuiet P l.toArray (fun w' => ∃ p : World, w' = gw w p) (fun a' => ∀ w', (∃ p : World, w' = gw w p) → Q .normal a' w') l a) : (Code.region id l.toArray true).wpIn (Fence.wide.inRound l0) m0 P Q a w :=
  wpIn_region_quietR (C := fun w' => ∃ p : World, w' = gw w p) hd hm hB (gb_gw ⟨rfl, rfl, rfl, Nat.le_refl _, fun _ _ _ => rfl⟩) (by simpa using h)
theorem wpQuiet_loadv {P : Program} {ops : Array Oper} {C : World → Prop} {Q : Act → Prop} {o : Oper} {rest : List Oper} {a : Act} (hgd : Region.wanted o (yielded ops a.tmps) = true) (T : TypeId) (x : Operand) (ho : o.op = .load T x)
    (ad : Addr) (v : Value) (hx : a.eval x = .pointer (some ad)) (h : ∀ w, C w → (loadVar T ad).run P w = .ok v w) (K : wpQuiet P ops C Q rest (a.put o.dst v)) : wpQuiet P ops C Q (o :: rest) a := by
  refine BigFrame.wpQuiet_want hgd fun K' hK => ⟨v, fun w hw => ?_, hK _ K⟩
  unfold Oper.quietAt execOp
  simp only [ho, hx, Instr.loadAt, Instr.sureAddr, Sem.run_bind, Sem.run_pure, Result.andThen_ok, h w hw]
  exact ⟨rfl, rfl⟩
theorem load_rg {W : World} {g o : Nat} {x y : ByteArray} (h0 : W.cell? ⟨g, o, none⟩ = some (.string x)) (h1 : W.cell? ⟨g, o + 1, none⟩ = some (.string y)) : (loadVar 39 ⟨g, o, none⟩).run Try.prog W = .ok (.agg #[.string x, .string y]) W := by
  have := run_loadVar_mid (P := Try.prog) W g o 39 [.string x, .string y] _ (fun j v hv => by
    match j, hv with
    | 0, hv => cases hv; exact h0
    | 1, hv => cases hv; exact h1) Try.underlying39 rfl (by rw [show (Try.prog.info? 39).map (·.size) = some 2 from by kernel_rfl]; rfl)
  simpa using this
theorem cell_kept {w w' : World} {x : Addr} {v : Value} (h : w.grownBy w' none) (c : w.cell? x = some v) : w'.cell? x = some v := by
  have hb : x.block < w.heap.size := by
    rcases Nat.lt_or_ge x.block w.heap.size with h1 | h1
    · exact h1
    · simp [World.cell?, h1] at c
  exact ((gb_below h).cell (p := x) hb).trans c
theorem lt_block {W : World} {B : Nat} {o : Obj} (h : W.heap[B]? = some o) : B < W.heap.size := (Array.getElem?_eq_some_iff.1 h).1
theorem block_kept {W W' : World} {row : Option Nat} {B : Nat} {c : Array Value} {T : TypeId} {fr : Nat × Nat} (h : W.heap[B]? = some (.cells c T fr)) (hg : W.grownBy W' row) (hr : ∀ r, row = some r → ∃ o : Obj, W.heap[r]? = some o ∧ o.isCells = false) : W'.heap[B]? = some (.cells c T fr) :=
  (hg.block B (lt_block h) (fun e => by obtain ⟨o, ho, hc⟩ := hr B e.symm; rw [h] at ho; cases ho; simp [Obj.isCells] at hc)).trans h
theorem own_kept {W W' : World} {row : Option Nat} {B : Nat} {e : TypeId} {size : Nat} {v : Value} {n : Nat} {xs : List Value} (h : W.ownsRow B e size v n xs) (hg : W.grownBy W' row) (hr : ∀ r, row = some r → ∃ o : Obj, W.heap[r]? = some o ∧ o.isCells = false) : W'.ownsRow B e size v n xs := by
  refine ⟨h.1, ?_⟩
  rcases h.2 with h0 | ⟨g, cap, cur, rfl, hB, hb, r⟩
  · exact .inl h0
  · exact .inr ⟨g, cap, cur, rfl, hB, block_kept hb hg hr, r⟩
theorem exU {arr : (Nat → Value) → Array Value} {df : List Deferred} {a : Act} (h : a = { tmps := arr (fun i => a.tmps.getD i undef), defers := df }) : ∃ u, a = { tmps := arr u, defers := df } := ⟨_, h⟩
theorem keepsFrom_below {B : Nat} {V V' : World} (h : Below V.heap.size V V') : KeepsFrom B V V' :=
  ⟨h.size, fun k o _ hk _ => (h.block k (lt_block hk)).trans hk⟩
theorem good_snoc {N : Nat} (pre : List (Fin N)) (x : Fin N) : ((pre ++ [x]).map Fin.val = List.range (pre ++ [x]).length) ↔ (pre.map Fin.val = List.range pre.length ∧ x.val = pre.length) := by
  rw [List.map_append, List.length_append]
  simp only [List.length_singleton, List.range_succ, List.map_cons, List.map_nil]
  constructor
  · intro h
    have := List.append_inj' h (by simp)
    exact ⟨this.1, by simpa using this.2⟩
  · rintro ⟨h1, h2⟩
    rw [h1, h2]
/-- What is kept of cells, of whatever grows at cells alone. -/
theorem keeps_row {W W' : World} {B k : Nat} {c : Array Value} {T : TypeId} {fr : Nat × Nat} (hk : W.heap[k]? = some (.cells c T fr)) (hg : W.grownBy W' (some k)) : KeepsFrom B W W' :=
  (KeepsOthers.of_grownBy hg (fun j o e ho => by cases e; rw [hk] at ho; cases ho; rfl)).from B
/-- append of one new element to a row of one's own, inside whatever fence. -/
theorem wpListIn_lit {F : Fence} {nF : Nat} {ops : Array Oper} {rest : List Oper} {o : Oper} {a : Act} {w : World} {Q : Exit → Act → World → Prop} (hgd : o.guard = none) (s x : Operand) (t : TypeId)
    (ho : o.op = .call { callee := .builtin .append, args := #[s, x], argTypes := #[t, t] })
    (base : Nat) (e : TypeId) (z : Value) (size bytes : Nat) (ht : Try.prog.underlying t = some (.slice e)) (hi : (Try.prog.info? e).map (fun i => (i.zero, i.size, i.bytes)) = some (some z, size, bytes)) (hzs : z.cells.size = size) (hsz : 0 < size)
    (w0 : World) (cs : Array Value) (hw : w = w0.alloc (.cells cs e)) (v : Value) (n : Nat) (xs : List Value) (hs : a.eval s = v) (hown : w0.ownsRow base e size v n xs)
    (hx : a.eval x = .slice (some ⟨w0.heap.size, 0, none⟩) 1 1) (hl : cs.size = size) (h1 : ∀ u ∈ cs.toList, u.oneCell' = true)
    (h63 : n + 1 ≤ maxLen) (hbytes : (n + 1) * bytes ≤ 140737488355328) (hbase : base ≤ w0.heap.size)
    (h : ∀ v' w', w'.ownsRow base e size v' (n + 1) (xs ++ cs.toList) → Below base w0 w' → w0.grownBy w' v.ownBlock → wpListIn F nF Try.prog ops Q rest (a.put o.dst v') w') :
    wpListIn F nF Try.prog ops Q (o :: rest) a w := by
  subst hw
  obtain ⟨i, hi, hz, h4, h5⟩ := info_parts' hi
  have ho' := own_gb hown (gb_alloc w0 (.cells cs e))
  refine wpListIn_append_own _ hgd s x t ho base e i z size bytes ht hi hz h4 h5 hzs hsz v n xs hs ho' ⟨w0.heap.size, 0, none⟩ 1 1 cs.toList hx (by rw [Array.length_toList, hl]; omega) (World.news_of_block (heap_new w0 _)) h1 h63 hbytes (Nat.le_trans hbase (gb_alloc w0 _).size) ?_
  intro v' w' k1 k2 k3
  exact h v' w' k1 (((Below.refl base w0).grown (gb_alloc w0 (.cells cs e)) hbase (fun k hk => by cases hk)).trans (gb_own ho' k2 (Nat.le_trans hbase (gb_alloc w0 _).size))) (gb_trans (gb_wide (gb_alloc w0 _) _) k2)
theorem own_row_cells {w : World} {B : Nat} {e : TypeId} {size : Nat} {v : Value} {n : Nat} {xs : List Value} (h : w.ownsRow B e size v n xs) : ∀ (j : Nat) (o : Obj), v.ownBlock = some j → w.heap[j]? = some o → o.isCells = true := fun j o hj ho => by
  rcases h.2 with ⟨rfl, _⟩ | ⟨g, cap, cur, rfl, hB, hb, r⟩
  · cases hj
  · cases hj; rw [hb] at ho; cases ho; rfl
theorem own_block_ge {w : World} {B : Nat} {e : TypeId} {size : Nat} {v : Value} {n : Nat} {xs : List Value} (h : w.ownsRow B e size v n xs) : ∀ j, v.ownBlock = some j → B ≤ j := fun j hj => by
  rcases h.2 with ⟨rfl, _⟩ | ⟨g, cap, cur, rfl, hB, hb, r⟩
  · cases hj
  · cases hj; exact hB
end Go.Proofs.Ytdjcokepeifojaa
