/-
  What the texts of delta lean on: variables of several cells in a block of their own, worlds that have grown, regions that only read. No condition of its own.
-/
import Derived.Test.YtalfoenoekcdaaaRows
import Derived.WalkKit
import Derived.WalkSmall
import Derived.WalkSpells
import Derived.Below
import Derived.Deep.Light
import Derived.Deep.WholeRow
import Derived.Deep.MidRow
import Derived.Laws.CopyOwn
import Derived.BigQuiet
import Derived.Deep.QuietTactic
import Derived.Deep.RegionHeld3
import Derived.Sort.AtCall
namespace Go.Proofs.Ytalfoenoekcdaaa.Dl
open Go.RowKit
set_option linter.unusedVariables false

theorem heap_new (w : World) (o : Obj) : (w.alloc o).heap[w.heap.size]? = some o := by
  show (w.heap.push _)[w.heap.size]? = _
  rw [Array.getElem?_push, if_pos rfl]
/-- A block that holds one value of so many cells. -/
def Bk (T : TypeId) (w : World) (b : Nat) (cs : Array Value) : Prop := w.heap[b]? = some (.cells cs T (0, 0))
theorem Bk.grew {T w w' b cs row} (h : Bk T w b cs) (hg : w.grownBy w' row) (hn : row ≠ some b) : Bk T w' b cs := (hg.block b (lt_of_block h) (fun e => hn e.symm)).trans h
theorem bk_load {T : TypeId} {d : TypeDesc} (hu : Try.prog.underlying T = some d) (hd : d.isRow = true) {n : Nat} (hi : (Try.prog.info? T).map (·.size) = some n) {w : World} {b : Nat} {cs : Array Value} (h : Bk T w b cs) (hl : cs.size = n) :
    (loadVar T ⟨b, 0, none⟩).run Try.prog w = .ok (.agg cs) w := by
  have := run_loadVar_mid (P := Try.prog) w b 0 T cs.toList d (fun j v hv => by rw [Nat.zero_add, cell_of_row w b j _ _ _ h]; simpa using hv) hu hd (by rw [hi, ← hl]; simp)
  simpa using this
theorem wpList_load_bk {ops : Array Oper} {rest : List Oper} {op : Oper} {a : Act} {w : World} {Q : Exit → Act → World → Prop} (T : TypeId) (hgd : op.guard = none) (x : Operand) (ho : op.op = .load T x)
    {d : TypeDesc} (hu : Try.prog.underlying T = some d) (hd : d.isRow = true) {n : Nat} (hi : (Try.prog.info? T).map (·.size) = some n) (b : Nat) (cs : Array Value) (hx : a.eval x = .pointer (some ⟨b, 0, none⟩)) (h : Bk T w b cs) (hl : cs.size = n)
    (K : wpList Try.prog ops Q rest (a.put op.dst (.agg cs)) w) : wpList Try.prog ops Q (op :: rest) a w :=
  wpList_load_mid hgd T x ho b 0 hx cs.toList d (fun j v hv => by rw [Nat.zero_add, cell_of_row w b j _ _ _ h]; simpa using hv) hu hd (by rw [hi, ← hl]; simp) (by simpa using K)
theorem wpList_load_bkG {ops : Array Oper} {rest : List Oper} {op : Oper} {a : Act} {w : World} {Q : Exit → Act → World → Prop} (T : TypeId) (hgd : Region.wanted op (yielded ops a.tmps) = true) (x : Operand) (ho : op.op = .load T x)
    {d : TypeDesc} (hu : Try.prog.underlying T = some d) (hd : d.isRow = true) {n : Nat} (hi : (Try.prog.info? T).map (·.size) = some n) (b : Nat) (cs : Array Value) (hx : a.eval x = .pointer (some ⟨b, 0, none⟩)) (h : Bk T w b cs) (hl : cs.size = n)
    (K : wpList Try.prog ops Q rest (a.put op.dst (.agg cs)) w) : wpList Try.prog ops Q (op :: rest) a w :=
  BigFrame.wpList_want hgd fun _ hK => wp_load_mid T x ho b 0 hx cs.toList d (fun j v hv => by rw [Nat.zero_add, cell_of_row w b j _ _ _ h]; simpa using hv) hu hd (by rw [hi, ← hl]; simp) (hK _ _ (by simpa using K))
theorem wpList_store_bk {ops : Array Oper} {rest : List Oper} {op : Oper} {a : Act} {w : World} {Q : Exit → Act → World → Prop} (T : TypeId) (hgd : op.guard = none) (x y : Operand) (ho : op.op = .store T x y)
    {n : Nat} (hi : (Try.prog.info? T).map (·.size) = some n) (b : Nat) (cs es : Array Value) (hx : a.eval x = .pointer (some ⟨b, 0, none⟩)) (hy : a.eval y = .agg es) (h : Bk T w b cs) (hl : cs.size = n) (hl2 : es.size = n) (h1 : es.all (·.oneCell') = true)
    (K : ∀ w', Bk T w' b es → w.grownBy w' (some b) → wpList Try.prog ops Q rest (a.put op.dst undef) w') : wpList Try.prog ops Q (op :: rest) a w := by
  have hst := run_storeVar_row (P := Try.prog) w b T T cs es h (by rw [hi, hl2]) (by rw [hl, hl2]) h1
  refine wpList_plain hgd fun K' hK => ?_
  unfold Oper.wp execOp
  simp only [ho, hx, hy, Instr.storeAt, Instr.sureAddr, Sem.run_bind, Sem.run_pure, Result.andThen_ok, hst]
  refine hK _ _ (K _ ?_ ?_)
  · unfold Bk World.setRow
    simp only [Array.getElem?_modify]
    rw [if_pos trivial, h]; rfl
  · exact ⟨rfl, rfl, rfl, by simp [World.setRow], fun k _ hk => setRow_other w b k _ (fun e => hk (by rw [e]))⟩
theorem blk_new (w : World) (T : TypeId) (cs : Array Value) : Bk T (w.alloc (.cells cs T)) w.heap.size cs ∧ w.grownBy (w.alloc (.cells cs T)) none := ⟨heap_new w _, World.grownBy_alloc _ _ _⟩
theorem Bk.cell {T w b cs} (h : Bk T w b cs) (i : Nat) : w.cell? ⟨b, i, none⟩ = cs[i]? := cell_of_row w b i cs T (0, 0) h
theorem Bk.below {T w w' b cs B} (h : Bk T w b cs) (hb : Below B w w') (hl : b < B) : Bk T w' b cs := (hb.block b hl).trans h
theorem Bk.set {T w b cs} (h : Bk T w b cs) (i : Nat) (v : Value) : Bk T (w.setCell ⟨b, i, none⟩ v) b (cs.setIfInBounds i v) := by
  unfold Bk at h ⊢
  simp only [World.setCell, Array.getElem?_modify]
  rw [if_pos trivial, h]; rfl
/-- What is answered lies in a variable of several cells, and maybe in others. -/
theorem results_cell1 {fn : Func} {p : Tmp} {ty : TypeId} (h : fn.results = #[.cell p ty]) (tmps : Array Value) (P : Program) (w : World) (ad : Addr) (v : Value)
    (hp : tmps.getD p undef = .pointer (some ad)) (hl : (loadVar ty ad).run P w = .ok v w) : (results fn tmps).run P w = .ok v w := by
  have hp' : tmps[p]?.getD undef = .pointer (some ad) := by simpa using hp
  simp only [results, h]
  simp [hp', asAddr, hl]
theorem results_cell2 {fn : Func} {p q : Tmp} {ty : TypeId} (h : fn.results = #[.cell p ty, .tmp q]) (tmps : Array Value) (P : Program) (w : World) (ad : Addr) (v v2 : Value)
    (hp : tmps.getD p undef = .pointer (some ad)) (h2 : tmps.getD q undef = v2) (hl : (loadVar ty ad).run P w = .ok v w) : (results fn tmps).run P w = .ok (.tuple #[v, v2]) w := by
  have hp' : tmps[p]?.getD undef = .pointer (some ad) := by simpa using hp
  have h2' : tmps[q]?.getD undef = v2 := by simpa using h2
  simp only [results, h]
  simp [hp', h2', asAddr, hl]
theorem results_cell3 {fn : Func} {p q r : Tmp} {ty : TypeId} (h : fn.results = #[.cell p ty, .tmp q, .tmp r]) (tmps : Array Value) (P : Program) (w : World) (ad : Addr) (v v2 v3 : Value)
    (hp : tmps.getD p undef = .pointer (some ad)) (h2 : tmps.getD q undef = v2) (h3 : tmps.getD r undef = v3) (hl : (loadVar ty ad).run P w = .ok v w) : (results fn tmps).run P w = .ok (.tuple #[v, v2, v3]) w := by
  have hp' : tmps[p]?.getD undef = .pointer (some ad) := by simpa using hp
  have h2' : tmps[q]?.getD undef = v2 := by simpa using h2
  have h3' : tmps[r]?.getD undef = v3 := by simpa using h3
  simp only [results, h]
  simp [hp', h2', h3', asAddr, hl]
theorem gb_new {a b c : World} (h : a.grownBy b none) (k : b.grownBy c (some a.heap.size)) : a.grownBy c none :=
  ⟨k.os.trans h.os, k.tape.trans h.tape, k.output.trans h.output, Nat.le_trans h.size k.size, fun i hi hn => (k.block i (Nat.lt_of_lt_of_le hi h.size) (fun e => by cases e; omega)).trans (h.block i hi hn)⟩
theorem gb_newer {a b c : World} {N : Nat} (h : a.grownBy b none) (k : b.grownBy c (some N)) (hN : a.heap.size ≤ N) : a.grownBy c none :=
  ⟨k.os.trans h.os, k.tape.trans h.tape, k.output.trans h.output, Nat.le_trans h.size k.size, fun i hi hn => (k.block i (Nat.lt_of_lt_of_le hi h.size) (fun e => by cases e; omega)).trans (h.block i hi hn)⟩
theorem gb_trans {a b c : World} {row : Option Nat} (h : a.grownBy b row) (k : b.grownBy c row) : a.grownBy c row :=
  ⟨k.os.trans h.os, k.tape.trans h.tape, k.output.trans h.output, Nat.le_trans h.size k.size, fun i hi hn => (k.block i (Nat.lt_of_lt_of_le hi h.size) hn).trans (h.block i hi hn)⟩
theorem gb_below {a b : World} (h : a.grownBy b none) : Below a.heap.size a b := ⟨h.os, h.tape, h.output, h.size, fun i hi => h.block i hi (fun e => by cases e)⟩
theorem below_gb {a b : World} (h : Below a.heap.size a b) : a.grownBy b none := ⟨h.os, h.tape, h.output, h.size, fun i hi _ => h.block i hi⟩
theorem gb_wide {a b : World} (h : a.grownBy b none) (row : Option Nat) : a.grownBy b row := ⟨h.os, h.tape, h.output, h.size, fun i hi _ => h.block i hi (fun e => by cases e)⟩
theorem gb_drewN {a b : World} {row : Option Nat} (h : a.grownBy b row) (n : Nat) : a.grownBy (b.drewN n) row := gb_trans h ⟨rfl, rfl, rfl, Nat.le_refl _, fun _ _ _ => rfl⟩
theorem gb_refl (a : World) : a.grownBy a none := ⟨rfl, rfl, rfl, Nat.le_refl _, fun _ _ _ => rfl⟩
theorem gb_alloc (a : World) (o : Obj) : a.grownBy (a.alloc o) none := World.grownBy_alloc _ _ _

/-- The world w, with the blocks of p behind its own, and so many draws as p. -/
def gw (w p : World) : World := { heap := w.heap ++ p.heap, tape := w.tape, drawn := p.drawn, os := w.os, output := w.output }
theorem gw_gb (w p : World) : w.grownBy (gw w p) none := ⟨rfl, rfl, rfl, by simp [gw], fun k hk _ => by
  show (w.heap ++ p.heap)[k]? = _
  rw [Array.getElem?_append_left hk]⟩
theorem gb_gw {w w' : World} (h : w.grownBy w' none) : ∃ p, w' = gw w p := by
  refine ⟨{ w' with heap := w'.heap.extract w.heap.size w'.heap.size }, ?_⟩
  have hh : w'.heap = w.heap ++ w'.heap.extract w.heap.size w'.heap.size := by
    apply Array.ext_getElem?
    intro k
    by_cases hk : k < w.heap.size
    · rw [Array.getElem?_append_left hk]; exact h.block k hk (fun e => by cases e)
    · rw [Array.getElem?_append_right (by omega), Array.getElem?_extract]
      have hs := h.size
      by_cases h2 : k < w'.heap.size
      · rw [if_pos (by omega)]; congr 1; omega
      · rw [if_neg (by omega), Array.getElem?_eq_none (by omega)]
  have e1 := h.os
  have e2 := h.tape
  have e3 := h.output
  cases w'
  simp only [gw]
  simp only at e1 e2 e3 hh
  rw [e1, e2, e3, ← hh]
theorem wp_region_gb {P : Program} {id : Nat} {Q : Exit → Act → World → Prop} {a : Act} {w : World} {l : List Oper} (hm : P.follows .mixedOrders = true) (hB : Region.lexB .any l.toArray = true)
    (h : wpQuiet P l.toArray (fun w' => ∃ p : World, w' = gw w p) (fun a' => ∀ w', (∃ p : World, w' = gw w p) → Q .normal a' w') l a) : (Code.region id l.toArray true).wp P Q a w :=
  wp_region_quiet (C := fun w' => ∃ p : World, w' = gw w p) hm hB (gb_gw ⟨rfl, rfl, rfl, Nat.le_refl _, fun _ _ _ => rfl⟩) (by simpa using h)
theorem calls_gb {P : Program} {f : FuncId} {args : Array Value} {w p : World} {v : Value} (h : Calls P f args (gw w p) fun e w' => e = .returned v ∧ (gw w p).grownBy w' none) :
    Calls P f args (gw w p) fun e w'' => e = .returned v ∧ ∃ p : World, w'' = gw w p :=
  h.mono fun _ _ ⟨he, hg⟩ => ⟨he, gb_gw (gb_trans (gw_gb w p) hg)⟩
theorem calls_gw {P : Program} {f : FuncId} {args : Array Value} {w p : World} {v : Value} (h : Calls P f args (gw w p) fun e w' => e = .returned v ∧ w' = gw w p) :
    Calls P f args (gw w p) fun e w'' => e = .returned v ∧ ∃ p : World, w'' = gw w p :=
  h.mono fun _ _ ⟨he, hg⟩ => ⟨he, p, hg⟩
theorem cell_gw {w : World} {a : Addr} {v : Value} (h : w.cell? a = some v) (p : World) : (gw w p).cell? a = some v := by
  have hb : a.block < w.heap.size := by
    rcases Nat.lt_or_ge a.block w.heap.size with h1 | h1
    · exact h1
    · simp [World.cell?, h1] at h
  exact ((gb_below (gw_gb w p)).cell (p := a) hb).trans h
theorem bk_gw {T : TypeId} {w : World} {b : Nat} {cs : Array Value} (h : Bk T w b cs) (p : World) : Bk T (gw w p) b cs := h.grew (gw_gb w p) (by simp)
theorem wpQuiet_loadv {P : Program} {ops : Array Oper} {C : World → Prop} {Q : Act → Prop} {o : Oper} {rest : List Oper} {a : Act} (hgd : Region.wanted o (yielded ops a.tmps) = true) (T : TypeId) (x : Operand) (ho : o.op = .load T x)
    (ad : Addr) (v : Value) (hx : a.eval x = .pointer (some ad)) (h : ∀ w, C w → (loadVar T ad).run P w = .ok v w) (K : wpQuiet P ops C Q rest (a.put o.dst v)) : wpQuiet P ops C Q (o :: rest) a := by
  refine BigFrame.wpQuiet_want hgd fun K' hK => ⟨v, fun w hw => ?_, hK _ K⟩
  unfold Oper.quietAt execOp
  simp only [ho, hx, Instr.loadAt, Instr.sureAddr, Sem.run_bind, Sem.run_pure, Result.andThen_ok, h w hw]
  exact ⟨rfl, rfl⟩
end Go.Proofs.Ytalfoenoekcdaaa.Dl
