/-
  Texts in the order of their bytes, ranges of texts, and lists of ranges in normal form: two of them that have the same texts are the same. No condition.
  What the texts of table lean on: variables of several cells in a block of their own, worlds that have grown, regions that only read. No condition of its own.
  The tree of a table in memory, as the list of its rows; what height, count and size answer. Condition: none of its own.
  What table's Check answers of a row, and the document's: the same number. No condition.
-/
import Derived.Test.YtlmjgjimmbadeaaDoorRows
import Derived.WalkKit
import Derived.Below
import Derived.Lib.Strings
import Derived.WalkSmall
import Derived.WalkSpells
import Derived.Deep.Light
import Derived.Deep.WholeRow
import Derived.Deep.MidRow
import Derived.Laws.CopyOwn
import Derived.BigQuiet
import Derived.Deep.QuietTactic
import Derived.Deep.RegionHeld3
import Derived.Sort.AtCall
namespace Go.Proofs.YtlmjgjimmbadeaaDoor.Tb
set_option linter.unusedVariables false
open Go.RowKit

theorem bl_irrefl : ∀ a : List UInt8, Op.bytesLess a a = false
  | [] => rfl
  | x :: r => by simp [Op.bytesLess, bl_irrefl r]
theorem bl_trans : ∀ a b c : List UInt8, Op.bytesLess a b = true → Op.bytesLess b c = true → Op.bytesLess a c = true
  | _, [], _, h, _ => by simp [Op.bytesLess] at h
  | _, _ :: _, [], _, h => by simp [Op.bytesLess] at h
  | [], _ :: _, _ :: _, _, _ => rfl
  | x :: a, y :: b, z :: c, h1, h2 => by
    simp only [Op.bytesLess, Bool.or_eq_true, Bool.and_eq_true, decide_eq_true_eq, beq_iff_eq] at h1 h2 ⊢
    rcases h1 with h1 | ⟨rfl, h1⟩
    · rcases h2 with h2 | ⟨rfl, h2⟩
      · exact .inl (UInt8.lt_trans h1 h2)
      · exact .inl h1
    · rcases h2 with h2 | ⟨rfl, h2⟩
      · exact .inl h2
      · exact .inr ⟨rfl, bl_trans a b c h1 h2⟩
theorem bl_total : ∀ a b : List UInt8, a ≠ b → Op.bytesLess a b = true ∨ Op.bytesLess b a = true
  | [], [], h => absurd rfl h
  | [], _ :: _, _ => .inl rfl
  | _ :: _, [], _ => .inr rfl
  | x :: a, y :: b, h => by
    simp only [Op.bytesLess, Bool.or_eq_true, Bool.and_eq_true, decide_eq_true_eq, beq_iff_eq]
    by_cases e : x = y
    · subst e
      rcases bl_total a b (fun e => h (by rw [e])) with h1 | h1
      · exact .inl (.inr ⟨rfl, h1⟩)
      · exact .inr (.inr ⟨rfl, h1⟩)
    · rcases UInt8.lt_or_lt_of_ne e with h1 | h1
      · exact .inl (.inl h1)
      · exact .inr (.inl h1)

/-- Is one text ahead of another one? -/
def tl (s t : ByteArray) : Bool := Op.bytesLess s.toList t.toList
theorem toList_inj {s t : ByteArray} (h : s.toList = t.toList) : s = t := by
  rw [ByteArray.toList_eq, ByteArray.toList_eq] at h
  exact Go.WideShapes.bytes_inj h
theorem te_iff (s t : ByteArray) : (s.toList == t.toList) = decide (s = t) := by
  by_cases h : s = t
  · subst h; simp
  · have : s.toList ≠ t.toList := fun e => h (toList_inj e)
    simp [h, this]
theorem tl_irrefl (s : ByteArray) : tl s s = false := bl_irrefl _
theorem tl_trans {a b c : ByteArray} (h : tl a b = true) (k : tl b c = true) : tl a c = true := bl_trans _ _ _ h k
theorem tl_asymm {a b : ByteArray} (h : tl a b = true) : tl b a = false := by
  cases k : tl b a with
  | false => rfl
  | true => have := tl_trans h k; rw [tl_irrefl] at this; cases this
theorem tl_total {a b : ByteArray} (h : a ≠ b) : tl a b = true ∨ tl b a = true := bl_total _ _ (fun e => h (toList_inj e))
theorem tl_eq {a b : ByteArray} (h : tl a b = false) (k : tl b a = false) : a = b := by
  by_cases e : a = b
  · exact e
  · rcases tl_total e with h1 | h1
    · rw [h1] at h; cases h
    · rw [h1] at k; cases k
/-- a ≤ b, b < c. -/
theorem le_lt {a b c : ByteArray} (h : tl b a = false) (k : tl b c = true) : tl a c = true := by
  by_cases e : a = b
  · subst e; exact k
  · rcases tl_total e with h1 | h1
    · exact tl_trans h1 k
    · rw [h1] at h; cases h
theorem lt_le {a b c : ByteArray} (h : tl a b = true) (k : tl c b = false) : tl a c = true := by
  by_cases e : b = c
  · subst e; exact h
  · rcases tl_total e with h1 | h1
    · exact tl_trans h h1
    · rw [h1] at k; cases k
theorem le_le {a b c : ByteArray} (h : tl b a = false) (k : tl c b = false) : tl c a = false := by
  cases e : tl c a with
  | false => rfl
  | true => have := lt_le e h; rw [k] at this; cases this
theorem tl_ne {a b : ByteArray} (h : tl a b = true) : a ≠ b := fun e => by subst e; rw [tl_irrefl] at h; cases h
theorem bl_none (a : List UInt8) : Op.bytesLess a [] = false := by cases a <;> rfl
theorem tl_none (s : ByteArray) : tl s .empty = false := by
  unfold tl; rw [show ByteArray.empty.toList = [] from by rw [ByteArray.toList_eq]; rfl]; exact bl_none _
theorem tl_some {s : ByteArray} (h : s ≠ .empty) : tl .empty s = true := by
  rcases tl_total h with h1 | h1
  · rw [tl_none] at h1; cases h1
  · exact h1

/-- A range: from, to; to "": without an end. -/
abbrev Rg := ByteArray × ByteArray
/-- Has it come to its end at a text? -/
def rPast (r : Rg) (t : ByteArray) : Bool := !decide (r.2 = .empty) && !tl t r.2
def rHas (r : Rg) (t : ByteArray) : Bool := !tl t r.1 && !rPast r t
def rEmpty (r : Rg) : Bool := rPast r r.1
def lHas (l : List Rg) (t : ByteArray) : Bool := l.any fun r => rHas r t
/-- Normal form: no range is empty, and each ends ahead of where the next one begins. -/
def Nrm : List Rg → Prop
  | [] => True
  | r :: l => rEmpty r = false ∧ (∀ s ∈ l, r.2 ≠ .empty ∧ tl r.2 s.1 = true) ∧ Nrm l

theorem rHas_iff {r : Rg} {t : ByteArray} : rHas r t = true ↔ tl t r.1 = false ∧ (r.2 = .empty ∨ tl t r.2 = true) := by
  unfold rHas rPast
  by_cases h : r.2 = .empty <;> cases tl t r.1 <;> cases tl t r.2 <;> simp [h]
theorem rEmpty_iff {r : Rg} : rEmpty r = false ↔ r.2 = .empty ∨ tl r.1 r.2 = true := by
  unfold rEmpty rPast
  by_cases h : r.2 = .empty <;> cases tl r.1 r.2 <;> simp [h]
theorem rHas_from {r : Rg} (h : rEmpty r = false) : rHas r r.1 = true := rHas_iff.2 ⟨tl_irrefl _, rEmpty_iff.1 h⟩
theorem lHas_cons (r : Rg) (l : List Rg) (t : ByteArray) : lHas (r :: l) t = (rHas r t || lHas l t) := rfl
theorem lHas_app (a b : List Rg) (t : ByteArray) : lHas (a ++ b) t = (lHas a t || lHas b t) := by simp [lHas, List.any_append]
theorem lHas_iff {l : List Rg} {t : ByteArray} : lHas l t = true ↔ ∃ r ∈ l, rHas r t = true := by simp [lHas]
/-- Nothing of a normal list lies ahead of its first range. -/
theorem Nrm.low {r : Rg} {l : List Rg} (h : Nrm (r :: l)) {t : ByteArray} (ht : lHas (r :: l) t = true) : tl t r.1 = false := by
  obtain ⟨s, hs, hh⟩ := lHas_iff.1 ht
  rcases List.mem_cons.1 hs with rfl | hs
  · exact (rHas_iff.1 hh).1
  · have h1 := (rHas_iff.1 hh).1
    obtain ⟨h2, h3⟩ := h.2.1 s hs
    rcases rEmpty_iff.1 h.1 with h4 | h4
    · exact absurd h4 h2
    · exact le_le (tl_asymm (tl_trans h4 h3)) h1
theorem Nrm.rest {r : Rg} {l : List Rg} (h : Nrm (r :: l)) {t : ByteArray} (ht : lHas l t = true) : rHas r t = false := by
  obtain ⟨s, hs, hh⟩ := lHas_iff.1 ht
  obtain ⟨h2, h3⟩ := h.2.1 s hs
  cases e : rHas r t with
  | false => rfl
  | true =>
    rcases (rHas_iff.1 e).2 with h4 | h4
    · exact absurd h4 h2
    · have := tl_trans h4 h3; rw [(rHas_iff.1 hh).1] at this; cases this
/-- The end of the first range is not in the list. -/
theorem Nrm.gap {r : Rg} {l : List Rg} (h : Nrm (r :: l)) (hr : r.2 ≠ .empty) : lHas (r :: l) r.2 = false := by
  cases e : lHas (r :: l) r.2 with
  | false => rfl
  | true =>
    obtain ⟨s, hs, hh⟩ := lHas_iff.1 e
    rcases List.mem_cons.1 hs with rfl | hs
    · rcases (rHas_iff.1 hh).2 with h4 | h4
      · exact absurd h4 hr
      · rw [tl_irrefl] at h4; cases h4
    · have := (h.2.1 s hs).2; rw [(rHas_iff.1 hh).1] at this; cases this
/-- Two lists in normal form that have the same texts are the same. -/
theorem Nrm.uniq : ∀ {l m : List Rg}, Nrm l → Nrm m → (∀ t, lHas l t = lHas m t) → l = m
  | [], [], _, _, _ => rfl
  | [], s :: m, _, hm, h => by
    have := h s.1; rw [lHas_cons, rHas_from hm.1] at this; simp [lHas] at this
  | r :: l, [], hl, _, h => by
    have := h r.1; rw [lHas_cons, rHas_from hl.1] at this; simp [lHas] at this
  | r :: l, s :: m, hl, hm, h => by
    have h1 : tl r.1 s.1 = false := hm.low (by rw [← h, lHas_cons, rHas_from hl.1]; rfl)
    have h2 : tl s.1 r.1 = false := hl.low (by rw [h, lHas_cons, rHas_from hm.1]; rfl)
    have e1 : r.1 = s.1 := tl_eq h1 h2
    have side : ∀ {r s : Rg} {l m : List Rg}, Nrm (r :: l) → Nrm (s :: m) → (∀ t, lHas (r :: l) t = lHas (s :: m) t) → r.1 = s.1 → r.2 ≠ .empty → s.2 ≠ .empty ∧ tl r.2 s.2 = false := by
      intro r s l m hl hm h e hr
      have g := hl.gap hr
      rw [h, lHas_cons] at g
      have g' : rHas s r.2 = false := by cases x : rHas s r.2 with
        | false => rfl
        | true => rw [x] at g; cases g
      have lo : tl r.2 s.1 = false := by
        rcases rEmpty_iff.1 hl.1 with h4 | h4
        · exact absurd h4 hr
        · rw [← e]; exact tl_asymm h4
      constructor
      · intro hs
        have := rHas_iff.2 ⟨lo, Or.inl hs⟩; rw [g'] at this; cases this
      · cases x : tl r.2 s.2 with
        | false => rfl
        | true => have := rHas_iff.2 ⟨lo, Or.inr x⟩; rw [g'] at this; cases this
    have e2 : r.2 = s.2 := by
      by_cases hr : r.2 = .empty
      · by_cases hs : s.2 = .empty
        · rw [hr, hs]
        · exact absurd hr (side hm hl (fun t => (h t).symm) e1.symm hs).1
      · obtain ⟨hs, k1⟩ := side hl hm h e1 hr
        have k2 := (side hm hl (fun t => (h t).symm) e1.symm hs).2
        exact tl_eq k1 k2
    have e : r = s := Prod.ext e1 e2
    subst e
    have : l = m := Nrm.uniq hl.2.2 hm.2.2 fun t => by
      have k := h t
      rw [lHas_cons, lHas_cons] at k
      cases x : rHas r t with
      | false => rw [x] at k; simpa using k
      | true =>
        have a : lHas l t = false := by cases y : lHas l t with
          | false => rfl
          | true => rw [hl.rest y] at x; cases x
        have b : lHas m t = false := by cases y : lHas m t with
          | false => rfl
          | true => rw [hm.rest y] at x; cases x
        rw [a, b]
    rw [this]
/-- A range behind a normal list. -/
theorem Nrm.snoc : ∀ {l : List Rg} {r : Rg}, Nrm l → rEmpty r = false → (∀ s ∈ l, s.2 ≠ .empty ∧ tl s.2 r.1 = true) → Nrm (l ++ [r])
  | [], r, _, h, _ => ⟨h, (fun _ h => by cases h), trivial⟩
  | s :: l, r, hl, h, k => ⟨hl.1, fun x hx => by
      rcases List.mem_append.1 hx with h1 | h1
      · exact hl.2.1 x h1
      · simp only [List.mem_singleton] at h1; subst h1; exact k s (by simp),
    Nrm.snoc hl.2.2 h (fun x hx => k x (by simp [hx]))⟩
theorem Nrm.init : ∀ {l : List Rg} {r : Rg}, Nrm (l ++ [r]) → Nrm l ∧ rEmpty r = false ∧ ∀ s ∈ l, s.2 ≠ .empty ∧ tl s.2 r.1 = true
  | [], r, h => ⟨trivial, h.1, fun _ h => by cases h⟩
  | s :: l, r, h => by
    obtain ⟨h1, h2, h3⟩ := Nrm.init h.2.2
    refine ⟨⟨h.1, fun x hx => h.2.1 x (by simp [hx]), h1⟩, h2, fun x hx => ?_⟩
    rcases List.mem_cons.1 hx with rfl | hx
    · exact h.2.1 r (by simp)
    · exact h3 x hx

end Go.Proofs.YtlmjgjimmbadeaaDoor.Tb
namespace Go.Proofs.YtlmjgjimmbadeaaDoor.Tb
open Go.RowKit
set_option linter.unusedVariables false

theorem heap_new (w : World) (o : Obj) : (w.alloc o).heap[w.heap.size]? = some o := by
  show (w.heap.push _)[w.heap.size]? = _
  rw [Array.getElem?_push, if_pos rfl]
/-- A block that holds one value of so many cells. -/
def Bk (T : TypeId) (w : World) (b : Nat) (cs : Array Value) : Prop := w.heap[b]? = some (.cells cs T (0, 0))
theorem Bk.grew {T w w' b cs row} (h : Bk T w b cs) (hg : w.grownBy w' row) (hn : row ≠ some b) : Bk T w' b cs := (hg.block b (lt_of_block h) (fun e => hn e.symm)).trans h
theorem bk_load {T : TypeId} {d : TypeDesc} (hu : Tryd.prog.underlying T = some d) (hd : d.isRow = true) {n : Nat} (hi : (Tryd.prog.info? T).map (·.size) = some n) {w : World} {b : Nat} {cs : Array Value} (h : Bk T w b cs) (hl : cs.size = n) :
    (loadVar T ⟨b, 0, none⟩).run Tryd.prog w = .ok (.agg cs) w := by
  have := run_loadVar_mid (P := Tryd.prog) w b 0 T cs.toList d (fun j v hv => by rw [Nat.zero_add, cell_of_row w b j _ _ _ h]; simpa using hv) hu hd (by rw [hi, ← hl]; simp)
  simpa using this
theorem wpList_load_bk {ops : Array Oper} {rest : List Oper} {op : Oper} {a : Act} {w : World} {Q : Exit → Act → World → Prop} (T : TypeId) (hgd : op.guard = none) (x : Operand) (ho : op.op = .load T x)
    {d : TypeDesc} (hu : Tryd.prog.underlying T = some d) (hd : d.isRow = true) {n : Nat} (hi : (Tryd.prog.info? T).map (·.size) = some n) (b : Nat) (cs : Array Value) (hx : a.eval x = .pointer (some ⟨b, 0, none⟩)) (h : Bk T w b cs) (hl : cs.size = n)
    (K : wpList Tryd.prog ops Q rest (a.put op.dst (.agg cs)) w) : wpList Tryd.prog ops Q (op :: rest) a w :=
  wpList_load_mid hgd T x ho b 0 hx cs.toList d (fun j v hv => by rw [Nat.zero_add, cell_of_row w b j _ _ _ h]; simpa using hv) hu hd (by rw [hi, ← hl]; simp) (by simpa using K)
theorem wpList_load_bkG {ops : Array Oper} {rest : List Oper} {op : Oper} {a : Act} {w : World} {Q : Exit → Act → World → Prop} (T : TypeId) (hgd : Region.wanted op (yielded ops a.tmps) = true) (x : Operand) (ho : op.op = .load T x)
    {d : TypeDesc} (hu : Tryd.prog.underlying T = some d) (hd : d.isRow = true) {n : Nat} (hi : (Tryd.prog.info? T).map (·.size) = some n) (b : Nat) (cs : Array Value) (hx : a.eval x = .pointer (some ⟨b, 0, none⟩)) (h : Bk T w b cs) (hl : cs.size = n)
    (K : wpList Tryd.prog ops Q rest (a.put op.dst (.agg cs)) w) : wpList Tryd.prog ops Q (op :: rest) a w :=
  BigFrame.wpList_want hgd fun _ hK => wp_load_mid T x ho b 0 hx cs.toList d (fun j v hv => by rw [Nat.zero_add, cell_of_row w b j _ _ _ h]; simpa using hv) hu hd (by rw [hi, ← hl]; simp) (hK _ _ (by simpa using K))
theorem wpList_store_bk {ops : Array Oper} {rest : List Oper} {op : Oper} {a : Act} {w : World} {Q : Exit → Act → World → Prop} (T : TypeId) (hgd : op.guard = none) (x y : Operand) (ho : op.op = .store T x y)
    {n : Nat} (hi : (Tryd.prog.info? T).map (·.size) = some n) (b : Nat) (cs es : Array Value) (hx : a.eval x = .pointer (some ⟨b, 0, none⟩)) (hy : a.eval y = .agg es) (h : Bk T w b cs) (hl : cs.size = n) (hl2 : es.size = n) (h1 : es.all (·.oneCell') = true)
    (K : ∀ w', Bk T w' b es → w.grownBy w' (some b) → wpList Tryd.prog ops Q rest (a.put op.dst undef) w') : wpList Tryd.prog ops Q (op :: rest) a w := by
  have hst := run_storeVar_row (P := Tryd.prog) w b T T cs es h (by rw [hi, hl2]) (by rw [hl, hl2]) h1
  refine wpList_plain hgd fun K' hK => ?_
  unfold Oper.wp execOp
  simp only [ho, hx, hy, Instr.storeAt, Instr.sureAddr, Sem.run_bind, Sem.run_pure, Result.andThen_ok, hst]
  refine hK _ _ (K _ ?_ ?_)
  · unfold Bk World.setRow
    simp only [Array.getElem?_modify]
    rw [if_pos trivial, h]; rfl
  · exact ⟨rfl, rfl, rfl, by simp [World.setRow], fun k _ hk => setRow_other w b k _ (fun e => hk (by rw [e]))⟩
theorem blk_new (w : World) (T : TypeId) (cs : Array Value) : Bk T (w.alloc (.cells cs T)) w.heap.size cs ∧ w.grownBy (w.alloc (.cells cs T)) none := ⟨heap_new w _, World.grownBy_alloc _ _ _⟩
theorem Bk.cell {T w b cs} (h : Bk T w b cs) (i : Nat) : w.cell? ⟨b, i, none⟩ = cs[i]? := cell_of_row w b i cs T (0, 0) h
theorem Bk.below {T w w' b cs B} (h : Bk T w b cs) (hb : Below B w w') (hl : b < B) : Bk T w' b cs := (hb.block b hl).trans h
theorem Bk.set {T w b cs} (h : Bk T w b cs) (i : Nat) (v : Value) : Bk T (w.setCell ⟨b, i, none⟩ v) b (cs.setIfInBounds i v) := by
  unfold Bk at h ⊢
  simp only [World.setCell, Array.getElem?_modify]
  rw [if_pos trivial, h]; rfl
/-- What is answered lies in a variable of several cells, and maybe in others. -/
theorem results_cell1 {fn : Func} {p : Tmp} {ty : TypeId} (h : fn.results = #[.cell p ty]) (tmps : Array Value) (P : Program) (w : World) (ad : Addr) (v : Value)
    (hp : tmps.getD p undef = .pointer (some ad)) (hl : (loadVar ty ad).run P w = .ok v w) : (results fn tmps).run P w = .ok v w := by
  have hp' : tmps[p]?.getD undef = .pointer (some ad) := by simpa using hp
  simp only [results, h]
  simp [hp', asAddr, hl]
theorem results_cell2 {fn : Func} {p q : Tmp} {ty : TypeId} (h : fn.results = #[.cell p ty, .tmp q]) (tmps : Array Value) (P : Program) (w : World) (ad : Addr) (v v2 : Value)
    (hp : tmps.getD p undef = .pointer (some ad)) (h2 : tmps.getD q undef = v2) (hl : (loadVar ty ad).run P w = .ok v w) : (results fn tmps).run P w = .ok (.tuple #[v, v2]) w := by
  have hp' : tmps[p]?.getD undef = .pointer (some ad) := by simpa using hp
  have h2' : tmps[q]?.getD undef = v2 := by simpa using h2
  simp only [results, h]
  simp [hp', h2', asAddr, hl]
theorem results_cell3 {fn : Func} {p q r : Tmp} {ty : TypeId} (h : fn.results = #[.cell p ty, .tmp q, .tmp r]) (tmps : Array Value) (P : Program) (w : World) (ad : Addr) (v v2 v3 : Value)
    (hp : tmps.getD p undef = .pointer (some ad)) (h2 : tmps.getD q undef = v2) (h3 : tmps.getD r undef = v3) (hl : (loadVar ty ad).run P w = .ok v w) : (results fn tmps).run P w = .ok (.tuple #[v, v2, v3]) w := by
  have hp' : tmps[p]?.getD undef = .pointer (some ad) := by simpa using hp
  have h2' : tmps[q]?.getD undef = v2 := by simpa using h2
  have h3' : tmps[r]?.getD undef = v3 := by simpa using h3
  simp only [results, h]
  simp [hp', h2', h3', asAddr, hl]
theorem gb_new {a b c : World} (h : a.grownBy b none) (k : b.grownBy c (some a.heap.size)) : a.grownBy c none :=
  ⟨k.os.trans h.os, k.tape.trans h.tape, k.output.trans h.output, Nat.le_trans h.size k.size, fun i hi hn => (k.block i (Nat.lt_of_lt_of_le hi h.size) (fun e => by cases e; omega)).trans (h.block i hi hn)⟩
theorem gb_newer {a b c : World} {N : Nat} (h : a.grownBy b none) (k : b.grownBy c (some N)) (hN : a.heap.size ≤ N) : a.grownBy c none :=
  ⟨k.os.trans h.os, k.tape.trans h.tape, k.output.trans h.output, Nat.le_trans h.size k.size, fun i hi hn => (k.block i (Nat.lt_of_lt_of_le hi h.size) (fun e => by cases e; omega)).trans (h.block i hi hn)⟩
theorem gb_trans {a b c : World} {row : Option Nat} (h : a.grownBy b row) (k : b.grownBy c row) : a.grownBy c row :=
  ⟨k.os.trans h.os, k.tape.trans h.tape, k.output.trans h.output, Nat.le_trans h.size k.size, fun i hi hn => (k.block i (Nat.lt_of_lt_of_le hi h.size) hn).trans (h.block i hi hn)⟩
theorem gb_below {a b : World} (h : a.grownBy b none) : Below a.heap.size a b := ⟨h.os, h.tape, h.output, h.size, fun i hi => h.block i hi (fun e => by cases e)⟩
theorem below_gb {a b : World} (h : Below a.heap.size a b) : a.grownBy b none := ⟨h.os, h.tape, h.output, h.size, fun i hi _ => h.block i hi⟩
theorem gb_wide {a b : World} (h : a.grownBy b none) (row : Option Nat) : a.grownBy b row := ⟨h.os, h.tape, h.output, h.size, fun i hi _ => h.block i hi (fun e => by cases e)⟩
theorem gb_drewN {a b : World} {row : Option Nat} (h : a.grownBy b row) (n : Nat) : a.grownBy (b.drewN n) row := gb_trans h ⟨rfl, rfl, rfl, Nat.le_refl _, fun _ _ _ => rfl⟩
theorem gb_refl (a : World) : a.grownBy a none := ⟨rfl, rfl, rfl, Nat.le_refl _, fun _ _ _ => rfl⟩
theorem gb_alloc (a : World) (o : Obj) : a.grownBy (a.alloc o) none := World.grownBy_alloc _ _ _

/-- The world w, with the blocks of p behind its own, and so many draws as p. -/
def gw (w p : World) : World := { heap := w.heap ++ p.heap, tape := w.tape, drawn := p.drawn, os := w.os, output := w.output }
theorem gw_gb (w p : World) : w.grownBy (gw w p) none := ⟨rfl, rfl, rfl, by simp [gw], fun k hk _ => by
  show (w.heap ++ p.heap)[k]? = _
  rw [Array.getElem?_append_left hk]⟩
theorem gb_gw {w w' : World} (h : w.grownBy w' none) : ∃ p, w' = gw w p := by
  refine ⟨{ w' with heap := w'.heap.extract w.heap.size w'.heap.size }, ?_⟩
  have hh : w'.heap = w.heap ++ w'.heap.extract w.heap.size w'.heap.size := by
    apply Array.ext_getElem?
    intro k
    by_cases hk : k < w.heap.size
    · rw [Array.getElem?_append_left hk]; exact h.block k hk (fun e => by cases e)
    · rw [Array.getElem?_append_right (by omega), Array.getElem?_extract]
      have hs := h.size
      by_cases h2 : k < w'.heap.size
      · rw [if_pos (by omega)]; congr 1; omega
      · rw [if_neg (by omega), Array.getElem?_eq_none (by omega)]
  have e1 := h.os
  have e2 := h.tape
  have e3 := h.output
  cases w'
  simp only [gw]
  simp only at e1 e2 e3 hh
  rw [e1, e2, e3, ← hh]
theorem wp_region_gb {P : Program} {id : Nat} {Q : Exit → Act → World → Prop} {a : Act} {w : World} {l : List Oper} (hm : P.follows .mixedOrders = true) (hB : Region.lexB .any l.toArray = true)
    (h : wpQuiet P l.toArray (fun w' => ∃ p : World, w' = gw w p) (fun a' => ∀ w', (∃ p : World, w' = gw w p) → Q .normal a' w') l a) : (Code.region id l.toArray true).wp P Q a w :=
  wp_region_quiet (C := fun w' => ∃ p : World, w' = gw w p) hm hB (gb_gw ⟨rfl, rfl, rfl, Nat.le_refl _, fun _ _ _ => rfl⟩) (by simpa using h)
theorem calls_gb {P : Program} {f : FuncId} {args : Array Value} {w p : World} {v : Value} (h : Calls P f args (gw w p) fun e w' => e = .returned v ∧ (gw w p).grownBy w' none) :
    Calls P f args (gw w p) fun e w'' => e = .returned v ∧ ∃ p : World, w'' = gw w p :=
  h.mono fun _ _ ⟨he, hg⟩ => ⟨he, gb_gw (gb_trans (gw_gb w p) hg)⟩
theorem calls_gw {P : Program} {f : FuncId} {args : Array Value} {w p : World} {v : Value} (h : Calls P f args (gw w p) fun e w' => e = .returned v ∧ w' = gw w p) :
    Calls P f args (gw w p) fun e w'' => e = .returned v ∧ ∃ p : World, w'' = gw w p :=
  h.mono fun _ _ ⟨he, hg⟩ => ⟨he, p, hg⟩
theorem cell_gw {w : World} {a : Addr} {v : Value} (h : w.cell? a = some v) (p : World) : (gw w p).cell? a = some v := by
  have hb : a.block < w.heap.size := by
    rcases Nat.lt_or_ge a.block w.heap.size with h1 | h1
    · exact h1
    · simp [World.cell?, h1] at h
  exact ((gb_below (gw_gb w p)).cell (p := a) hb).trans h
theorem bk_gw {T : TypeId} {w : World} {b : Nat} {cs : Array Value} (h : Bk T w b cs) (p : World) : Bk T (gw w p) b cs := h.grew (gw_gb w p) (by simp)
theorem run_lss (s t : ByteArray) (W : World) : (binOp .lss 9 (.string s) (.string t)).run Tryd.prog W = .ok (.bool (tl s t)) W := by
  simp [binOp, Op.stringOp, tl]
theorem run_geq (s t : ByteArray) (W : World) : (binOp .geq 9 (.string s) (.string t)).run Tryd.prog W = .ok (.bool (!tl s t)) W := by
  simp [binOp, Op.stringOp, tl]
theorem run_eql (s t : ByteArray) (W : World) : (binOp .eql 9 (.string s) (.string t)).run Tryd.prog W = .ok (.bool (decide (s = t))) W := by
  have := te_iff s t
  simp [binOp, Op.stringOp, this]
theorem run_neq (s t : ByteArray) (W : World) : (binOp .neq 9 (.string s) (.string t)).run Tryd.prog W = .ok (.bool (!decide (s = t))) W := by
  have := te_iff s t
  simp [binOp, Op.stringOp, this]
theorem tl_not (s t : ByteArray) : (tl s t || (s.toList == t.toList)) = !tl t s := by
  rw [te_iff]
  by_cases h : s = t
  · subst h; simp [tl_irrefl]
  · rcases tl_total h with h1 | h1
    · simp [h1, tl_asymm h1]
    · simp [h1, tl_asymm h1, h]
theorem run_gtr (s t : ByteArray) (W : World) : (binOp .gtr 9 (.string s) (.string t)).run Tryd.prog W = .ok (.bool (tl t s)) W := by
  have := tl_not s t
  unfold tl at this
  simp only [binOp, Op.stringOp, tl, this, Bool.not_not]
  rfl
end Go.Proofs.YtlmjgjimmbadeaaDoor.Tb
namespace Go.Proofs.YtlmjgjimmbadeaaDoor.Tb
open Go.RowKit
set_option linter.unusedVariables false

/-- A row: key, value, version. -/
abbrev Rw := ByteArray × ByteArray × Int
def iv (x : Rw) : Value := .agg #[.string x.1, .string x.2.1, .int .i64 x.2.2]
def ivs (x : Rw) : Array Value := #[.string x.1, .string x.2.1, .int .i64 x.2.2]
def sz (x : Rw) : Nat := x.1.size + x.2.1.size
def szs (xs : List Rw) : Nat := (xs.map sz).sum
theorem szs_mid (l r : List Rw) (x : Rw) : szs (l ++ x :: r) = szs l + sz x + szs r := by
  simp [szs, List.map_append, List.sum_append]; omega
theorem szs_app (l r : List Rw) : szs (l ++ r) = szs l + szs r := by simp [szs]
/-- A node's cells. -/
def nc (x : Rw) (pl pr : Option Addr) (h n b : Nat) : Array Value := #[.string x.1, .string x.2.1, .int .i64 x.2.2, .pointer pl, .pointer pr, .int .i64 h, .int .i64 n, .int .i64 b]
theorem w64 (x : Int) (h : -9223372036854775808 ≤ x ∧ x ≤ 9223372036854775807) : wrap64 x = x := IntWalk.wrap64_in x h
theorem szs_cons (x : Rw) (l : List Rw) : szs (x :: l) = sz x + szs l := by simp [szs]
/-- Lists that no number outgrows. -/
def Sm (xs : List Rw) : Prop := xs.length < 4611686018427387904 ∧ szs xs < 4611686018427387904
theorem it_range {T : TypeId} {W : World} {b : Nat} {x : Rw} (hb : Bk T W b (ivs x)) : W.rangeAt b 0 [.string x.1, .string x.2.1, .int .i64 x.2.2] := fun j v hv => by
  rw [Nat.zero_add, hb.cell]
  match j, hv with
  | 0, hv => exact hv
  | 1, hv => exact hv
  | 2, hv => exact hv
  | j + 3, hv => simp at hv
end Go.Proofs.YtlmjgjimmbadeaaDoor.Tb
namespace Go.Proofs.YtlmjgjimmbadeaaDoor.Tb
open Go.RowKit
set_option linter.unusedVariables false

/-- What a row may not be. -/
def rowE (x : Rw) : Int := if x.1.size < 1 ∨ 1024 < x.1.size then 70 else if 65536 < x.2.1.size then 71 else if x.2.2 < 1 ∨ 1152921504606846976 < x.2.2 then 72 else 0
theorem ncheck_c (s : ByteArray) (w : World) : Calls Tryd.prog 105 #[.string s] w fun r w' => r = .returned (.int .i64 (if s.size < 1 ∨ 1024 < s.size then 60 else 0)) ∧ w' = w := by
  by_cases h1 : s.size < 1
  · rw [if_pos (.inl h1)]
    go_enter Tryd.func105, Tryd.ntmps105
    go_wp2
    go_ret
    exact ⟨rfl, rfl⟩
  · by_cases h2 : 1024 < s.size
    · rw [if_pos (.inr h2)]
      go_enter Tryd.func105, Tryd.ntmps105
      go_wp2
      go_ret
      exact ⟨rfl, rfl⟩
    · rw [if_neg (by omega)]
      go_enter Tryd.func105, Tryd.ntmps105
      go_wp2
      go_ret
      exact ⟨rfl, rfl⟩
theorem tcheck_c (x : Rw) (w : World) : Calls Tryd.prog 78 #[iv x] w fun r w' => r = .returned (.int .i64 (rowE x)) ∧ w.grownBy w' none := by
  obtain ⟨k, v, n⟩ := x
  have HC : Hid (∀ W, Calls Tryd.prog 105 #[.string k] W fun r w' => r = .returned (.int .i64 (if k.size < 1 ∨ 1024 < k.size then 60 else 0)) ∧ w' = W) := ncheck_c k
  have HN : Hid (w.grownBy (w.alloc (.cells #[.string k, .string v, .int .i64 n] 48)) none) := gb_alloc _ _
  unfold iv rowE
  simp only
  by_cases h1 : k.size < 1 ∨ 1024 < k.size
  · rw [if_pos h1]
    rw [if_pos h1] at HC
    clear h1
    go_enter Tryd.func78, Tryd.ntmps78
    go_wp2_with (go_at_call 105; refine (Calls.mono (HC.out _) ?_); rintro e wq ⟨rfl, rfl⟩)
    go_ret
    exact ⟨rfl, HN.out⟩
  · rw [if_neg h1]
    rw [if_neg h1] at HC
    clear h1
    by_cases h2 : 65536 < v.size
    · rw [if_pos h2]
      go_enter Tryd.func78, Tryd.ntmps78
      go_wp2_with (go_at_call 105; refine (Calls.mono (HC.out _) ?_); rintro e wq ⟨rfl, rfl⟩)
      go_ret
      exact ⟨rfl, HN.out⟩
    · rw [if_neg h2]
      by_cases h3 : n < 1
      · rw [if_pos (.inl h3)]
        go_enter Tryd.func78, Tryd.ntmps78
        go_wp2_with (go_at_call 105; refine (Calls.mono (HC.out _) ?_); rintro e wq ⟨rfl, rfl⟩)
        go_ret
        exact ⟨rfl, HN.out⟩
      · by_cases h4 : 1152921504606846976 < n
        · rw [if_pos (.inr h4)]
          go_enter Tryd.func78, Tryd.ntmps78
          go_wp2_with (go_at_call 105; refine (Calls.mono (HC.out _) ?_); rintro e wq ⟨rfl, rfl⟩)
          go_ret
          exact ⟨rfl, HN.out⟩
        · rw [if_neg (by omega)]
          go_enter Tryd.func78, Tryd.ntmps78
          go_wp2_with (go_at_call 105; refine (Calls.mono (HC.out _) ?_); rintro e wq ⟨rfl, rfl⟩)
          go_ret
          exact ⟨rfl, HN.out⟩
end Go.Proofs.YtlmjgjimmbadeaaDoor.Tb
