/-
  What a pack Reader's Digest answers: what the plain function rg gives. Condition: the Reader's bytes can be read, and their length is one that a machine has.
-/
import Derived.Test.YtcdgfghcmeadgaaDoorFb
import Derived.Deep.WholeRow
import Derived.Deep.MidRow
import Derived.Laws.CopyOwn
namespace Go.Proofs.YtcdgfghcmeadgaaDoor
open Go.RowKit
set_option linter.unusedVariables false

/-- Bytes as cells. -/
def u8s (xs : List Int) : Array Value := (xs.map (Value.int .u8)).toArray
theorem u8s_size (xs : List Int) : (u8s xs).size = xs.length := by simp [u8s]
theorem u8s_one (xs : List Int) : (u8s xs).all (·.oneCell') = true := by
  rw [Array.all_eq_true_iff_forall_mem]
  intro v hv
  simp only [u8s, List.mem_toArray, List.mem_map] at hv
  obtain ⟨z, _, rfl⟩ := hv
  rfl
/-- What Digest takes up. -/
def rg (xs : List Int) (p : Nat) : List Int × Nat × Int := if xs.length - p < 32 then (List.replicate 32 0, p, 30) else ((xs.drop p).take 32, p + 32, 0)

theorem results_cell1 {fn : Func} {p : Tmp} {ty : TypeId} (h : fn.results = #[.cell p ty]) (tmps : Array Value) (P : Program) (w : World) (ad : Addr) (v : Value)
    (hp : tmps.getD p undef = .pointer (some ad)) (hl : (loadVar ty ad).run P w = .ok v w) : (results fn tmps).run P w = .ok v w := by
  have hp' : tmps[p]?.getD undef = .pointer (some ad) := by simpa using hp
  simp only [results, h]
  simp [hp', asAddr, hl]

/-- A digest in a block of its own. -/
def Dg (T : TypeId) (w : World) (b : Nat) (ds : List Int) : Prop := w.heap[b]? = some (.cells (u8s ds) T (0, 0))
theorem Dg.grew {T w w' b ds row} (h : Dg T w b ds) (hg : w.grownBy w' row) (hn : row ≠ some b) : Dg T w' b ds := (hg.block b (lt_of_block h) (fun e => hn e.symm)).trans h
theorem dg_load {T e : TypeId} {n : Nat} (hu : Tryd.prog.underlying T = some (.array n e)) (hi : (Tryd.prog.info? T).map (·.size) = some 32) {w : World} {b : Nat} {ds : List Int} (h : Dg T w b ds) (hl : ds.length = 32) :
    (loadVar T ⟨b, 0, none⟩).run Tryd.prog w = .ok (.agg (u8s ds)) w ∧ (Instr.loadAt T (.pointer (some ⟨b, 0, none⟩))).run Tryd.prog w = .ok (.agg (u8s ds)) w := by
  have h1 := run_loadVar_row (P := Tryd.prog) w b T T (u8s ds) (0, 0) _ h hu rfl (by rw [hi, u8s_size, hl])
  exact ⟨h1, by simp only [Instr.loadAt, Instr.sureAddr, Sem.run_bind, Sem.run_pure, Result.andThen_ok, h1]⟩
theorem dg_store {T : TypeId} (hi : (Tryd.prog.info? T).map (·.size) = some 32) {w : World} {b : Nat} {ds es : List Int} (h : Dg T w b ds) (hl : ds.length = 32) (hl2 : es.length = 32) :
    ∃ w', (storeVar T ⟨b, 0, none⟩ (.agg (u8s es))).run Tryd.prog w = .ok () w' ∧ Dg T w' b es ∧ w.grownBy w' (some b) := by
  have h1 := run_storeVar_row (P := Tryd.prog) w b T T (u8s ds) (u8s es) h (by rw [hi, u8s_size, hl2]) (by rw [u8s_size, u8s_size, hl, hl2]) (u8s_one es)
  refine ⟨w.setRow b (u8s es), h1, ?_, ?_⟩
  · unfold Dg World.setRow
    simp only [Array.getElem?_modify]
    rw [if_pos trivial, h]; rfl
  · exact ⟨rfl, rfl, rfl, by simp [World.setRow], fun k _ hk => setRow_other w b k _ (fun e => hk (by rw [e]))⟩
theorem wpList_load_dg {ops : Array Oper} {rest : List Oper} {op : Oper} {a : Act} {w : World} {Q : Exit → Act → World → Prop} (T : TypeId) (hgd : op.guard = none) (x : Operand) (ho : op.op = .load T x)
    {e : TypeId} {n : Nat} (hu : Tryd.prog.underlying T = some (.array n e)) (hi : (Tryd.prog.info? T).map (·.size) = some 32) (b : Nat) (ds : List Int) (hx : a.eval x = .pointer (some ⟨b, 0, none⟩)) (h : Dg T w b ds) (hl : ds.length = 32)
    (K : wpList Tryd.prog ops Q rest (a.put op.dst (.agg (u8s ds))) w) : wpList Tryd.prog ops Q (op :: rest) a w :=
  wpList_load_mid hgd T x ho b 0 hx (ds.map (Value.int .u8)) _ (fun j v hv => by
    rw [Nat.zero_add, cell_of_row w b j _ _ _ h]
    simpa [u8s] using hv) hu rfl (by rw [hi, List.length_map, hl]) K
theorem wpList_store_dg {ops : Array Oper} {rest : List Oper} {op : Oper} {a : Act} {w : World} {Q : Exit → Act → World → Prop} (T : TypeId) (hgd : op.guard = none) (x y : Operand) (ho : op.op = .store T x y)
    (hi : (Tryd.prog.info? T).map (·.size) = some 32) (b : Nat) (ds es : List Int) (hx : a.eval x = .pointer (some ⟨b, 0, none⟩)) (hy : a.eval y = .agg (u8s es)) (h : Dg T w b ds) (hl : ds.length = 32) (hl2 : es.length = 32)
    (K : ∀ w', Dg T w' b es → w.grownBy w' (some b) → wpList Tryd.prog ops Q rest (a.put op.dst undef) w') : wpList Tryd.prog ops Q (op :: rest) a w := by
  obtain ⟨w', h1, h2, h3⟩ := dg_store hi h hl hl2
  refine wpList_plain hgd fun K' hK => ?_
  unfold Oper.wp execOp
  simp only [ho, hx, hy, Instr.storeAt, Instr.sureAddr, Sem.run_bind, Sem.run_pure, Result.andThen_ok, h1]
  exact hK _ _ (K w' h2 h3)
theorem two_new (w : World) (T : TypeId) (ds es : List Int) : Dg T ((w.alloc (.cells (u8s ds) T)).alloc (.cells (u8s es) T)) w.heap.size ds ∧ Dg T ((w.alloc (.cells (u8s ds) T)).alloc (.cells (u8s es) T)) (w.heap.size + 1) es ∧ w.grownBy ((w.alloc (.cells (u8s ds) T)).alloc (.cells (u8s es) T)) none := by
  refine ⟨?_, ?_, gb_trans (World.grownBy_alloc _ _ _) (World.grownBy_alloc _ _ _)⟩
  · exact (Below.heap_alloc _ _ _ (by simp)).trans (heap_new w _)
  · have := heap_new (w.alloc (.cells (u8s ds) T)) (.cells (u8s es) T)
    rw [World.size_alloc] at this
    exact this

theorem RS.keep {w w2 w4 g a len cap xs e0 p0 e p} (h0 : RS w g a len cap xs e0 p0) (h : RS w2 g a len cap xs e p) (hb : ∀ k, k < w.heap.size → w4.heap[k]? = w2.heap[k]?) (hs : w.heap.size ≤ w4.heap.size) : RS w4 g a len cap xs e p := by
  refine ⟨(hb g (lt_of_block h0.rdr)).trans h.rdr, ⟨h.seg.1, ?_⟩, h.bytes, h.off, h.le, h.lc, h.lm, h.cm, h.nz⟩
  rcases h0.seg.2 with h1 | ⟨b, off, ha, hw, _⟩
  · exact .inl h1
  · rcases h.seg.2 with h1 | ⟨b', off', ha', _, hc⟩
    · exact .inl h1
    · rw [ha] at ha'; cases ha'
      exact .inr ⟨b, off, ha, Nat.lt_of_lt_of_le hw hs, fun i hi => (World.cell?_of_block (w := w2) (w' := w4) (a := ⟨b, off + i, none⟩) (hb b hw)).trans (hc i hi)⟩
theorem sz8 : (Tryd.prog.info? 5).map (·.size) = some 1 := by kernel_rfl
theorem dg_row {T w b ds} (h : Dg T w b ds) : w.heap[b]? = some (.cells (ds.map (Value.int .u8)).toArray T (0, 0)) := h
theorem u8_one {cs : List Value} {ds : List Int} (h : cs = ds.map (Value.int .u8)) : ∀ v ∈ cs, v.oneCell' = true := by
  intro v hv; rw [h] at hv; obtain ⟨z, _, rfl⟩ := List.mem_map.1 hv; rfl

end Go.Proofs.YtcdgfghcmeadgaaDoor
