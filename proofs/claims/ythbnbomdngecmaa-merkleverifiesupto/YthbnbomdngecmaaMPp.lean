/-
  Digests that came in: their cells are bytes. No condition.
  Lists of digests, and arguments of Verify, that came in: what a law is told of them. No condition of its own.
-/
import Derived.Test.YthbnbomdngecmaaMNd
import Derived.Test.YthbnbomdngecmaaRows
import Derived.WalkKit
import Derived.ProofKit
import Derived.OpenShut
import Derived.Deep.Matrix
import Derived.Deep.Slices
namespace Go.Proofs.Ythbnbomdngecmaa
set_option linter.unusedVariables false
open Go.RowKit Go.WideShapes Go.ChangeShapes

theorem take_one' {l : List Value} {k : Nat} {v : Value} (h : (l.drop k).take 1 = [v]) : l[k]? = some v := by
  have := congrArg (fun l => l[0]?) h
  simpa using this
theorem dg_cells {H : Type} {enc : TypeId × Value → H} {w : World} {base : Nat} {sp : Nat → Bool} {held : Bool} {m : Nat} {l : List Value} {y : DataW H × List MemPlace}
    (h : DataW.trod enc Try.prog w base sp held m 25 l = some y) : l.length = 32 ∧ ∀ b, b < 32 → ∃ z, l[b]? = some (.int .u8 z) ∧ (Lit.int .u8 z).wf = true := by
  obtain ⟨xs, m', _, _, hl, hx, hf⟩ := DataW.trod_array Try.underlying25 h
  have z5 : Try.prog.cellsOf 5 = 1 := by kernel_rfl
  refine ⟨hl.trans (show Try.prog.cellsOf 25 = 32 by kernel_rfl), fun b hb => ?_⟩
  have hb' : b < xs.length := by rw [hx]; exact hb
  have := (hf b hb).trans (List.getElem?_eq_getElem hb')
  rw [z5] at this
  obtain ⟨z, cz, _, wz⟩ := DataW.trod_int Try.underlying5 this
  have h1 := take_one' cz
  rw [Nat.mul_one] at h1
  exact ⟨z, h1, wz⟩
theorem bytes_made (n : Nat) (l : List Value) (hl : l.length = n) (h : ∀ i, i < n → ∃ z, l[i]? = some (.int .u8 z) ∧ (Lit.int .u8 z).wf = true) : ∃ ds : List Int, l = ds.map (Value.int .u8) ∧ ds.length = n ∧ Bytes ds := by
  obtain ⟨Z, hZ⟩ := Go.Deep.choose_lt h
  refine ⟨(List.range n).map Z, ?_, by simp, ?_⟩
  · apply List.ext_getElem?
    intro i
    rcases Nat.lt_or_ge i n with hi | hi
    · rw [(hZ i hi).1]; simp [hi]
    · rw [List.getElem?_eq_none (by omega), List.getElem?_eq_none (by simpa using hi)]
  · intro i hi
    have hi' : i < n := by simpa using hi
    have := wf_u8 (hZ i hi').2
    simp [hi']; exact this
theorem dig16_open {H : Type} {enc : TypeId × Value → H} {w : World} {v : Value} {d : DataW H} {p : List MemPlace} (cs : Array Value) (hv : v = .agg cs) (hsz : cs.size = 512)
    (h : DataW.Trod enc Try.prog w 0 (fun _ => true) true 34 v d p) : ∃ ds : List Int, v = .agg (u8s ds) ∧ ds.length = 512 ∧ Bytes ds := by
  obtain ⟨fuel, hf⟩ := h
  subst hv
  obtain ⟨xs, m, _, _, hl, hx, hf6⟩ := DataW.trod_array Try.underlying34 hf
  have z5 : Try.prog.cellsOf 25 = 32 := by kernel_rfl
  obtain ⟨ds, h1, h2, h3⟩ := bytes_made 512 cs.toList (by simpa using hsz) (fun i hi => by
    have ha : i / 32 < 16 := by omega
    have ha' : i / 32 < xs.length := by rw [hx]; exact ha
    have := (hf6 (i / 32) ha).trans (List.getElem?_eq_getElem ha')
    rw [z5] at this
    obtain ⟨z, cz, wz⟩ := (dg_cells this).2 (i % 32) (by omega)
    refine ⟨z, ?_, wz⟩
    rw [List.getElem?_take_of_lt (by omega), List.getElem?_drop] at cz
    rw [show i / 32 * 32 + i % 32 = i from by omega] at cz
    exact cz)
  exact ⟨ds, by rw [u8s, ← h1], h2, h3⟩
end Go.Proofs.Ythbnbomdngecmaa
namespace Go.Proofs.Ythbnbomdngecmaa
set_option linter.unusedVariables false
open Go.RowKit Go.WideShapes Go.ChangeShapes

theorem bulk_lenM {H : Type} (l : List (DataW H)) : l.length ≤ Rows.uptoBulkAll l := by
  induction l with
  | nil => simp
  | cons d r ih =>
    have : 1 ≤ Rows.uptoBulk d := by
      cases d with
      | lit x => cases x <;> simp [Rows.uptoBulk]
      | _ => simp [Rows.uptoBulk]
    simp only [Rows.uptoBulkAll, List.length_cons]; omega
theorem bulk_memM {H : Type} {d : DataW H} {l : List (DataW H)} (h : d ∈ l) : Rows.uptoBulk d ≤ Rows.uptoBulkAll l := by
  induction l with
  | nil => cases h
  | cons x r ih =>
    simp only [Rows.uptoBulkAll]
    rcases List.mem_cons.1 h with rfl | h
    · omega
    · have := ih h; omega
theorem block_of_cellM {w : World} {a : Addr} {v : Value} (h : w.cell? a = some v) : a.block < w.heap.size := by
  rcases Nat.lt_or_ge a.block w.heap.size with h' | h'
  · exact h'
  · simp [World.cell?, h'] at h
theorem digs_open {H : Type} {enc : TypeId × Value → H} {w : World} {fuel : Nat} {cs : List Value} {x : DataW H × List MemPlace}
    (h : DataW.trod enc Try.prog w 0 (fun _ => true) true fuel 37 cs = some x) :
    ∃ a n cap ps, cs = [.slice a n cap] ∧ Seg .u8 w a (32 * n) ps ∧ Bytes ps ∧ n ≤ cap ∧ cap ≤ maxLen ∧ (a = none → cap = 0) ∧ n ≤ Rows.uptoBulk x.1 := by
  rcases Go.Deep.open_slice Try.underlying37 h with ⟨hcs, hx⟩ | ⟨a, len, cap, m, n, D, Pl, hcs, _, hlc, hcm, hm, hx, hr⟩
  · exact ⟨none, 0, 0, [], hcs, ⟨rfl, .inl rfl⟩, fun i hi => by simp at hi, Nat.le_refl _, Nat.zero_le _, fun _ => rfl, Nat.zero_le _⟩
  · have zo : Try.prog.cellsOf 25 = 32 := by kernel_rfl
    simp only [if_true] at hm
    rw [hm] at hr hx
    rw [zo] at hr
    have hbulk : len ≤ Rows.uptoBulk x.1 := by
      rw [hx]
      simp only [Rows.uptoBulk]
      have := bulk_lenM ((List.range len).map D)
      rw [List.length_map, List.length_range] at this
      omega
    by_cases h0 : len = 0
    · subst h0
      exact ⟨some a, 0, cap, [], hcs, ⟨rfl, .inl rfl⟩, fun i hi => by simp at hi, hlc, hcm, (fun h => by cases h), hbulk⟩
    · obtain ⟨b, off, spot⟩ := a
      obtain ⟨cs0, h10, h20⟩ := hr 0 (by omega)
      obtain ⟨z0, c0, _⟩ := (dg_cells h20).2 0 (by omega)
      have c1 := ((World.cells?_some h10).2.2 0 (by omega)).trans c0
      have hspot : spot = none := by simpa [Addr.add] using World.cell?_spot c1
      subst hspot
      have hlt : b < w.heap.size := by have := block_of_cellM c1; simpa [Addr.add] using this
      have each : ∀ q, q < 32 * len → ∃ z, w.cell? ⟨b, off + q, none⟩ = some (.int .u8 z) ∧ (Lit.int .u8 z).wf = true := fun q hq => by
        obtain ⟨cs', h1, h2⟩ := hr (q / 32) (by omega)
        obtain ⟨z, cz, wz⟩ := (dg_cells h2).2 (q % 32) (by omega)
        refine ⟨z, ?_, wz⟩
        have e := ((World.cells?_some h1).2.2 (q % 32) (by omega)).trans cz
        rw [add_plain, add_plain, show off + q / 32 * 32 + q % 32 = off + q from by omega] at e
        exact e
      obtain ⟨Z, hZ⟩ := Go.Deep.choose_lt each
      refine ⟨some ⟨b, off, none⟩, len, cap, (List.range (32 * len)).map Z, hcs, ⟨by simp, .inr ⟨b, off, rfl, hlt, fun i hi => ?_⟩⟩, fun i hi => ?_, hlc, hcm, (fun h => by cases h), hbulk⟩
      · rw [(hZ i hi).1]; simp [hi]
      · have hi' : i < 32 * len := by simpa using hi
        have := wf_u8 (hZ i hi').2
        simp [hi']; exact this
/-- The cells of Verify's arguments. -/
def pcs (root : List Int) (d b : Int) (leaf : List Int) (a : Option Addr) (n cap : Nat) : Array Value := (root.map (Value.int .u8) ++ ([Value.int .i64 d, Value.int .i64 b] ++ (leaf.map (Value.int .u8) ++ [Value.slice a n cap]))).toArray
theorem proof_open {H : Type} {enc : TypeId × Value → H} {w : World} {v : Value} {dd : DataW H} {p : List MemPlace} (cs : Array Value) (hv : v = .agg cs) (hsz : cs.size = 67)
    (h : DataW.Trod enc Try.prog w 0 (fun _ => true) true 39 v dd p) :
    ∃ root d b leaf a n cap ps, v = .agg (pcs root d b leaf a n cap) ∧ root.length = 32 ∧ Bytes root ∧ leaf.length = 32 ∧ Bytes leaf ∧ Seg .u8 w a (32 * n) ps ∧ Bytes ps ∧ n ≤ cap ∧ cap ≤ maxLen ∧ (a = none → cap = 0) ∧ n ≤ Rows.uptoBulk dd := by
  obtain ⟨fuel, hf⟩ := h
  subst hv
  obtain ⟨xs, m, _, hx, hl, hxl, hfs⟩ := DataW.trod_struct Try.underlying39 hf
  have hxl5 : xs.length = 5 := hxl
  have get : ∀ i, i < 5 → ∃ y, xs[i]? = some y := fun i hi => ⟨_, List.getElem?_eq_getElem (by omega)⟩
  obtain ⟨y0, e0⟩ := get 0 (by omega)
  obtain ⟨y1, e1⟩ := get 1 (by omega)
  obtain ⟨y2, e2⟩ := get 2 (by omega)
  obtain ⟨y3, e3⟩ := get 3 (by omega)
  obtain ⟨y4, e4⟩ := get 4 (by omega)
  have z25 : Try.prog.cellsOf 25 = 32 := by kernel_rfl
  have z3 : Try.prog.cellsOf 3 = 1 := by kernel_rfl
  have z37 : Try.prog.cellsOf 37 = 1 := by kernel_rfl
  have f0 : DataW.trod enc Try.prog w 0 (fun _ => true) true m 25 ((cs.toList.drop 0).take (Try.prog.cellsOf 25)) = some y0 := (hfs 0 _ rfl).trans e0
  have f1 : DataW.trod enc Try.prog w 0 (fun _ => true) true m 3 ((cs.toList.drop 32).take (Try.prog.cellsOf 3)) = some y1 := (hfs 1 _ rfl).trans e1
  have f2 : DataW.trod enc Try.prog w 0 (fun _ => true) true m 3 ((cs.toList.drop 33).take (Try.prog.cellsOf 3)) = some y2 := (hfs 2 _ rfl).trans e2
  have f3 : DataW.trod enc Try.prog w 0 (fun _ => true) true m 25 ((cs.toList.drop 34).take (Try.prog.cellsOf 25)) = some y3 := (hfs 3 _ rfl).trans e3
  have f4 : DataW.trod enc Try.prog w 0 (fun _ => true) true m 37 ((cs.toList.drop 66).take (Try.prog.cellsOf 37)) = some y4 := (hfs 4 _ rfl).trans e4
  rw [z25, List.drop_zero] at f0
  rw [z25] at f3
  rw [z3] at f1 f2
  rw [z37] at f4
  obtain ⟨root, r1, r2, r3⟩ := bytes_made 32 _ (dg_cells f0).1 (dg_cells f0).2
  obtain ⟨leaf, l1, l2, l3⟩ := bytes_made 32 _ (dg_cells f3).1 (dg_cells f3).2
  obtain ⟨d, d1, _, _⟩ := DataW.trod_int Try.underlying3 f1
  obtain ⟨b, b1, _, _⟩ := DataW.trod_int Try.underlying3 f2
  obtain ⟨a, n, cap, ps, a1, a2, a3, a4, a5, a6, a7⟩ := digs_open f4
  refine ⟨root, d, b, leaf, a, n, cap, ps, ?_, r2, r3, l2, l3, a2, a3, a4, a5, a6, ?_⟩
  · have hc : cs = pcs root d b leaf a n cap := ?_
    · rw [hc]
    apply Array.toList_inj.1
    unfold pcs
    rw [← r1, ← l1, ← a1]
    have hd' : [Value.int .i64 d, .int .i64 b] = (cs.toList.drop 32).take 1 ++ (cs.toList.drop 33).take 1 := by rw [d1, b1]; rfl
    rw [hd']
    have e : cs.toList.length = 67 := by simpa using hsz
    simp only [List.append_assoc]
    have t1 : ∀ (l : List Value) (i j k : Nat), i + j = k → (l.drop i).take j ++ l.drop k = l.drop i := fun l i j k hk => by
      rw [← hk, ← List.drop_drop, List.take_append_drop]
    rw [show (cs.toList.drop 66).take 1 = cs.toList.drop 66 from List.take_of_length_le (by simp; omega), t1 _ 34 32 66 rfl, t1 _ 33 1 34 rfl, t1 _ 32 1 33 rfl, List.take_append_drop]
  · have hd : dd = _ := congrArg Prod.fst hx
    rw [hd]
    simp only [Rows.uptoBulk]
    have := bulk_memM (List.mem_map_of_mem (f := fun z : DataW H × List MemPlace => z.1) (List.mem_of_getElem? e4))
    omega
end Go.Proofs.Ythbnbomdngecmaa
