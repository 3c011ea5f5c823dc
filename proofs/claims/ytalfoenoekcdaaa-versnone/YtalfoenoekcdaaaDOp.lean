/-
  An update that came in: what a law is told of it. No condition of its own.
-/
import Derived.Test.YtalfoenoekcdaaaDBa
import Derived.Deep.Slices
import Derived.ProofKit
import Derived.OpenShut
import Derived.ChangeOld
namespace Go.Proofs.Ytalfoenoekcdaaa.Dl
set_option linter.unusedVariables false
open Go.RowKit Go.WideShapes Go.ChangeShapes

/-- An update, as plain data. -/
structure Upd where
  q : Int
  c : Int
  n : Int
  k : Int
  key : ByteArray
  val : ByteArray
  ver : Int
def Upd.cells (u : Upd) : List Value := [.int .i64 u.q, .int .i64 u.c, .int .i64 u.n, .int .i64 u.k, .string u.key, .string u.val, .int .i64 u.ver]
/-- Its numbers and texts are such as there are. -/
def Upd.ok (u : Upd) : Prop := (Lit.int .i64 u.q).wf = true ∧ (Lit.int .i64 u.c).wf = true ∧ (Lit.int .i64 u.n).wf = true ∧ (Lit.int .i64 u.k).wf = true ∧ (Lit.int .i64 u.ver).wf = true ∧ u.key.size ≤ maxLen ∧ u.val.size ≤ maxLen
theorem Upd.cells_length (u : Upd) : u.cells.length = 7 := rfl
theorem take_one {cs : List Value} {k : Nat} {v : Value} (h : (cs.drop k).take 1 = [v]) : cs[k]? = some v := by
  have := congrArg (fun l => l[0]?) h
  simpa using this
theorem list7 {cs l : List Value} (hl : cs.length = 7) (hl2 : l.length = 7) (h : ∀ i, i < 7 → cs[i]? = l[i]?) : cs = l := by
  apply List.ext_getElem?
  intro i
  rcases Nat.lt_or_ge i 7 with hi | hi
  · exact h i hi
  · rw [List.getElem?_eq_none (by omega), List.getElem?_eq_none (by omega)]
set_option maxRecDepth 20000 in
theorem upd_open {H : Type} {enc : TypeId × Value → H} {w : World} {base fuel : Nat} {spare : Nat → Bool} {held : Bool} {cs : List Value} {x : DataW H × List MemPlace}
    (h : DataW.trod enc Try.prog w base spare held fuel 34 cs = some x) : ∃ u : Upd, cs = u.cells ∧ u.ok := by
  obtain ⟨xs, n, _, rfl, hlen, hxl, hf⟩ := DataW.trod_struct Try.underlying34 h
  have hxl4 : xs.length = 4 := hxl
  have get : ∀ i, i < 4 → ∃ y, xs[i]? = some y := fun i hi => ⟨_, List.getElem?_eq_getElem (by omega)⟩
  obtain ⟨y0, e0⟩ := get 0 (by omega)
  obtain ⟨y1, e1⟩ := get 1 (by omega)
  obtain ⟨y2, e2⟩ := get 2 (by omega)
  obtain ⟨y3, e3⟩ := get 3 (by omega)
  have f0 : DataW.trod enc Try.prog w base spare held n 3 ((cs.drop 0).take (Try.prog.cellsOf 3)) = some y0 := (hf 0 _ rfl).trans e0
  have f1 : DataW.trod enc Try.prog w base spare held n 3 ((cs.drop 1).take (Try.prog.cellsOf 3)) = some y1 := (hf 1 _ rfl).trans e1
  have f2 : DataW.trod enc Try.prog w base spare held n 3 ((cs.drop 2).take (Try.prog.cellsOf 3)) = some y2 := (hf 2 _ rfl).trans e2
  have f3 : DataW.trod enc Try.prog w base spare held n 32 ((cs.drop 3).take (Try.prog.cellsOf 32)) = some y3 := (hf 3 _ rfl).trans e3
  have z3 : Try.prog.cellsOf 3 = 1 := by kernel_rfl
  have z9 : Try.prog.cellsOf 9 = 1 := by kernel_rfl
  have zk : Try.prog.cellsOf 30 = 1 := by kernel_rfl
  have zr : Try.prog.cellsOf 32 = 4 := by kernel_rfl
  have zo : Try.prog.cellsOf 34 = 7 := by kernel_rfl
  rw [z3] at f0 f1 f2
  rw [zr] at f3
  obtain ⟨vq, c0, rfl, w0⟩ := DataW.trod_int Try.underlying3 f0
  obtain ⟨vc, c1, rfl, w1⟩ := DataW.trod_int Try.underlying3 f1
  obtain ⟨vn, c2, rfl, w2⟩ := DataW.trod_int Try.underlying3 f2
  obtain ⟨xs3, m3, _, rfl, hl3, hx3, hf3⟩ := DataW.trod_struct Try.underlying32 f3
  have hx33 : xs3.length = 4 := hx3
  have get3 : ∀ i, i < 4 → ∃ y, xs3[i]? = some y := fun i hi => ⟨_, List.getElem?_eq_getElem (by omega)⟩
  obtain ⟨u0, g0⟩ := get3 0 (by omega)
  obtain ⟨u1, g1⟩ := get3 1 (by omega)
  obtain ⟨u2, g2⟩ := get3 2 (by omega)
  obtain ⟨u3, g3⟩ := get3 3 (by omega)
  have k0 : DataW.trod enc Try.prog w base spare held m3 30 ((((cs.drop 3).take 4).drop 0).take (Try.prog.cellsOf 30)) = some u0 := (hf3 0 _ rfl).trans g0
  have k1 : DataW.trod enc Try.prog w base spare held m3 9 ((((cs.drop 3).take 4).drop 1).take (Try.prog.cellsOf 9)) = some u1 := (hf3 1 _ rfl).trans g1
  have k2 : DataW.trod enc Try.prog w base spare held m3 9 ((((cs.drop 3).take 4).drop 2).take (Try.prog.cellsOf 9)) = some u2 := (hf3 2 _ rfl).trans g2
  have k3 : DataW.trod enc Try.prog w base spare held m3 3 ((((cs.drop 3).take 4).drop 3).take (Try.prog.cellsOf 3)) = some u3 := (hf3 3 _ rfl).trans g3
  rw [zk] at k0
  rw [z9] at k1 k2
  rw [z3] at k3
  obtain ⟨ok, d0, rfl, wk⟩ := DataW.trod_int Try.underlying30 k0
  obtain ⟨key, d1, rfl, wy⟩ := DataW.trod_string Try.underlying9 k1
  obtain ⟨val, d2, rfl, wv⟩ := DataW.trod_string Try.underlying9 k2
  obtain ⟨ver, d3, rfl, we⟩ := DataW.trod_int Try.underlying3 k3
  refine ⟨⟨vq, vc, vn, ok, key, val, ver⟩, ?_, w0, w1, w2, wk, we, wy, wv⟩
  apply list7 (hlen.trans zo) rfl
  have q0 := take_one c0
  have q1 := take_one c1
  have q2 := take_one c2
  have r0 := take_one d0
  have r1 := take_one d1
  have r2 := take_one d2
  have r3 := take_one d3
  rw [List.getElem?_take_of_lt (by omega), List.getElem?_drop] at r0 r1 r2 r3
  intro i hi
  match i, hi with
  | 0, _ => exact q0
  | 1, _ => exact q1
  | 2, _ => exact q2
  | 3, _ => exact r0
  | 4, _ => exact r1
  | 5, _ => exact r2
  | 6, _ => exact r3
set_option maxRecDepth 20000 in
theorem upd_came {H : Type} {enc : TypeId × Value → H} {w : World} {base b0 : Nat} {r : Reach} {spare : Nat → Bool} {held : Bool} {v : Value} {d : DataW H} {p : List MemPlace}
    (hv : Value.okWide Try.prog w r b0 34 v) (h : DataW.Trod enc Try.prog w base spare held 34 v d p) : ∃ u : Upd, v = .agg u.cells.toArray ∧ u.ok := by
  obtain ⟨cs, rfl, hsz⟩ := okWide_struct Try.underlying34 hv
  obtain ⟨fuel, hf⟩ := h
  obtain ⟨u, hu, ho⟩ := upd_open hf
  refine ⟨u, ?_, ho⟩
  rw [← hu]
  simp [Value.cells]
end Go.Proofs.Ytalfoenoekcdaaa.Dl
