/-
  Settings that came in: what a law is told of them. No condition of its own.
-/
import Derived.Test.YtekefbbjocekiabCGe
import Derived.Deep.Slices
import Derived.ProofKit
import Derived.OpenShut
import Derived.ChangeOld
namespace Go.Proofs.Ytekefbbjocekiab
set_option linter.unusedVariables false
open Go.RowKit Go.WideShapes Go.ChangeShapes

theorem take_oneS {cs : List Value} {k : Nat} {v : Value} (h : (cs.drop k).take 1 = [v]) : cs[k]? = some v := by
  have := congrArg (fun l => l[0]?) h
  simpa using this
theorem list5 {cs l : List Value} (hl : cs.length = 5) (hl2 : l.length = 5) (h : ∀ i, i < 5 → cs[i]? = l[i]?) : cs = l := by
  apply List.ext_getElem?
  intro i
  rcases Nat.lt_or_ge i 5 with hi | hi
  · exact h i hi
  · rw [List.getElem?_eq_none (by omega), List.getElem?_eq_none (by omega)]
set_option maxRecDepth 20000 in
theorem set_open {H : Type} {enc : TypeId × Value → H} {w : World} {base fuel : Nat} {spare : Nat → Bool} {held : Bool} {cs : List Value} {x : DataW H × List MemPlace}
    (h : DataW.trod enc Try.prog w base spare held fuel 38 cs = some x) : ∃ V0 V1 V2 V3 V4 : Int, cs = [.int .i64 V0, .int .i64 V1, .int .i64 V2, .int .i64 V3, .int .i64 V4] := by
  obtain ⟨xs, n, _, rfl, hlen, hxl, hf⟩ := DataW.trod_struct Try.underlying38 h
  have hxl5 : xs.length = 5 := hxl
  have get : ∀ i, i < 5 → ∃ y, xs[i]? = some y := fun i hi => ⟨_, List.getElem?_eq_getElem (by omega)⟩
  obtain ⟨y0, e0⟩ := get 0 (by omega)
  obtain ⟨y1, e1⟩ := get 1 (by omega)
  obtain ⟨y2, e2⟩ := get 2 (by omega)
  obtain ⟨y3, e3⟩ := get 3 (by omega)
  obtain ⟨y4, e4⟩ := get 4 (by omega)
  have f0 : DataW.trod enc Try.prog w base spare held n 3 ((cs.drop 0).take (Try.prog.cellsOf 3)) = some y0 := (hf 0 _ rfl).trans e0
  have f1 : DataW.trod enc Try.prog w base spare held n 3 ((cs.drop 1).take (Try.prog.cellsOf 3)) = some y1 := (hf 1 _ rfl).trans e1
  have f2 : DataW.trod enc Try.prog w base spare held n 3 ((cs.drop 2).take (Try.prog.cellsOf 3)) = some y2 := (hf 2 _ rfl).trans e2
  have f3 : DataW.trod enc Try.prog w base spare held n 3 ((cs.drop 3).take (Try.prog.cellsOf 3)) = some y3 := (hf 3 _ rfl).trans e3
  have f4 : DataW.trod enc Try.prog w base spare held n 3 ((cs.drop 4).take (Try.prog.cellsOf 3)) = some y4 := (hf 4 _ rfl).trans e4
  have z3 : Try.prog.cellsOf 3 = 1 := by kernel_rfl
  have zo : Try.prog.cellsOf 38 = 5 := by kernel_rfl
  rw [z3] at f0 f1 f2 f3 f4
  obtain ⟨V0, c0, rfl, _⟩ := DataW.trod_int Try.underlying3 f0
  obtain ⟨V1, c1, rfl, _⟩ := DataW.trod_int Try.underlying3 f1
  obtain ⟨V2, c2, rfl, _⟩ := DataW.trod_int Try.underlying3 f2
  obtain ⟨V3, c3, rfl, _⟩ := DataW.trod_int Try.underlying3 f3
  obtain ⟨V4, c4, rfl, _⟩ := DataW.trod_int Try.underlying3 f4
  refine ⟨V0, V1, V2, V3, V4, ?_⟩
  apply list5 (hlen.trans zo) rfl
  have q0 := take_oneS c0
  have q1 := take_oneS c1
  have q2 := take_oneS c2
  have q3 := take_oneS c3
  have q4 := take_oneS c4
  intro i hi
  match i, hi with
  | 0, _ => exact q0
  | 1, _ => exact q1
  | 2, _ => exact q2
  | 3, _ => exact q3
  | 4, _ => exact q4
set_option maxRecDepth 20000 in
theorem set_came {H : Type} {enc : TypeId × Value → H} {w : World} {base b0 : Nat} {r : Reach} {spare : Nat → Bool} {held : Bool} {v : Value} {d : DataW H} {p : List MemPlace}
    (hv : Value.okWide Try.prog w r b0 38 v) (h : DataW.Trod enc Try.prog w base spare held 38 v d p) : ∃ V0 V1 V2 V3 V4 : Int, v = .agg #[.int .i64 V0, .int .i64 V1, .int .i64 V2, .int .i64 V3, .int .i64 V4] := by
  obtain ⟨cs, rfl, hsz⟩ := okWide_struct Try.underlying38 hv
  obtain ⟨fuel, hf⟩ := h
  obtain ⟨V0, V1, V2, V3, V4, hu⟩ := set_open hf
  refine ⟨V0, V1, V2, V3, V4, ?_⟩
  show Value.agg cs = .agg (List.toArray [.int .i64 V0, .int .i64 V1, .int .i64 V2, .int .i64 V3, .int .i64 V4])
  rw [← hu]
  simp [Value.cells]
end Go.Proofs.Ytekefbbjocekiab
