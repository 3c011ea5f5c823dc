/-
  Digests that came in: their cells are bytes. No condition.
-/
import Derived.Test.YthbnbomdngecmaaMNd
import Derived.Test.YthbnbomdngecmaaRows
import Derived.WalkKit
import Derived.ProofKit
import Derived.OpenShut
import Derived.Deep.Matrix
namespace Go.Proofs.Ythbnbomdngecmaa
set_option linter.unusedVariables false
open Go.RowKit Go.WideShapes Go.ChangeShapes

theorem take_one' {l : List Value} {k : Nat} {v : Value} (h : (l.drop k).take 1 = [v]) : l[k]? = some v := by
  have := congrArg (fun l => l[0]?) h
  simpa using this
theorem dg_cells {H : Type} {enc : TypeId × Value → H} {w : World} {base : Nat} {sp : Nat → Bool} {held : Bool} {m : Nat} {l : List Value} {y : DataW H × List MemPlace}
    (h : DataW.trod enc Try.prog w base sp held m 25 l = some y) : l.length = 32 ∧ ∀ b, b < 32 → ∃ z, l[b]? = some (.int .u8 z) ∧ (Lit.int .u8 z).wf = true := by
  obtain ⟨xs, m', _, _, hl, hx, hf⟩ := DataW.trod_array Try.underlying25 h
  have z5 : Try.prog.cellsOf 5 = 1 := by kernel_rfl
  refine ⟨hl.trans (show Try.prog.cellsOf 25 = 32 by kernel_rfl), fun b hb => ?_⟩
  have hb' : b < xs.length := by rw [hx]; exact hb
  have := (hf b hb).trans (List.getElem?_eq_getElem hb')
  rw [z5] at this
  obtain ⟨z, cz, _, wz⟩ := DataW.trod_int Try.underlying5 this
  have h1 := take_one' cz
  rw [Nat.mul_one] at h1
  exact ⟨z, h1, wz⟩
theorem bytes_made (n : Nat) (l : List Value) (hl : l.length = n) (h : ∀ i, i < n → ∃ z, l[i]? = some (.int .u8 z) ∧ (Lit.int .u8 z).wf = true) : ∃ ds : List Int, l = ds.map (Value.int .u8) ∧ ds.length = n ∧ Bytes ds := by
  obtain ⟨Z, hZ⟩ := Go.Deep.choose_lt h
  refine ⟨(List.range n).map Z, ?_, by simp, ?_⟩
  · apply List.ext_getElem?
    intro i
    rcases Nat.lt_or_ge i n with hi | hi
    · rw [(hZ i hi).1]; simp [hi]
    · rw [List.getElem?_eq_none (by omega), List.getElem?_eq_none (by simpa using hi)]
  · intro i hi
    have hi' : i < n := by simpa using hi
    have := wf_u8 (hZ i hi').2
    simp [hi']; exact this
theorem dig16_open {H : Type} {enc : TypeId × Value → H} {w : World} {v : Value} {d : DataW H} {p : List MemPlace} (cs : Array Value) (hv : v = .agg cs) (hsz : cs.size = 512)
    (h : DataW.Trod enc Try.prog w 0 (fun _ => true) true 34 v d p) : ∃ ds : List Int, v = .agg (u8s ds) ∧ ds.length = 512 ∧ Bytes ds := by
  obtain ⟨fuel, hf⟩ := h
  subst hv
  obtain ⟨xs, m, _, _, hl, hx, hf6⟩ := DataW.trod_array Try.underlying34 hf
  have z5 : Try.prog.cellsOf 25 = 32 := by kernel_rfl
  obtain ⟨ds, h1, h2, h3⟩ := bytes_made 512 cs.toList (by simpa using hsz) (fun i hi => by
    have ha : i / 32 < 16 := by omega
    have ha' : i / 32 < xs.length := by rw [hx]; exact ha
    have := (hf6 (i / 32) ha).trans (List.getElem?_eq_getElem ha')
    rw [z5] at this
    obtain ⟨z, cz, wz⟩ := (dg_cells this).2 (i % 32) (by omega)
    refine ⟨z, ?_, wz⟩
    rw [List.getElem?_take_of_lt (by omega), List.getElem?_drop] at cz
    rw [show i / 32 * 32 + i % 32 = i from by omega] at cz
    exact cz)
  exact ⟨ds, by rw [u8s, ← h1], h2, h3⟩
end Go.Proofs.Ythbnbomdngecmaa
