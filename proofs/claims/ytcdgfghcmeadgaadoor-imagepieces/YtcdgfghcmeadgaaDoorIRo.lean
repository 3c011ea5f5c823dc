/-
  Rows of a state that came in: what a law is told of them. No condition of its own.
-/
import Derived.Test.YtcdgfghcmeadgaaDoorFc
import Derived.Test.YtcdgfghcmeadgaaDoorRows
import Derived.WalkKit
import Derived.ProofKit
import Derived.OpenShut
import Derived.Deep.Slices
import Derived.Deep.Matrix
import Derived.Deep.Strs
namespace Go.Proofs.YtcdgfghcmeadgaaDoor
open Go.RowKit Go.WideShapes Go.ChangeShapes
set_option linter.unusedVariables false

theorem add_plainI (b off k : Nat) : (⟨b, off, none⟩ : Addr).add k = ⟨b, off + k, none⟩ := by
  unfold Addr.add
  split <;> simp_all
theorem take_oneI {l : List Value} {k : Nat} {v : Value} (h : (l.drop k).take 1 = [v]) : l[k]? = some v := by
  have := congrArg (fun l => l[0]?) h
  simpa using this
theorem list3I {α : Type} {l : List α} {a b c : α} (h : l.length = 3) (h0 : l[0]? = some a) (h1 : l[1]? = some b) (h2 : l[2]? = some c) : l = [a, b, c] := by
  match l, h with
  | [x, y, z], _ =>
    simp at h0 h1 h2
    rw [h0, h1, h2]
theorem row_openI {H : Type} {enc : TypeId × Value → H} {w : World} {fuel : Nat} {cs : List Value} {x : DataW H × List MemPlace}
    (h : DataW.trod enc Tryd.prog w 0 (fun _ => true) true fuel 48 cs = some x) : ∃ r : Rwi, cs = r.cells := by
  obtain ⟨xs, m, _, hx, hl, hxl, hfs⟩ := DataW.trod_struct Tryd.underlying48 h
  have hxl3 : xs.length = 3 := hxl
  have get : ∀ i, i < 3 → ∃ y, xs[i]? = some y := fun i hi => ⟨_, List.getElem?_eq_getElem (by omega)⟩
  obtain ⟨y0, e0⟩ := get 0 (by omega)
  obtain ⟨y1, e1⟩ := get 1 (by omega)
  obtain ⟨y2, e2⟩ := get 2 (by omega)
  have z9 : Tryd.prog.cellsOf 9 = 1 := by kernel_rfl
  have z3 : Tryd.prog.cellsOf 3 = 1 := by kernel_rfl
  have zr : Tryd.prog.cellsOf 48 = 3 := by kernel_rfl
  have f0 : DataW.trod enc Tryd.prog w 0 (fun _ => true) true m 9 ((cs.drop 0).take (Tryd.prog.cellsOf 9)) = some y0 := (hfs 0 _ rfl).trans e0
  have f1 : DataW.trod enc Tryd.prog w 0 (fun _ => true) true m 9 ((cs.drop 1).take (Tryd.prog.cellsOf 9)) = some y1 := (hfs 1 _ rfl).trans e1
  have f2 : DataW.trod enc Tryd.prog w 0 (fun _ => true) true m 3 ((cs.drop 2).take (Tryd.prog.cellsOf 3)) = some y2 := (hfs 2 _ rfl).trans e2
  rw [z9] at f0 f1
  rw [z3] at f2
  obtain ⟨k, c0, k1, _⟩ := DataW.trod_string Tryd.underlying9 f0
  obtain ⟨v, c1, k2, _⟩ := DataW.trod_string Tryd.underlying9 f1
  obtain ⟨n, c2, k3, _⟩ := DataW.trod_int Tryd.underlying3 f2
  rw [zr] at hl
  exact ⟨⟨k, v, n⟩, list3I hl (take_oneI c0) (take_oneI c1) (take_oneI c2)⟩
theorem rows_openI {H : Type} {enc : TypeId × Value → H} {w : World} {fuel : Nat} {c : Value} {x : DataW H × List MemPlace}
    (hf : DataW.trod enc Tryd.prog w 0 (fun _ => true) true fuel 22 [c] = some x) : ∃ a n cap X, c = .slice a n cap ∧ Rws w a n X ∧ n ≤ cap ∧ cap ≤ maxLen ∧ (a = none → cap = 0) := by
  rcases Go.Deep.open_slice Tryd.underlying22 hf with ⟨hcs, hx⟩ | ⟨a, len, cap, m, n, D, Pl, hcs, _, hlc, hcm, hm, hx, hr⟩
  · simp at hcs
    subst hcs
    exact ⟨none, 0, 0, [], rfl, ⟨rfl, .inl rfl⟩, Nat.le_refl _, Nat.zero_le _, fun _ => rfl⟩
  · simp at hcs
    subst hcs
    have zo : Tryd.prog.cellsOf 48 = 3 := by kernel_rfl
    simp only [if_true] at hm
    rw [hm] at hr hx
    rw [zo] at hr
    have hop : ∀ i, i < cap → ∃ r : Rwi, w.cells? 0 (a.add (i * 3)) 3 = some r.cells := by
      intro i hi
      obtain ⟨cs', h1, h2⟩ := hr i hi
      obtain ⟨r, e⟩ := row_openI h2
      exact ⟨r, by rw [h1, e]⟩
    have hex : ∃ F : Nat → Rwi, ∀ i, i < cap → w.cells? 0 (a.add (i * 3)) 3 = some (F i).cells := by
      refine ⟨fun i => if h : i < cap then Classical.choose (hop i h) else zRow, fun i hi => ?_⟩
      simp only [hi, dif_pos]
      exact Classical.choose_spec (hop i hi)
    obtain ⟨F, hF⟩ := hex
    refine ⟨some a, len, cap, (List.range len).map F, rfl, ⟨by simp, ?_⟩, hlc, hcm, fun h => by cases h⟩
    by_cases h0 : len = 0
    · exact .inl h0
    · right
      obtain ⟨b, off, spot⟩ := a
      have c0 := (World.cells?_some (hF 0 (by omega))).2.2 0 (by simp)
      simp only [Rwi.cells, List.getElem?_cons_zero] at c0
      have hspot : spot = none := by simpa [Addr.add] using World.cell?_spot c0
      subst hspot
      have hlt : b < w.heap.size := by
        rcases Nat.lt_or_ge b w.heap.size with h' | h'
        · exact h'
        · simp [World.cell?, Addr.add, h'] at c0
      refine ⟨b, off, rfl, hlt, fun i hi => ?_⟩
      have eF : rAt ((List.range len).map F) i = F i := by simp [rAt, hi]
      rw [eF]
      intro j v hv
      have hj : j < 3 := by
        rcases Nat.lt_or_ge j 3 with q | q
        · exact q
        · rw [List.getElem?_eq_none (by simpa [Rwi.cells] using q)] at hv; cases hv
      have q := (World.cells?_some (hF i (by omega))).2.2 j hj
      rw [hv] at q
      rw [add_plainI, add_plainI] at q
      exact q
theorem rows_openS {H : Type} {enc : TypeId × Value → H} {w : World} {fuel : Nat} {c : Value} {x : DataW H × List MemPlace}
    (hf : DataW.trod enc Tryd.prog w 0 (fun _ => true) true fuel 22 [c] = some x) : ∃ a n cap X, c = .slice a n cap ∧ Rws w a n X ∧ n ≤ cap ∧ cap ≤ maxLen ∧ (a = none → cap = 0) ∧ (cap = 0 ∨ ∃ l r, x.1 = .slice l r ∧ l.length + r.length = cap) := by
  rcases Go.Deep.open_slice Tryd.underlying22 hf with ⟨hcs, hx⟩ | ⟨a, len, cap, m, n, D, Pl, hcs, _, hlc, hcm, hm, hx, hr⟩
  · simp at hcs
    subst hcs
    exact ⟨none, 0, 0, [], rfl, ⟨rfl, .inl rfl⟩, Nat.le_refl _, Nat.zero_le _, fun _ => rfl, .inl rfl⟩
  · simp at hcs
    subst hcs
    have zo : Tryd.prog.cellsOf 48 = 3 := by kernel_rfl
    simp only [if_true] at hm
    rw [hm] at hr hx
    rw [zo] at hr
    have hop : ∀ i, i < cap → ∃ r : Rwi, w.cells? 0 (a.add (i * 3)) 3 = some r.cells := by
      intro i hi
      obtain ⟨cs', h1, h2⟩ := hr i hi
      obtain ⟨r, e⟩ := row_openI h2
      exact ⟨r, by rw [h1, e]⟩
    have hex : ∃ F : Nat → Rwi, ∀ i, i < cap → w.cells? 0 (a.add (i * 3)) 3 = some (F i).cells := by
      refine ⟨fun i => if h : i < cap then Classical.choose (hop i h) else zRow, fun i hi => ?_⟩
      simp only [hi, dif_pos]
      exact Classical.choose_spec (hop i hi)
    obtain ⟨F, hF⟩ := hex
    refine ⟨some a, len, cap, (List.range len).map F, rfl, ⟨by simp, ?_⟩, hlc, hcm, (fun h => by cases h), .inr ⟨_, _, congrArg Prod.fst hx, by simp; omega⟩⟩
    by_cases h0 : len = 0
    · exact .inl h0
    · right
      obtain ⟨b, off, spot⟩ := a
      have c0 := (World.cells?_some (hF 0 (by omega))).2.2 0 (by simp)
      simp only [Rwi.cells, List.getElem?_cons_zero] at c0
      have hspot : spot = none := by simpa [Addr.add] using World.cell?_spot c0
      subst hspot
      have hlt : b < w.heap.size := by
        rcases Nat.lt_or_ge b w.heap.size with h' | h'
        · exact h'
        · simp [World.cell?, Addr.add, h'] at c0
      refine ⟨b, off, rfl, hlt, fun i hi => ?_⟩
      have eF : rAt ((List.range len).map F) i = F i := by simp [rAt, hi]
      rw [eF]
      intro j v hv
      have hj : j < 3 := by
        rcases Nat.lt_or_ge j 3 with q | q
        · exact q
        · rw [List.getElem?_eq_none (by simpa [Rwi.cells] using q)] at hv; cases hv
      have q := (World.cells?_some (hF i (by omega))).2.2 j hj
      rw [hv] at q
      rw [add_plainI, add_plainI] at q
      exact q
end Go.Proofs.YtcdgfghcmeadgaaDoor
