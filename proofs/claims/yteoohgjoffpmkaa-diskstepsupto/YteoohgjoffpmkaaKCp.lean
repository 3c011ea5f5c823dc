/-
  What disk's copied answers: the same files in memory of their own. Condition: no file is longer than a disk.
-/
import Derived.Test.YteoohgjoffpmkaaKNs
import Derived.Maps.RangeRun
namespace Go.Proofs.Yteoohgjoffpmkaa
open Go.RowKit Go.ChangeMaps
set_option linter.unusedVariables false

theorem left_lt {es : Array MapEntry} {seen : Array Nat} {e : MapEntry} (he : e ∈ (leftOf es seen).toList) : (leftOf es (seen.push e.born)).size < (leftOf es seen).size := by
  have h2 : (leftOf es (seen.push e.born)).toList = (leftOf es seen).toList.filter (fun x => !(x.born == e.born)) := by
    unfold leftOf
    rw [Array.toList_filter, Array.toList_filter, List.filter_filter]
    apply List.filter_congr
    intro x _
    simp only [Array.contains_push]
    cases seen.contains x.born <;> cases (x.born == e.born) <;> simp
  have h3 : ((leftOf es seen).toList.filter (fun x => !(x.born == e.born))).length < (leftOf es seen).toList.length :=
    List.length_filter_lt_length_iff_exists.2 ⟨e, he, by simp⟩
  rw [← Array.length_toList, ← Array.length_toList, h2]
  exact h3
theorem heap_setBlock (w : World) (r k : Nat) (o : Obj) (hk : k ≠ r) : (setBlock w r o).heap[k]? = w.heap[k]? := by
  simp [setBlock, Ne.symm hk]
theorem below_setBlock {w0 w : World} {r : Nat} (hb : Below w0.heap.size w0 w) (o : Obj) (hr : w0.heap.size ≤ r) : Below w0.heap.size w0 (setBlock w r o) :=
  ⟨hb.os, hb.tape, hb.output, by simp only [setBlock, Array.size_setIfInBounds]; exact hb.size, fun k hk => (heap_setBlock w r k o (by omega)).trans (hb.block k hk)⟩
/-- How far copied has come. -/
def CpI (w : World) (b m R : Nat) (es : Array MapEntry) (c : Nat) (F : ByteArray → Option (List Int)) (seen : Array Nat) (wr : World) : Prop :=
  (∃ c0, wr.heap[R]? = some (.mapIter (some b) c seen c0) ∧ c ≤ c0) ∧ Below w.heap.size w wr ∧ ∃ V' F', Fl (fun k => w.heap.size ≤ k ∧ k < wr.heap.size ∧ k ≠ R) wr m V' F' ∧ (∀ s, F' s = none ∨ F' s = F s) ∧ ∀ x ∈ es.toList, seen.contains x.born = true → ∀ s, x.key = .string s → F' s = F s
theorem CpI.done {w b m R es c F seen wr V O} (h : CpI w b m R es c F seen wr) (hF : Fl O w b V F) (hV : ∀ s v, V s = some v ↔ ∃ x ∈ es.toList, x.key = .string s ∧ x.val = v) (h0 : (leftOf es seen).size = 0) : Below w.heap.size w wr ∧ ∃ V', Fl (fun k => w.heap.size ≤ k ∧ k < wr.heap.size) wr m V' F := by
  obtain ⟨_, hb, V', F', h1, h2, h3⟩ := h
  refine ⟨hb, V', ?_⟩
  have e : F' = F := by
    funext s
    cases hs : F s with
    | none => rcases h2 s with q | q; exact q; rw [q, hs]
    | some xs =>
      obtain ⟨v, hv, _⟩ := hF.value hs
      obtain ⟨x, hx, e1, _⟩ := (hV s v).1 hv
      have hsn : seen.contains x.born = true := by
        cases hq : seen.contains x.born with
        | true => rfl
        | false =>
          have hm : x ∈ (leftOf es seen).toList := by
            unfold leftOf
            rw [Array.toList_filter, List.mem_filter]
            exact ⟨hx, by show (!seen.contains x.born) = true; rw [hq]; rfl⟩
          rw [← Array.length_toList] at h0
          rw [List.length_eq_zero_iff.1 h0] at hm
          simp at hm
      rw [h3 x hx hsn s e1, hs]
  rw [← e]
  exact h1.weak (fun k hk => ⟨hk.1, hk.2.1⟩)
/-- One file is copied. -/
theorem CpI.step {w b m R es c F seen wr V O w1 wn x1 x2} {e : MapEntry} {s : ByteArray} {xs : List Int} {a' : Option Addr} {c' : Nat} (h : CpI w b m R es c F seen wr) (hF : Fl O w b V F) (hs : MapKept.Stamped es c) (he : e ∈ (leftOf es seen).toList) (hk : e.key = .string s) (hfs : F s = some xs) (hm : m ≠ R) (hR : w.heap.size ≤ R ∧ R < wr.heap.size) (hml : w.heap.size ≤ m)
    (hw1 : w1 = wr ∨ w1 = wr.drew) (hwn : wn = setBlock w1 R (.mapIter (some b) c (seen.push e.born) c)) (hc : Own wn.heap.size x1 (.slice a' xs.length c') xs.length xs ∧ Below wn.heap.size wn x1) (hx : Bytes xs) (hu : ∀ V' : ByteArray → Option Value, MpS x1 m V' → MpS x2 m (fset V' s (some (.slice a' xs.length c')))) (hg : Gr (fun k => k = m) x1 x2) (hz : x2.heap.size = x1.heap.size) : CpI w b m R es c F (seen.push e.born) x2 := by
  obtain ⟨⟨c0, r1, r2⟩, hb, V', F', h1, h2, h3⟩ := h
  have hh : w1.heap = wr.heap := by rcases hw1 with q | q <;> rw [q] <;> rfl
  have hsz : wn.heap.size = wr.heap.size := by rw [hwn]; simp only [setBlock, Array.size_setIfInBounds, hh]
  have hgn : Gr (fun k => k = R) wr wn := by
    rw [hwn]
    have h9 : w1.os = wr.os ∧ w1.tape = wr.tape ∧ w1.output = wr.output := by rcases hw1 with q | q <;> rw [q] <;> exact ⟨rfl, rfl, rfl⟩
    exact ⟨h9.1, h9.2.1, h9.2.2, by simp only [setBlock, Array.size_setIfInBounds, hh]; exact Nat.le_refl _, fun k _ hn => (heap_setBlock w1 R k _ hn).trans (by rw [hh])⟩
  have hRn : wn.heap[R]? = some (.mapIter (some b) c (seen.push e.born) c) := by
    rw [hwn]
    have : R < w1.heap.size := by rw [hh]; exact hR.2
    simp [setBlock, this]
  have f1 := h1.gr hgn (fun k hk => hk.2.2)
  have hb1 := hc.2
  have f2 := f1.gr (G := fun _ => False) (Gr.ofB hb1) (fun _ _ z => z)
  have hsz1 := hb1.size
  have hal := own_lt hc.1
  have hlt2 : R < wn.heap.size := by omega
  refine ⟨⟨c, ?_, Nat.le_refl _⟩, ?_, _, _, f2.put (fun k hk => ⟨hk.1, by omega, hk.2.2⟩) s (.slice a' xs.length c') xs (hu V' f2.mp) (own_gr (own_base0 hc.1) hg (fun k hk e2 => by have := hal k hk; have := f1.mp.lt; omega)) hx (fun t u ys ht hq ho => own_gr ho hg (fun k hk => (f2.ov t u k hq hk).2)) (fun k hk => ⟨⟨by have := hal k hk; omega, by have := hal k hk; omega, by have := hal k hk; omega⟩, by have := hal k hk; have := f1.mp.lt; omega, fun t u ht hq hk2 => by
    obtain ⟨ys, _, q3, _⟩ := f1.is t u hq
    have := (own_lt q3 k hk2).2
    have := hal k hk
    omega⟩), ?_, ?_⟩
  · rw [hg.block R (by omega) (fun e => hm e.symm), hb1.block R hlt2]
    exact hRn
  · have q1 : Below w.heap.size w wn := hb.trans ⟨hgn.os, hgn.tape, hgn.output, hgn.size, fun k hk => hgn.block k (Nat.lt_of_lt_of_le hk hb.size) (by omega)⟩
    have q2 : Below w.heap.size w x1 := q1.trans ⟨hb1.os, hb1.tape, hb1.output, hb1.size, fun k hk => hb1.block k (by have := q1.size; omega)⟩
    exact q2.trans ⟨hg.os, hg.tape, hg.output, hg.size, fun k hk => hg.block k (Nat.lt_of_lt_of_le hk q2.size) (by omega)⟩
  · intro t
    by_cases ht : t = s
    · subst ht
      rw [fset_same]
      exact .inr hfs.symm
    · rw [fset_other _ _ _ _ ht]
      exact h2 t
  · intro x hx2 hsn t ht
    by_cases hts : t = s
    · subst hts
      rw [fset_same]
      exact hfs.symm
    · rw [fset_other _ _ _ _ hts]
      refine h3 x hx2 ?_ t ht
      rw [Array.contains_push] at hsn
      cases hq : seen.contains x.born with
      | true => rfl
      | false =>
        exfalso
        rw [hq] at hsn
        have hbn : x.born = e.born := by simpa using hsn
        have he2 : e ∈ es.toList := by
          unfold leftOf at he
          rw [Array.toList_filter, List.mem_filter] at he
          exact he.1
        obtain ⟨i, hi⟩ := List.mem_iff_getElem?.1 hx2
        obtain ⟨j, hj⟩ := List.mem_iff_getElem?.1 he2
        have hij : i = j := nodup_get (a := e.born) hs.2.1 (by rw [List.getElem?_map, hi]; exact congrArg some hbn) (by rw [List.getElem?_map, hj]; rfl)
        subst hij
        rw [hi] at hj
        cases hj
        rw [hk] at ht
        exact hts (Value.string.inj ht).symm
end Go.Proofs.Yteoohgjoffpmkaa
