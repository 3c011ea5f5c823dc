/-
  Updates that came in: what a law is told of a list of them. No condition of its own.
-/
import Derived.Test.YtfbbaodhlniiiaaDSp
namespace Go.Proofs.Ytfbbaodhlniiiaa.Dl
set_option linter.unusedVariables false
open Go.RowKit Go.WideShapes Go.ChangeShapes

theorem add_plainD (b off k : Nat) : Addr.add ⟨b, off, none⟩ k = ⟨b, off + k, none⟩ := by simp [Addr.add]
theorem block_of_cellD {w : World} {a : Addr} {v : Value} (h : w.cell? a = some v) : a.block < w.heap.size := by
  rcases Nat.lt_or_ge a.block w.heap.size with h' | h'
  · exact h'
  · simp [World.cell?, h'] at h
theorem upAt_map (F : Nat → Upd) (n i : Nat) (hi : i < n) : upAt ((List.range n).map F) i = F i := by
  unfold upAt
  simp [hi]
set_option maxRecDepth 20000 in
theorem upds_open {H : Type} {enc : TypeId × Value → H} {w : World} {v : Value} {d : DataW H} {p : List MemPlace} (sa : Option Addr) (sl sc : Nat) (hv : v = .slice sa sl sc)
    (h : DataW.Trod enc Try.prog w 0 (fun _ => true) true 22 v d p) : ∃ a n cap X, v = .slice a n cap ∧ Upds w a n X ∧ (∀ i, i < n → (upAt X i).ok) ∧ n ≤ cap ∧ cap ≤ maxLen ∧ (a = none → cap = 0) := by
  obtain ⟨fuel, hf⟩ := h
  subst hv
  rcases Go.Deep.open_slice Try.underlying22 hf with ⟨hcs, hx⟩ | ⟨a, len, cap, m, n, D, Pl, hcs, _, hlc, hcm, hm, hx, hr⟩
  · simp [Value.cells] at hcs
    obtain ⟨rfl, rfl, rfl⟩ := hcs
    exact ⟨none, 0, 0, [], rfl, ⟨rfl, .inl rfl⟩, fun i hi => by omega, Nat.le_refl _, Nat.zero_le _, fun _ => rfl⟩
  · simp [Value.cells] at hcs
    obtain ⟨rfl, rfl, rfl⟩ := hcs
    have zo : Try.prog.cellsOf 27 = 7 := by kernel_rfl
    simp only [if_true] at hm
    rw [hm] at hr hx
    have hop2 : ∀ i, i < sc → ∃ o : Upd, w.cells? 0 (a.add (i * 7)) 7 = some o.cells ∧ o.ok := by
      intro i hi
      obtain ⟨cs', h1, h2⟩ := hr i hi
      rw [zo] at h1
      obtain ⟨o, e, ho⟩ := upd_open h2
      exact ⟨o, by rw [h1, e], ho⟩
    have hex : ∃ F : Nat → Upd, ∀ i, i < sc → w.cells? 0 (a.add (i * 7)) 7 = some (F i).cells ∧ (F i).ok := by
      refine ⟨fun i => if h : i < sc then Classical.choose (hop2 i h) else zUpd, fun i hi => ?_⟩
      simp only [hi, dif_pos]
      exact Classical.choose_spec (hop2 i hi)
    obtain ⟨F, hF⟩ := hex
    refine ⟨some a, sl, sc, (List.range sl).map F, rfl, ⟨by simp, ?_⟩, fun i hi => by rw [upAt_map F sl i hi]; exact (hF i (by omega)).2, hlc, hcm, (fun h => by cases h)⟩
    by_cases h0 : sl = 0
    · exact .inl h0
    · right
      obtain ⟨b, off, spot⟩ := a
      have c0 := (World.cells?_some (hF 0 (by omega)).1).2.2 0 (by omega)
      have hlen := Upd.cells_length (F 0)
      rw [List.getElem?_eq_getElem (by omega)] at c0
      have hspot : spot = none := by simpa [Addr.add] using World.cell?_spot c0
      subst hspot
      refine ⟨b, off, rfl, by have := block_of_cellD c0; simpa [Addr.add] using this, fun i hi => ?_⟩
      rw [upAt_map F sl i hi]
      intro j v hv
      have hj : j < 7 := by
        have := (List.getElem?_eq_some_iff.1 hv).1
        rw [Upd.cells_length] at this
        exact this
      have := (World.cells?_some (hF i (by omega)).1).2.2 j hj
      rw [add_plainD, add_plainD, hv] at this
      exact this
end Go.Proofs.Ytfbbaodhlniiiaa.Dl
