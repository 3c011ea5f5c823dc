/-
  Lists of bytes that came in, with their room: what a call is told of them, and how many bytes they are together. No condition of its own.
-/
import Derived.Test.YtbfbehjldloeoaaDoorRows
import Derived.Test.YtbfbehjldloeoaaDoorParts
namespace Go.Proofs.YtbfbehjldloeoaaDoor
set_option linter.unusedVariables false
open Go.RowKit Go.WideShapes Go.ChangeShapes

/-- Pieces that can be read. -/
def Pcs (w : World) (a : Option Addr) (n : Nat) (X : List (List Int)) : Prop :=
  X.length = n ∧ (n = 0 ∨ ∃ b off, a = some ⟨b, off, none⟩ ∧ b < w.heap.size ∧ ∀ i, i < n → ∃ pa pl pc, w.cell? ⟨b, off + i, none⟩ = some (.slice pa pl pc) ∧ Seg .u8 w pa pl (X[i]?.getD []) ∧ Bytes (X[i]?.getD []) ∧ pl ≤ pc ∧ (pa = none → pc = 0))
theorem Pcs.below {w w' : World} {a : Option Addr} {n : Nat} {X : List (List Int)} (h : Pcs w a n X) (hb : Below w.heap.size w w') : Pcs w' a n X := by
  refine ⟨h.1, ?_⟩
  rcases h.2 with h0 | ⟨b, off, ha, hlt, hc⟩
  · exact .inl h0
  · have := hb.size
    refine .inr ⟨b, off, ha, by omega, fun i hi => ?_⟩
    obtain ⟨pa, pl, pc, h1, h2, h3⟩ := hc i hi
    exact ⟨pa, pl, pc, (hb.cell (p := ⟨b, off + i, none⟩) hlt).trans h1, h2.below hb, h3⟩
theorem pcs_open {H : Type} {enc : TypeId × Value → H} {w : World} {v : Value} {d : DataW H} {p : List MemPlace} (sa : Option Addr) (sl sc : Nat) (hv : v = .slice sa sl sc)
    (h : DataW.Trod enc Tryd.prog w 0 (fun _ => true) true 72 v d p) (hd : Rows.uptoBulk d ≤ 1048576) : ∃ a n cap X, v = .slice a n cap ∧ Pcs w a n X ∧ X.flatten.length + n ≤ 1048576 := by
  obtain ⟨fuel, hf⟩ := h
  subst hv
  rcases Deep.open_int_rows Tryd.underlying72 Tryd.underlying22 Tryd.underlying5 (by kernel_rfl) (by kernel_rfl) hf with ⟨hcs, _⟩ | ⟨a, len, cap, A, L, C, Z, hcs, _, hlc, hcm, hx, hr⟩
  · simp [Value.cells] at hcs
    obtain ⟨rfl, rfl, rfl⟩ := hcs
    exact ⟨none, 0, 0, [], rfl, ⟨rfl, .inl rfl⟩, by simp⟩
  · simp [Value.cells] at hcs
    obtain ⟨rfl, rfl, rfl⟩ := hcs
    have hd' : d = _ := congrArg Prod.fst hx
    have hrow : ∀ r, r < sl → (A r = none → L r = 0) ∧ L r ≤ (Z r).length := fun r hrl => by
      obtain ⟨_, h2, _, h4, _, h6, _⟩ := hr r (by omega)
      exact ⟨fun h => by have := h6 h; omega, by omega⟩
    have hbulk := bulk_rows (fun r => Deep.intRow (H := H) .u8 (A r) (L r) (Z r)) (fun r => (Z r).take (L r)) (List.range sl) (fun r hrm => bulk_row _ _ _ (hrow r (List.mem_range.1 hrm)).1 (hrow r (List.mem_range.1 hrm)).2)
    rw [hd'] at hd
    simp only [Rows.uptoBulk] at hd
    rw [List.length_range] at hbulk
    refine ⟨some a, sl, sc, (List.range sl).map (fun r => (Z r).take (L r)), rfl, ⟨by simp, ?_⟩, by omega⟩
    by_cases h0 : sl = 0
    · exact .inl h0
    · right
      obtain ⟨b, off, spot⟩ := a
      have c0 := (hr 0 (by omega)).1
      have hspot : spot = none := by simpa [Addr.add] using World.cell?_spot c0
      subst hspot
      refine ⟨b, off, rfl, ?_, fun i hi => ?_⟩
      · have := block_of_cell c0
        simpa [Addr.add] using this
      · obtain ⟨h1, h2, h3, h4, h5, h6, h7⟩ := hr i (by omega)
        rw [add_plain] at h1
        have hX : (((List.range sl).map fun r => (Z r).take (L r))[i]?).getD [] = (Z i).take (L i) := by
          simp [hi]
        rw [hX]
        refine ⟨A i, L i, C i, h1, ⟨by simp; omega, ?_⟩, bytes_of_mem (fun z hz => wf_u8 (h5 z (List.mem_of_mem_take hz))), h2, h6⟩
        by_cases hL : L i = 0
        · exact .inl hL
        · right
          cases hA : A i with
          | none => exact absurd (by have := h6 hA; omega) hL
          | some a' =>
            obtain ⟨_, h8⟩ := h7 a' hA
            obtain ⟨b', off', spot'⟩ := a'
            have d0 := h8 0 (by omega)
            have hs' : spot' = none := by simpa [Addr.add] using World.cell?_spot d0
            subst hs'
            refine ⟨b', off', rfl, by have := block_of_cell d0; simpa [Addr.add] using this, fun j hj => ?_⟩
            have := h8 j (by omega)
            rw [add_plain] at this
            rw [this, List.getElem?_take_of_lt hj]; simp
end Go.Proofs.YtbfbehjldloeoaaDoor
