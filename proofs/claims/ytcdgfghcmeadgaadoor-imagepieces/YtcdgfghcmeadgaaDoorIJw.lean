/-
  What the document's word answers; rows of one's own: what is read of them, one more appended. No condition of its own.
-/
import Derived.Test.YtcdgfghcmeadgaaDoorIJp
import Derived.Deep.AppendLies
import Derived.Deep.RegionLaw
namespace Go.Proofs.YtcdgfghcmeadgaaDoor
open Go.RowKit
set_option linter.unusedVariables false

theorem jword_c (t : Cr.Wd) (w : World) :
    Calls Tryd.prog 36 #[.int .u32 (Cr.W t)] w fun e w' => ∃ g, e = .returned (.slice (some ⟨g, 0, none⟩) 4 4) ∧ Seg .u8 w' (some ⟨g, 0, none⟩) 4 (Cr.by4 t) ∧ w.grownBy w' none := by
  obtain ⟨V, hV⟩ : ∃ V : Int, V = Cr.W t := ⟨_, rfl⟩
  have h0 := Cr.W_nn t
  have h1 := Cr.W_lt t
  rw [← hV] at h0 h1 ⊢
  have HV : Hid (V = Cr.W t) := hV
  clear hV
  go_enter Tryd.func36, Tryd.ntmps36
  go_wp2
  go_ret
  refine ⟨_, rfl, ?_, gal _ _⟩
  have e := Cr.arr4_is t V HV.out
  unfold Cr.arr4 at e
  injection e with e
  have e2 : Cr.by4 t = [V % 256, V / 256 % 256, V / 65536 % 256, V / 16777216] := by
    have e3 := congrArg Array.toList e
    simp only [Cr.by4, List.map_cons, List.map_nil, List.cons.injEq, Value.int.injEq, true_and, and_true] at e3
    unfold Cr.by4
    rw [e3.1, e3.2.1, e3.2.2.1, e3.2.2.2]
  rw [e2]
  exact arr_seg w 5 _ _ _ _
/-- The cells of rows, one behind the other. -/
def flI (X : List Rwi) : List Value := X.flatMap Rwi.cells
theorem flI_len (X : List Rwi) : (flI X).length = X.length * 3 := by
  induction X with
  | nil => rfl
  | cons r l ih => unfold flI at *; rw [List.flatMap_cons, List.length_append, ih]; simp [Rwi.cells]; omega
theorem flI_get : ∀ (X : List Rwi) (i j : Nat), i < X.length → j < 3 → (flI X)[i * 3 + j]? = (rAt X i).cells[j]?
  | [], i, j, h, _ => by simp at h
  | r :: l, 0, j, _, hj => by
    unfold flI
    rw [List.flatMap_cons, Nat.zero_mul, Nat.zero_add, List.getElem?_append_left (by simpa [Rwi.cells] using hj)]
    rfl
  | r :: l, i + 1, j, h, hj => by
    unfold flI
    rw [List.flatMap_cons, List.getElem?_append_right (by simp [Rwi.cells]; omega)]
    have e : (i + 1) * 3 + j - r.cells.length = i * 3 + j := by simp [Rwi.cells]; omega
    rw [e]
    have := flI_get l i j (by simpa using h) hj
    unfold flI at this
    rw [this]
    rfl
theorem flI_one (X : List Rwi) : ∀ u ∈ flI X, u.oneCell' = true := by
  intro u hu
  unfold flI at hu
  obtain ⟨r, _, hr⟩ := List.mem_flatMap.1 hu
  simp [Rwi.cells] at hr
  rcases hr with rfl | rfl | rfl <;> rfl
theorem flI_snoc (X : List Rwi) (r : Rwi) : flI (X ++ [r]) = flI X ++ r.cells := by unfold flI; simp
theorem own_rwsI {B : Nat} {w : World} {v : Value} {X : List Rwi} (h : w.ownsRow B 48 3 v X.length (flI X)) : ∃ a cap, v = .slice a X.length cap ∧ Rws w a X.length X ∧ X.length ≤ cap ∧ cap ≤ maxLen ∧ (a = none → cap = 0) := by
  rcases h.2 with ⟨h1, h2⟩ | ⟨g, cap, cur, rfl, hB, hg, hn, hm, hsz, htake⟩
  · have hl : X.length = 0 := by have := flI_len X; rw [h2] at this; simp at this; omega
    exact ⟨none, 0, by rw [h1, hl], ⟨rfl, .inl hl⟩, by omega, Nat.zero_le _, fun _ => rfl⟩
  · refine ⟨_, cap, rfl, ⟨rfl, ?_⟩, hn, hm, fun e => by cases e⟩
    rcases Nat.eq_zero_or_pos X.length with z | z
    · exact .inl z
    · refine .inr ⟨g, 0, rfl, lt_of_block hg, fun i hi j u hu => ?_⟩
      have hj : j < 3 := by
        rcases Nat.lt_or_ge j 3 with q | q
        · exact q
        · rw [List.getElem?_eq_none (by simpa [Rwi.cells] using q)] at hu; cases hu
      rw [Nat.zero_add, h.cellAt (i * 3 + j) (by omega), flI_get X i j hi hj]
      exact hu
theorem infoRow40 : ∃ i, Tryd.prog.info? 48 = some i ∧ i.zero = some (.agg #[.string { data := #[] }, .string { data := #[] }, .int .i64 0]) ∧ i.size = 3 ∧ i.bytes = 40 := by
  have h := infoR3
  cases e : Tryd.prog.info? 48 with
  | none => rw [e] at h; cases h
  | some i =>
    rw [e] at h
    simp only [Option.map_some, Option.some.injEq, Prod.mk.injEq] at h
    exact ⟨i, rfl, h.1, h.2.1, h.2.2⟩
end Go.Proofs.YtcdgfghcmeadgaaDoor
