/-
  Lists of updates as rows of cells. No condition of its own.
-/
import Derived.Test.YtfbbaodhlniiiaaDUo
namespace Go.Proofs.Ytfbbaodhlniiiaa.Dl
open Go.RowKit
set_option linter.unusedVariables false
theorem take_more (X : List Upd) (k : Nat) (h : k < X.length) : X.take (k + 1) = X.take k ++ [upAt X k] := by
  rw [List.take_add_one]
  unfold upAt
  rw [List.getElem?_eq_getElem h]
  rfl
theorem fm : ∀ (X : List Upd) (j : Nat), (X.flatMap Upd.cells)[j]? = X[j / 7]?.bind (fun u => u.cells[j % 7]?)
  | [], j => by simp
  | u :: X, j => by
    rw [List.flatMap_cons]
    rcases Nat.lt_or_ge j 7 with h | h
    · rw [List.getElem?_append_left (by rw [Upd.cells_length]; exact h), show j / 7 = 0 by omega, show j % 7 = j by omega]
      simp
    · rw [List.getElem?_append_right (by rw [Upd.cells_length]; exact h), Upd.cells_length, fm X (j - 7), show j / 7 = (j - 7) / 7 + 1 by omega, show j % 7 = (j - 7) % 7 by omega]
      simp
theorem fm_len : ∀ (X : List Upd), (X.flatMap Upd.cells).length = X.length * 7
  | [] => by simp
  | u :: X => by rw [List.flatMap_cons, List.length_append, Upd.cells_length, fm_len X, List.length_cons]; omega
theorem fm_one (X : List Upd) : ∀ z ∈ X.flatMap Upd.cells, z.oneCell' = true := by
  intro z hz
  obtain ⟨u, _, hz⟩ := List.mem_flatMap.1 hz
  simp [Upd.cells] at hz
  rcases hz with rfl | rfl | rfl | rfl | rfl | rfl | rfl <;> rfl
theorem upds_news {w : World} {ad : Addr} {n : Nat} {X : List Upd} (h : Upds w (some ad) n X) : ∀ j u, (X.flatMap Upd.cells)[j]? = some u → w.cell? (ad.add j) = some u := by
  intro j v hv
  rw [fm] at hv
  cases hx : X[j / 7]? with
  | none => rw [hx] at hv; cases hv
  | some u =>
    rw [hx] at hv
    have hlt : j / 7 < n := by
      rw [← h.1]
      exact (List.getElem?_eq_some_iff.1 hx).1
    rcases h.2 with z | ⟨b, off, ha, hb, hc⟩
    · omega
    · cases ha
      have := hc (j / 7) hlt (j % 7) v (by unfold upAt; rw [hx]; exact hv)
      rw [add_plainD]
      have e : off + j / 7 * 7 + j % 7 = off + j := by omega
      rw [e] at this
      exact this
/-- What is owned can be read. -/
theorem own_row7 {w : World} {B : Nat} {T : TypeId} {g n cap : Nat} {X : List Upd} (h : w.ownsRow B T 7 (.slice (some ⟨g, 0, none⟩) n cap) n (X.flatMap Upd.cells)) (i : Nat) (u : Upd) (hi : X[i]? = some u) : w.rangeAt g (i * 7) u.cells := by
  intro j v hv
  have hj : j < 7 := (List.getElem?_eq_some_iff.1 hv).1
  have hk : (X.flatMap Upd.cells)[i * 7 + j]? = some v := by
    rw [fm, show (i * 7 + j) / 7 = i by omega, show (i * 7 + j) % 7 = j by omega, hi]
    exact hv
  rcases h.2 with ⟨q, _⟩ | ⟨g', cap', cur, q, hB, hg, hn, hm, hsz, htake⟩
  · cases q
  · cases q
    rw [cell_of_row w g _ _ _ _ hg]
    rw [← htake] at hk
    have hjl : i * 7 + j < n * 7 := by
      rcases Nat.lt_or_ge (i * 7 + j) (n * 7) with h | h
      · exact h
      · rw [List.getElem?_eq_none (by rw [List.length_take]; omega)] at hk; cases hk
    rw [List.getElem?_take_of_lt hjl] at hk
    simpa using hk
theorem own_upds {w : World} {B : Nat} {T : TypeId} {v : Value} {X : List Upd} (h : w.ownsRow B T 7 v X.length (X.flatMap Upd.cells)) : ∃ a cap, v = .slice a X.length cap ∧ Upds w a X.length X := by
  rcases h.2 with ⟨q, e⟩ | ⟨g, cap, cur, q, hB, hg, hn, hm, hsz, htake⟩
  · exact ⟨none, 0, by rw [q, e], rfl, .inl e⟩
  · subst q
    refine ⟨_, cap, rfl, rfl, .inr ⟨g, 0, rfl, lt_of_block hg, fun i hi => ?_⟩⟩
    have := own_row7 h i (upAt X i) (by unfold upAt; rw [List.getElem?_eq_getElem hi]; rfl)
    rw [Nat.zero_add]
    exact this
end Go.Proofs.Ytfbbaodhlniiiaa.Dl
