/-
  Texts that came in: what a law is told of them. No condition of its own.
-/
import Derived.Test.YtfnfkcafjfhnlaaFa
import Derived.Test.YtfnfkcafjfhnlaaTxC
namespace Go.Proofs.Ytfnfkcafjfhnlaa
open Go.RowKit
set_option linter.unusedVariables false

theorem tsz_cons (x : ByteArray) (l : List ByteArray) : ∀ k, tsz (x :: l) (k + 1) = x.size + tsz l k
  | 0 => by simp [tsz, at']
  | k + 1 => by
    have := tsz_cons x l k
    show tsz (x :: l) (k + 1) + (at' (x :: l) (k + 1)).size = x.size + (tsz l k + (at' l k).size)
    rw [this]
    simp [at']
    omega
theorem tsz_bulk {H : Type} : ∀ (l : List ByteArray) (k : Nat), tsz l k + l.length ≤ Rows.uptoBulkAll (l.map fun s => (DataW.lit (.string s.data.toList) : DataW H))
  | [], k => by
    have : ∀ k, tsz [] k = 0 := fun k => by
      induction k with
      | zero => rfl
      | succ k ih => show tsz [] k + (at' [] k).size = 0; rw [ih]; simp [at']
    rw [this k]; simp
  | x :: l, 0 => by
    have := tsz_bulk (H := H) l 0
    simp only [List.map_cons, Rows.uptoBulkAll, Rows.uptoBulk, List.length_cons, tsz] at this ⊢
    omega
  | x :: l, k + 1 => by
    have := tsz_bulk (H := H) l k
    rw [tsz_cons]
    simp only [List.map_cons, Rows.uptoBulkAll, Rows.uptoBulk, List.length_cons] at this ⊢
    have e : x.data.toList.length = x.size := by simp
    omega
theorem texts_open {H : Type} {enc : TypeId × Value → H} {w : World} {v : Value} {d : DataW H} {p : List MemPlace} (sa : Option Addr) (sl sc : Nat) (hv : v = .slice sa sl sc)
    (h : DataW.Trod enc Try.prog w 0 (fun _ => true) true 68 v d p) : ∃ a n cap X, v = .slice a n cap ∧ StrS w a n X ∧ n ≤ cap ∧ cap ≤ maxLen ∧ (a = none → cap = 0) ∧ ∀ k, tsz X k + n ≤ Rows.uptoBulk d := by
  obtain ⟨fuel, hf⟩ := h
  subst hv
  rcases Go.Deep.open_strs Try.underlying68 Try.underlying9 (by kernel_rfl) hf with ⟨hcs, hx⟩ | ⟨a, len, cap, m, Sx, hcs, _, hlc, hcm, hm, hx, hr⟩
  · simp [Value.cells] at hcs
    obtain ⟨rfl, rfl, rfl⟩ := hcs
    refine ⟨none, 0, 0, [], rfl, ⟨rfl, .inl rfl⟩, Nat.le_refl _, Nat.zero_le _, fun _ => rfl, fun k => ?_⟩
    have := tsz_bulk (H := H) [] k
    simp [Rows.uptoBulkAll] at this ⊢
    omega
  · simp [Value.cells] at hcs
    obtain ⟨rfl, rfl, rfl⟩ := hcs
    simp only [if_true] at hm
    rw [hm] at hr hx
    have hd : d = _ := congrArg Prod.fst hx
    refine ⟨some a, sl, sc, (List.range sl).map Sx, rfl, ⟨by simp, ?_⟩, hlc, hcm, (fun h => by cases h), fun k => ?_⟩
    · by_cases h0 : sl = 0
      · exact .inl h0
      · right
        obtain ⟨b, off, spot⟩ := a
        have c0 := (hr 0 (by omega)).1
        have hspot : spot = none := by simpa [Addr.add] using World.cell?_spot c0
        subst hspot
        rw [Go.WideShapes.add_plain] at c0
        refine ⟨b, off, rfl, ?_, fun j hj => ?_⟩
        · rcases Nat.lt_or_ge b w.heap.size with h1 | h1
          · exact h1
          · simp [World.cell?, h1] at c0
        · have g0 := (hr j (by omega)).1
          rw [Go.WideShapes.add_plain] at g0
          rw [g0]
          simp [hj]
    · rw [hd]
      simp only [Rows.uptoBulk]
      have := tsz_bulk (H := H) ((List.range sl).map Sx) k
      simp only [List.length_map, List.length_range, List.map_map] at this
      have e : (List.map ((fun s => (DataW.lit (.string s.data.toList) : DataW H)) ∘ Sx) (List.range sl)) = List.map (fun i => DataW.lit (Lit.string (Sx i).data.toList)) (List.range sl) := rfl
      rw [e] at this
      omega
end Go.Proofs.Ytfnfkcafjfhnlaa
