/-
  Lists of ranges that came in: their cells as ranges of texts. No condition of its own.
-/
import Derived.Test.YtdjcokepeifojaaNLq
import Derived.Deep.SlicePairs
import Derived.Lib.SmallJoins
namespace Go.Proofs.Ytdjcokepeifojaa
set_option linter.unusedVariables false
open Go.RowKit

theorem bulkLen {H : Type} (l : List (DataW H)) : l.length ≤ Rows.uptoBulkAll l := by
  induction l with
  | nil => simp
  | cons d r ih =>
    have : 1 ≤ Rows.uptoBulk d := by
      cases d with
      | lit x => cases x <;> simp [Rows.uptoBulk]
      | _ => simp [Rows.uptoBulk]
    simp only [Rows.uptoBulkAll, List.length_cons]; omega
def strV : Value → ByteArray
  | .string s => s
  | _ => .empty
theorem rgs_open {H : Type} {enc : TypeId × Value → H} {w : World} {v : Value} {d : DataW H} {p : List MemPlace} (sa : Option Addr) (sl sc : Nat) (hv : v = .slice sa sl sc)
    (h : DataW.Trod enc Try.prog w 0 (fun _ => true) true 24 v d p) : ∃ a n cap A, v = .slice a n cap ∧ Cells w a (flR A) ∧ A.length = n ∧ n ≤ cap ∧ cap ≤ maxLen ∧ (a = none → cap = 0) ∧ n ≤ Rows.uptoBulk d := by
  obtain ⟨fuel, hf⟩ := h
  subst hv
  rcases Go.Deep.open_slice_pairs Try.underlying24 Try.underlying39 (by kernel_rfl) rfl rfl (by kernel_rfl) (by kernel_rfl) hf with ⟨hcs, hx⟩ | ⟨a, len, cap, m, n, V0, V1, D0, D1, P0, P1, hcs, _, hlc, hcm, hm, hx, hr⟩
  · simp [Value.cells] at hcs
    obtain ⟨rfl, rfl, rfl⟩ := hcs
    exact ⟨none, 0, 0, [], rfl, .inl rfl, rfl, Nat.le_refl _, Nat.zero_le _, fun _ => rfl, Nat.zero_le _⟩
  · simp [Value.cells] at hcs
    obtain ⟨rfl, rfl, rfl⟩ := hcs
    simp only [if_true] at hm
    rw [hm] at hr hx
    have hd : d = _ := congrArg Prod.fst hx
    refine ⟨some a, sl, sc, (List.range sl).map fun i => (strV (V0 i), strV (V1 i)), rfl, ?_, by simp, hlc, hcm, (fun h => by cases h), ?_⟩
    · by_cases h0 : sl = 0
      · subst h0; exact .inl rfl
      · right
        obtain ⟨b, off, spot⟩ := a
        have c0 := (hr 0 (by omega)).1
        have hspot : spot = none := by simpa [Addr.add] using World.cell?_spot c0
        subst hspot
        rw [Go.WideShapes.add_plain] at c0
        refine ⟨b, off, rfl, ?_, fun j u hu => ?_⟩
        · rcases Nat.lt_or_ge b w.heap.size with h1 | h1
          · exact h1
          · simp [World.cell?, h1] at c0
        · have hj : j < sl * 2 := by
            rcases Nat.lt_or_ge j (sl * 2) with h1 | h1
            · exact h1
            · rw [List.getElem?_eq_none (by rw [flR_len]; simpa using h1)] at hu; cases hu
          have hi : j / 2 < sl := by omega
          obtain ⟨g0, g1, t0, t1⟩ := hr (j / 2) (by omega)
          rw [Go.WideShapes.add_plain] at g0 g1
          obtain ⟨s0, e0, _, _⟩ := DataW.trod_string Try.underlying9 t0
          obtain ⟨s1, e1, _, _⟩ := DataW.trod_string Try.underlying9 t1
          simp only [List.cons.injEq, and_true] at e0 e1
          have hat : ((List.range sl).map fun i => (strV (V0 i), strV (V1 i))).getD (j / 2) (.empty, .empty) = (s0, s1) := by
            simp [hi, e0, e1, strV]
          rcases (show j % 2 = 0 ∨ j % 2 = 1 by omega) with hp | hp
          · have e : j = j / 2 * 2 + 0 := by omega
            have h1 := flR_at ((List.range sl).map fun i => (strV (V0 i), strV (V1 i))) (j / 2) 0 (by simpa using hi) (by omega)
            rw [← e, hu, hat] at h1
            rw [Nat.add_zero] at e
            have h2 : u = .string s0 := by simpa [rC] using h1
            rw [h2, ← e0, ← g0, ← e]
          · have e : j = j / 2 * 2 + 1 := by omega
            have h1 := flR_at ((List.range sl).map fun i => (strV (V0 i), strV (V1 i))) (j / 2) 1 (by simpa using hi) (by omega)
            rw [← e, hu, hat] at h1
            have h2 : u = .string s1 := by simpa [rC] using h1
            rw [h2, ← e1, ← g1, ← e]
    · rw [hd]
      simp only [Rows.uptoBulk]
      have := bulkLen ((List.range sl).map fun i => (DataW.agg [D0 i, D1 i] : DataW H))
      simp only [List.length_map, List.length_range] at this
      omega
end Go.Proofs.Ytdjcokepeifojaa
