/-
  Things that are done with a disk, one behind the other, as they came in: what a law is told of them. No condition of its own.
-/
import Derived.Test.YteoohgjoffpmkaaFa
namespace Go.Proofs.Yteoohgjoffpmkaa
set_option linter.unusedVariables false
open Go.RowKit Go.WideShapes Go.ChangeShapes

/-- How much of the input one of them is. -/
def Dop.weight (o : Dop) : Nat := 1 + o.s.size + o.t.size + o.d.size
def dopsW (X : List Dop) : Nat := (X.map Dop.weight).sum
theorem dopsW_mem {X : List Dop} {o : Dop} (h : o ∈ X) : o.weight ≤ dopsW X := by
  induction X with
  | nil => cases h
  | cons p X ih =>
    have e : dopsW (p :: X) = p.weight + dopsW X := by simp [dopsW]
    rcases List.mem_cons.1 h with rfl | h
    · omega
    · have := ih h; omega
theorem dopsW_len (X : List Dop) : X.length ≤ dopsW X := by
  induction X with
  | nil => simp
  | cons p X ih =>
    have e : dopsW (p :: X) = p.weight + dopsW X := by simp [dopsW]
    have : 1 ≤ p.weight := by unfold Dop.weight; omega
    simp only [List.length_cons]; omega
/-- What a law is told of a list of them. -/
def DOps (w : World) (a : Option Addr) (n : Nat) (X : List Dop) : Prop :=
  X.length = n ∧ (∀ o ∈ X, o.ok) ∧ (n = 0 ∨ ∃ b off, a = some ⟨b, off, none⟩ ∧ b < w.heap.size ∧ ∀ i o, X[i]? = some o → w.rangeAt b (off + i * 7) o.cells)
theorem DOps.at_ {w a n X} (h : DOps w a n X) (i : Nat) (hi : i < n) : ∃ b off o, a = some ⟨b, off, none⟩ ∧ b < w.heap.size ∧ X[i]? = some o ∧ w.rangeAt b (off + i * 7) o.cells := by
  rcases h.2.2 with h0 | ⟨b, off, ha, hb, hr⟩
  · omega
  · have hx : i < X.length := by rw [h.1]; exact hi
    exact ⟨b, off, X[i], ha, hb, List.getElem?_eq_getElem hx, hr i _ (List.getElem?_eq_getElem hx)⟩
theorem DOps.below {w w' : World} {a : Option Addr} {n : Nat} {X : List Dop} (h : DOps w a n X) (hb : Below w.heap.size w w') : DOps w' a n X := by
  refine ⟨h.1, h.2.1, ?_⟩
  rcases h.2.2 with h0 | ⟨b, off, ha, hlt, hr⟩
  · exact .inl h0
  · have := hb.size
    exact .inr ⟨b, off, ha, by omega, fun i o ho j v hv => (hb.cell (p := ⟨b, off + i * 7 + j, none⟩) hlt).trans (hr i o ho j v hv)⟩
theorem block_of_cellK {w : World} {a : Addr} {v : Value} (h : w.cell? a = some v) : a.block < w.heap.size := by
  rcases Nat.lt_or_ge a.block w.heap.size with h' | h'
  · exact h'
  · simp [World.cell?, h'] at h
theorem sum_bulkK {H : Type} (D : Nat → DataW H) (W : Nat → Nat) : ∀ l : List Nat, (∀ i ∈ l, W i ≤ Rows.uptoBulk (D i)) → (l.map W).sum ≤ Rows.uptoBulkAll (l.map D)
  | [], _ => by simp [Rows.uptoBulkAll]
  | i :: l, hl => by
    have h1 := hl i (by simp)
    have h2 := sum_bulkK D W l (fun j hj => hl j (by simp [hj]))
    simp only [List.map_cons, List.sum_cons, Rows.uptoBulkAll]
    omega
theorem bulk_one {H : Type} (d : DataW H) : 1 ≤ Rows.uptoBulk d := by
  cases d with
  | lit l => cases l <;> simp [Rows.uptoBulk]
  | _ => simp [Rows.uptoBulk]
def dop0 : Dop := ⟨0, .empty, .empty, .empty, 0, 0, 0⟩
theorem Dop.cells_length (o : Dop) : o.cells.length = 7 := rfl
theorem add_plainK (b o k : Nat) : (⟨b, o, none⟩ : Addr).add k = ⟨b, o + k, none⟩ := by simp [Addr.add]
theorem dops_open {H : Type} {enc : TypeId × Value → H} {w : World} {v : Value} {d : DataW H} {p : List MemPlace} (sa : Option Addr) (sl sc : Nat) (hv : v = .slice sa sl sc)
    (h : DataW.Trod enc Try.prog w 0 (fun _ => true) true 23 v d p) : ∃ a n cap X, v = .slice a n cap ∧ DOps w a n X ∧ n ≤ cap ∧ cap ≤ maxLen ∧ (a = none → cap = 0) ∧ dopsW X ≤ Rows.uptoBulk d := by
  obtain ⟨fuel, hf⟩ := h
  subst hv
  rcases Go.Deep.open_slice Try.underlying23 hf with ⟨hcs, hx⟩ | ⟨a, len, cap, m, n, D, Pl, hcs, _, hlc, hcm, hm, hx, hr⟩
  · simp [Value.cells] at hcs
    obtain ⟨rfl, rfl, rfl⟩ := hcs
    exact ⟨none, 0, 0, [], rfl, ⟨rfl, by simp, .inl rfl⟩, Nat.le_refl _, Nat.zero_le _, fun _ => rfl, by simp [dopsW]⟩
  · simp [Value.cells] at hcs
    obtain ⟨rfl, rfl, rfl⟩ := hcs
    have z7 : Try.prog.cellsOf 40 = 7 := by kernel_rfl
    simp only [if_true] at hm
    rw [hm] at hr hx
    have hop : ∀ i, i < sc → ∃ o : Dop, o.ok ∧ o.weight ≤ Rows.uptoBulk (D i) ∧ w.cells? 0 (a.add (i * 7)) 7 = some o.cells := by
      intro i hi
      obtain ⟨cs', h1, h2⟩ := hr i hi
      rw [z7] at h1
      obtain ⟨o, rfl, ho, a0, a4, b1, b2, hw⟩ := dop_open h2
      refine ⟨o, ho, ?_, h1⟩
      have e0 := bulk_one a0
      have hw' : D i = _ := hw
      rw [hw']
      simp only [Rows.uptoBulk, Rows.uptoBulkAll, Dop.weight, Array.length_toList]
      have e1 : o.s.data.size = o.s.size := rfl
      have e2 : o.t.data.size = o.t.size := rfl
      have e3 : o.d.data.size = o.d.size := rfl
      omega
    have hne : Inhabited Dop := ⟨dop0⟩
    obtain ⟨F, hF⟩ := Go.Deep.choose_lt hop
    have hd : d = _ := congrArg Prod.fst hx
    refine ⟨some a, sl, sc, (List.range sl).map F, rfl, ⟨by simp, ?_, ?_⟩, hlc, hcm, (fun h => by cases h), ?_⟩
    · intro o ho
      obtain ⟨i, hi, rfl⟩ := List.mem_map.1 ho
      exact (hF i (by have := List.mem_range.1 hi; omega)).1
    · by_cases h0 : sl = 0
      · exact .inl h0
      · right
        obtain ⟨b, off, spot⟩ := a
        have c0 := (World.cells?_some (hF 0 (by omega)).2.2).2.2 0 (by omega)
        have hlen := Dop.cells_length (F 0)
        rw [List.getElem?_eq_getElem (by omega)] at c0
        have hspot : spot = none := by simpa [Addr.add] using World.cell?_spot c0
        subst hspot
        refine ⟨b, off, rfl, by have := block_of_cellK c0; simpa [Addr.add] using this, fun i o ho => ?_⟩
        have hi : i < sl := by
          rcases Nat.lt_or_ge i sl with h | h
          · exact h
          · rw [List.getElem?_eq_none (by simpa using h)] at ho; cases ho
        have ho' : F i = o := by simpa [hi] using ho
        intro j v hv
        have hj : j < 7 := by
          have := (List.getElem?_eq_some_iff.1 hv).1
          rw [← ho', Dop.cells_length] at this
          exact this
        have := (World.cells?_some (hF i (by omega)).2.2).2.2 j hj
        rw [add_plainK, add_plainK, ho', hv] at this
        exact this
    · rw [hd]
      simp only [Rows.uptoBulk, dopsW, List.map_map]
      have := sum_bulkK D (Dop.weight ∘ F) (List.range sl) (fun i hi => (hF i (by have := List.mem_range.1 hi; omega)).2.1)
      omega
end Go.Proofs.Yteoohgjoffpmkaa
