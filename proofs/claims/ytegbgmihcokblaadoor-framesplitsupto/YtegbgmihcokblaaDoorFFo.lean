/-
  Frames that came in: what a call is told of them. No condition of its own.
-/
import Derived.Test.YtegbgmihcokblaaDoorFa
import Derived.Test.YtegbgmihcokblaaDoorFAk
namespace Go.Proofs.YtegbgmihcokblaaDoor
set_option linter.unusedVariables false
open Go.RowKit Go.WideShapes Go.ChangeShapes

/-- A body that can be read. -/
structure FrB (w : World) (f : FrM) : Prop where
  sg : ∃ ua uc, f.u = .slice ua f.ys.length uc ∧ Seg .u8 w ua f.ys.length f.ys ∧ f.ys.length ≤ uc ∧ (ua = none → uc = 0)
  bt : Bytes f.ys
theorem FrB.below {w w' : World} {f : FrM} (h : FrB w f) (hb : Below w.heap.size w w') : FrB w' f := by
  obtain ⟨ua, uc, h1, h2, h3⟩ := h.sg
  exact ⟨⟨ua, uc, h1, h2.below hb, h3⟩, h.bt⟩
/-- Frames that can be read. -/
def Frs (w : World) (a : Option Addr) (n : Nat) (X : List FrM) : Prop :=
  X.length = n ∧ (∀ f ∈ X, FrB w f) ∧ (n = 0 ∨ ∃ b off, a = some ⟨b, off, none⟩ ∧ b < w.heap.size ∧ ∀ i v, (flF X)[i]? = some v → w.cell? ⟨b, off + i, none⟩ = some v)
def frsW (X : List FrM) : Nat := (X.map fun f => f.ys.length + 1).sum
theorem seg_of_ints {w : World} {a : Addr} {l c : Nat} {zs : List Int} (hl : l ≤ c) (hz : zs.length = c) (hc : ∀ i, i < zs.length → w.cell? (a.add i) = some (.int .u8 (zs.getD i 0))) : Seg .u8 w (some a) l (zs.take l) := by
  refine ⟨by simp; omega, ?_⟩
  by_cases h0 : l = 0
  · exact .inl h0
  · right
    obtain ⟨b, off, spot⟩ := a
    have d0 := hc 0 (by omega)
    have hs : spot = none := by simpa [Addr.add] using World.cell?_spot d0
    subst hs
    refine ⟨b, off, rfl, by have := block_of_cell d0; simpa [Addr.add] using this, fun j hj => ?_⟩
    have := hc j (by omega)
    rw [add_plain] at this
    rw [this, List.getElem?_take_of_lt hj]
    simp
theorem list2 {α : Type} {l : List α} {a b : α} (h : l.length = 2) (h0 : l[0]? = some a) (h1 : l[1]? = some b) : l = [a, b] := by
  match l, h with
  | [x, y], _ => simp at h0 h1; rw [h0, h1]
theorem list2v {cs : List Value} {v : Value} (h : cs.length = 2) (h0 : (cs.drop 0).take 1 = [v]) : ∃ u, cs = [v, u] ∧ (cs.drop 1).take 1 = [u] := by
  match cs, h with
  | [x, y], _ => simp at h0; exact ⟨y, by rw [h0], rfl⟩
theorem fr_open {H : Type} {enc : TypeId × Value → H} {w : World} {fuel : Nat} {cs : List Value} {x : DataW H × List MemPlace}
    (h : DataW.trod enc Tryd.prog w 0 (fun _ => true) true fuel 42 cs = some x) : ∃ f : FrM, cs = [.int .i64 f.t, f.u] ∧ FrB w f ∧ f.ys.length + 1 ≤ Rows.uptoBulk x.1 := by
  obtain ⟨xs, n, _, rfl, hlen, hxl, hf⟩ := DataW.trod_struct Tryd.underlying42 h
  have hxl2 : xs.length = 2 := hxl
  have get : ∀ i, i < 2 → ∃ y, xs[i]? = some y := fun i hi => ⟨_, List.getElem?_eq_getElem (by omega)⟩
  obtain ⟨y0, e0⟩ := get 0 (by omega)
  obtain ⟨y1, e1⟩ := get 1 (by omega)
  have f0 : DataW.trod enc Tryd.prog w 0 (fun _ => true) true n 3 ((cs.drop 0).take (Tryd.prog.cellsOf 3)) = some y0 := (hf 0 _ rfl).trans e0
  have f1 : DataW.trod enc Tryd.prog w 0 (fun _ => true) true n 28 ((cs.drop 1).take (Tryd.prog.cellsOf 28)) = some y1 := (hf 1 _ rfl).trans e1
  have z3 : Tryd.prog.cellsOf 3 = 1 := by kernel_rfl
  have z22 : Tryd.prog.cellsOf 28 = 1 := by kernel_rfl
  have z2 : Tryd.prog.cellsOf 42 = 2 := by kernel_rfl
  rw [z3] at f0
  rw [z22] at f1
  rw [z2] at hlen
  have hxs : xs = [y0, y1] := list2 hxl2 e0 e1
  obtain ⟨t, c0, rfl, w0⟩ := DataW.trod_int Tryd.underlying3 f0
  have hcs : ∃ u, cs = [.int .i64 t, u] ∧ (cs.drop 1).take 1 = [u] := list2v hlen c0
  obtain ⟨u, rfl, hu⟩ := hcs
  rw [hu] at f1
  rcases open_ints Tryd.underlying28 Tryd.underlying5 (by kernel_rfl) f1 with ⟨hn, hx⟩ | ⟨a, l, c, zs, hn, _, hl, hm, hz, hx, hcell, hwz⟩
  · have hu0 : u = .slice none 0 0 := by simpa using hn
    refine ⟨⟨t, [], u⟩, rfl, ⟨⟨none, 0, hu0, ⟨rfl, .inl rfl⟩, Nat.le_refl _, fun _ => rfl⟩, fun i hi => absurd hi (by simp)⟩, ?_⟩
    simp [Rows.uptoBulk]
  · have hu0 : u = .slice (some a) l c := by simpa using hn
    simp only [if_true] at hz
    have hlz : (zs.take l).length = l := by simp; omega
    refine ⟨⟨t, zs.take l, u⟩, rfl, ⟨⟨some a, c, ?_, ?_, ?_, fun h => by cases h⟩, bytes_of_mem (fun z hz' => wf_u8 (hwz z (List.mem_of_mem_take hz')))⟩, ?_⟩
    · rw [hu0]; show _ = Value.slice _ (zs.take l).length _; rw [hlz]
    · show Seg .u8 w _ (zs.take l).length (zs.take l)
      rw [hlz]
      exact seg_of_ints hl hz hcell
    · show (zs.take l).length ≤ c; omega
    · rw [hxs, hx]
      show (zs.take l).length + 1 ≤ _
      have h1 := bulkAll_len (H := H) (lits .u8 (zs.take l))
      have h2 : (lits (H := H) .u8 (zs.take l)).length = (zs.take l).length := by simp [lits]
      simp only [List.map_cons, List.map_nil, Rows.uptoBulk, Rows.uptoBulkAll]
      omega
theorem frs_bulk {H : Type} (D : Nat → DataW H) (F : Nat → FrM) : ∀ l : List Nat, (∀ i ∈ l, (F i).ys.length + 1 ≤ Rows.uptoBulk (D i)) → frsW (l.map F) ≤ Rows.uptoBulkAll (l.map D)
  | [], _ => by simp [Rows.uptoBulkAll, frsW]
  | i :: l, hl => by
    have h1 := hl i (by simp)
    have h2 := frs_bulk D F l (fun j hj => hl j (by simp [hj]))
    unfold frsW at h2 ⊢
    simp only [List.map_cons, List.sum_cons, Rows.uptoBulkAll]
    omega
theorem flF_len (L : List FrM) : (flF L).length = L.length * 2 := by
  induction L with
  | nil => rfl
  | cons f L ih => show ([Value.int .i64 f.t, f.u] ++ flF L).length = _; rw [List.length_append, ih]; simp; omega
theorem flF_cut (L : List FrM) (i : Nat) (v : Value) (h : (flF L)[i]? = some v) : ∃ f, L[i / 2]? = some f ∧ [Value.int .i64 f.t, f.u][i % 2]? = some v := by
  induction L generalizing i with
  | nil => simp [flF] at h
  | cons g L ih =>
    have e : flF (g :: L) = .int .i64 g.t :: g.u :: flF L := rfl
    rw [e] at h
    match i, h with
    | 0, h => exact ⟨g, rfl, h⟩
    | 1, h => exact ⟨g, rfl, h⟩
    | i + 2, h =>
      obtain ⟨f, h1, h2⟩ := ih i (by simpa using h)
      refine ⟨f, ?_, ?_⟩
      · rw [show (i + 2) / 2 = i / 2 + 1 from by omega]; simpa using h1
      · rw [show (i + 2) % 2 = i % 2 from by omega]; exact h2
theorem frs_open {H : Type} {enc : TypeId × Value → H} {w : World} {v : Value} {d : DataW H} {p : List MemPlace} (sa : Option Addr) (sl sc : Nat) (hv : v = .slice sa sl sc)
    (h : DataW.Trod enc Tryd.prog w 0 (fun _ => true) true 31 v d p) (hd : Rows.uptoBulk d ≤ 1048576) : ∃ a n cap X, v = .slice a n cap ∧ Frs w a n X ∧ frsW X ≤ 1048576 ∧ (a = none → cap = 0) := by
  obtain ⟨fuel, hf⟩ := h
  subst hv
  rcases Go.Deep.open_slice Tryd.underlying31 hf with ⟨hcs, hx⟩ | ⟨a, len, cap, m, n, D, Pl, hcs, _, hlc, hcm, hm, hx, hr⟩
  · simp [Value.cells] at hcs
    obtain ⟨rfl, rfl, rfl⟩ := hcs
    exact ⟨none, 0, 0, [], rfl, ⟨rfl, by simp, .inl rfl⟩, by simp [frsW], fun _ => rfl⟩
  · simp [Value.cells] at hcs
    obtain ⟨rfl, rfl, rfl⟩ := hcs
    have z2 : Tryd.prog.cellsOf 42 = 2 := by kernel_rfl
    simp only [if_true] at hm
    rw [hm] at hr hx
    have hop : ∀ i, i < sc → ∃ f : FrM, FrB w f ∧ f.ys.length + 1 ≤ Rows.uptoBulk (D i) ∧ w.cells? 0 (a.add (i * 2)) 2 = some [.int .i64 f.t, f.u] := by
      intro i hi
      obtain ⟨cs', h1, h2⟩ := hr i hi
      rw [z2] at h1
      obtain ⟨o, rfl, ho, hw⟩ := fr_open h2
      exact ⟨o, ho, hw, h1⟩
    have hne : Inhabited FrM := ⟨⟨0, [], .int .i64 0⟩⟩
    obtain ⟨F, hF⟩ := Go.Deep.choose_lt hop
    have hd' : d = _ := congrArg Prod.fst hx
    refine ⟨some a, sl, sc, (List.range sl).map F, rfl, ⟨by simp, ?_, ?_⟩, ?_, (fun h => by cases h)⟩
    · intro o ho
      obtain ⟨i, hi, rfl⟩ := List.mem_map.1 ho
      exact (hF i (by have := List.mem_range.1 hi; omega)).1
    · by_cases h0 : sl = 0
      · exact .inl h0
      · right
        obtain ⟨b, off, spot⟩ := a
        have c0 := (World.cells?_some (hF 0 (by omega)).2.2).2.2 0 (by omega)
        have hspot : spot = none := by simpa [Addr.add] using World.cell?_spot c0
        subst hspot
        refine ⟨b, off, rfl, by have := block_of_cell c0; simpa [Addr.add] using this, fun i v hv => ?_⟩
        obtain ⟨f, hf1, hf2⟩ := flF_cut _ i v hv
        have hi : i / 2 < sl := by
          rcases Nat.lt_or_ge (i / 2) sl with h | h
          · exact h
          · rw [List.getElem?_eq_none (by simpa using h)] at hf1; cases hf1
        have ho' : F (i / 2) = f := by simpa [hi] using hf1
        have := (World.cells?_some (hF (i / 2) (by omega)).2.2).2.2 (i % 2) (by omega)
        rw [add_plain, add_plain, ho', hf2] at this
        rw [show off + i = off + i / 2 * 2 + i % 2 from by omega]
        exact this
    · rw [hd'] at hd
      simp only [Rows.uptoBulk] at hd
      have := frs_bulk D F (List.range sl) (fun i hi => (hF i (by have := List.mem_range.1 hi; omega)).2.1)
      omega
end Go.Proofs.YtegbgmihcokblaaDoor
