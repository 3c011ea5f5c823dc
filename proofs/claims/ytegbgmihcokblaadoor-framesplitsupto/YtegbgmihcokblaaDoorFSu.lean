/-
  Steps of a splitter's life that came in. No condition of its own.
-/
import Derived.Test.YtegbgmihcokblaaDoorFFo
namespace Go.Proofs.YtegbgmihcokblaaDoor
set_option linter.unusedVariables false
open Go.RowKit Go.WideShapes Go.ChangeShapes

/-- A step, and where its bytes lie. -/
structure StM where
  ys : List Int
  u : Value
  en : Bool
  ak : Bool
structure StB (w : World) (f : StM) : Prop where
  sg : ∃ ua uc, f.u = .slice ua f.ys.length uc ∧ Seg .u8 w ua f.ys.length f.ys ∧ f.ys.length ≤ uc ∧ (ua = none → uc = 0)
  bt : Bytes f.ys
theorem StB.below {w w' : World} {f : StM} (h : StB w f) (hb : Below w.heap.size w w') : StB w' f := by
  obtain ⟨ua, uc, h1, h2, h3⟩ := h.sg
  exact ⟨⟨ua, uc, h1, h2.below hb, h3⟩, h.bt⟩
/-- Steps that can be read. -/
def Sts (w : World) (a : Option Addr) (n : Nat) (X : List StM) : Prop :=
  X.length = n ∧ (∀ f ∈ X, StB w f) ∧ (n = 0 ∨ ∃ b off, a = some ⟨b, off, none⟩ ∧ b < w.heap.size ∧ ∀ (k : Nat) (f : StM), X[k]? = some f → w.rangeAt b (off + k * 3) [f.u, .bool f.en, .bool f.ak])
theorem Sts.below {w w' : World} {a : Option Addr} {n : Nat} {X : List StM} (h : Sts w a n X) (hb : Below w.heap.size w w') : Sts w' a n X := by
  refine ⟨h.1, fun f hf => (h.2.1 f hf).below hb, ?_⟩
  rcases h.2.2 with z | ⟨b, off, e, hl, hr⟩
  · exact .inl z
  · exact .inr ⟨b, off, e, Nat.lt_of_lt_of_le hl hb.size, fun k f hf i v hv => by rw [hb.cell (p := ⟨b, off + k * 3 + i, none⟩) hl]; exact hr k f hf i v hv⟩
def stsW (X : List StM) : Nat := (X.map fun f => f.ys.length + 1).sum
theorem list3v {cs : List Value} {v b c : Value} (h : cs.length = 3) (h1 : (cs.drop 1).take 1 = [b]) (h2 : (cs.drop 2).take 1 = [c]) : ∃ u, cs = [u, b, c] ∧ (cs.drop 0).take 1 = [u] := by
  match cs, h with
  | [x, y, z], _ => simp at h1 h2; exact ⟨x, by rw [h1, h2], rfl⟩
theorem list3 {α : Type} {l : List α} {a b c : α} (h : l.length = 3) (h0 : l[0]? = some a) (h1 : l[1]? = some b) (h2 : l[2]? = some c) : l = [a, b, c] := by
  match l, h with
  | [x, y, z], _ => simp at h0 h1 h2; rw [h0, h1, h2]
theorem st_open {H : Type} {enc : TypeId × Value → H} {w : World} {fuel : Nat} {cs : List Value} {x : DataW H × List MemPlace}
    (h : DataW.trod enc Tryd.prog w 0 (fun _ => true) true fuel 30 cs = some x) : ∃ f : StM, cs = [f.u, .bool f.en, .bool f.ak] ∧ StB w f ∧ f.ys.length + 1 ≤ Rows.uptoBulk x.1 := by
  obtain ⟨xs, n, _, rfl, hlen, hxl, hf⟩ := DataW.trod_struct Tryd.underlying30 h
  have hxl2 : xs.length = 3 := hxl
  have get : ∀ i, i < 3 → ∃ y, xs[i]? = some y := fun i hi => ⟨_, List.getElem?_eq_getElem (by omega)⟩
  obtain ⟨y0, e0⟩ := get 0 (by omega)
  obtain ⟨y1, e1⟩ := get 1 (by omega)
  obtain ⟨y2, e2⟩ := get 2 (by omega)
  have f0 : DataW.trod enc Tryd.prog w 0 (fun _ => true) true n 28 ((cs.drop 0).take (Tryd.prog.cellsOf 28)) = some y0 := (hf 0 _ rfl).trans e0
  have f1 : DataW.trod enc Tryd.prog w 0 (fun _ => true) true n 4 ((cs.drop 1).take (Tryd.prog.cellsOf 4)) = some y1 := (hf 1 _ rfl).trans e1
  have f2 : DataW.trod enc Tryd.prog w 0 (fun _ => true) true n 4 ((cs.drop 2).take (Tryd.prog.cellsOf 4)) = some y2 := (hf 2 _ rfl).trans e2
  have z3 : Tryd.prog.cellsOf 4 = 1 := by kernel_rfl
  have z22 : Tryd.prog.cellsOf 28 = 1 := by kernel_rfl
  have z2 : Tryd.prog.cellsOf 30 = 3 := by kernel_rfl
  rw [z3] at f1 f2
  rw [z22] at f0
  rw [z2] at hlen
  have hxs : xs = [y0, y1, y2] := list3 hxl2 e0 e1 e2
  obtain ⟨en, c1, w1⟩ := DataW.trod_bool Tryd.underlying4 f1
  obtain ⟨ak, c2, w2⟩ := DataW.trod_bool Tryd.underlying4 f2
  obtain ⟨u, rfl, hu⟩ := list3v (v := .bool en) hlen c1 c2
  rw [hu] at f0
  rcases open_ints Tryd.underlying28 Tryd.underlying5 (by kernel_rfl) f0 with ⟨hn, hx⟩ | ⟨a, l, c, zs, hn, _, hl, hm, hz, hx, hcell, hwz⟩
  · have hu0 : u = .slice none 0 0 := by simpa using hn
    refine ⟨⟨[], u, en, ak⟩, rfl, ⟨⟨none, 0, hu0, ⟨rfl, .inl rfl⟩, Nat.le_refl _, fun _ => rfl⟩, fun i hi => absurd hi (by simp)⟩, ?_⟩
    simp [Rows.uptoBulk]
  · have hu0 : u = .slice (some a) l c := by simpa using hn
    simp only [if_true] at hz
    have hlz : (zs.take l).length = l := by simp; omega
    refine ⟨⟨zs.take l, u, en, ak⟩, rfl, ⟨⟨some a, c, ?_, ?_, ?_, fun h => by cases h⟩, bytes_of_mem (fun z hz' => wf_u8 (hwz z (List.mem_of_mem_take hz')))⟩, ?_⟩
    · rw [hu0]; show _ = Value.slice _ (zs.take l).length _; rw [hlz]
    · show Seg .u8 w _ (zs.take l).length (zs.take l)
      rw [hlz]
      exact seg_of_ints hl hz hcell
    · show (zs.take l).length ≤ c; omega
    · rw [hxs, hx]
      show (zs.take l).length + 1 ≤ _
      have h1 := bulkAll_len (H := H) (lits .u8 (zs.take l))
      have h2 : (lits (H := H) .u8 (zs.take l)).length = (zs.take l).length := by simp [lits]
      simp only [List.map_cons, List.map_nil, Rows.uptoBulk, Rows.uptoBulkAll]
      omega
theorem sts_bulk {H : Type} (D : Nat → DataW H) (F : Nat → StM) : ∀ l : List Nat, (∀ i ∈ l, (F i).ys.length + 1 ≤ Rows.uptoBulk (D i)) → stsW (l.map F) ≤ Rows.uptoBulkAll (l.map D)
  | [], _ => by simp [Rows.uptoBulkAll, stsW]
  | i :: l, hl => by
    have h1 := hl i (by simp)
    have h2 := sts_bulk D F l (fun j hj => hl j (by simp [hj]))
    unfold stsW at h2 ⊢
    simp only [List.map_cons, List.sum_cons, Rows.uptoBulkAll]
    omega
theorem sts_open {H : Type} {enc : TypeId × Value → H} {w : World} {v : Value} {d : DataW H} {p : List MemPlace} (sa : Option Addr) (sl sc : Nat) (hv : v = .slice sa sl sc)
    (h : DataW.Trod enc Tryd.prog w 0 (fun _ => true) true 22 v d p) (hd : Rows.uptoBulk d ≤ 1048576) : ∃ a n cap X, v = .slice a n cap ∧ Sts w a n X ∧ stsW X ≤ 1048576 := by
  obtain ⟨fuel, hf⟩ := h
  subst hv
  rcases Go.Deep.open_slice Tryd.underlying22 hf with ⟨hcs, hx⟩ | ⟨a, len, cap, m, n, D, Pl, hcs, _, hlc, hcm, hm, hx, hr⟩
  · simp [Value.cells] at hcs
    obtain ⟨rfl, rfl, rfl⟩ := hcs
    exact ⟨none, 0, 0, [], rfl, ⟨rfl, by simp, .inl rfl⟩, by simp [stsW]⟩
  · simp [Value.cells] at hcs
    obtain ⟨rfl, rfl, rfl⟩ := hcs
    have z2 : Tryd.prog.cellsOf 30 = 3 := by kernel_rfl
    simp only [if_true] at hm
    rw [hm] at hr hx
    have hop : ∀ i, i < sc → ∃ f : StM, StB w f ∧ f.ys.length + 1 ≤ Rows.uptoBulk (D i) ∧ w.cells? 0 (a.add (i * 3)) 3 = some [f.u, .bool f.en, .bool f.ak] := by
      intro i hi
      obtain ⟨cs', h1, h2⟩ := hr i hi
      rw [z2] at h1
      obtain ⟨o, rfl, ho, hw⟩ := st_open h2
      exact ⟨o, ho, hw, h1⟩
    have hne : Inhabited StM := ⟨⟨[], .int .i64 0, false, false⟩⟩
    obtain ⟨F, hF⟩ := Go.Deep.choose_lt hop
    have hd' : d = _ := congrArg Prod.fst hx
    refine ⟨some a, sl, sc, (List.range sl).map F, rfl, ⟨by simp, ?_, ?_⟩, ?_⟩
    · intro o ho
      obtain ⟨i, hi, rfl⟩ := List.mem_map.1 ho
      exact (hF i (by have := List.mem_range.1 hi; omega)).1
    · by_cases h0 : sl = 0
      · exact .inl h0
      · right
        obtain ⟨b, off, spot⟩ := a
        have c0 := (World.cells?_some (hF 0 (by omega)).2.2).2.2 0 (by omega)
        have hspot : spot = none := by simpa [Addr.add] using World.cell?_spot c0
        subst hspot
        refine ⟨b, off, rfl, by have := block_of_cell c0; simpa [Addr.add] using this, fun k f hkf i v hv => ?_⟩
        have hk : k < sl := by
          rcases Nat.lt_or_ge k sl with h | h
          · exact h
          · rw [List.getElem?_eq_none (by simpa using h)] at hkf; cases hkf
        have ho' : F k = f := by simpa [hk] using hkf
        have hi : i < 3 := by
          rcases Nat.lt_or_ge i 3 with h | h
          · exact h
          · rw [List.getElem?_eq_none (by simpa using h)] at hv; cases hv
        have := (World.cells?_some (hF k (by omega)).2.2).2.2 i hi
        rw [add_plain, add_plain, ho', hv] at this
        exact this
    · rw [hd'] at hd
      simp only [Rows.uptoBulk] at hd
      have := sts_bulk D F (List.range sl) (fun i hi => (hF i (by have := List.mem_range.1 hi; omega)).2.1)
      omega
end Go.Proofs.YtegbgmihcokblaaDoor
