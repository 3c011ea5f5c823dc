/-
  Lists of calls on tables that came in: what a law is told of them. No condition of its own.
-/
import Derived.Test.YtdmchcdkfbijlabTTr
import Derived.Deep.Slices
import Derived.Deep.MidRow
import Derived.ProofKit
import Derived.OpenShut
import Derived.ChangeOld
namespace Go.Proofs.Ytdmchcdkfbijlab
set_option linter.unusedVariables false
open Go.RowKit Go.WideShapes Go.ChangeShapes

/-- A call, as plain data. -/
structure OpT where
  call : Int
  tab : Int
  to : Int
  row : Rw
  key : ByteArray
  rfrom : ByteArray
  rto : ByteArray
  ra : Option Addr
  rl : Nat
  rc : Nat
  n : Int
def OpT.cells (o : OpT) : List Value := [.int .i64 o.call, .int .i64 o.tab, .int .i64 o.to, .string o.row.1, .string o.row.2.1, .int .i64 o.row.2.2, .string o.key, .string o.rfrom, .string o.rto, .slice o.ra o.rl o.rc, .int .i64 o.n]
theorem OpT.cells_length (o : OpT) : o.cells.length = 11 := rfl
theorem take_one {cs : List Value} {k : Nat} {v : Value} (h : (cs.drop k).take 1 = [v]) : cs[k]? = some v := by
  have := congrArg (fun l => l[0]?) h
  simpa using this
theorem list11 {cs l : List Value} (hl : cs.length = 11) (hl2 : l.length = 11) (h : ∀ i, i < 11 → cs[i]? = l[i]?) : cs = l := by
  apply List.ext_getElem?
  intro i
  rcases Nat.lt_or_ge i 11 with hi | hi
  · exact h i hi
  · rw [List.getElem?_eq_none (by omega), List.getElem?_eq_none (by omega)]
set_option maxRecDepth 20000 in
theorem op_open {H : Type} {enc : TypeId × Value → H} {w : World} {base fuel : Nat} {spare : Nat → Bool} {held : Bool} {cs : List Value} {x : DataW H × List MemPlace}
    (h : DataW.trod enc Try.prog w base spare held fuel 34 cs = some x) : ∃ o : OpT, cs = o.cells := by
  obtain ⟨xs, n, _, rfl, hlen, hxl, hf⟩ := DataW.trod_struct Try.underlying34 h
  have hxl8 : xs.length = 8 := hxl
  have get : ∀ i, i < 8 → ∃ y, xs[i]? = some y := fun i hi => ⟨_, List.getElem?_eq_getElem (by omega)⟩
  obtain ⟨y0, e0⟩ := get 0 (by omega)
  obtain ⟨y1, e1⟩ := get 1 (by omega)
  obtain ⟨y2, e2⟩ := get 2 (by omega)
  obtain ⟨y3, e3⟩ := get 3 (by omega)
  obtain ⟨y4, e4⟩ := get 4 (by omega)
  obtain ⟨y5, e5⟩ := get 5 (by omega)
  obtain ⟨y6, e6⟩ := get 6 (by omega)
  obtain ⟨y7, e7⟩ := get 7 (by omega)
  have f0 : DataW.trod enc Try.prog w base spare held n 3 ((cs.drop 0).take (Try.prog.cellsOf 3)) = some y0 := (hf 0 _ rfl).trans e0
  have f1 : DataW.trod enc Try.prog w base spare held n 3 ((cs.drop 1).take (Try.prog.cellsOf 3)) = some y1 := (hf 1 _ rfl).trans e1
  have f2 : DataW.trod enc Try.prog w base spare held n 3 ((cs.drop 2).take (Try.prog.cellsOf 3)) = some y2 := (hf 2 _ rfl).trans e2
  have f3 : DataW.trod enc Try.prog w base spare held n 28 ((cs.drop 3).take (Try.prog.cellsOf 28)) = some y3 := (hf 3 _ rfl).trans e3
  have f4 : DataW.trod enc Try.prog w base spare held n 9 ((cs.drop 6).take (Try.prog.cellsOf 9)) = some y4 := (hf 4 _ rfl).trans e4
  have f5 : DataW.trod enc Try.prog w base spare held n 31 ((cs.drop 7).take (Try.prog.cellsOf 31)) = some y5 := (hf 5 _ rfl).trans e5
  have f6 : DataW.trod enc Try.prog w base spare held n 32 ((cs.drop 9).take (Try.prog.cellsOf 32)) = some y6 := (hf 6 _ rfl).trans e6
  have f7 : DataW.trod enc Try.prog w base spare held n 3 ((cs.drop 10).take (Try.prog.cellsOf 3)) = some y7 := (hf 7 _ rfl).trans e7
  have z3 : Try.prog.cellsOf 3 = 1 := by kernel_rfl
  have z9 : Try.prog.cellsOf 9 = 1 := by kernel_rfl
  have zr : Try.prog.cellsOf 28 = 3 := by kernel_rfl
  have zg : Try.prog.cellsOf 31 = 2 := by kernel_rfl
  have zs : Try.prog.cellsOf 32 = 1 := by kernel_rfl
  have zo : Try.prog.cellsOf 34 = 11 := by kernel_rfl
  rw [z3] at f0 f1 f2 f7
  rw [zr] at f3
  rw [z9] at f4
  rw [zg] at f5
  rw [zs] at f6
  obtain ⟨call, c0, rfl, w0⟩ := DataW.trod_int Try.underlying3 f0
  obtain ⟨tab, c1, rfl, w1⟩ := DataW.trod_int Try.underlying3 f1
  obtain ⟨to, c2, rfl, w2⟩ := DataW.trod_int Try.underlying3 f2
  obtain ⟨key, c4, rfl, w4⟩ := DataW.trod_string Try.underlying9 f4
  obtain ⟨nn, c7, rfl, w7⟩ := DataW.trod_int Try.underlying3 f7
  obtain ⟨ra, rl, rc, c6⟩ : ∃ ra rl rc, (cs.drop 9).take 1 = [.slice ra rl rc] := by
    rcases Go.Deep.open_slice Try.underlying32 f6 with ⟨hcs, hx⟩ | ⟨a, len, cap, m, n, D, Pl, hcs, _⟩
    · exact ⟨_, _, _, hcs⟩
    · exact ⟨_, _, _, hcs⟩
  obtain ⟨xs3, m3, _, rfl, hl3, hx3, hf3⟩ := DataW.trod_struct Try.underlying28 f3
  have hx33 : xs3.length = 3 := hx3
  have get3 : ∀ i, i < 3 → ∃ y, xs3[i]? = some y := fun i hi => ⟨_, List.getElem?_eq_getElem (by omega)⟩
  obtain ⟨u0, g0⟩ := get3 0 (by omega)
  obtain ⟨u1, g1⟩ := get3 1 (by omega)
  obtain ⟨u2, g2⟩ := get3 2 (by omega)
  have k0 : DataW.trod enc Try.prog w base spare held m3 9 ((((cs.drop 3).take 3).drop 0).take (Try.prog.cellsOf 9)) = some u0 := (hf3 0 _ rfl).trans g0
  have k1 : DataW.trod enc Try.prog w base spare held m3 9 ((((cs.drop 3).take 3).drop 1).take (Try.prog.cellsOf 9)) = some u1 := (hf3 1 _ rfl).trans g1
  have k2 : DataW.trod enc Try.prog w base spare held m3 3 ((((cs.drop 3).take 3).drop 2).take (Try.prog.cellsOf 3)) = some u2 := (hf3 2 _ rfl).trans g2
  rw [z9] at k0 k1
  rw [z3] at k2
  obtain ⟨rk, d0, rfl, wk⟩ := DataW.trod_string Try.underlying9 k0
  obtain ⟨rv, d1, rfl, wv⟩ := DataW.trod_string Try.underlying9 k1
  obtain ⟨rn, d2, rfl, wr⟩ := DataW.trod_int Try.underlying3 k2
  obtain ⟨xs5, m5, _, rfl, hl5, hx5, hf5⟩ := DataW.trod_struct Try.underlying31 f5
  have hx52 : xs5.length = 2 := hx5
  have get5 : ∀ i, i < 2 → ∃ y, xs5[i]? = some y := fun i hi => ⟨_, List.getElem?_eq_getElem (by omega)⟩
  obtain ⟨v0, i0⟩ := get5 0 (by omega)
  obtain ⟨v1, i1⟩ := get5 1 (by omega)
  have j0 : DataW.trod enc Try.prog w base spare held m5 9 ((((cs.drop 7).take 2).drop 0).take (Try.prog.cellsOf 9)) = some v0 := (hf5 0 _ rfl).trans i0
  have j1 : DataW.trod enc Try.prog w base spare held m5 9 ((((cs.drop 7).take 2).drop 1).take (Try.prog.cellsOf 9)) = some v1 := (hf5 1 _ rfl).trans i1
  rw [z9] at j0 j1
  obtain ⟨gf, b0, rfl, wgf⟩ := DataW.trod_string Try.underlying9 j0
  obtain ⟨gt, b1, rfl, wgt⟩ := DataW.trod_string Try.underlying9 j1
  refine ⟨⟨call, tab, to, (rk, rv, rn), key, gf, gt, ra, rl, rc, nn⟩, ?_⟩
  apply list11 (hlen.trans zo) rfl
  have q0 := take_one c0
  have q1 := take_one c1
  have q2 := take_one c2
  have q4 := take_one c4
  have q6 := take_one c6
  have q7 := take_one c7
  have r0 := take_one d0
  have r1 := take_one d1
  have r2 := take_one d2
  have t0 := take_one b0
  have t1 := take_one b1
  rw [List.getElem?_take_of_lt (by omega), List.getElem?_drop] at r0 r1 r2 t0 t1
  intro i hi
  match i, hi with
  | 0, _ => exact q0
  | 1, _ => exact q1
  | 2, _ => exact q2
  | 3, _ => exact r0
  | 4, _ => exact r1
  | 5, _ => exact r2
  | 6, _ => exact q4
  | 7, _ => exact t0
  | 8, _ => exact t1
  | 9, _ => exact q6
  | 10, _ => exact q7

/-- What a law is told of a list of calls. -/
def TOps (w : World) (a : Option Addr) (n : Nat) (X : List OpT) : Prop :=
  X.length = n ∧ (n = 0 ∨ ∃ b off, a = some ⟨b, off, none⟩ ∧ b < w.heap.size ∧ ∀ i o, X[i]? = some o → w.rangeAt b (off + i * 11) o.cells)
theorem TOps.at_ {w a n X} (h : TOps w a n X) (i : Nat) (hi : i < n) : ∃ b off o, a = some ⟨b, off, none⟩ ∧ b < w.heap.size ∧ X[i]? = some o ∧ w.rangeAt b (off + i * 11) o.cells := by
  rcases h.2 with h0 | ⟨b, off, ha, hb, hr⟩
  · omega
  · have hx : i < X.length := by rw [h.1]; exact hi
    exact ⟨b, off, X[i], ha, hb, List.getElem?_eq_getElem hx, hr i _ (List.getElem?_eq_getElem hx)⟩
theorem TOps.below {w w' : World} {a : Option Addr} {n : Nat} {X : List OpT} (h : TOps w a n X) (hb : Below w.heap.size w w') : TOps w' a n X := by
  refine ⟨h.1, ?_⟩
  rcases h.2 with h0 | ⟨b, off, ha, hlt, hr⟩
  · exact .inl h0
  · have := hb.size
    exact .inr ⟨b, off, ha, by omega, fun i o ho j v hv => (hb.cell (p := ⟨b, off + i * 11 + j, none⟩) hlt).trans (hr i o ho j v hv)⟩
theorem block_of_cell {w : World} {a : Addr} {v : Value} (h : w.cell? a = some v) : a.block < w.heap.size := by
  rcases Nat.lt_or_ge a.block w.heap.size with h' | h'
  · exact h'
  · simp [World.cell?, h'] at h
theorem tops_open {H : Type} {enc : TypeId × Value → H} {w : World} {v : Value} {d : DataW H} {p : List MemPlace} (sa : Option Addr) (sl sc : Nat) (hv : v = .slice sa sl sc)
    (h : DataW.Trod enc Try.prog w 0 (fun _ => true) true 22 v d p) : ∃ a n cap X, v = .slice a n cap ∧ TOps w a n X ∧ n ≤ cap ∧ cap ≤ maxLen ∧ (a = none → cap = 0) := by
  obtain ⟨fuel, hf⟩ := h
  subst hv
  rcases Go.Deep.open_slice Try.underlying22 hf with ⟨hcs, hx⟩ | ⟨a, len, cap, m, n, D, Pl, hcs, _, hlc, hcm, hm, hx, hr⟩
  · simp [Value.cells] at hcs
    obtain ⟨rfl, rfl, rfl⟩ := hcs
    exact ⟨none, 0, 0, [], rfl, ⟨rfl, .inl rfl⟩, Nat.le_refl _, Nat.zero_le _, fun _ => rfl⟩
  · simp [Value.cells] at hcs
    obtain ⟨rfl, rfl, rfl⟩ := hcs
    have zo : Try.prog.cellsOf 34 = 11 := by kernel_rfl
    simp only [if_true] at hm
    rw [hm] at hr hx
    have hop : ∀ i, i < sc → ∃ cs : List Value, (∃ o : OpT, cs = o.cells) ∧ w.cells? 0 (a.add (i * 11)) 11 = some cs := by
      intro i hi
      obtain ⟨cs', h1, h2⟩ := hr i hi
      rw [zo] at h1
      exact ⟨cs', op_open h2, h1⟩
    have hop2 : ∀ i, i < sc → ∃ o : OpT, w.cells? 0 (a.add (i * 11)) 11 = some o.cells := by
      intro i hi
      obtain ⟨cs, ⟨o, rfl⟩, h1⟩ := hop i hi
      exact ⟨o, h1⟩
    have hex : ∃ F : Nat → OpT, ∀ i, i < sc → w.cells? 0 (a.add (i * 11)) 11 = some (F i).cells := by
      refine ⟨fun i => if h : i < sc then Classical.choose (hop2 i h) else ⟨0, 0, 0, (.empty, .empty, 0), .empty, .empty, .empty, none, 0, 0, 0⟩, fun i hi => ?_⟩
      simp only [hi, dif_pos]
      exact Classical.choose_spec (hop2 i hi)
    obtain ⟨F, hF⟩ := hex
    refine ⟨some a, sl, sc, (List.range sl).map F, rfl, ⟨by simp, ?_⟩, hlc, hcm, (fun h => by cases h)⟩
    by_cases h0 : sl = 0
    · exact .inl h0
    · right
      obtain ⟨b, off, spot⟩ := a
      have c0 := (World.cells?_some (hF 0 (by omega))).2.2 0 (by omega)
      have hlen := OpT.cells_length (F 0)
      rw [List.getElem?_eq_getElem (by omega)] at c0
      have hspot : spot = none := by simpa [Addr.add] using World.cell?_spot c0
      subst hspot
      refine ⟨b, off, rfl, by have := block_of_cell c0; simpa [Addr.add] using this, fun i o ho => ?_⟩
      have hi : i < sl := by
        rcases Nat.lt_or_ge i sl with h | h
        · exact h
        · rw [List.getElem?_eq_none (by simpa using h)] at ho; cases ho
      have ho' : F i = o := by simpa [hi] using ho
      intro j v hv
      have hj : j < 11 := by
        have := (List.getElem?_eq_some_iff.1 hv).1
        rw [OpT.cells_length] at this
        exact this
      have := (World.cells?_some (hF i (by omega))).2.2 j hj
      rw [add_plain, add_plain, ho', hv] at this
      exact this
end Go.Proofs.Ytdmchcdkfbijlab
