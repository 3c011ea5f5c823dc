/-
  Lists of calls that came in: what a law is told of them. No condition of its own.
-/
import Derived.Test.YtdedmmodlbnnfaaRows
import Derived.Test.YtdedmmodlbnnfaaRd
import Derived.Test.YtdedmmodlbnnfaaNum
import Derived.Deep.Slices
import Derived.Deep.MidRow
import Derived.ProofKit
import Derived.OpenShut
import Derived.ChangeOld
namespace Go.Proofs.Ytdedmmodlbnnfaa
set_option linter.unusedVariables false
open Go.RowKit Go.WideShapes Go.ChangeShapes

/-- A call, as plain data. -/
structure OpD where
  call : Int
  v : Int
  n : Int
  most : Int
  s : ByteArray
  f : Bool
  ds : List Int
  key : ByteArray
  val : ByteArray
  ver : Int
def OpD.cells (o : OpD) : List Value := [.int .i64 o.call, .int .u64 o.v, .int .i64 o.n, .int .i64 o.most, .string o.s, .bool o.f] ++ (o.ds.map (Value.int .u8) ++ [.string o.key, .string o.val, .int .i64 o.ver])
def OpD.weight (o : OpD) : Nat := o.s.size + o.key.size + o.val.size + 8
structure OpD.Ok (o : OpD) : Prop where
  len : o.ds.length = 32
  bytes : Bytes o.ds
  call : (Lit.int .i64 o.call).wf = true
  v : (Lit.int .u64 o.v).wf = true
  n : (Lit.int .i64 o.n).wf = true
  most : (Lit.int .i64 o.most).wf = true
  ver : (Lit.int .i64 o.ver).wf = true
  s : o.s.size ≤ maxLen
  key : o.key.size ≤ maxLen
  val : o.val.size ≤ maxLen
theorem OpD.cells_length (o : OpD) (h : o.Ok) : o.cells.length = 41 := by simp [OpD.cells, h.len]

theorem take_one {cs : List Value} {k : Nat} {v : Value} (h : (cs.drop k).take 1 = [v]) : cs[k]? = some v := by
  have := congrArg (fun l => l[0]?) h
  simpa using this
theorem list41 {cs l : List Value} (hl : cs.length = 41) (hl2 : l.length = 41) (h : ∀ i, i < 41 → cs[i]? = l[i]?) : cs = l := by
  apply List.ext_getElem?
  intro i
  rcases Nat.lt_or_ge i 41 with hi | hi
  · exact h i hi
  · rw [List.getElem?_eq_none (by omega), List.getElem?_eq_none (by omega)]

theorem list3 {α : Type} {l : List α} {a b c : α} (h : l.length = 3) (h0 : l[0]? = some a) (h1 : l[1]? = some b) (h2 : l[2]? = some c) : l = [a, b, c] := by
  match l, h with
  | [x, y, z], _ => simp at h0 h1 h2; rw [h0, h1, h2]
theorem list8 {α : Type} {l : List α} {a b c d e f g i : α} (h : l.length = 8) (h0 : l[0]? = some a) (h1 : l[1]? = some b) (h2 : l[2]? = some c) (h3 : l[3]? = some d) (h4 : l[4]? = some e) (h5 : l[5]? = some f) (h6 : l[6]? = some g) (h7 : l[7]? = some i) : l = [a, b, c, d, e, f, g, i] := by
  match l, h with
  | [x0, x1, x2, x3, x4, x5, x6, x7], _ => simp at h0 h1 h2 h3 h4 h5 h6 h7; rw [h0, h1, h2, h3, h4, h5, h6, h7]

set_option maxRecDepth 20000 in
theorem op_open {H : Type} {enc : TypeId × Value → H} {w : World} {base fuel : Nat} {spare : Nat → Bool} {held : Bool} {cs : List Value} {x : DataW H × List MemPlace}
    (h : DataW.trod enc Try.prog w base spare held fuel 39 cs = some x) : ∃ o : OpD, cs = o.cells ∧ o.Ok ∧ o.weight ≤ Rows.uptoBulk x.1 := by
  obtain ⟨xs, n, _, rfl, hlen, hxl, hf⟩ := DataW.trod_struct Try.underlying39 h
  have hxl8 : xs.length = 8 := hxl
  have get : ∀ i, i < 8 → ∃ y, xs[i]? = some y := fun i hi => ⟨_, List.getElem?_eq_getElem (by omega)⟩
  obtain ⟨y0, e0⟩ := get 0 (by omega)
  obtain ⟨y1, e1⟩ := get 1 (by omega)
  obtain ⟨y2, e2⟩ := get 2 (by omega)
  obtain ⟨y3, e3⟩ := get 3 (by omega)
  obtain ⟨y4, e4⟩ := get 4 (by omega)
  obtain ⟨y5, e5⟩ := get 5 (by omega)
  obtain ⟨y6, e6⟩ := get 6 (by omega)
  obtain ⟨y7, e7⟩ := get 7 (by omega)
  have f0 : DataW.trod enc Try.prog w base spare held n 3 ((cs.drop 0).take (Try.prog.cellsOf 3)) = some y0 := (hf 0 _ rfl).trans e0
  have f1 : DataW.trod enc Try.prog w base spare held n 34 ((cs.drop 1).take (Try.prog.cellsOf 34)) = some y1 := (hf 1 _ rfl).trans e1
  have f2 : DataW.trod enc Try.prog w base spare held n 3 ((cs.drop 2).take (Try.prog.cellsOf 3)) = some y2 := (hf 2 _ rfl).trans e2
  have f3 : DataW.trod enc Try.prog w base spare held n 3 ((cs.drop 3).take (Try.prog.cellsOf 3)) = some y3 := (hf 3 _ rfl).trans e3
  have f4 : DataW.trod enc Try.prog w base spare held n 9 ((cs.drop 4).take (Try.prog.cellsOf 9)) = some y4 := (hf 4 _ rfl).trans e4
  have f5 : DataW.trod enc Try.prog w base spare held n 4 ((cs.drop 5).take (Try.prog.cellsOf 4)) = some y5 := (hf 5 _ rfl).trans e5
  have f6 : DataW.trod enc Try.prog w base spare held n 35 ((cs.drop 6).take (Try.prog.cellsOf 35)) = some y6 := (hf 6 _ rfl).trans e6
  have f7 : DataW.trod enc Try.prog w base spare held n 37 ((cs.drop 38).take (Try.prog.cellsOf 37)) = some y7 := (hf 7 _ rfl).trans e7
  have z3 : Try.prog.cellsOf 3 = 1 := by kernel_rfl
  have z22 : Try.prog.cellsOf 34 = 1 := by kernel_rfl
  have z9 : Try.prog.cellsOf 9 = 1 := by kernel_rfl
  have z4 : Try.prog.cellsOf 4 = 1 := by kernel_rfl
  have z5 : Try.prog.cellsOf 5 = 1 := by kernel_rfl
  have z39 : Try.prog.cellsOf 35 = 32 := by kernel_rfl
  have z41 : Try.prog.cellsOf 37 = 3 := by kernel_rfl
  have z43 : Try.prog.cellsOf 39 = 41 := by kernel_rfl
  rw [z3] at f0 f2 f3
  rw [z22] at f1
  rw [z9] at f4
  rw [z4] at f5
  rw [z39] at f6
  rw [z41] at f7
  obtain ⟨call, c0, rfl, w0⟩ := DataW.trod_int Try.underlying3 f0
  obtain ⟨v, c1, rfl, w1⟩ := DataW.trod_int Try.underlying34 f1
  obtain ⟨n', c2, rfl, w2⟩ := DataW.trod_int Try.underlying3 f2
  obtain ⟨most, c3, rfl, w3⟩ := DataW.trod_int Try.underlying3 f3
  obtain ⟨s, c4, rfl, w4⟩ := DataW.trod_string Try.underlying9 f4
  obtain ⟨f, c5, rfl⟩ := DataW.trod_bool Try.underlying4 f5
  obtain ⟨xs6, m6, _, rfl, hl6, hx6, hf6⟩ := DataW.trod_array Try.underlying35 f6
  obtain ⟨xs7, m7, _, rfl, hl7, hx7, hf7⟩ := DataW.trod_struct Try.underlying37 f7
  have hx73 : xs7.length = 3 := hx7
  have get7 : ∀ i, i < 3 → ∃ y, xs7[i]? = some y := fun i hi => ⟨_, List.getElem?_eq_getElem (by omega)⟩
  obtain ⟨u0, g0⟩ := get7 0 (by omega)
  obtain ⟨u1, g1⟩ := get7 1 (by omega)
  obtain ⟨u2, g2⟩ := get7 2 (by omega)
  have k0 : DataW.trod enc Try.prog w base spare held m7 9 ((((cs.drop 38).take 3).drop 0).take (Try.prog.cellsOf 9)) = some u0 := (hf7 0 _ rfl).trans g0
  have k1 : DataW.trod enc Try.prog w base spare held m7 9 ((((cs.drop 38).take 3).drop 1).take (Try.prog.cellsOf 9)) = some u1 := (hf7 1 _ rfl).trans g1
  have k2 : DataW.trod enc Try.prog w base spare held m7 3 ((((cs.drop 38).take 3).drop 2).take (Try.prog.cellsOf 3)) = some u2 := (hf7 2 _ rfl).trans g2
  rw [z9] at k0 k1
  rw [z3] at k2
  obtain ⟨key, d0, rfl, wk⟩ := DataW.trod_string Try.underlying9 k0
  obtain ⟨val, d1, rfl, wv⟩ := DataW.trod_string Try.underlying9 k1
  obtain ⟨ver, d2, rfl, wr⟩ := DataW.trod_int Try.underlying3 k2
  have hby : ∀ i, i < 32 → ∃ z, cs[6 + i]? = some (.int .u8 z) ∧ (Lit.int .u8 z).wf = true := by
    intro i hi
    have hi6 : i < xs6.length := by rw [hx6]; exact hi
    have := (hf6 i hi).trans (List.getElem?_eq_getElem hi6)
    rw [z5] at this
    obtain ⟨z, cz, _, wz⟩ := DataW.trod_int Try.underlying5 this
    refine ⟨z, ?_, wz⟩
    have h1 := take_one cz
    rw [Nat.mul_one, List.getElem?_take_of_lt hi, List.getElem?_drop] at h1
    exact h1
  obtain ⟨Z, hZ⟩ := Go.Deep.choose_lt hby
  have hcl : cs.length = 41 := hlen.trans z43
  have hds : ((List.range 32).map Z).length = 32 := by simp
  have ho : OpD.Ok ⟨call, v, n', most, s, f, (List.range 32).map Z, key, val, ver⟩ := ⟨hds, fun i hi => by
    rw [hds] at hi
    have := wf_u8 (hZ i hi).2
    simp [hi]; exact this, w0, w1, w2, w3, wr, w4, wk, wv⟩
  refine ⟨⟨call, v, n', most, s, f, (List.range 32).map Z, key, val, ver⟩, ?_, ho, ?_⟩
  · apply list41 hcl (OpD.cells_length _ ho)
    have q0 := take_one c0
    have q1 := take_one c1
    have q2 := take_one c2
    have q3 := take_one c3
    have q4 := take_one c4
    have q5 := take_one c5
    have r0 := take_one d0
    have r1 := take_one d1
    have r2 := take_one d2
    rw [List.getElem?_take_of_lt (by omega), List.getElem?_drop] at r0 r1 r2
    intro i hi
    by_cases h6 : i < 6
    · match i, h6 with
      | 0, _ => exact q0
      | 1, _ => exact q1
      | 2, _ => exact q2
      | 3, _ => exact q3
      | 4, _ => exact q4
      | 5, _ => exact q5
    · by_cases h38 : i < 38
      · have := (hZ (i - 6) (by omega)).1
        rw [show 6 + (i - 6) = i from by omega] at this
        rw [this]
        simp only [OpD.cells]
        rw [List.getElem?_append_right (by simp; omega), List.getElem?_append_left (by simp; omega)]
        have h3 : i - 6 < 32 := by omega
        simp [h3]
      · simp only [OpD.cells]
        rw [List.getElem?_append_right (by simp; omega), List.getElem?_append_right (by simp; omega)]
        have h3 : i = 38 ∨ i = 39 ∨ i = 40 := by omega
        rcases h3 with rfl | rfl | rfl
        · rw [r0]; simp
        · rw [r1]; simp
        · rw [r2]; simp
  · have hx := list8 hxl8 e0 e1 e2 e3 e4 e5 e6 e7
    have hx7' := list3 hx73 g0 g1 g2
    rw [hx, hx7']
    simp only [List.map_cons, List.map_nil, Rows.uptoBulk, Rows.uptoBulkAll, OpD.weight]
    have a1 : s.data.toList.length = s.size := rfl
    have a2 : key.data.toList.length = key.size := rfl
    have a3 : val.data.toList.length = val.size := rfl
    omega

/-- What a law is told of a list of calls. -/
def Ops (w : World) (a : Option Addr) (n : Nat) (X : List OpD) : Prop :=
  X.length = n ∧ (∀ o ∈ X, o.Ok) ∧ (n = 0 ∨ ∃ b off, a = some ⟨b, off, none⟩ ∧ b < w.heap.size ∧ ∀ i o, X[i]? = some o → w.rangeAt b (off + i * 41) o.cells)
theorem Ops.at_ {w a n X} (h : Ops w a n X) (i : Nat) (hi : i < n) : ∃ b off o, a = some ⟨b, off, none⟩ ∧ b < w.heap.size ∧ X[i]? = some o ∧ o.Ok ∧ w.rangeAt b (off + i * 41) o.cells := by
  rcases h.2.2 with h0 | ⟨b, off, ha, hb, hr⟩
  · omega
  · have hx : i < X.length := by rw [h.1]; exact hi
    exact ⟨b, off, X[i], ha, hb, List.getElem?_eq_getElem hx, h.2.1 _ (List.getElem_mem hx), hr i _ (List.getElem?_eq_getElem hx)⟩
theorem Ops.below {w w' : World} {a : Option Addr} {n : Nat} {X : List OpD} (h : Ops w a n X) (hb : Below w.heap.size w w') : Ops w' a n X := by
  refine ⟨h.1, h.2.1, ?_⟩
  rcases h.2.2 with h0 | ⟨b, off, ha, hlt, hr⟩
  · exact .inl h0
  · have := hb.size
    exact .inr ⟨b, off, ha, by omega, fun i o ho j v hv => (hb.cell (p := ⟨b, off + i * 41 + j, none⟩) hlt).trans (hr i o ho j v hv)⟩
theorem block_of_cell {w : World} {a : Addr} {v : Value} (h : w.cell? a = some v) : a.block < w.heap.size := by
  rcases Nat.lt_or_ge a.block w.heap.size with h' | h'
  · exact h'
  · simp [World.cell?, h'] at h
def opsWeight (X : List OpD) : Nat := (X.map OpD.weight).sum
theorem sum_bulk {H : Type} (D : Nat → DataW H) (W : Nat → Nat) (h : ∀ i, W i ≤ Rows.uptoBulk (D i) ∨ True) : ∀ l : List Nat, (∀ i ∈ l, W i ≤ Rows.uptoBulk (D i)) → (l.map W).sum ≤ Rows.uptoBulkAll (l.map D)
  | [], _ => by simp [Rows.uptoBulkAll]
  | i :: l, hl => by
    have h1 := hl i (by simp)
    have h2 := sum_bulk D W h l (fun j hj => hl j (by simp [hj]))
    simp only [List.map_cons, List.sum_cons, Rows.uptoBulkAll]
    omega
def opd0 : OpD := ⟨0, 0, 0, 0, ByteArray.empty, false, [], ByteArray.empty, ByteArray.empty, 0⟩
theorem ops_open {H : Type} {enc : TypeId × Value → H} {w : World} {v : Value} {d : DataW H} {p : List MemPlace} (sa : Option Addr) (sl sc : Nat) (hv : v = .slice sa sl sc)
    (h : DataW.Trod enc Try.prog w 0 (fun _ => true) true 22 v d p) : ∃ a n cap X, v = .slice a n cap ∧ Ops w a n X ∧ n ≤ cap ∧ cap ≤ maxLen ∧ (a = none → cap = 0) ∧ opsWeight X ≤ Rows.uptoBulk d := by
  obtain ⟨fuel, hf⟩ := h
  subst hv
  rcases Go.Deep.open_slice Try.underlying22 hf with ⟨hcs, hx⟩ | ⟨a, len, cap, m, n, D, Pl, hcs, _, hlc, hcm, hm, hx, hr⟩
  · simp [Value.cells] at hcs
    obtain ⟨rfl, rfl, rfl⟩ := hcs
    exact ⟨none, 0, 0, [], rfl, ⟨rfl, by simp, .inl rfl⟩, Nat.le_refl _, Nat.zero_le _, fun _ => rfl, by simp [opsWeight]⟩
  · simp [Value.cells] at hcs
    obtain ⟨rfl, rfl, rfl⟩ := hcs
    have z43 : Try.prog.cellsOf 39 = 41 := by kernel_rfl
    simp only [if_true] at hm
    rw [hm] at hr hx
    have hop : ∀ i, i < sc → ∃ o : OpD, o.Ok ∧ o.weight ≤ Rows.uptoBulk (D i) ∧ w.cells? 0 (a.add (i * 41)) 41 = some o.cells := by
      intro i hi
      obtain ⟨cs', h1, h2⟩ := hr i hi
      rw [z43] at h1
      obtain ⟨o, rfl, ho, hw⟩ := op_open h2
      exact ⟨o, ho, hw, h1⟩
    have hne : Inhabited OpD := ⟨opd0⟩
    obtain ⟨F, hF⟩ := Go.Deep.choose_lt hop
    have hd : d = _ := congrArg Prod.fst hx
    refine ⟨some a, sl, sc, (List.range sl).map F, rfl, ⟨by simp, ?_, ?_⟩, hlc, hcm, (fun h => by cases h), ?_⟩
    · intro o ho
      obtain ⟨i, hi, rfl⟩ := List.mem_map.1 ho
      exact (hF i (by have := List.mem_range.1 hi; omega)).1
    · by_cases h0 : sl = 0
      · exact .inl h0
      · right
        obtain ⟨b, off, spot⟩ := a
        have c0 := (World.cells?_some (hF 0 (by omega)).2.2).2.2 0 (by omega)
        have hlen := OpD.cells_length _ (hF 0 (by omega)).1
        rw [List.getElem?_eq_getElem (by omega)] at c0
        have hspot : spot = none := by simpa [Addr.add] using World.cell?_spot c0
        subst hspot
        refine ⟨b, off, rfl, by have := block_of_cell c0; simpa [Addr.add] using this, fun i o ho => ?_⟩
        have hi : i < sl := by
          rcases Nat.lt_or_ge i sl with h | h
          · exact h
          · rw [List.getElem?_eq_none (by simpa using h)] at ho; cases ho
        have ho' : F i = o := by simpa [hi] using ho
        intro j v hv
        have hj : j < 41 := by
          have := (List.getElem?_eq_some_iff.1 hv).1
          rw [← ho', OpD.cells_length _ (hF i (by omega)).1] at this
          exact this
        have := (World.cells?_some (hF i (by omega)).2.2).2.2 j hj
        rw [add_plain, add_plain, ho', hv] at this
        exact this
    · rw [hd]
      simp only [Rows.uptoBulk, opsWeight, List.map_map]
      have := sum_bulk D (OpD.weight ∘ F) (fun _ => .inr trivial) (List.range sl) (fun i hi => (hF i (by have := List.mem_range.1 hi; omega)).2.1)
      omega
end Go.Proofs.Ytdedmmodlbnnfaa
