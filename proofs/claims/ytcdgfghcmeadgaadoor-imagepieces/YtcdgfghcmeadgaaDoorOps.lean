/-
  Lists of calls that came in: what a law is told of them. No condition of its own.
-/
import Derived.Test.YtcdgfghcmeadgaaDoorRows
import Derived.Test.YtcdgfghcmeadgaaDoorFa
import Derived.Deep.Slices
import Derived.Deep.MidRow
import Derived.ProofKit
import Derived.OpenShut
import Derived.ChangeOld
namespace Go.Proofs.YtcdgfghcmeadgaaDoor
set_option linter.unusedVariables false
open Go.RowKit Go.WideShapes Go.ChangeShapes

/-- A call, as plain data. -/
structure OpD where
  call : Int
  v : Int
  n : Int
  most : Int
  s : ByteArray
  f : Bool
  ds : List Int
  key : ByteArray
  val : ByteArray
  ver : Int
def OpD.cells (o : OpD) : List Value := [.int .i64 o.call, .int .u64 o.v, .int .i64 o.n, .int .i64 o.most, .string o.s, .bool o.f] ++ (o.ds.map (Value.int .u8) ++ [.string o.key, .string o.val, .int .i64 o.ver])
def OpD.weight (o : OpD) : Nat := o.s.size + o.key.size + o.val.size + 8
structure OpD.Ok (o : OpD) : Prop where
  len : o.ds.length = 32
  bytes : Bytes o.ds
  call : (Lit.int .i64 o.call).wf = true
  v : (Lit.int .u64 o.v).wf = true
  n : (Lit.int .i64 o.n).wf = true
  most : (Lit.int .i64 o.most).wf = true
  ver : (Lit.int .i64 o.ver).wf = true
  s : o.s.size ≤ maxLen
  key : o.key.size ≤ maxLen
  val : o.val.size ≤ maxLen
theorem OpD.cells_length (o : OpD) (h : o.Ok) : o.cells.length = 41 := by simp [OpD.cells, h.len]

theorem take_one {cs : List Value} {k : Nat} {v : Value} (h : (cs.drop k).take 1 = [v]) : cs[k]? = some v := by
  have := congrArg (fun l => l[0]?) h
  simpa using this
theorem list41 {cs l : List Value} (hl : cs.length = 41) (hl2 : l.length = 41) (h : ∀ i, i < 41 → cs[i]? = l[i]?) : cs = l := by
  apply List.ext_getElem?
  intro i
  rcases Nat.lt_or_ge i 41 with hi | hi
  · exact h i hi
  · rw [List.getElem?_eq_none (by omega), List.getElem?_eq_none (by omega)]

theorem list3 {α : Type} {l : List α} {a b c : α} (h : l.length = 3) (h0 : l[0]? = some a) (h1 : l[1]? = some b) (h2 : l[2]? = some c) : l = [a, b, c] := by
  match l, h with
  | [x, y, z], _ => simp at h0 h1 h2; rw [h0, h1, h2]
theorem list8 {α : Type} {l : List α} {a b c d e f g i : α} (h : l.length = 8) (h0 : l[0]? = some a) (h1 : l[1]? = some b) (h2 : l[2]? = some c) (h3 : l[3]? = some d) (h4 : l[4]? = some e) (h5 : l[5]? = some f) (h6 : l[6]? = some g) (h7 : l[7]? = some i) : l = [a, b, c, d, e, f, g, i] := by
  match l, h with
  | [x0, x1, x2, x3, x4, x5, x6, x7], _ => simp at h0 h1 h2 h3 h4 h5 h6 h7; rw [h0, h1, h2, h3, h4, h5, h6, h7]

/-- What a law is told of a list of calls. -/
def Ops (w : World) (a : Option Addr) (n : Nat) (X : List OpD) : Prop :=
  X.length = n ∧ (∀ o ∈ X, o.Ok) ∧ (n = 0 ∨ ∃ b off, a = some ⟨b, off, none⟩ ∧ b < w.heap.size ∧ ∀ i o, X[i]? = some o → w.rangeAt b (off + i * 41) o.cells)
theorem Ops.at_ {w a n X} (h : Ops w a n X) (i : Nat) (hi : i < n) : ∃ b off o, a = some ⟨b, off, none⟩ ∧ b < w.heap.size ∧ X[i]? = some o ∧ o.Ok ∧ w.rangeAt b (off + i * 41) o.cells := by
  rcases h.2.2 with h0 | ⟨b, off, ha, hb, hr⟩
  · omega
  · have hx : i < X.length := by rw [h.1]; exact hi
    exact ⟨b, off, X[i], ha, hb, List.getElem?_eq_getElem hx, h.2.1 _ (List.getElem_mem hx), hr i _ (List.getElem?_eq_getElem hx)⟩
theorem Ops.below {w w' : World} {a : Option Addr} {n : Nat} {X : List OpD} (h : Ops w a n X) (hb : Below w.heap.size w w') : Ops w' a n X := by
  refine ⟨h.1, h.2.1, ?_⟩
  rcases h.2.2 with h0 | ⟨b, off, ha, hlt, hr⟩
  · exact .inl h0
  · have := hb.size
    exact .inr ⟨b, off, ha, by omega, fun i o ho j v hv => (hb.cell (p := ⟨b, off + i * 41 + j, none⟩) hlt).trans (hr i o ho j v hv)⟩
theorem block_of_cell {w : World} {a : Addr} {v : Value} (h : w.cell? a = some v) : a.block < w.heap.size := by
  rcases Nat.lt_or_ge a.block w.heap.size with h' | h'
  · exact h'
  · simp [World.cell?, h'] at h
def opsWeight (X : List OpD) : Nat := (X.map OpD.weight).sum
theorem sum_bulk {H : Type} (D : Nat → DataW H) (W : Nat → Nat) (h : ∀ i, W i ≤ Rows.uptoBulk (D i) ∨ True) : ∀ l : List Nat, (∀ i ∈ l, W i ≤ Rows.uptoBulk (D i)) → (l.map W).sum ≤ Rows.uptoBulkAll (l.map D)
  | [], _ => by simp [Rows.uptoBulkAll]
  | i :: l, hl => by
    have h1 := hl i (by simp)
    have h2 := sum_bulk D W h l (fun j hj => hl j (by simp [hj]))
    simp only [List.map_cons, List.sum_cons, Rows.uptoBulkAll]
    omega
def opd0 : OpD := ⟨0, 0, 0, 0, ByteArray.empty, false, [], ByteArray.empty, ByteArray.empty, 0⟩
end Go.Proofs.YtcdgfghcmeadgaaDoor
