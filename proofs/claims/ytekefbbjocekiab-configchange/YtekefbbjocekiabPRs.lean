/-
  A pack Reader in memory, as plain data: its bytes, its first error, its place. What Err, ready, over, Clone, NewReader and named answer. Condition: the slice can be read, and its length is one that a machine has.
-/
import Derived.Test.YtekefbbjocekiabPTr
import Derived.OwnWalk
import Derived.Laws.AppendOwnNone
import Derived.BigQuiet
import Derived.Deep.QuietTactic
namespace Go.Proofs.Ytekefbbjocekiab
open Go.RowKit
set_option linter.unusedVariables false

theorem bytes_drop {xs : List Int} (h : Bytes xs) (k : Nat) : Bytes (xs.drop k) := fun i hi => by
  have := h (k + i) (by simp at hi; omega)
  rw [List.getElem?_drop]; exact this
theorem bytes_take {xs : List Int} (h : Bytes xs) (k : Nat) : Bytes (xs.take k) := fun i hi => by
  simp only [List.length_take] at hi
  rw [List.getElem?_take_of_lt (by omega)]
  exact h i (by omega)

/-- A Reader's block. -/
def Rdr (w : World) (g : Nat) (e : Int) (v : Value) (p : Int) : Prop := w.heap[g]? = some (.cells #[.int .i64 e, .bool true, v, .int .i64 p] 87 (0, 0))
theorem Rdr.c0 {w g e v p} (h : Rdr w g e v p) : w.cell? ⟨g, 0, none⟩ = some (.int .i64 e) := by rw [cell_of_row w g 0 _ _ _ h]; rfl
theorem Rdr.c1 {w g e v p} (h : Rdr w g e v p) : w.cell? ⟨g, 1, none⟩ = some (.bool true) := by rw [cell_of_row w g 1 _ _ _ h]; rfl
theorem Rdr.c2 {w g e v p} (h : Rdr w g e v p) : w.cell? ⟨g, 2, none⟩ = some v := by rw [cell_of_row w g 2 _ _ _ h]; rfl
theorem Rdr.c3 {w g e v p} (h : Rdr w g e v p) : w.cell? ⟨g, 3, none⟩ = some (.int .i64 p) := by rw [cell_of_row w g 3 _ _ _ h]; rfl
theorem Rdr.free {w g e v p} (h : Rdr w g e v p) (i : Nat) : w.frozen? ⟨g, i, none⟩ = false := frozen_of_row w g i _ _ h
theorem Rdr.setE {w g e v p} (h : Rdr w g e v p) (x : Int) : Rdr (w.setCell ⟨g, 0, none⟩ (.int .i64 x)) g x v p := by
  unfold Rdr; rw [heap_setCell_same w g 0 _ _ _ h]; rfl
theorem Rdr.setP {w g e v p} (h : Rdr w g e v p) (x : Int) : Rdr (w.setCell ⟨g, 3, none⟩ (.int .i64 x)) g e v x := by
  unfold Rdr; rw [heap_setCell_same w g 3 _ _ _ h]; rfl

theorem grownBy_cell (w : World) (g i : Nat) (v : Value) : w.grownBy (w.setCell ⟨g, i, none⟩ v) (some g) :=
  ⟨rfl, rfl, rfl, by simp [World.setCell], fun k _ hk => Below.heap_setCell _ _ _ _ (fun e => hk (by rw [e]))⟩
theorem gb_trans {a b c : World} {row : Option Nat} (h : a.grownBy b row) (k : b.grownBy c row) : a.grownBy c row :=
  ⟨k.os.trans h.os, k.tape.trans h.tape, k.output.trans h.output, Nat.le_trans h.size k.size, fun i hi hn => (k.block i (Nat.lt_of_lt_of_le hi h.size) hn).trans (h.block i hi hn)⟩
theorem gb_wide {a b : World} (h : a.grownBy b none) (row : Option Nat) : a.grownBy b row :=
  ⟨h.os, h.tape, h.output, h.size, fun i hi _ => h.block i hi (by simp)⟩
theorem grownBy_below {a b : World} (h : Below a.heap.size a b) (row : Option Nat) : a.grownBy b row :=
  ⟨h.os, h.tape, h.output, h.size, fun i hi _ => h.block i hi⟩
theorem gb_drewN {a b : World} {row : Option Nat} (h : a.grownBy b row) (n : Nat) : a.grownBy (b.drewN n) row :=
  gb_trans h (grownBy_below (below_drewN (Below.refl _ _) n) row)

theorem heap_new (w : World) (o : Obj) : (w.alloc o).heap[w.heap.size]? = some o := by
  show (w.heap.push o)[w.heap.size]? = _
  simp

theorem seg_from {w : World} {a : Option Addr} {len : Nat} {xs : List Int} (h : Seg .u8 w a len xs) (k : Nat) : Seg .u8 w (Option.map (fun x => x.add k) a) (len - k) (xs.drop k) := by
  refine ⟨by simp [h.1], ?_⟩
  rcases h.2 with h0 | ⟨b, off, rfl, hb, hc⟩
  · exact .inl (by omega)
  · rcases Nat.lt_or_ge k len with hk | hk
    · refine .inr ⟨b, off + k, ?_, hb, fun i hi => by rw [Nat.add_assoc, hc (k + i) (by omega), List.getElem?_drop]⟩
      rw [← Go.WideShapes.add_plain]; rfl
    · exact .inl (by omega)

/-- The bytes do not lie in block g. -/
def Off (a : Option Addr) (g : Nat) : Prop := ∀ b o s, a = some ⟨b, o, s⟩ → b ≠ g
theorem Seg.grew {k : IntKind} {w w' : World} {a : Option Addr} {len : Nat} {xs : List Int} {row : Option Nat} (h : Seg k w a len xs) (hg : w.grownBy w' row) (hne : ∀ g, row = some g → Off a g) : Seg k w' a len xs := by
  refine ⟨h.1, ?_⟩
  rcases h.2 with h0 | ⟨b, off, ha, hw, hc⟩
  · exact .inl h0
  · exact .inr ⟨b, off, ha, Nat.lt_of_lt_of_le hw hg.size, fun i hi => (World.cell?_of_block (w := w) (w' := w') (a := ⟨b, off + i, none⟩) (hg.block b hw (fun e => hne b e.symm _ _ _ ha rfl))).trans (hc i hi)⟩

/-- A Reader as plain data. -/
structure RS (w : World) (g : Nat) (a : Option Addr) (len cap : Nat) (xs : List Int) (e : Int) (p : Nat) : Prop where
  rdr : Rdr w g e (.slice a len cap) p
  seg : Seg .u8 w a len xs
  bytes : Bytes xs
  off : Off a g
  le : p ≤ len
  lc : len ≤ cap
  lm : len ≤ 140737488355328
  cm : cap ≤ 9223372036854775807
  nz : a = none → cap = 0
theorem RS.move {w w' g a len cap xs e p e' p'} (h : RS w g a len cap xs e p) (hg : w.grownBy w' (some g)) (hr : Rdr w' g e' (.slice a len cap) (p' : Nat)) (hp : p' ≤ len) : RS w' g a len cap xs e' p' :=
  ⟨hr, h.seg.grew hg (fun k hk => by cases hk; exact h.off), h.bytes, h.off, hp, h.lc, h.lm, h.cm, h.nz⟩
theorem RS.other {w w' g a len cap xs e p row} (h : RS w g a len cap xs e p) (hg : w.grownBy w' row) (h1 : row ≠ some g) (h2 : ∀ k, row = some k → Off a k) : RS w' g a len cap xs e p :=
  ⟨(hg.block g (lt_of_block h.rdr) (fun e => h1 e.symm)).trans h.rdr, h.seg.grew hg h2, h.bytes, h.off, h.le, h.lc, h.lm, h.cm, h.nz⟩
theorem RS.new {w w' g a len cap xs e p} (h : RS w g a len cap xs e p) (hg : w.grownBy w' none) : RS w' g a len cap xs e p := h.other hg (by simp) (by simp)
theorem RS.drewN {w g a len cap xs e p} (h : RS w g a len cap xs e p) (n : Nat) : RS (w.drewN n) g a len cap xs e p := h.new (gb_drewN (World.grownBy.refl _ _) n)

theorem err_c (g : Nat) (e : Int) (v : Value) (p : Int) (w : World) (h : Rdr w g e v p) :
    Calls Try.prog 53 #[.pointer (some ⟨g, 0, none⟩)] w fun r w' => r = .returned (.int .i64 e) ∧ w' = w := by
  have h0 := h.c0
  have h1 := h.c1
  clear h
  go_enter Try.func53, Try.ntmps53
  go_wp2
  go_ret
  exact ⟨rfl, rfl⟩
theorem ready_c (g : Nat) (e : Int) (v : Value) (p : Int) (w : World) (h : Rdr w g e v p) :
    Calls Try.prog 49 #[.pointer (some ⟨g, 0, none⟩)] w fun r w' => r = .returned (.bool (e == 0)) ∧ w' = w := by
  go_enter Try.func49, Try.ntmps49
  go_wp2_with fail
  refine (err_c g e v p w h).mono ?_
  rintro r w1 ⟨rfl, rfl⟩
  go_wp2
  go_ret
  exact ⟨rfl, rfl⟩

/-- An error of leb as pack names it. -/
def nm (e : Int) : Int := if e = 10 then 30 else if e = 11 then 31 else if e = 12 then 32 else e
theorem named_c (e : Int) (w : World) : Calls Try.prog 62 #[.int .i64 e] w fun r w' => r = .returned (.int .i64 (nm e)) ∧ w' = w := by
  by_cases h1 : e = 10
  · subst h1
    go_enter Try.func62, Try.ntmps62
    go_wp2
    go_ret
    exact ⟨rfl, rfl⟩
  · by_cases h2 : e = 11
    · subst h2
      go_enter Try.func62, Try.ntmps62
      go_wp2
      go_ret
      exact ⟨rfl, rfl⟩
    · by_cases h3 : e = 12
      · subst h3
        go_enter Try.func62, Try.ntmps62
        go_wp2
        go_ret
        exact ⟨rfl, rfl⟩
      · have HN : Hid (nm e = e) := by show nm e = e; simp [nm, h1, h2, h3]
        have b1 : (e == 10) = false := by simp [h1]
        have b2 : (e == 11) = false := by simp [h2]
        have b3 : (e == 12) = false := by simp [h3]
        clear h1 h2 h3
        go_enter Try.func62, Try.ntmps62
        go_wp2
        go_ret
        exact ⟨by rw [HN.out]; rfl, rfl⟩

theorem over_c (a : Option Addr) (len cap : Nat) (w : World) :
    Calls Try.prog 47 #[.slice a len cap] w fun r w' => r = .returned (.pointer (some ⟨w.heap.size, 0, none⟩)) ∧ Rdr w' w.heap.size 0 (.slice a len cap) 0 ∧ w.grownBy w' none := by
  go_enter Try.func47, Try.ntmps47
  go_wp2
  go_ret
  exact ⟨rfl, heap_new w _, World.grownBy_alloc _ _ _⟩

theorem RS.fails {w g a len cap xs e p} (h : RS w g a len cap xs e p) (x : Int) : RS (w.setCell ⟨g, 0, none⟩ (.int .i64 x)) g a len cap xs x p ∧ w.grownBy (w.setCell ⟨g, 0, none⟩ (.int .i64 x)) (some g) :=
  ⟨h.move (grownBy_cell _ _ _ _) (h.rdr.setE x) h.le, grownBy_cell _ _ _ _⟩
theorem RS.moves {w g a len cap xs e p} (h : RS w g a len cap xs e p) (q : Nat) (hq : q ≤ len) : RS (w.setCell ⟨g, 3, none⟩ (.int .i64 (q : Int))) g a len cap xs e q ∧ w.grownBy (w.setCell ⟨g, 3, none⟩ (.int .i64 (q : Int))) (some g) :=
  ⟨h.move (grownBy_cell _ _ _ _) (h.rdr.setP q) hq, grownBy_cell _ _ _ _⟩
theorem rfail_ok (g : Nat) (a : Option Addr) (len cap : Nat) (xs : List Int) (p : Nat) (x : Int) (w : World) (h : RS w g a len cap xs 0 p) :
    Calls Try.prog 60 #[.pointer (some ⟨g, 0, none⟩), .int .i64 x] w fun r w' => r = .returned (.tuple #[]) ∧ RS w' g a len cap xs x p ∧ w.grownBy w' (some g) :=
  (fail_ok g x w h.rdr.c0 (h.rdr.free 0)).mono (fun _ _ ⟨h1, h2⟩ => ⟨h1, by rw [h2]; exact (h.fails x)⟩)
theorem rmust_ok (g : Nat) (a : Option Addr) (len cap : Nat) (xs : List Int) (p : Nat) (x : Int) (w : World) (hx : (x == 0) = false) (h : RS w g a len cap xs 0 p) :
    Calls Try.prog 50 #[.pointer (some ⟨g, 0, none⟩), .bool false, .int .i64 x] w fun r w' => r = .returned (.bool false) ∧ RS w' g a len cap xs x p ∧ w.grownBy w' (some g) :=
  (must_ok g x w h.rdr.c0 (h.rdr.free 0) hx).mono (fun _ _ ⟨h1, h2⟩ => ⟨h1, by rw [h2]; exact (h.fails x)⟩)
end Go.Proofs.Ytekefbbjocekiab
