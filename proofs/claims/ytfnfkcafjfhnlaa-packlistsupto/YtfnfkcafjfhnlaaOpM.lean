/-
  A Reader and a row of texts side by side, as Open of the program holds them. No condition of its own.
-/
import Derived.Test.YtfnfkcafjfhnlaaFa
import Derived.Test.YtfnfkcafjfhnlaaOpP
namespace Go.Proofs.Ytfnfkcafjfhnlaa
open Go.RowKit
set_option linter.unusedVariables false

/-- A row of texts that is the whole of a block. -/
def SRow (w : World) (g : Nat) (Y : List ByteArray) : Prop := w.heap[g]? = some (.cells (Y.map Value.string).toArray 9 (0, 0))
theorem SRow.cell {w g Y} (h : SRow w g Y) (i : Nat) (hi : i < Y.length) : w.cell? ⟨g, i, none⟩ = some (.string (Y[i]?.getD ByteArray.empty)) := by
  rw [cell_of_row w g i _ _ _ h]
  simp [hi]
theorem SRow.free {w g Y} (h : SRow w g Y) (i : Nat) : w.frozen? ⟨g, i, none⟩ = false := frozen_of_row w g i _ _ h
theorem SRow.set {w g Y} (h : SRow w g Y) (i : Nat) (s : ByteArray) : SRow (w.setCell ⟨g, i, none⟩ (.string s)) g (Y.set i s) := by
  unfold SRow
  rw [heap_setCell_same w g i _ _ _ h]
  simp [List.map_set]
theorem SRow.grew {w w' g Y row} (h : SRow w g Y) (hg : w.grownBy w' row) (hne : row ≠ some g) : SRow w' g Y := (hg.block g (lt_of_block h) (fun e => hne e.symm)).trans h
theorem SRow.str {w g Y} (h : SRow w g Y) (n : Nat) (hn : n = Y.length) : StrS w (some ⟨g, 0, none⟩) n Y :=
  ⟨hn.symm, .inr ⟨g, 0, rfl, lt_of_block h, fun i hi => by rw [Nat.zero_add]; exact h.cell i (by omega)⟩⟩
theorem srow_of_own {w : World} {B g n : Nat} {Y : List ByteArray} (h : w.ownsRow B 9 1 (.slice (some ⟨g, 0, none⟩) n n) n (Y.map Value.string)) : SRow w g Y := by
  rcases h.2 with ⟨h', _⟩ | ⟨g', cap', cur, h', hB, hg, hn, hm, hsz, htake⟩
  · simp at h'
  · simp only [Value.slice.injEq, Option.some.injEq, Addr.mk.injEq, and_true, true_and] at h'
    obtain ⟨rfl, rfl⟩ := h'
    have e : cur = (Y.map Value.string).toArray := by
      rw [← htake, List.take_of_length_le (by rw [Array.length_toList, hsz]; exact Nat.le_refl _)]
    unfold SRow
    rw [← e]; exact hg
/-- The Reader at g, the texts so far at gl. -/
def OM (B : Nat) (w wr : World) (g gl : Nat) (a : Option Addr) (len cap : Nat) (xs : List Int) (e : Int) (p n k : Nat) (L : List ByteArray) : Prop :=
  RS wr g a len cap xs e p ∧ (∃ Y, SRow wr gl Y ∧ Y.length = n ∧ Y.take k = L) ∧ Below B w wr ∧ B ≤ g ∧ B ≤ gl ∧ g ≠ gl ∧ Off a gl ∧ B ≤ wr.heap.size
theorem OM.moves {B w wr w' g gl a len cap xs e p n k L e' p'} (h : OM B w wr g gl a len cap xs e p n k L) (hr : RS w' g a len cap xs e' p') (hg : wr.grownBy w' (some g)) : OM B w w' g gl a len cap xs e' p' n k L := by
  obtain ⟨h1, ⟨Y, h2, h3, h4⟩, h5, h6, h7, h8, h9, h10⟩ := h
  have := hg.size
  exact ⟨hr, ⟨Y, h2.grew hg (by simpa using h8), h3, h4⟩, h5.grown hg h10 (fun k hk => by cases hk; exact h6), h6, h7, h8, h9, by omega⟩
theorem OM.new {B w wr w' g gl a len cap xs e p n k L} (h : OM B w wr g gl a len cap xs e p n k L) (hg : wr.grownBy w' none) : OM B w w' g gl a len cap xs e p n k L := h.moves (h.1.new hg) (gb_wide hg _)
theorem OM.drewN {B w wr g gl a len cap xs e p n k L} (h : OM B w wr g gl a len cap xs e p n k L) (m : Nat) : OM B w (wr.drewN m) g gl a len cap xs e p n k L := h.new (gb_drewN (World.grownBy.refl _ _) m)
theorem OM.put {B w wr g gl a len cap xs e p n k L} (h : OM B w wr g gl a len cap xs e p n k L) (hk : k < n) (s : ByteArray) : OM B w (wr.setCell ⟨gl, k, none⟩ (.string s)) g gl a len cap xs e p n (k + 1) (L ++ [s]) := by
  obtain ⟨h1, ⟨Y, h2, h3, h4⟩, h5, h6, h7, h8, h9, h10⟩ := h
  have hg := grownBy_cell wr gl k (.string s)
  refine ⟨h1.other hg (by simpa using fun e => h8 e.symm) (fun j hj => by cases hj; exact h9), ⟨Y.set k s, h2.set k s, by rw [List.length_set, h3], ?_⟩, h5.setCell (p := ⟨gl, k, none⟩) h7 _, h6, h7, h8, h9, by have := hg.size; omega⟩
  rw [← h4, List.take_succ_eq_append_getElem (by rw [List.length_set, h3]; exact hk), List.take_set_of_le (Nat.le_refl k), List.getElem_set_self]
theorem OM.int {B w wr g gl a len cap xs p n k L} (h : OM B w wr g gl a len cap xs 0 p n k L) (most : Int) (hm : most ≤ 9223372036854775807) : Calls Try.prog 42 #[.pointer (some ⟨g, 0, none⟩), .int .i64 most] wr fun r w' => r = .returned (.int .i64 (ri xs p most).1) ∧ OM B w w' g gl a len cap xs (ri xs p most).2.2 (ri xs p most).2.1 n k L :=
  (int_ok g a len cap xs p most wr h.1 hm).mono (fun _ _ q => ⟨q.1, h.moves q.2.1 q.2.2⟩)
theorem OM.text {B w wr g gl a len cap xs p n k L} (h : OM B w wr g gl a len cap xs 0 p n k L) (most : Int) (hm : most ≤ 9223372036854775807) : Calls Try.prog 25 #[.pointer (some ⟨g, 0, none⟩), .int .i64 most] wr fun r w' => r = .returned (.string (strOfNums (rt xs p most).1)) ∧ OM B w w' g gl a len cap xs (rt xs p most).2.2 (rt xs p most).2.1 n k L :=
  (text_ok g a len cap xs p most wr h.1 hm).mono (fun _ _ q => ⟨q.1, h.moves q.2.1 q.2.2⟩)
theorem OM.int_no {B w wr g gl a len cap xs e p n k L} (h : OM B w wr g gl a len cap xs e p n k L) (most : Int) (he : (e == 0) = false) : Calls Try.prog 42 #[.pointer (some ⟨g, 0, none⟩), .int .i64 most] wr fun r w' => r = .returned (.int .i64 0) ∧ w' = wr := Go.Proofs.Ytfnfkcafjfhnlaa.int_no g e _ p most wr h.1.rdr he
theorem OM.text_no {B w wr g gl a len cap xs e p n k L} (h : OM B w wr g gl a len cap xs e p n k L) (most : Int) (he : (e == 0) = false) : Calls Try.prog 25 #[.pointer (some ⟨g, 0, none⟩), .int .i64 most] wr fun r w' => r = .returned (.string (strOfNums [])) ∧ w' = wr := Go.Proofs.Ytfnfkcafjfhnlaa.text_no g e _ p most wr h.1.rdr he
theorem OM.must_so {B w wr g gl a len cap xs p n k L} (h : OM B w wr g gl a len cap xs 0 p n k L) (x : Int) (b : Bool) (hb : b = true) : Calls Try.prog 73 #[.pointer (some ⟨g, 0, none⟩), .bool b, .int .i64 x] wr fun r w' => r = .returned (.bool true) ∧ w' = wr := by
  subst hb
  exact Go.Proofs.Ytfnfkcafjfhnlaa.must_so g 0 x wr h.1.rdr.c0
theorem OM.must_late {B w wr g gl a len cap xs e p n k L} (h : OM B w wr g gl a len cap xs e p n k L) (he : (e == 0) = false) (b : Bool) (x : Int) : Calls Try.prog 73 #[.pointer (some ⟨g, 0, none⟩), .bool b, .int .i64 x] wr fun r w' => r = .returned (.bool false) ∧ w' = wr := by
  cases b with
  | false => exact Go.Proofs.Ytfnfkcafjfhnlaa.must_no g e x wr h.1.rdr.c0 he
  | true => exact (Go.Proofs.Ytfnfkcafjfhnlaa.must_so g e x wr h.1.rdr.c0).mono (fun _ _ q => ⟨by rw [q.1, he], q.2⟩)
theorem OM.must_no {B w wr g gl a len cap xs p n k L} (h : OM B w wr g gl a len cap xs 0 p n k L) (x : Int) (b : Bool) (hx : (x == 0) = false) (hb : b = false) : Calls Try.prog 73 #[.pointer (some ⟨g, 0, none⟩), .bool b, .int .i64 x] wr fun r w' => r = .returned (.bool false) ∧ OM B w w' g gl a len cap xs x p n k L := by
  subst hb
  exact (must_ok g x wr h.1.rdr.c0 (h.1.rdr.free 0) hx).mono (fun _ _ q => ⟨q.1, by rw [q.2]; exact h.moves (h.1.fails x).1 (h.1.fails x).2⟩)
theorem OM.fin {B w wr g gl a len cap xs e p n k L} (h : OM B w wr g gl a len cap xs e p n k L) : Calls Try.prog 20 #[.pointer (some ⟨g, 0, none⟩)] wr fun r w' => r = .returned (.int .i64 (rend len e p)) ∧ OM B w w' g gl a len cap xs e p n k L :=
  (end_c g e a len cap p wr h.1.rdr h.1.le h.1.lm).mono (fun _ _ ⟨h1, m, h2⟩ => ⟨h1, by rw [h2]; exact h.drewN m⟩)
end Go.Proofs.Ytfnfkcafjfhnlaa
