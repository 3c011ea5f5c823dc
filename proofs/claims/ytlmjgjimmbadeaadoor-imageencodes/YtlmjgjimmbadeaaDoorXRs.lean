/-
  The document's Reader in memory, as plain data, and what its Fail, done, Uint, Int, Text, Flag, Count and End answer: what the plain functions give. Condition: its bytes can be read, and their length is one that a machine has.
-/
import Derived.Test.YtlmjgjimmbadeaaDoorXNum
import Derived.Test.YtlmjgjimmbadeaaDoorPFl
namespace Go.Proofs.YtlmjgjimmbadeaaDoor
open Go.RowKit
set_option linter.unusedVariables false

/-- The document's Reader's block. -/
def Xdr (w : World) (g : Nat) (v : Value) (p e : Int) : Prop := w.heap[g]? = some (.cells #[v, .int .i64 p, .int .i64 e] 109 (0, 0))
theorem Xdr.c0 {w g v p e} (h : Xdr w g v p e) : w.cell? ⟨g, 0, none⟩ = some v := by rw [cell_of_row w g 0 _ _ _ h]; rfl
theorem Xdr.c1 {w g v p e} (h : Xdr w g v p e) : w.cell? ⟨g, 1, none⟩ = some (.int .i64 p) := by rw [cell_of_row w g 1 _ _ _ h]; rfl
theorem Xdr.c2 {w g v p e} (h : Xdr w g v p e) : w.cell? ⟨g, 2, none⟩ = some (.int .i64 e) := by rw [cell_of_row w g 2 _ _ _ h]; rfl
theorem Xdr.free {w g v p e} (h : Xdr w g v p e) (i : Nat) : w.frozen? ⟨g, i, none⟩ = false := frozen_of_row w g i _ _ h
theorem Xdr.setP {w g v p e} (h : Xdr w g v p e) (x : Int) : Xdr (w.setCell ⟨g, 1, none⟩ (.int .i64 x)) g v x e := by
  unfold Xdr; rw [heap_setCell_same w g 1 _ _ _ h]; rfl
theorem Xdr.setE {w g v p e} (h : Xdr w g v p e) (x : Int) : Xdr (w.setCell ⟨g, 2, none⟩ (.int .i64 x)) g v p x := by
  unfold Xdr; rw [heap_setCell_same w g 2 _ _ _ h]; rfl
theorem Seg.grew0 {k : IntKind} {w w' : World} {a : Option Addr} {len : Nat} {xs : List Int} {row : Option Nat} (h : Seg k w a len xs) (hg : w.grownBy w' row) (hne : ∀ g, row = some g → len = 0 ∨ Off a g) : Seg k w' a len xs := by
  by_cases h0 : len = 0
  · exact ⟨h.1, .inl h0⟩
  · exact h.grew hg (fun g hgr => (hne g hgr).resolve_left h0)
/-- The document's Reader as plain data. -/
structure XS (w : World) (g : Nat) (a : Option Addr) (len cap : Nat) (xs : List Int) (e : Int) (p : Nat) : Prop where
  rdr : Xdr w g (.slice a len cap) p e
  seg : Seg .u8 w a len xs
  bytes : Bytes xs
  off : len = 0 ∨ Off a g
  le : p ≤ len
  lc : len ≤ cap
  lm : len ≤ 140737488355328
  cm : cap ≤ 9223372036854775807
theorem XS.move {w w' g a len cap xs e p e' p'} (h : XS w g a len cap xs e p) (hg : w.grownBy w' (some g)) (hr : Xdr w' g (.slice a len cap) (p' : Nat) e') (hp : p' ≤ len) : XS w' g a len cap xs e' p' :=
  ⟨hr, h.seg.grew0 hg (fun k hk => by cases hk; exact h.off), h.bytes, h.off, hp, h.lc, h.lm, h.cm⟩
theorem XS.other {w w' g a len cap xs e p row} (h : XS w g a len cap xs e p) (hg : w.grownBy w' row) (h1 : row ≠ some g) (h2 : ∀ k, row = some k → len = 0 ∨ Off a k) : XS w' g a len cap xs e p :=
  ⟨(hg.block g (lt_of_block h.rdr) (fun e => h1 e.symm)).trans h.rdr, h.seg.grew0 hg h2, h.bytes, h.off, h.le, h.lc, h.lm, h.cm⟩
theorem XS.new {w w' g a len cap xs e p} (h : XS w g a len cap xs e p) (hg : w.grownBy w' none) : XS w' g a len cap xs e p := h.other hg (by simp) (by simp)
theorem XS.drewN {w g a len cap xs e p} (h : XS w g a len cap xs e p) (n : Nat) : XS (w.drewN n) g a len cap xs e p := h.new (gb_drewN (World.grownBy.refl _ _) n)
theorem XS.fails {w g a len cap xs e p} (h : XS w g a len cap xs e p) (x : Int) : XS (w.setCell ⟨g, 2, none⟩ (.int .i64 x)) g a len cap xs x p ∧ w.grownBy (w.setCell ⟨g, 2, none⟩ (.int .i64 x)) (some g) :=
  ⟨h.move (grownBy_cell _ _ _ _) (h.rdr.setE x) h.le, grownBy_cell _ _ _ _⟩
theorem XS.moves {w g a len cap xs e p} (h : XS w g a len cap xs e p) (q : Nat) (hq : q ≤ len) : XS (w.setCell ⟨g, 1, none⟩ (.int .i64 (q : Int))) g a len cap xs e q ∧ w.grownBy (w.setCell ⟨g, 1, none⟩ (.int .i64 (q : Int))) (some g) :=
  ⟨h.move (grownBy_cell _ _ _ _) (h.rdr.setP q) hq, grownBy_cell _ _ _ _⟩

theorem xfail_c (g : Nat) (a : Option Addr) (len cap : Nat) (xs : List Int) (e x : Int) (p : Nat) (w : World) (h : XS w g a len cap xs e p) :
    Calls Tryd.prog 111 #[.pointer (some ⟨g, 0, none⟩), .int .i64 x] w fun r w' => r = .returned (.tuple #[]) ∧ XS w' g a len cap xs (if e = 0 then x else e) p ∧ w.grownBy w' (some g) := by
  have HR : Hid (XS w g a len cap xs e p) := h
  have c2 := h.rdr.c2
  have f2 := h.rdr.free 2
  clear h
  by_cases he : e = 0
  · subst he
    go_enter Tryd.func111, Tryd.ntmps111
    go_wp2
    go_end0
    exact ⟨rfl, HR.out.fails x⟩
  · have hb : (e == 0) = false := by simp [he]
    have HE : Hid ((if e = 0 then x else e) = e) := by show _ = _; simp [he]
    rw [HE.out]
    clear he HE
    go_enter Tryd.func111, Tryd.ntmps111
    go_wp2
    go_end0
    exact ⟨rfl, HR.out, World.grownBy.refl _ _⟩

theorem done_c (g : Nat) (a : Option Addr) (len cap : Nat) (xs : List Int) (p q : Nat) (x : Int) (w : World) (h : XS w g a len cap xs 0 p) (hq : q ≤ len) :
    Calls Tryd.prog 89 #[.pointer (some ⟨g, 0, none⟩), .int .i64 (q : Int), .int .i64 x] w fun r w' => r = .returned (.bool (x == 0)) ∧ XS w' g a len cap xs x (if x = 0 then q else p) ∧ w.grownBy w' (some g) := by
  have HR : Hid (XS w g a len cap xs 0 p) := h
  have c1 := h.rdr.c1
  have f1 := h.rdr.free 1
  clear h
  by_cases hx : x = 0
  · subst hx
    go_enter Tryd.func89, Tryd.ntmps89
    go_wp2
    go_ret
    exact ⟨rfl, HR.out.moves q hq⟩
  · have hb : (x != 0) = true := by simp [hx]
    have hb2 : Hid ((x == 0) = false) := by show _ = _; simp [hx]
    have HE : Hid ((if x = 0 then q else p) = p) := by show _ = _; simp [hx]
    rw [HE.out, hb2.out]
    clear hx HE hb2
    go_enter Tryd.func89, Tryd.ntmps89
    go_wp2_with fail
    refine (xfail_c g a len cap xs 0 x p w HR.out).mono ?_
    rintro r w1 ⟨rfl, h1, h2⟩
    have H1 : Hid (XS w1 g a len cap xs x p ∧ w.grownBy w1 (some g)) := ⟨h1, h2⟩
    clear h1 h2
    go_wp2
    go_ret
    exact ⟨rfl, H1.out.1, H1.out.2⟩

theorem xend_c (g : Nat) (a : Option Addr) (len cap : Nat) (xs : List Int) (e : Int) (p : Nat) (w : World) (h : XS w g a len cap xs e p) :
    Calls Tryd.prog 54 #[.pointer (some ⟨g, 0, none⟩)] w fun r w' => r = .returned (.int .i64 (rend len e p)) ∧ ∃ n, w' = w.drewN n := by
  have c0 := h.rdr.c0
  have c1 := h.rdr.c1
  have c2 := h.rdr.c2
  have hle := h.le
  have hlm := h.lm
  clear h
  by_cases he : e = 0
  · subst he
    by_cases hlt : p < len
    · have HE : Hid (rend len 0 p = 34) := by show _ = _; simp [rend, hlt]
      have hd : decide (p < len) = true := by simp; omega
      clear hle
      go_enter Tryd.func54, Tryd.ntmps54
      go_wp2
      go_quiet (fail)
      go_wp2
      go_ret
      exact ⟨ret_int HE.out.symm, _, rfl⟩
    · have HE : Hid (rend len 0 p = 0) := by show _ = _; simp [rend, hlt]
      have hd : decide (p < len) = false := by simp; omega
      clear hle hlt
      go_enter Tryd.func54, Tryd.ntmps54
      go_wp2
      go_quiet (fail)
      go_wp2
      go_ret
      exact ⟨ret_int HE.out.symm, _, rfl⟩
  · have hb : (e == 0) = false := by simp [he]
    have HE : Hid (rend len e p = e) := by show _ = _; simp [rend, he]
    clear he
    go_enter Tryd.func54, Tryd.ntmps54
    go_wp2
    go_quiet (fail)
    go_wp2
    go_ret
    exact ⟨ret_int HE.out.symm, _, rfl⟩

theorem xint_no (g : Nat) (a : Option Addr) (len cap : Nat) (xs : List Int) (e : Int) (p : Nat) (most : Int) (w : World) (h : XS w g a len cap xs e p) (he : (e == 0) = false) :
    Calls Tryd.prog 52 #[.pointer (some ⟨g, 0, none⟩), .int .i64 most] w fun r w' => r = .returned (.int .i64 0) ∧ w' = w := by
  have c2 := h.rdr.c2
  have hb : (e != 0) = true := by simp at he ⊢; exact he
  clear h
  go_enter Tryd.func52, Tryd.ntmps52
  go_wp2
  go_ret
  exact ⟨rfl, rfl⟩

set_option maxRecDepth 20000 in
theorem xint_ok (g : Nat) (a : Option Addr) (len cap : Nat) (xs : List Int) (p : Nat) (most : Int) (w : World) (h : XS w g a len cap xs 0 p) (hm2 : most ≤ 9223372036854775807) :
    Calls Tryd.prog 52 #[.pointer (some ⟨g, 0, none⟩), .int .i64 most] w fun r w' => r = .returned (.int .i64 (ri xs p most).1) ∧ XS w' g a len cap xs (ri xs p most).2.2 (ri xs p most).2.1 ∧ w.grownBy w' (some g) := by
  have HR : Hid (XS w g a len cap xs 0 p) := h
  have c0 := h.rdr.c0
  have c1 := h.rdr.c1
  have c2 := h.rdr.c2
  have HN : Hid (∀ n, Calls Tryd.prog 88 #[.slice a len cap, .int .i64 (p : Int), .int .i64 most] (w.drewN n) fun r w' => r = .returned (.tuple #[.int .i64 (ri xs p most).1, .int .i64 (pl (ri xs p most).2.1 (ri xs p most).2.2 : Nat), .int .i64 (ri xs p most).2.2]) ∧ w' = w.drewN n) :=
    fun n => upto_c a len cap xs p most (w.drewN n) (h.drewN n).seg h.bytes h.le h.lc h.lm h.cm hm2
  have HRR : Hid ((ri xs p most).2.2 ≠ 0 → (ri xs p most).1 = 0 ∧ (ri xs p most).2.1 = p) := (ri_bd h.bytes p (by rw [h.seg.1]; exact h.le) most).2.2.2.2
  have HLE : Hid ((ri xs p most).2.1 ≤ len) := by have := (ri_bd h.bytes p (by rw [h.seg.1]; exact h.le) most).2.2.2.1; rw [h.seg.1] at this; exact this
  obtain ⟨V, c, E, hru⟩ : ∃ V c E, ri xs p most = (V, c, E) := ⟨_, _, _, rfl⟩
  rw [hru] at HN HRR HLE ⊢
  simp only at HN HRR HLE ⊢
  obtain ⟨Q, hQ⟩ : ∃ Q, Q = pl c E := ⟨_, rfl⟩
  rw [← hQ] at HN
  have HQ : Hid (Q ≤ len ∧ (if E = 0 then Q else p) = c) := by
    have := HLE.out
    by_cases hE : E = 0
    · subst hE; rw [hQ]; exact ⟨this, by simp [pl]⟩
    · have hc := (HRR.out hE).2
      rw [hQ, show pl c E = 0 from by simp [pl, hE], if_neg hE]
      exact ⟨Nat.zero_le _, by omega⟩
  clear h hru hQ HLE
  go_enter Tryd.func52, Tryd.ntmps52
  go_wp2
  go_quiet ((go_at_call 88; go_must (refine Calls.quiet_of_same (HN.out _))))
  obtain ⟨w2, hw2⟩ : ∃ w2, w2 = w.drewN nq := ⟨_, rfl⟩
  rw [← hw2]
  have H2 : Hid (XS w2 g a len cap xs 0 p ∧ w.grownBy w2 (some g)) := by rw [hw2]; exact ⟨HR.out.drewN _, gb_drewN (World.grownBy.refl _ _) _⟩
  clear hw2 c0 c1 c2
  go_wp2_with fail
  refine (done_c g a len cap xs p Q E w2 H2.out.1 HQ.out.1).mono ?_
  rw [HQ.out.2]
  rintro r w3 ⟨rfl, h1, h2⟩
  have H3 : Hid (XS w3 g a len cap xs E c ∧ w.grownBy w3 (some g)) := ⟨h1, gb_trans H2.out.2 h2⟩
  clear h1 h2
  by_cases hE : E = 0
  · subst hE
    go_wp2
    go_ret
    exact ⟨rfl, H3.out.1, H3.out.2⟩
  · have hb : (E == 0) = false := by simp [hE]
    obtain ⟨hv, _⟩ := HRR.out hE
    subst hv
    clear hE
    go_wp2
    go_ret
    exact ⟨rfl, H3.out.1, H3.out.2⟩

end Go.Proofs.YtlmjgjimmbadeaaDoor
