/-
  What the Opener's Write answers: the rows that are whole by it, and the error. Condition: a list that can be read, of at most 2^46 bytes; the table of crc lies in memory.
-/
import Derived.Test.YtcdgfghcmeadgaaDoorIOz
import Derived.Defers
import Derived.Recover
namespace Go.Proofs.YtcdgfghcmeadgaaDoor
open Go.RowKit
set_option linter.unusedVariables false

theorem setCell_comm (w : World) (p q : Addr) (x y : Value) (h : p.block ≠ q.block) : (w.setCell p x).setCell q y = (w.setCell q y).setCell p x := by
  have e : ((w.setCell p x).setCell q y).heap = ((w.setCell q y).setCell p x).heap := by
    simp only [World.setCell]
    apply Array.ext_getElem?
    intro i
    simp only [Array.getElem?_modify]
    by_cases h1 : q.block = i
    · by_cases h2 : p.block = i
      · exact absurd (h2.trans h1.symm) h
      · rw [if_pos h1, if_neg h2, if_neg h2, if_pos h1]
    · by_cases h2 : p.block = i
      · rw [if_neg h1, if_pos h2, if_pos h2, if_neg h1]
      · rw [if_neg h1, if_neg h2, if_neg h2, if_neg h1]
  show ({ (w.setCell p x).setCell q y with heap := ((w.setCell p x).setCell q y).heap } : World) = _
  rw [e]
  rfl
/-- The world behind Write's last step. -/
def wend (w : World) (g Rv : Nat) (o : Opn) : World := (w.setCell ⟨Rv, 0, none⟩ o.told).setCell ⟨g, 11, none⟩ (.slice none 0 0)
theorem wcatch_rest (g P0 Rv : Nat) (o : Opn) (v0 : Value) (w : World) (h : OpB w g o) (hp : w.cell? ⟨P0, 0, none⟩ = some (.pointer (some ⟨g, 0, none⟩))) (hr : w.cell? ⟨Rv, 0, none⟩ = some v0) (fr : w.frozen? ⟨Rv, 0, none⟩ = false) (h1 : Rv ≠ g) (h2 : Rv ≠ P0) (h3 : g ≠ P0) :
    (w.setCell ⟨g, 11, none⟩ (.slice none 0 0)).setCell ⟨Rv, 0, none⟩ o.told = wend w g Rv o := setCell_comm w _ _ _ _ (fun e => h1 e.symm)
set_option maxRecDepth 20000 in
set_option maxHeartbeats 1000000 in
theorem wcatch_pan (g P0 Ev Rv : Nat) (o : Opn) (e0 : Int) (ra : Option Addr) (rn rc : Nat) (u : TypeId) (pv : Value) (older : List PanicEntry) (w : World) (h : OpB w g o) (hp : Bk 51 w P0 #[.pointer (some ⟨g, 0, none⟩)]) (he : Bk 30 w Ev #[.int .i64 e0]) (hr : Bk 22 w Rv #[.slice ra rn rc]) (h1 : Rv ≠ g) (h2 : Rv ≠ P0) (h3 : Ev ≠ g) (h4 : Ev ≠ P0) (h5 : Ev ≠ Rv) (h6 : g ≠ P0) :
    CallsD Tryd.prog 56 #[.pointer (some ⟨P0, 0, none⟩), .pointer (some ⟨Ev, 0, none⟩), .pointer (some ⟨Rv, 0, none⟩)] (.panicking ({ v := .iface u pv, recovered := false } :: older)) w fun e u' w' =>
      e = .returned (.tuple #[]) ∧ u' = .panicking ({ v := .iface u pv, recovered := true } :: older) ∧ w' = (wend (w.setCell ⟨Ev, 0, none⟩ (.int .i64 o.err)) g Rv o).drew := by
  have HG : Hid (OpB (w.setCell ⟨Ev, 0, none⟩ (.int .i64 o.err)) g o ∧ Bk 51 (w.setCell ⟨Ev, 0, none⟩ (.int .i64 o.err)) P0 #[.pointer (some ⟨g, 0, none⟩)] ∧ Bk 22 (w.setCell ⟨Ev, 0, none⟩ (.int .i64 o.err)) Rv #[.slice ra rn rc]) := ⟨h.grew (grownBy_cell w Ev 0 _) (fun e => h3 (Option.some.inj e)), hp.grew (grownBy_cell w Ev 0 _) (fun e => h4 (Option.some.inj e)), hr.grew (grownBy_cell w Ev 0 _) (fun e => h5 (Option.some.inj e))⟩
  have c0 : w.cell? ⟨P0, 0, none⟩ = some (.pointer (some ⟨g, 0, none⟩)) := hp.cell 0
  have c2 : w.cell? ⟨g, 2, none⟩ = some (.int .i64 o.err) := Bk.cell h 2
  have ce : w.cell? ⟨Ev, 0, none⟩ = some (.int .i64 e0) := he.cell 0
  have fe : w.frozen? ⟨Ev, 0, none⟩ = false := frozen_of_row w Ev 0 _ _ he
  obtain ⟨W1, hW1⟩ : ∃ W1, W1 = (w.setCell ⟨Ev, 0, none⟩ (.int .i64 o.err)) := ⟨_, rfl⟩
  rw [← hW1] at HG ⊢
  have HC : Hid (∀ n, (W1.drewN n).cell? ⟨P0, 0, none⟩ = some (.pointer (some ⟨g, 0, none⟩)) ∧ (W1.drewN n).cell? ⟨g, 11, none⟩ = some o.told) := fun n => ⟨HG.out.2.1.cell 0, Bk.cell HG.out.1 11⟩
  have cP : W1.cell? ⟨P0, 0, none⟩ = some (.pointer (some ⟨g, 0, none⟩)) := HG.out.2.1.cell 0
  have cT : W1.cell? ⟨g, 11, none⟩ = some (.slice o.ta o.tn o.tc) := Bk.cell HG.out.1 11
  have fT : W1.frozen? ⟨g, 11, none⟩ = false := frozen_of_row W1 g 11 _ _ HG.out.1
  have cR : W1.cell? ⟨Rv, 0, none⟩ = some (.slice ra rn rc) := HG.out.2.2.cell 0
  have fR : W1.frozen? ⟨Rv, 0, none⟩ = false := frozen_of_row W1 Rv 0 _ _ HG.out.2.2
  refine callsD_of_wpS Tryd.func56 rfl fun c₀ cs hu => ?_
  apply wpS_seq
  apply wpS_seq
  apply wpS_region
  simp [wpOpsS, go_sem, recoverD, hu, Tryd.ntmps56, Exit.thenS]
  refine wpS_cond (t := true) (by simp [Act.eval, Array.replicate]) ?_
  simp only [if_true]
  refine wpS_of_wp ?_
  go_wp2_with fail
  rw [← hW1]
  clear hW1 c0 c2 ce fe
  simp only [Exit.thenS]
  refine wpS_of_wp ?_
  go_region
  all_goals (simp [bodyPostS, results, Tryd.results56]; first | done | rfl | (refine ⟨?_, ?_⟩ <;> rfl))
set_option maxRecDepth 20000 in
set_option maxHeartbeats 1000000 in
theorem wcatch_idle (g P0 Ev Rv : Nat) (o : Opn) (e0 : Int) (ra : Option Addr) (rn rc : Nat)  (w : World) (h : OpB w g o) (hp : Bk 51 w P0 #[.pointer (some ⟨g, 0, none⟩)]) (he : Bk 30 w Ev #[.int .i64 e0]) (hr : Bk 22 w Rv #[.slice ra rn rc]) (h1 : Rv ≠ g) (h2 : Rv ≠ P0) (h3 : Ev ≠ g) (h4 : Ev ≠ P0) (h5 : Ev ≠ Rv) (h6 : g ≠ P0) :
    CallsD Tryd.prog 56 #[.pointer (some ⟨P0, 0, none⟩), .pointer (some ⟨Ev, 0, none⟩), .pointer (some ⟨Rv, 0, none⟩)] (.returning) w fun e u' w' =>
      e = .returned (.tuple #[]) ∧ u' = .returning ∧ w' = (wend w g Rv o).drew := by
  have HG : Hid (OpB w g o ∧ Bk 51 w P0 #[.pointer (some ⟨g, 0, none⟩)] ∧ Bk 22 w Rv #[.slice ra rn rc]) := ⟨h, hp, hr⟩
  obtain ⟨W1, hW1⟩ : ∃ W1, W1 = w := ⟨_, rfl⟩
  rw [← hW1] at HG ⊢
  have HC : Hid (∀ n, (W1.drewN n).cell? ⟨P0, 0, none⟩ = some (.pointer (some ⟨g, 0, none⟩)) ∧ (W1.drewN n).cell? ⟨g, 11, none⟩ = some o.told) := fun n => ⟨HG.out.2.1.cell 0, Bk.cell HG.out.1 11⟩
  have cP : W1.cell? ⟨P0, 0, none⟩ = some (.pointer (some ⟨g, 0, none⟩)) := HG.out.2.1.cell 0
  have cT : W1.cell? ⟨g, 11, none⟩ = some (.slice o.ta o.tn o.tc) := Bk.cell HG.out.1 11
  have fT : W1.frozen? ⟨g, 11, none⟩ = false := frozen_of_row W1 g 11 _ _ HG.out.1
  have cR : W1.cell? ⟨Rv, 0, none⟩ = some (.slice ra rn rc) := HG.out.2.2.cell 0
  have fR : W1.frozen? ⟨Rv, 0, none⟩ = false := frozen_of_row W1 Rv 0 _ _ HG.out.2.2
  refine callsD_of_wpS Tryd.func56 rfl fun c₀ cs hu => ?_
  apply wpS_seq
  apply wpS_seq
  apply wpS_region
  simp [wpOpsS, go_sem, recoverD, hu, Tryd.ntmps56, Exit.thenS]
  refine wpS_cond (t := false) (by simp [Act.eval, Array.replicate]) ?_
  simp only [Bool.false_eq_true, if_false]
  refine wpS_of_wp (wp_skip ?_)
  skip
  skip
  clear hW1
  simp only [Exit.thenS]
  refine wpS_of_wp ?_
  go_region
  all_goals exact ⟨rfl, .returning, by rw [← hu], .tuple #[], by simp [results, Tryd.results56], rfl, rfl, rfl⟩

theorem ST.keep {ys : List Int} {O : Nat → Prop} {w w' : World} {g : Nat} {o : Opn} {part p : Nat} {seq : Int} {n : Nat} {X : List Rwi} {L : List (List Int)} {row : Option Nat} (h : ST ys O w g o part p seq n X L) (hg : w.grownBy w' row) (hO : ∀ k, row = some k → ¬ O k) (hne : row ≠ some g) : ST ys O w' g o part p seq n X L :=
  ⟨Bk.grew h.ob hg hne, h.pre, h.wt, h.pt, h.sq, h.lf, h.ah, h.er, h.ch.keep hg hO L, h.cb, h.ls, h.l0, h.sm, h.sz, h.by_⟩
theorem ST.told0 {ys : List Int} {O : Nat → Prop} {w w' : World} {g : Nat} {o : Opn} {part p : Nat} {seq : Int} {n : Nat} {X : List Rwi} {L : List (List Int)} (h : ST ys O w g o part p seq n X L) (hg : w.grownBy w' (some g)) (hO : ¬ O g) (ho : OpB w' g { o with ta := none, tn := 0, tc := 0 }) : ST ys O w' g { o with ta := none, tn := 0, tc := 0 } part p seq n X L :=
  ⟨ho, h.pre, h.wt, h.pt, h.sq, h.lf, h.ah, h.er, h.ch.keep hg (fun k e => by cases e; exact hO) L, h.cb, h.ls, h.l0, h.sm, h.sz, h.by_⟩
theorem ST.weak {ys : List Int} {O O' : Nat → Prop} {w : World} {g : Nat} {o : Opn} {part p : Nat} {seq : Int} {n : Nat} {X : List Rwi} {L : List (List Int)} (h : ST ys O w g o part p seq n X L) (hO : ∀ b, O b → O' b) : ST ys O' w g o part p seq n X L :=
  ⟨h.ob, h.pre, h.wt, h.pt, h.sq, h.lf, h.ah, h.er, h.ch.weak hO L, h.cb, h.ls, h.l0, h.sm, h.sz, h.by_⟩
theorem ST.strong {ys : List Int} {O : Nat → Prop} {w : World} {g : Nat} {o : Opn} {part p : Nat} {seq : Int} {n : Nat} {X : List Rwi} {L : List (List Int)} (h : ST ys O w g o part p seq n X L) : ST ys (fun b => O b ∧ b < w.heap.size) w g o part p seq n X L :=
  ⟨h.ob, h.pre, h.wt, h.pt, h.sq, h.lf, h.ah, h.er, h.ch.strong L, h.cb, h.ls, h.l0, h.sm, h.sz, h.by_⟩
/-- What is wrong with the bytes that Write was given. -/
def Bad (ys zs : List Int) (X D : List Rwi) (e : Int) : Prop := ∃ K part p seq n, K ≤ zs.length ∧ (K = zs.length ∨ ys.length + K = 268435456) ∧ Pre (ys ++ zs.take K) part p seq n (X ++ D) ∧ (Wrong (ys ++ zs.take K) part p seq n (X ++ D) e ∨ (Waits (ys ++ zs.take K) part p n (X ++ D) ∧ K < zs.length ∧ e = 90))
/-- What Write answers. -/
def WrA (ys zs : List Int) (O : Nat → Prop) (X : List Rwi) (o : Opn) (g : Nat) (w : World) (r : Ending) (w' : World) : Prop :=
  w.grownBy w' (some g) ∧ ∃ D o' ra rc e, r = .returned (.tuple #[.slice ra D.length rc, .int .i64 e]) ∧ w'.ownsRow w.heap.size 48 3 (.slice ra D.length rc) D.length (flI D) ∧ OpB w' g o' ∧ o'.ta = none ∧ o'.tn = 0 ∧ o'.tc = 0 ∧ o'.ended = o.ended ∧
    ((e = 0 ∧ ys.length + zs.length ≤ 268435456 ∧ ∃ part p seq n L, ST (ys ++ zs) (fun b => (O b ∧ b < w.heap.size) ∨ w.heap.size ≤ b) w' g o' part p seq n (X ++ D) L) ∨ (e ≠ 0 ∧ o'.err = e ∧ Bad ys zs X D e))
theorem wend_gb (W : World) (g Rv : Nat) (o : Opn) : W.grownBy (W.setCell ⟨Rv, 0, none⟩ o.told) (some Rv) ∧ (W.setCell ⟨Rv, 0, none⟩ o.told).grownBy ((wend W g Rv o).drew) (some g) :=
  ⟨grownBy_cell W Rv 0 _, gb_trans (grownBy_cell _ g 11 _) ⟨rfl, rfl, rfl, Nat.le_refl _, fun _ _ _ => rfl⟩⟩
/-- The end of Write, with the answer's two variables. -/
theorem wr_end {ys zs : List Int} {O : Nat → Prop} {X : List Rwi} {o o' : Opn} {g N : Nat} {w W : World} {D : List Rwi} {e : Int} {v0 : Value} (hN : N = w.heap.size) (hgw : g < w.heap.size) (hgb : w.grownBy W (some g)) (hT : Tol (N + 3) W o' D) (ho : OpB W g o') (hr : Bk 22 W (N + 1) #[v0]) (he : Bk 30 W (N + 2) #[.int .i64 e]) (hen : o'.ended = o.ended)
    (hO : ¬ O g) (hd : (e = 0 ∧ ys.length + zs.length ≤ 268435456 ∧ ∃ part p seq n L, ST (ys ++ zs) (fun b => (O b ∧ b < w.heap.size) ∨ N + 3 ≤ b) W g o' part p seq n (X ++ D) L) ∨ (e ≠ 0 ∧ o'.err = e ∧ Bad ys zs X D e)) :
    WrA ys zs O X o g w (.returned (.tuple #[o'.told, .int .i64 e])) (wend W g (N + 1) o').drew ∧ (wend W g (N + 1) o').drew.cell? ⟨N + 1, 0, none⟩ = some o'.told ∧ (wend W g (N + 1) o').drew.cell? ⟨N + 2, 0, none⟩ = some (.int .i64 e) := by
  subst hN
  obtain ⟨g1, g2⟩ := wend_gb W g (w.heap.size + 1) o'
  have hr1 : Bk 22 (W.setCell ⟨w.heap.size + 1, 0, none⟩ o'.told) (w.heap.size + 1) #[o'.told] := bk_set1 hr _
  have he1 : Bk 30 (W.setCell ⟨w.heap.size + 1, 0, none⟩ o'.told) (w.heap.size + 2) #[.int .i64 e] := he.grew g1 (fun z => by have := Option.some.inj z; omega)
  have ho1 : OpB (W.setCell ⟨w.heap.size + 1, 0, none⟩ o'.told) g o' := Bk.grew ho g1 (fun z => by have := Option.some.inj z; omega)
  have ho2 : OpB ((wend W g (w.heap.size + 1) o').drew) g { o' with ta := none, tn := 0, tc := 0 } := Bk.setO ho1 11 _
  have hown : (wend W g (w.heap.size + 1) o').drew.ownsRow w.heap.size 48 3 o'.told D.length (flI D) := by
    have hlo := own_lo2 hT.2
    refine own_weak (own_grewI (own_grewI hT.2 g1 (fun b hb z => ?_)) g2 (fun b hb z => ?_)) (Nat.le_add_right _ 3)
    · have := (hlo b hb).1; have := Option.some.inj z; omega
    · have := (hlo b hb).1; have := Option.some.inj z; omega
  refine ⟨⟨gb_trans (gb_above hgb g1 (by omega)) g2, D, { o' with ta := none, tn := 0, tc := 0 }, o'.ta, o'.tc, e, by rw [← hT.1]; rfl, by rw [← hT.1] at hown ⊢; exact hown, ho2, rfl, rfl, rfl, hen, ?_⟩, (hr1.grew g2 (fun z => by have := Option.some.inj z; omega)).cell 0, (he1.grew g2 (fun z => by have := Option.some.inj z; omega)).cell 0⟩
  rcases hd with ⟨d1, d2, part, p, seq, n, L, d3⟩ | ⟨d1, d2, d3⟩
  · refine .inl ⟨d1, d2, part, p, seq, n, L, ?_⟩
    have s1 := d3.keep g1 (fun k z => by
      have hk := Option.some.inj z
      subst hk
      rintro (⟨_, z2⟩ | z2) <;> omega) (fun z => by have := Option.some.inj z; omega)
    exact (s1.told0 g2 (by
      rintro (⟨z2, _⟩ | z2)
      · exact hO z2
      · omega) ho2).weak (fun b hb => hb.imp id (fun z => by omega))
  · exact .inr ⟨d1, d2, d3⟩
end Go.Proofs.YtcdgfghcmeadgaaDoor
