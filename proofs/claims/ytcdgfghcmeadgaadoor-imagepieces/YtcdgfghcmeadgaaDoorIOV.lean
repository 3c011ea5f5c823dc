/-
  What the Opener's Write answers. Condition: a list that can be read, of at most 2^46 bytes; the table of crc lies in memory.
-/
import Derived.Test.YtcdgfghcmeadgaaDoorIOW
namespace Go.Proofs.YtcdgfghcmeadgaaDoor
open Go.RowKit
set_option linter.unusedVariables false

theorem rows_loadW {w : World} {ad : Addr} {o : Opn} (h : w.cell? ad = some o.told) : (loadVar 22 ad).run Tryd.prog w = .ok o.told w := by
  unfold Opn.told at h ⊢
  simp [loadVar, h]
/-- Write's three variables. -/
def W3 (w : World) (g : Nat) : World := ((w.alloc (.cells #[.pointer (some ⟨g, 0, none⟩)] 51)).alloc (.cells #[.slice none 0 0] 22)).alloc (.cells #[.int .i64 0] 30)
theorem w3_is (w : World) (g : Nat) : Bk 51 (W3 w g) w.heap.size #[.pointer (some ⟨g, 0, none⟩)] ∧ Bk 22 (W3 w g) (w.heap.size + 1) #[.slice none 0 0] ∧ Bk 30 (W3 w g) (w.heap.size + 2) #[.int .i64 0] ∧ w.grownBy (W3 w g) none ∧ (W3 w g).heap.size = w.heap.size + 3 := by
  have h1 := blk_new w 51 #[.pointer (some ⟨g, 0, none⟩)]
  have h2 := blk_new (w.alloc (.cells #[.pointer (some ⟨g, 0, none⟩)] 51)) 22 #[.slice none 0 0]
  have h3 := blk_new ((w.alloc (.cells #[.pointer (some ⟨g, 0, none⟩)] 51)).alloc (.cells #[.slice none 0 0] 22)) 30 #[.int .i64 0]
  rw [World.size_alloc] at h2 h3
  rw [World.size_alloc] at h3
  unfold W3
  exact ⟨(h1.1.grew h2.2 (by simp)).grew h3.2 (by simp), h2.1.grew h3.2 (by simp), h3.1, gb_trans h1.2 (gb_trans h2.2 h3.2), by simp only [World.size_alloc]⟩
theorem shut0 {o : Opn} (h1 : o.err = 0) (h2 : o.ended = false) : o.shut = 0 := by
  unfold Opn.shut
  rw [if_neg (by rw [h1]; simp), if_neg (by rw [h2]; simp)]
/-- What take leaves, for Write. -/
def TW (ys zs : List Int) (O : Nat → Prop) (X : List Rwi) (o : Opn) (g : Nat) (w W : World) (D : List Rwi) (o' : Opn) : Prop := w.grownBy W (some g) ∧ OpB W g o' ∧ Tol (w.heap.size + 3) W o' D ∧ o'.ended = o.ended ∧ Bk 51 W w.heap.size #[.pointer (some ⟨g, 0, none⟩)] ∧ Bk 22 W (w.heap.size + 1) #[.slice none 0 0] ∧ Bk 30 W (w.heap.size + 2) #[.int .i64 0]
theorem tw_of {ys zs : List Int} {O : Nat → Prop} {X : List Rwi} {o : Opn} {g : Nat} {w W W' : World} {r : Ending} (hgw : g < w.heap.size) (hW : (W3 w g).grownBy W none) (hsz : W.heap.size = w.heap.size + 3) (h : TkA ys zs (fun b => O b ∧ b < w.heap.size) X o g W r W') :
    (∃ D o', r = .returned (.tuple #[]) ∧ TW ys zs O X o g w W' D o' ∧ ∃ part p seq n L, ST (ys ++ zs) (fun b => (O b ∧ b < w.heap.size) ∨ w.heap.size + 3 ≤ b) W' g o' part p seq n (X ++ D) L) ∨ (∃ D o' e part p seq n, r = .panicked (chnE e) ∧ TW ys zs O X o g w W' D o' ∧ Pre (ys ++ zs) part p seq n (X ++ D) ∧ Wrong (ys ++ zs) part p seq n (X ++ D) e ∧ o'.err = e) := by
  obtain ⟨w1, w2, w3, w4, w5⟩ := w3_is w g
  obtain ⟨t1, part, p, seq, n, D, o', t2, t3, t4, t5⟩ := h
  have tw : TW ys zs O X o g w W' D o' := ⟨gb_trans (gb_wide (gb_trans w4 hW) _) t1, t2, by rw [← hsz]; exact t3, t4, (w1.grew hW (by simp)).grew t1 (fun e => by have := Option.some.inj e; omega), (w2.grew hW (by simp)).grew t1 (fun e => by have := Option.some.inj e; omega), (w3.grew hW (by simp)).grew t1 (fun e => by have := Option.some.inj e; omega)⟩
  rcases t5 with ⟨rfl, L, s⟩ | ⟨e, rfl, q1, q2, q3, q4⟩
  · exact .inl ⟨D, o', rfl, tw, part, p, seq, n, L, by rw [hsz] at s; exact s⟩
  · exact .inr ⟨D, o', e, part, p, seq, n, rfl, tw, q1, q2, q3⟩
theorem wrong_ne {ys : List Int} {part p : Nat} {seq : Int} {n : Nat} {X : List Rwi} {e : Int} (h : Wrong ys part p seq n X e) : e ≠ 0 := by
  rcases h with ⟨_, _, rfl⟩ | ⟨_, _, _, rfl⟩ | ⟨_, _, _, rfl⟩ | ⟨_, _, _, _, rfl⟩ | ⟨_, _, _, rfl⟩ | ⟨_, _, rfl⟩ <;> decide
set_option maxRecDepth 20000 in
set_option maxHeartbeats 4000000 in
theorem owrite_a (g : Nat) (o : Opn) (a : Option Addr) (m c : Nat) (ys zs : List Int) (O : Nat → Prop) (part p : Nat) (seq : Int) (n : Nat) (X : List Rwi) (L : List (List Int)) (w : World) (h : ST ys O w g o part p seq n X L) (ht1 : o.ta = none) (ht2 : o.tn = 0) (ht3 : o.tc = 0) (hen : o.ended = false) (hO : ¬ O g) (hx : Seg .u8 w a m zs) (hb : Bytes (ys ++ zs)) (hnz : a = none → c = 0) (hmc : m ≤ c) (hag : ∀ b o s, a = some ⟨b, o, s⟩ → b ≠ g) (ht : Cr.Tab w) (hm : ys.length + m ≤ 268435456) :
    Calls Tryd.prog 24 #[.pointer (some ⟨g, 0, none⟩), .slice a m c] w fun r w' => WrA ys zs O X o g w r w' := by
  have hmf : ∀ (fn : Fn) (first cap : Array Value) (w : World), (Instr.makeFunc fn first cap).run Tryd.prog w = .ok (.func fn first cap) w := fun _ _ _ _ => rfl
  have hgw : g < w.heap.size := lt_of_block h.ob
  have hzl : zs.length = m := hx.1
  obtain ⟨w1, w2, w3, w4, w5⟩ := w3_is w g
  obtain ⟨W0, hW0⟩ : ∃ W0, W0 = W3 w g := ⟨_, rfl⟩
  rw [← hW0] at w1 w2 w3 w4 w5
  have s1 : ST ys (fun b => O b ∧ b < w.heap.size) W0 g o part p seq n X L := h.strong.keep w4 (by simp) (by simp)
  have HSH : Hid (Calls Tryd.prog 55 #[.pointer (some ⟨g, 0, none⟩)] W0 fun r w' => r = .returned (.int .i64 0) ∧ w' = W0) := by
    have z := oshut_c g o W0 s1.ob
    rw [shut0 h.er hen] at z
    exact z
  obtain ⟨N0, hN0⟩ : ∃ N0, N0 = ys.length := ⟨_, rfl⟩
  have cP : W0.cell? ⟨w.heap.size, 0, none⟩ = some (.pointer (some ⟨g, 0, none⟩)) := w1.cell 0
  have c3 : W0.cell? ⟨g, 3, none⟩ = some (.int .i64 (N0 : Int)) := by rw [hN0, ← h.sz]; exact Bk.cell s1.ob 3
  have hKm : m ≤ m := by omega
  have HTK : Hid (∀ W, W0.grownBy W none → Calls Tryd.prog 57 #[.pointer (some ⟨g, 0, none⟩), .slice a m c] W fun r w' => TkA ys (zs.take m) (fun b => O b ∧ b < w.heap.size) X o g W r w') := fun W hg => by
    refine otake_c g o a m c ys (zs.take m) _ part p seq n X L W (s1.keep hg (by simp) (by simp)) ht1 ht2 ht3 (fun z => hO z.1) ((seg_takeO hx m hKm).grew (gb_trans w4 hg) (by simp)) ?_ hnz (by omega) (by omega) hag (tab_n ht (gb_trans w4 hg))
    have e : ys ++ zs.take m = (ys ++ zs).take (ys.length + m) := by rw [List.take_length_add_append]
    rw [e]
    exact bytes_takeO hb _
  have HSL : Hid (∀ W, (Instr.slice 27 (.slice a m c) none (some (.int .i64 (m : Int))) none).run Tryd.prog W = .ok (.slice a m c) W) := slice_hI a m c m (m : Int) (by omega) (by omega)
  have HP : Hid (g < w.heap.size ∧ zs.length = m ∧ N0 = ys.length ∧ ¬ O g ∧ W0 = W3 w g ∧ W0.heap.size = w.heap.size + 3 ∧ m ≤ m ∧ ys.length + m ≤ 268435456) := ⟨hgw, hzl, hN0, hO, hW0, w5, hKm, by omega⟩
  have HCP : Hid (∀ W, W0.grownBy W none → W.cell? ⟨w.heap.size, 0, none⟩ = some (.pointer (some ⟨g, 0, none⟩))) := fun W hg => cell_none hg cP
  have hmin : (m : Int) ≤ 268435456 - (N0 : Int) := by omega
  have hw1 : wrap64 (268435456 - (N0 : Int)) = 268435456 - (N0 : Int) := IntWalk.wrap64_in _ ⟨by omega, by omega⟩
  have hw2 : IntKind.i64.wrap (268435456 - (N0 : Int)) = 268435456 - (N0 : Int) := IntWalk.i64_in _ ⟨by omega, by omega⟩
  clear hN0 h hx hb hnz hag ht ht1 ht2 ht3 hen hO s1 w1 w2 w3 w4 w5 hzl hKm
  go_enter_defers Tryd.func24, Tryd.ntmps24
  go_wp2_with fail
  have hW0' : ((w.alloc (.cells #[.pointer (some ⟨g, 0, none⟩)] 51)).alloc (.cells #[.slice none 0 0] 22)).alloc (.cells #[.int .i64 0] 30) = W0 := hW0.symm
  rw [hW0']
  clear hW0 hW0'
  refine (Calls.mono HSH.out ?_)
  rintro r wq ⟨rfl, hq⟩
  obtain rfl := hq.symm
  clear hq
  go_wp2_with fail
  refine wp_region_lastR (fun a b => World.grownBy a b none ∧ b.heap.size = a.heap.size) (fun _ _ _ h k => ⟨gb_trans h.1 k.1, k.2.trans h.2⟩) ⟨⟨rfl, rfl, rfl, Nat.le_refl _, fun _ _ _ => rfl⟩, rfl⟩ 4 rfl (by kernel_rfl) [22, 23, 24, 25, 26] [[], [], [], [1, 2], [0, 3]] (by kernel_rfl) (by kernel_rfl) [fun u W => u = .pointer (some ⟨g, 0, none⟩), fun u W => u = .slice a m c, fun u W => u = .int .i64 (m : Int), fun u W => u = .slice a m c] ?stable ?step ?last
  case stable =>
    intro i v W W' h hg
    match i, h with
    | 0, h => exact h
    | 1, h => exact h
    | 2, h => exact h
    | 3, h => exact h
    | i + 4, h => exact trivial
  case step =>
    intro f W A hA hg i o hin ho hu K hK
    match i, hin, ho, hu, hK with
    | 0, hin, ho, hu, hK =>
      cases ho
      have e2 : A.eval (.tmp 2) = .pointer (some ⟨w.heap.size, 0, none⟩) := ev_out hA 2 rfl
      have hc : W.cell? ⟨w.heap.size, 0, none⟩ = some (.pointer (some ⟨g, 0, none⟩)) := HCP.out W hg.1
      refine ph_sem rfl rfl (r := .ok (.value (.pointer (some ⟨g, 0, none⟩))) W) ?_ (hK _ _ ⟨gb_rr W _, rfl⟩ rfl)
      have eC : ∀ c, A.eval (.const c) = c := fun _ => rfl; have eF : ∀ g, A.eval (.func g) = .func (.func g) #[] #[] := fun _ => rfl; generalize A.eval = ρ at *
      clear hA hu hg hK
      go_simp
    | 1, hin, ho, hu, hK =>
      cases ho
      have e1 : A.eval (.tmp 1) = .slice a m c := ev_out hA 1 rfl
      exact ph_move _ rfl rfl (.slice a m c) e1 (hK _ _ ⟨gb_rr W _, rfl⟩ rfl)
    | 2, hin, ho, hu, hK =>
      cases ho
      have e7 : A.eval (.tmp 7) = .int .i64 (m : Int) := ev_out hA 7 rfl
      exact ph_move _ rfl rfl (.int .i64 (m : Int)) e7 (hK _ _ ⟨gb_rr W _, rfl⟩ rfl)
    | 3, hin, ho, hu, hK =>
      cases ho
      have e23 : A.eval (.tmp 23) = .slice a m c := (ev_in hA 23 1 rfl rfl rfl).trans (show f 1 = .slice a m c from hu 1 (by decide))
      have e24 : A.eval (.tmp 24) = .int .i64 (m : Int) := (ev_in hA 24 2 rfl rfl rfl).trans (show f 2 = .int .i64 (m : Int) from hu 2 (by decide))
      have hsl := HSL.out W
      refine ph_sem rfl rfl (r := .ok (.value (.slice a m c)) W) ?_ (hK _ _ ⟨gb_rr W _, rfl⟩ rfl)
      have eC : ∀ c, A.eval (.const c) = c := fun _ => rfl; have eF : ∀ g, A.eval (.func g) = .func (.func g) #[] #[] := fun _ => rfl; generalize A.eval = ρ at *
      clear hA hu hg hK
      go_simp
    | i + 4, hin, ho, hu, hK => omega
  case last =>
    intro f W A hA hg hu o ho K hK
    cases ho
    have e22 : A.eval (.tmp 22) = .pointer (some ⟨g, 0, none⟩) := (ev_in hA 22 0 rfl rfl rfl).trans (show f 0 = .pointer (some ⟨g, 0, none⟩) from hu 0 (by decide))
    have e25 : A.eval (.tmp 25) = .slice a m c := (ev_in hA 25 3 rfl rfl rfl).trans (show f 3 = .slice a m c from hu 3 (by decide))
    refine ph_fnB 57 _ _ rfl rfl #[.pointer (some ⟨g, 0, none⟩), .slice a m c] (by simp [e22, e25]) (by kernel_rfl) ?_
    refine (Calls.mono (HTK.out W hg.1) ?_)
    clear e22 e25
    rintro r x2 htk
    rcases tw_of HP.out.1 (by rw [← HP.out.2.2.2.2.1]; exact hg.1) (by rw [hg.2]; exact HP.out.2.2.2.2.2.1) htk with ⟨D, o2, rfl, q1, q2⟩ | ⟨D, o2, e, part1, pp1, seq1, nn1, rfl, q1, q2, q3, q4⟩
    · skip
      have A2 : Hid (TW ys (zs.take m) O X o g w x2 D o2 ∧ ∃ part p seq n L, ST (ys ++ zs.take m) (fun b => (O b ∧ b < w.heap.size) ∨ w.heap.size + 3 ≤ b) x2 g o2 part p seq n (X ++ D) L) := ⟨q1, q2⟩
      have cP2 : x2.cell? ⟨w.heap.size, 0, none⟩ = some (.pointer (some ⟨g, 0, none⟩)) := q1.2.2.2.2.1.cell 0
      have cR2 : x2.cell? ⟨w.heap.size + 1, 0, none⟩ = some (.slice none 0 0) := q1.2.2.2.2.2.1.cell 0
      have fR2 : x2.frozen? ⟨w.heap.size + 1, 0, none⟩ = false := frozen_of_row x2 _ 0 _ _ q1.2.2.2.2.2.1
      have cE2 : x2.cell? ⟨w.heap.size + 1 + 1, 0, none⟩ = some (.int .i64 0) := q1.2.2.2.2.2.2.cell 0
      have fE2 : x2.frozen? ⟨w.heap.size + 1 + 1, 0, none⟩ = false := frozen_of_row x2 _ 0 _ _ q1.2.2.2.2.2.2
      refine .inl ⟨_, rfl, hK _ _ ?_⟩
      clear q1 q2 hg
      have hA2 := hA.trans (putAll_lit [(.pointer (some ⟨g, 0, none⟩)), (.slice a m c), (.int .i64 (m : Int)), (.slice a m c), (f 4)] (by
        intro j hj
        match j, hj with
        | 0, _ => exact hu 0 (by decide)
        | 1, _ => exact hu 1 (by decide)
        | 2, _ => exact hu 2 (by decide)
        | 3, _ => exact hu 3 (by decide)
        | 4, _ => rfl
        | j + 5, hj => exact absurd hj (by simp)))
      clear hu hA
      subst hA2
      simp only [putAll, putL, List.mem_cons, List.not_mem_nil, List.idxOf_cons, Nat.reduceEqDiff, Nat.reduceBEq, Nat.reduceAdd, or_false, or_true, reduceIte, cond_true, cond_false, List.getD_cons_zero, List.getD_cons_succ, BEq.rfl]
      go_wp2_with (go_at_call 58; go_must (refine (Calls.mono (omust_so g 90 _) ?_)); rintro r wq ⟨rfl, hq⟩; obtain rfl := hq.symm; clear hq)
      refine leaves_cons (f := 56) (args := #[.pointer (some ⟨w.heap.size, 0, none⟩), .pointer (some ⟨w.heap.size + 1 + 1, 0, none⟩), .pointer (some ⟨w.heap.size + 1, 0, none⟩)]) (by simp) (by simp [go_sem]) ?_
      obtain ⟨p1, p2, p3, p4, p5, p6, p7, p8⟩ := HP.out
      obtain ⟨⟨a1, a2, a3, a4, a5, a6, a7⟩, part1, pp1, seq1, nn1, L1, a8⟩ := A2.out
      have hgR := grownBy_cell x2 (w.heap.size + 1) 0 (.slice none 0 0)
      have hgE := grownBy_cell (x2.setCell ⟨w.heap.size + 1, 0, none⟩ (.slice none 0 0)) (w.heap.size + 1 + 1) 0 (.int .i64 0)
      have b2 := Bk.grew (Bk.grew a2 hgR (fun z => by have := Option.some.inj z; omega)) hgE (fun z => by have := Option.some.inj z; omega)
      have b5 := (a5.grew hgR (fun z => by have := Option.some.inj z; omega)).grew hgE (fun z => by have := Option.some.inj z; omega)
      have b6 : Bk 22 ((x2.setCell ⟨w.heap.size + 1, 0, none⟩ (.slice none 0 0)).setCell ⟨w.heap.size + 1 + 1, 0, none⟩ (.int .i64 0)) (w.heap.size + 1) #[.slice none 0 0] := (bk_set1 a6 (.slice none 0 0)).grew hgE (fun z => by have := Option.some.inj z; omega)
      have b7 : Bk 30 ((x2.setCell ⟨w.heap.size + 1, 0, none⟩ (.slice none 0 0)).setCell ⟨w.heap.size + 1 + 1, 0, none⟩ (.int .i64 0)) (w.heap.size + 1 + 1) #[.int .i64 0] := bk_set1 (a7.grew hgR (fun z => by have := Option.some.inj z; omega)) (.int .i64 0)
      have hlo := own_lo2 a3.2
      have b3 : Tol (w.heap.size + 3) ((x2.setCell ⟨w.heap.size + 1, 0, none⟩ (.slice none 0 0)).setCell ⟨w.heap.size + 1 + 1, 0, none⟩ (.int .i64 0)) o2 D := ⟨a3.1, own_grewI (own_grewI a3.2 hgR (fun b hb z => by have := (hlo b hb).1; have := Option.some.inj z; omega)) hgE (fun b hb z => by have := (hlo b hb).1; have := Option.some.inj z; omega)⟩
      have b8 := (a8.keep hgR (fun k z => by have hk := Option.some.inj z; subst hk; rintro (⟨_, z2⟩ | z2) <;> omega) (fun z => by have := Option.some.inj z; omega)).keep hgE (fun k z => by have hk := Option.some.inj z; subst hk; rintro (⟨_, z2⟩ | z2) <;> omega) (fun z => by have := Option.some.inj z; omega)
      have hz2 : zs.take m = zs := List.take_of_length_le (by omega)
      rw [hz2] at b8
      have hE := wr_end (ys := ys) (zs := zs) (X := X) (o := o) (O := O) rfl p1 (gb_above (gb_above a1 hgR (by omega)) hgE (by omega)) b3 b2 b6 b7 a4 p4 (.inl ⟨rfl, by omega, part1, pp1, seq1, nn1, L1, b8⟩)
      refine (wcatch_idle g w.heap.size (w.heap.size + 1 + 1) (w.heap.size + 1) o2 0 none 0 0 _ b2 b5 b7 b6 (by omega) (by omega) (by omega) (by omega) (by omega) (by omega)).mono ?_
      rintro e u' w'' ⟨rfl, rfl, rfl⟩
      exact ⟨_, results_twoI Tryd.results24 _ _ _ ⟨w.heap.size + 1, 0, none⟩ ⟨w.heap.size + 1 + 1, 0, none⟩ _ _ rfl rfl (rows_loadW hE.2.1) (err_loadI hE.2.2), hE.1⟩
    · skip
      refine .inr ⟨_, rfl, ?_⟩
      clear hg hu hK
      subst hA
      refine (show Leaves Tryd.prog Tryd.f24 _ _ _ _ _ from ?_)
      refine leaves_cons (f := 56) (args := #[.pointer (some ⟨w.heap.size, 0, none⟩), .pointer (some ⟨w.heap.size + 1 + 1, 0, none⟩), .pointer (some ⟨w.heap.size + 1, 0, none⟩)]) (by simp) (by simp [go_sem]) ?_
      obtain ⟨p1, p2, p3, p4, p5, p6, p7, p8⟩ := HP.out
      obtain ⟨a1, a2, a3, a4, a5, a6, a7⟩ := q1
      have c1 := a2
      have c2 : x2.grownBy x2 (some g) := World.grownBy.refl _ _
      have hgE := grownBy_cell x2 (w.heap.size + 1 + 1) 0 (.int .i64 (o2).err)
      have d5 := a5.grew c2 (fun z => by have := Option.some.inj z; omega)
      have d6 := a6.grew c2 (fun z => by have := Option.some.inj z; omega)
      have d7 := a7.grew c2 (fun z => by have := Option.some.inj z; omega)
      have b2 := Bk.grew c1 hgE (fun z => by have := Option.some.inj z; omega)
      have b6 := d6.grew hgE (fun z => by have := Option.some.inj z; omega)
      have b7 : Bk 30 (x2.setCell ⟨w.heap.size + 1 + 1, 0, none⟩ (.int .i64 (o2).err)) (w.heap.size + 1 + 1) #[.int .i64 (o2).err] := bk_set1 d7 _
      have hto : Tol (w.heap.size + 3) x2 o2 D := a3
      have hlo := own_lo2 hto.2
      have b3 : Tol (w.heap.size + 3) (x2.setCell ⟨w.heap.size + 1 + 1, 0, none⟩ (.int .i64 (o2).err)) o2 D := ⟨hto.1, own_grewI hto.2 hgE (fun b hb z => by have := (hlo b hb).1; have := Option.some.inj z; omega)⟩
      have hE := wr_end (ys := ys) (zs := zs) (X := X) (o := o) (O := O) rfl p1 (gb_above (gb_trans a1 c2) hgE (by omega)) b3 b2 b6 b7 a4 p4 (.inr ⟨by rw [q4]; exact wrong_ne q3, rfl, by rw [q4]; exact ⟨m, part1, pp1, seq1, nn1, by rw [p2]; exact p7, .inl (by omega), q2, .inl q3⟩⟩)
      refine (wcatch_pan g w.heap.size (w.heap.size + 1 + 1) (w.heap.size + 1) o2 0 none 0 0 _ _ [] _ c1 d5 d7 d6 (by omega) (by omega) (by omega) (by omega) (by omega) (by omega)).mono ?_
      rintro e1 u' w'' ⟨rfl, rfl, rfl⟩
      simp only [settle]
      exact ⟨_, results_twoI Tryd.results24 _ _ _ ⟨w.heap.size + 1, 0, none⟩ ⟨w.heap.size + 1 + 1, 0, none⟩ _ _ rfl rfl (rows_loadW hE.2.1) (err_loadI hE.2.2), hE.1⟩
set_option maxRecDepth 20000 in
set_option maxHeartbeats 4000000 in
theorem owrite_b (g : Nat) (o : Opn) (a : Option Addr) (m c : Nat) (ys zs : List Int) (O : Nat → Prop) (part p : Nat) (seq : Int) (n : Nat) (X : List Rwi) (L : List (List Int)) (w : World) (h : ST ys O w g o part p seq n X L) (ht1 : o.ta = none) (ht2 : o.tn = 0) (ht3 : o.tc = 0) (hen : o.ended = false) (hO : ¬ O g) (hx : Seg .u8 w a m zs) (hb : Bytes (ys ++ zs)) (hnz : a = none → c = 0) (hmc : m ≤ c) (hag : ∀ b o s, a = some ⟨b, o, s⟩ → b ≠ g) (ht : Cr.Tab w) (J : Nat) (hK0 : ys.length + J = 268435456) (hm : J < m) :
    Calls Tryd.prog 24 #[.pointer (some ⟨g, 0, none⟩), .slice a m c] w fun r w' => WrA ys zs O X o g w r w' := by
  have hmf : ∀ (fn : Fn) (first cap : Array Value) (w : World), (Instr.makeFunc fn first cap).run Tryd.prog w = .ok (.func fn first cap) w := fun _ _ _ _ => rfl
  have hgw : g < w.heap.size := lt_of_block h.ob
  have hzl : zs.length = m := hx.1
  obtain ⟨w1, w2, w3, w4, w5⟩ := w3_is w g
  obtain ⟨W0, hW0⟩ : ∃ W0, W0 = W3 w g := ⟨_, rfl⟩
  rw [← hW0] at w1 w2 w3 w4 w5
  have s1 : ST ys (fun b => O b ∧ b < w.heap.size) W0 g o part p seq n X L := h.strong.keep w4 (by simp) (by simp)
  have HSH : Hid (Calls Tryd.prog 55 #[.pointer (some ⟨g, 0, none⟩)] W0 fun r w' => r = .returned (.int .i64 0) ∧ w' = W0) := by
    have z := oshut_c g o W0 s1.ob
    rw [shut0 h.er hen] at z
    exact z
  obtain ⟨N0, hN0⟩ : ∃ N0, N0 = ys.length := ⟨_, rfl⟩
  have cP : W0.cell? ⟨w.heap.size, 0, none⟩ = some (.pointer (some ⟨g, 0, none⟩)) := w1.cell 0
  have c3 : W0.cell? ⟨g, 3, none⟩ = some (.int .i64 (N0 : Int)) := by rw [hN0, ← h.sz]; exact Bk.cell s1.ob 3
  have hKm : J ≤ m := by omega
  have HTK : Hid (∀ W, W0.grownBy W none → Calls Tryd.prog 57 #[.pointer (some ⟨g, 0, none⟩), .slice a J c] W fun r w' => TkA ys (zs.take J) (fun b => O b ∧ b < w.heap.size) X o g W r w') := fun W hg => by
    refine otake_c g o a J c ys (zs.take J) _ part p seq n X L W (s1.keep hg (by simp) (by simp)) ht1 ht2 ht3 (fun z => hO z.1) ((seg_takeO hx J hKm).grew (gb_trans w4 hg) (by simp)) ?_ hnz (by omega) (by omega) hag (tab_n ht (gb_trans w4 hg))
    have e : ys ++ zs.take J = (ys ++ zs).take (ys.length + J) := by rw [List.take_length_add_append]
    rw [e]
    exact bytes_takeO hb _
  have HSL : Hid (∀ W, (Instr.slice 27 (.slice a m c) none (some (.int .i64 (268435456 - (N0 : Int)))) none).run Tryd.prog W = .ok (.slice a J c) W) := slice_hI a m c J (268435456 - (N0 : Int)) (by omega) (by omega)
  have HP : Hid (g < w.heap.size ∧ zs.length = m ∧ N0 = ys.length ∧ ¬ O g ∧ W0 = W3 w g ∧ W0.heap.size = w.heap.size + 3 ∧ J ≤ m ∧ ys.length + J = 268435456 ∧ J < m) := ⟨hgw, hzl, hN0, hO, hW0, w5, hKm, by constructor <;> omega⟩
  have HCP : Hid (∀ W, W0.grownBy W none → W.cell? ⟨w.heap.size, 0, none⟩ = some (.pointer (some ⟨g, 0, none⟩))) := fun W hg => cell_none hg cP
  have hmin : ¬ (m : Int) ≤ 268435456 - (N0 : Int) := by omega
  have hmin2 : 268435456 - (N0 : Int) < (m : Int) := by omega
  have hne : ((268435456 - (N0 : Int)) == (m : Int)) = false := beq_eq_false_iff_ne.2 (Int.ne_of_lt hmin2)
  have hw1 : wrap64 (268435456 - (N0 : Int)) = 268435456 - (N0 : Int) := IntWalk.wrap64_in _ ⟨by omega, by omega⟩
  have hw2 : IntKind.i64.wrap (268435456 - (N0 : Int)) = 268435456 - (N0 : Int) := IntWalk.i64_in _ ⟨by omega, by omega⟩
  clear hN0 h hx hb hnz hag ht ht1 ht2 ht3 hen hO s1 w1 w2 w3 w4 w5 hzl hKm hK0 hm
  go_enter_defers Tryd.func24, Tryd.ntmps24
  go_wp2_with fail
  have hW0' : ((w.alloc (.cells #[.pointer (some ⟨g, 0, none⟩)] 51)).alloc (.cells #[.slice none 0 0] 22)).alloc (.cells #[.int .i64 0] 30) = W0 := hW0.symm
  rw [hW0']
  clear hW0 hW0'
  refine (Calls.mono HSH.out ?_)
  rintro r wq ⟨rfl, hq⟩
  obtain rfl := hq.symm
  clear hq
  go_wp2_with fail
  generalize (268435456 - (N0 : Int)) = KI at *
  clear hw1 hw2 hmin hmin2 hmf hmc
  refine wp_region_lastR (fun a b => World.grownBy a b none ∧ b.heap.size = a.heap.size) (fun _ _ _ h k => ⟨gb_trans h.1 k.1, k.2.trans h.2⟩) ⟨⟨rfl, rfl, rfl, Nat.le_refl _, fun _ _ _ => rfl⟩, rfl⟩ 4 rfl (by kernel_rfl) [22, 23, 24, 25, 26] [[], [], [], [1, 2], [0, 3]] (by kernel_rfl) (by kernel_rfl) [fun u W => u = .pointer (some ⟨g, 0, none⟩), fun u W => u = .slice a m c, fun u W => u = .int .i64 KI, fun u W => u = .slice a J c] ?stable ?step ?last
  case stable =>
    intro i v W W' h hg
    match i, h with
    | 0, h => exact h
    | 1, h => exact h
    | 2, h => exact h
    | 3, h => exact h
    | i + 4, h => exact trivial
  case step =>
    intro f W A hA hg i o hin ho hu K hK
    match i, hin, ho, hu, hK with
    | 0, hin, ho, hu, hK =>
      cases ho
      have e2 : A.eval (.tmp 2) = .pointer (some ⟨w.heap.size, 0, none⟩) := ev_out hA 2 rfl
      have hc : W.cell? ⟨w.heap.size, 0, none⟩ = some (.pointer (some ⟨g, 0, none⟩)) := HCP.out W hg.1
      refine ph_sem rfl rfl (r := .ok (.value (.pointer (some ⟨g, 0, none⟩))) W) ?_ (hK _ _ ⟨gb_rr W _, rfl⟩ rfl)
      have eC : ∀ c, A.eval (.const c) = c := fun _ => rfl; have eF : ∀ g, A.eval (.func g) = .func (.func g) #[] #[] := fun _ => rfl; generalize A.eval = ρ at *
      clear hA hu hg hK
      go_simp
    | 1, hin, ho, hu, hK =>
      cases ho
      have e1 : A.eval (.tmp 1) = .slice a m c := ev_out hA 1 rfl
      exact ph_move _ rfl rfl (.slice a m c) e1 (hK _ _ ⟨gb_rr W _, rfl⟩ rfl)
    | 2, hin, ho, hu, hK =>
      cases ho
      have e7 : A.eval (.tmp 7) = .int .i64 KI := ev_out hA 7 rfl
      exact ph_move _ rfl rfl (.int .i64 KI) e7 (hK _ _ ⟨gb_rr W _, rfl⟩ rfl)
    | 3, hin, ho, hu, hK =>
      cases ho
      have e23 : A.eval (.tmp 23) = .slice a m c := (ev_in hA 23 1 rfl rfl rfl).trans (show f 1 = .slice a m c from hu 1 (by decide))
      have e24 : A.eval (.tmp 24) = .int .i64 KI := (ev_in hA 24 2 rfl rfl rfl).trans (show f 2 = .int .i64 KI from hu 2 (by decide))
      have hsl := HSL.out W
      refine ph_sem rfl rfl (r := .ok (.value (.slice a J c)) W) ?_ (hK _ _ ⟨gb_rr W _, rfl⟩ rfl)
      have eC : ∀ c, A.eval (.const c) = c := fun _ => rfl; have eF : ∀ g, A.eval (.func g) = .func (.func g) #[] #[] := fun _ => rfl; generalize A.eval = ρ at *
      clear hA hu hg hK
      go_simp
    | i + 4, hin, ho, hu, hK => omega
  case last =>
    intro f W A hA hg hu o ho K hK
    cases ho
    have e22 : A.eval (.tmp 22) = .pointer (some ⟨g, 0, none⟩) := (ev_in hA 22 0 rfl rfl rfl).trans (show f 0 = .pointer (some ⟨g, 0, none⟩) from hu 0 (by decide))
    have e25 : A.eval (.tmp 25) = .slice a J c := (ev_in hA 25 3 rfl rfl rfl).trans (show f 3 = .slice a J c from hu 3 (by decide))
    refine ph_fnB 57 _ _ rfl rfl #[.pointer (some ⟨g, 0, none⟩), .slice a J c] (by simp [e22, e25]) (by kernel_rfl) ?_
    refine (Calls.mono (HTK.out W hg.1) ?_)
    clear e22 e25
    rintro r x2 htk
    rcases tw_of HP.out.1 (by rw [← HP.out.2.2.2.2.1]; exact hg.1) (by rw [hg.2]; exact HP.out.2.2.2.2.2.1) htk with ⟨D, o2, rfl, q1, q2⟩ | ⟨D, o2, e, part1, pp1, seq1, nn1, rfl, q1, q2, q3, q4⟩
    · skip
      have A2 : Hid (TW ys (zs.take J) O X o g w x2 D o2 ∧ ∃ part p seq n L, ST (ys ++ zs.take J) (fun b => (O b ∧ b < w.heap.size) ∨ w.heap.size + 3 ≤ b) x2 g o2 part p seq n (X ++ D) L) := ⟨q1, q2⟩
      have cP2 : x2.cell? ⟨w.heap.size, 0, none⟩ = some (.pointer (some ⟨g, 0, none⟩)) := q1.2.2.2.2.1.cell 0
      have cR2 : x2.cell? ⟨w.heap.size + 1, 0, none⟩ = some (.slice none 0 0) := q1.2.2.2.2.2.1.cell 0
      have fR2 : x2.frozen? ⟨w.heap.size + 1, 0, none⟩ = false := frozen_of_row x2 _ 0 _ _ q1.2.2.2.2.2.1
      have cE2 : x2.cell? ⟨w.heap.size + 1 + 1, 0, none⟩ = some (.int .i64 0) := q1.2.2.2.2.2.2.cell 0
      have fE2 : x2.frozen? ⟨w.heap.size + 1 + 1, 0, none⟩ = false := frozen_of_row x2 _ 0 _ _ q1.2.2.2.2.2.2
      refine .inl ⟨_, rfl, hK _ _ ?_⟩
      clear q1 q2 hg
      have hA2 := hA.trans (putAll_lit [(.pointer (some ⟨g, 0, none⟩)), (.slice a m c), (.int .i64 KI), (.slice a J c), (f 4)] (by
        intro j hj
        match j, hj with
        | 0, _ => exact hu 0 (by decide)
        | 1, _ => exact hu 1 (by decide)
        | 2, _ => exact hu 2 (by decide)
        | 3, _ => exact hu 3 (by decide)
        | 4, _ => rfl
        | j + 5, hj => exact absurd hj (by simp)))
      clear hu hA
      subst hA2
      simp only [putAll, putL, List.mem_cons, List.not_mem_nil, List.idxOf_cons, Nat.reduceEqDiff, Nat.reduceBEq, Nat.reduceAdd, or_false, or_true, reduceIte, cond_true, cond_false, List.getD_cons_zero, List.getD_cons_succ, BEq.rfl]
      have HMU : Hid _ := omust_no g o2 90 x2 A2.out.1.2.1
      go_wp2_with (go_at_call 58; go_must (refine (Calls.mono HMU.out ?_)); rintro r x3 ⟨rfl, h1, h2⟩; have A3 : Hid (OpB x3 g { o2 with err := 90, rest := none } ∧ x2.grownBy x3 (some g)) := ⟨h1, h2⟩; clear h1 h2)
      refine leaves_cons (f := 56) (args := #[.pointer (some ⟨w.heap.size, 0, none⟩), .pointer (some ⟨w.heap.size + 1 + 1, 0, none⟩), .pointer (some ⟨w.heap.size + 1, 0, none⟩)]) (by simp) (by simp [go_sem]) ?_
      clear hne
      obtain ⟨p1, p2, p3, p4, p5, p6, p7, p8⟩ := HP.out
      obtain ⟨⟨a1, a2, a3, a4, a5, a6, a7⟩, part1, pp1, seq1, nn1, L1, a8⟩ := A2.out
      obtain ⟨c1, c2⟩ := A3.out
      have hgE := grownBy_cell x3 (w.heap.size + 1 + 1) 0 (.int .i64 ({ o2 with err := 90, rest := none }).err)
      have d5 := a5.grew c2 (fun z => by have := Option.some.inj z; omega)
      have d6 := a6.grew c2 (fun z => by have := Option.some.inj z; omega)
      have d7 := a7.grew c2 (fun z => by have := Option.some.inj z; omega)
      have b2 := Bk.grew c1 hgE (fun z => by have := Option.some.inj z; omega)
      have b6 := d6.grew hgE (fun z => by have := Option.some.inj z; omega)
      have b7 : Bk 30 (x3.setCell ⟨w.heap.size + 1 + 1, 0, none⟩ (.int .i64 ({ o2 with err := 90, rest := none }).err)) (w.heap.size + 1 + 1) #[.int .i64 ({ o2 with err := 90, rest := none }).err] := bk_set1 d7 _
      have hto : Tol (w.heap.size + 3) x3 { o2 with err := 90, rest := none } D := a3.grew c2 (Nat.lt_add_right 3 p1) rfl rfl rfl
      have hlo := own_lo2 hto.2
      have b3 : Tol (w.heap.size + 3) (x3.setCell ⟨w.heap.size + 1 + 1, 0, none⟩ (.int .i64 ({ o2 with err := 90, rest := none }).err)) { o2 with err := 90, rest := none } D := ⟨hto.1, own_grewI hto.2 hgE (fun b hb z => by have := (hlo b hb).1; have := Option.some.inj z; omega)⟩
      have hE := wr_end (ys := ys) (zs := zs) (X := X) (o := o) (O := O) rfl p1 (gb_above (gb_trans a1 c2) hgE (by omega)) b3 b2 b6 b7 a4 p4 (.inr ⟨(show (90 : Int) ≠ 0 by decide), rfl, ⟨J, part1, pp1, seq1, nn1, by rw [p2]; exact p7, .inr p8.1, a8.pre, .inr ⟨a8.wt, by rw [p2]; exact p8.2, rfl⟩⟩⟩)
      refine (wcatch_pan g w.heap.size (w.heap.size + 1 + 1) (w.heap.size + 1) { o2 with err := 90, rest := none } 0 none 0 0 _ _ [] _ c1 d5 d7 d6 (by omega) (by omega) (by omega) (by omega) (by omega) (by omega)).mono ?_
      rintro e1 u' w'' ⟨rfl, rfl, rfl⟩
      simp only [settle]
      exact ⟨_, results_twoI Tryd.results24 _ _ _ ⟨w.heap.size + 1, 0, none⟩ ⟨w.heap.size + 1 + 1, 0, none⟩ _ _ rfl rfl (rows_loadW hE.2.1) (err_loadI hE.2.2), hE.1⟩
    · skip
      refine .inr ⟨_, rfl, ?_⟩
      clear hg hu hK
      subst hA
      refine (show Leaves Tryd.prog Tryd.f24 _ _ _ _ _ from ?_)
      refine leaves_cons (f := 56) (args := #[.pointer (some ⟨w.heap.size, 0, none⟩), .pointer (some ⟨w.heap.size + 1 + 1, 0, none⟩), .pointer (some ⟨w.heap.size + 1, 0, none⟩)]) (by simp) (by simp [go_sem]) ?_
      clear hne
      obtain ⟨p1, p2, p3, p4, p5, p6, p7, p8⟩ := HP.out
      obtain ⟨a1, a2, a3, a4, a5, a6, a7⟩ := q1
      have c1 := a2
      have c2 : x2.grownBy x2 (some g) := World.grownBy.refl _ _
      have hgE := grownBy_cell x2 (w.heap.size + 1 + 1) 0 (.int .i64 (o2).err)
      have d5 := a5.grew c2 (fun z => by have := Option.some.inj z; omega)
      have d6 := a6.grew c2 (fun z => by have := Option.some.inj z; omega)
      have d7 := a7.grew c2 (fun z => by have := Option.some.inj z; omega)
      have b2 := Bk.grew c1 hgE (fun z => by have := Option.some.inj z; omega)
      have b6 := d6.grew hgE (fun z => by have := Option.some.inj z; omega)
      have b7 : Bk 30 (x2.setCell ⟨w.heap.size + 1 + 1, 0, none⟩ (.int .i64 (o2).err)) (w.heap.size + 1 + 1) #[.int .i64 (o2).err] := bk_set1 d7 _
      have hto : Tol (w.heap.size + 3) x2 o2 D := a3
      have hlo := own_lo2 hto.2
      have b3 : Tol (w.heap.size + 3) (x2.setCell ⟨w.heap.size + 1 + 1, 0, none⟩ (.int .i64 (o2).err)) o2 D := ⟨hto.1, own_grewI hto.2 hgE (fun b hb z => by have := (hlo b hb).1; have := Option.some.inj z; omega)⟩
      have hE := wr_end (ys := ys) (zs := zs) (X := X) (o := o) (O := O) rfl p1 (gb_above (gb_trans a1 c2) hgE (by omega)) b3 b2 b6 b7 a4 p4 (.inr ⟨by rw [q4]; exact wrong_ne q3, rfl, by rw [q4]; exact ⟨J, part1, pp1, seq1, nn1, by rw [p2]; exact p7, .inr p8.1, q2, .inl q3⟩⟩)
      refine (wcatch_pan g w.heap.size (w.heap.size + 1 + 1) (w.heap.size + 1) o2 0 none 0 0 _ _ [] _ c1 d5 d7 d6 (by omega) (by omega) (by omega) (by omega) (by omega) (by omega)).mono ?_
      rintro e1 u' w'' ⟨rfl, rfl, rfl⟩
      simp only [settle]
      exact ⟨_, results_twoI Tryd.results24 _ _ _ ⟨w.heap.size + 1, 0, none⟩ ⟨w.heap.size + 1 + 1, 0, none⟩ _ _ rfl rfl (rows_loadW hE.2.1) (err_loadI hE.2.2), hE.1⟩
end Go.Proofs.YtcdgfghcmeadgaaDoor
