/-
  What table's join and link answer: a tree that holds the one's rows, x, the other one's. Condition: no number outgrows its kind.
-/
import Derived.Test.YtdmchcdkfbijlabTLv
namespace Go.Proofs.Ytdmchcdkfbijlab
open Go.RowKit
set_option linter.unusedVariables false

/-- What join answers where both hold at most n rows. -/
def JoinC (o : Nat → Prop) (n : Nat) : Prop := ∀ (x : Rw) (pl pr : Option Addr) (hl hr : Nat) (l r : List Rw) (w : World), (∀ b, w.heap.size ≤ b → o b) → Tr o w pl hl l → Tr o w pr hr r → l.length + r.length ≤ n → Sm (l ++ x :: r) → Calls Try.prog 35 #[.pointer pl, iv x, .pointer pr] w (TR o w (l ++ x :: r))
set_option maxRecDepth 20000 in
set_option maxHeartbeats 1000000 in
theorem join_a (o : Nat → Prop) (n : Nat) (ih : JoinC o n) (w : World) (ob : ∀ b, w.heap.size ≤ b → o b) (x : Rw) (lb : Nat) (lx : Rw) (pll plr pr : Option Addr) (hl hll hlr hr nl zl : Nat) (ll lr r L : List Rw)
    (hb : Bk 62 w lb (nc lx pll plr hl nl zl)) (Tl : Tr o w (some ⟨lb, 0, none⟩) hl L) (Tll : Tr o w pll hll ll) (Tlr : Tr o w plr hlr lr) (Tq : Tr o w pr hr r) (c1 : hr + 1 < hl) (bd : hl < 4611686018427387904) (hn : lr.length + r.length ≤ n) (hs : Sm ((ll ++ lx :: lr) ++ x :: r)) : Calls Try.prog 35 #[.pointer (some ⟨lb, 0, none⟩), iv x, .pointer pr] w (TR o w ((ll ++ lx :: lr) ++ x :: r)) := by
  have HS : Hid (Sm ((ll ++ lx :: lr) ++ x :: r)) := hs
  have HI : Hid (JoinC o n) := ih
  have HLN : Hid (lr.length + r.length ≤ n) := hn
  clear ih hn
  have HB : Hid (Bk 62 w lb (nc lx pll plr hl nl zl)) := hb
  have T1 : Hid (Tr o w pll hll ll) := Tll
  have T2 : Hid (Tr o w plr hlr lr) := Tlr
  have T4 : Hid (Tr o w pr hr r) := Tq
  have d1 : ((hr : Int) + 1 < (hl : Int)) := by omega
  have HOB : Hid (∀ W, w.grownBy W none → ∀ b, W.heap.size ≤ b → o b) := fun W hg b hb => ob b (Nat.le_trans hg.size hb)
  have HH1 : Hid (∀ W, w.grownBy W none → Calls Try.prog 44 #[.pointer (some ⟨lb, 0, none⟩)] W fun r w' => r = .returned (.int .i64 (hl : Nat)) ∧ w' = W) := fun W hg => height_c o _ _ _ _ (Tl.gb hg)
  have HH2 : Hid (∀ W, w.grownBy W none → Calls Try.prog 44 #[.pointer pr] W fun r w' => r = .returned (.int .i64 (hr : Nat)) ∧ w' = W) := fun W hg => height_c o _ _ _ _ (Tq.gb hg)
  have HN : Hid (w.grownBy (w.alloc (.cells #[.string x.1, .string x.2.1, .int .i64 x.2.2] 52)) none) := gb_alloc _ _
  have HN2 : Hid (Bk 52 (w.alloc (.cells #[.string x.1, .string x.2.1, .int .i64 x.2.2] 52)) w.heap.size (ivs x)) := (blk_new w 52 _).1
  clear hs hb Tl Tll Tlr Tq ob
  unfold iv
  go_enter Try.func35, Try.ntmps35
  go_wp2_with fail
  generalize hW1 : World.alloc w _ = w1 at *
  clear hW1
  obtain ⟨N, hN⟩ : ∃ N, N = w.heap.size := ⟨_, rfl⟩
  rw [← hN] at HN2 ⊢
  clear hN
  go_wp2_with (first | (go_at_call_has 44 (Value.pointer (some ⟨lb, 0, none⟩)); go_must (refine (Calls.mono (HH1.out _ HN.out) ?_)); rintro r wq ⟨rfl, rfl⟩) | (go_at_call_has 44 (Value.pointer pr); go_must (refine (Calls.mono (HH2.out _ HN.out) ?_)); rintro r wq ⟨rfl, rfl⟩))
  refine wp_region_phi none rfl (by kernel_rfl) [14, 15, 16, 17, 18, 19, 20, 21, 22, 23, 24, 25, 26, 27, 28, 29, 6] [[], [0], [1], [2], [], [4], [5], [6], [], [8], [9], [10], [], [], [11, 12, 13], [3, 7, 14], [15]] (by kernel_rfl) [fun u W => u = .pointer (some ⟨lb, 0, none⟩), fun u W => u = .pointer (some ⟨lb, 0, none⟩), fun u W => u = .pointer (some ⟨lb, 3, none⟩), fun u W => u = .pointer pll, fun u W => u = .pointer (some ⟨lb, 0, none⟩), fun u W => u = .pointer (some ⟨lb, 0, none⟩), fun u W => u = .pointer (some ⟨lb, 0, none⟩), fun u W => u = .agg #[.string lx.1, .string lx.2.1, .int .i64 lx.2.2], fun u W => u = .pointer (some ⟨lb, 0, none⟩), fun u W => u = .pointer (some ⟨lb, 0, none⟩), fun u W => u = .pointer (some ⟨lb, 4, none⟩), fun u W => u = .pointer plr, fun u W => u = .agg #[.string x.1, .string x.2.1, .int .i64 x.2.2], fun u W => u = .pointer pr, fun u W => ∃ p h, u = .pointer p ∧ Tr o W p h (lr ++ x :: r), fun u W => ∃ p h, u = .pointer p ∧ Tr o W p h (ll ++ lx :: (lr ++ x :: r)), fun u W => ∃ p h, u = .pointer p ∧ Tr o W p h (ll ++ lx :: (lr ++ x :: r))] ?stable ?step ?fin
  case stable =>
    intro i v W W' h hg
    match i, h with
    | 0, h => exact h
    | 1, h => exact h
    | 2, h => exact h
    | 3, h => exact h
    | 4, h => exact h
    | 5, h => exact h
    | 6, h => exact h
    | 7, h => exact h
    | 8, h => exact h
    | 9, h => exact h
    | 10, h => exact h
    | 11, h => exact h
    | 12, h => exact h
    | 13, h => exact h
    | 14, h => obtain ⟨p, h, h1, h2⟩ := h; exact ⟨p, h, h1, h2.gb hg⟩
    | 15, h => obtain ⟨p, h, h1, h2⟩ := h; exact ⟨p, h, h1, h2.gb hg⟩
    | 16, h => obtain ⟨p, h, h1, h2⟩ := h; exact ⟨p, h, h1, h2.gb hg⟩
    | i + 17, h => exact trivial
  case step =>
    intro f W A hA hg i o ho hu K hK
    match i, ho, hu, hK with
    | 0, ho, hu, hK =>
      cases ho
      have hw : w.grownBy W none := gb_trans HN.out hg
      have e0 : A.eval (.tmp 0) = .pointer (some ⟨lb, 0, none⟩) := ev_out hA 0 rfl
      exact ph_move _ rfl rfl (.pointer (some ⟨lb, 0, none⟩)) e0 (hK _ _ (gb_rr W _) rfl)
    | 1, ho, hu, hK =>
      cases ho
      have hw : w.grownBy W none := gb_trans HN.out hg
      have e14 : A.eval (.tmp 14) = .pointer (some ⟨lb, 0, none⟩) := (ev_in hA 14 0 rfl rfl rfl).trans (show f 0 = .pointer (some ⟨lb, 0, none⟩) from hu 0 (by decide))
      exact ph_nil _ rfl rfl _ e14 (hK _ _ (gb_rr W _) rfl)
    | 2, ho, hu, hK =>
      cases ho
      have hw : w.grownBy W none := gb_trans HN.out hg
      have e15 : A.eval (.tmp 15) = .pointer (some ⟨lb, 0, none⟩) := (ev_in hA 15 1 rfl rfl rfl).trans (show f 1 = .pointer (some ⟨lb, 0, none⟩) from hu 1 (by decide))
      exact ph_field _ _ _ rfl rfl _ (.pointer (some ⟨lb, 3, none⟩)) e15 (by kernel_rfl) (hK _ _ (gb_rr W _) rfl)
    | 3, ho, hu, hK =>
      cases ho
      have hw : w.grownBy W none := gb_trans HN.out hg
      have e16 : A.eval (.tmp 16) = .pointer (some ⟨lb, 3, none⟩) := (ev_in hA 16 2 rfl rfl rfl).trans (show f 2 = .pointer (some ⟨lb, 3, none⟩) from hu 2 (by decide))
      have hc : W.cell? ⟨lb, 3, none⟩ = some (.pointer pll) := (HB.out.grew hw (by simp)).cell 3
      have eC : ∀ c, A.eval (.const c) = c := fun _ => rfl; have eF : ∀ g, A.eval (.func g) = .func (.func g) #[] #[] := fun _ => rfl; generalize hρ : A.eval = ρ at *
      clear hA hu hg
      refine ph_sem hρ rfl (r := .ok (.value (.pointer pll)) W) ?_ (hK _ _ (gb_rr W _) rfl)
      go_simp
    | 4, ho, hu, hK =>
      cases ho
      have hw : w.grownBy W none := gb_trans HN.out hg
      have e0 : A.eval (.tmp 0) = .pointer (some ⟨lb, 0, none⟩) := ev_out hA 0 rfl
      exact ph_move _ rfl rfl (.pointer (some ⟨lb, 0, none⟩)) e0 (hK _ _ (gb_rr W _) rfl)
    | 5, ho, hu, hK =>
      cases ho
      have hw : w.grownBy W none := gb_trans HN.out hg
      have e18 : A.eval (.tmp 18) = .pointer (some ⟨lb, 0, none⟩) := (ev_in hA 18 4 rfl rfl rfl).trans (show f 4 = .pointer (some ⟨lb, 0, none⟩) from hu 4 (by decide))
      exact ph_nil _ rfl rfl _ e18 (hK _ _ (gb_rr W _) rfl)
    | 6, ho, hu, hK =>
      cases ho
      have hw : w.grownBy W none := gb_trans HN.out hg
      have e19 : A.eval (.tmp 19) = .pointer (some ⟨lb, 0, none⟩) := (ev_in hA 19 5 rfl rfl rfl).trans (show f 5 = .pointer (some ⟨lb, 0, none⟩) from hu 5 (by decide))
      exact ph_field _ _ _ rfl rfl _ (.pointer (some ⟨lb, 0, none⟩)) e19 (by kernel_rfl) (hK _ _ (gb_rr W _) rfl)
    | 7, ho, hu, hK =>
      cases ho
      have hw : w.grownBy W none := gb_trans HN.out hg
      have e20 : A.eval (.tmp 20) = .pointer (some ⟨lb, 0, none⟩) := (ev_in hA 20 6 rfl rfl rfl).trans (show f 6 = .pointer (some ⟨lb, 0, none⟩) from hu 6 (by decide))
      exact ph_load rfl 52 _ rfl Try.underlying52 rfl lb 0 [.string lx.1, .string lx.2.1, .int .i64 lx.2.2] (by kernel_rfl) e20 (nc_range (HB.out.grew hw (by simp))) (hK _ _ (gb_rr W _) rfl)
    | 8, ho, hu, hK =>
      cases ho
      have hw : w.grownBy W none := gb_trans HN.out hg
      have e0 : A.eval (.tmp 0) = .pointer (some ⟨lb, 0, none⟩) := ev_out hA 0 rfl
      exact ph_move _ rfl rfl (.pointer (some ⟨lb, 0, none⟩)) e0 (hK _ _ (gb_rr W _) rfl)
    | 9, ho, hu, hK =>
      cases ho
      have hw : w.grownBy W none := gb_trans HN.out hg
      have e22 : A.eval (.tmp 22) = .pointer (some ⟨lb, 0, none⟩) := (ev_in hA 22 8 rfl rfl rfl).trans (show f 8 = .pointer (some ⟨lb, 0, none⟩) from hu 8 (by decide))
      exact ph_nil _ rfl rfl _ e22 (hK _ _ (gb_rr W _) rfl)
    | 10, ho, hu, hK =>
      cases ho
      have hw : w.grownBy W none := gb_trans HN.out hg
      have e23 : A.eval (.tmp 23) = .pointer (some ⟨lb, 0, none⟩) := (ev_in hA 23 9 rfl rfl rfl).trans (show f 9 = .pointer (some ⟨lb, 0, none⟩) from hu 9 (by decide))
      exact ph_field _ _ _ rfl rfl _ (.pointer (some ⟨lb, 4, none⟩)) e23 (by kernel_rfl) (hK _ _ (gb_rr W _) rfl)
    | 11, ho, hu, hK =>
      cases ho
      have hw : w.grownBy W none := gb_trans HN.out hg
      have e24 : A.eval (.tmp 24) = .pointer (some ⟨lb, 4, none⟩) := (ev_in hA 24 10 rfl rfl rfl).trans (show f 10 = .pointer (some ⟨lb, 4, none⟩) from hu 10 (by decide))
      have hc : W.cell? ⟨lb, 4, none⟩ = some (.pointer plr) := (HB.out.grew hw (by simp)).cell 4
      have eC : ∀ c, A.eval (.const c) = c := fun _ => rfl; have eF : ∀ g, A.eval (.func g) = .func (.func g) #[] #[] := fun _ => rfl; generalize hρ : A.eval = ρ at *
      clear hA hu hg
      refine ph_sem hρ rfl (r := .ok (.value (.pointer plr)) W) ?_ (hK _ _ (gb_rr W _) rfl)
      go_simp
    | 12, ho, hu, hK =>
      cases ho
      have hw : w.grownBy W none := gb_trans HN.out hg
      have e4 : A.eval (.tmp 4) = .pointer (some ⟨N, 0, none⟩) := ev_out hA 4 rfl
      exact ph_load rfl 52 _ rfl Try.underlying52 rfl N 0 [.string x.1, .string x.2.1, .int .i64 x.2.2] (by kernel_rfl) e4 (it_range (HN2.out.grew hg (by simp))) (hK _ _ (gb_rr W _) rfl)
    | 13, ho, hu, hK =>
      cases ho
      have hw : w.grownBy W none := gb_trans HN.out hg
      have e2 : A.eval (.tmp 2) = .pointer pr := ev_out hA 2 rfl
      exact ph_move _ rfl rfl (.pointer pr) e2 (hK _ _ (gb_rr W _) rfl)
    | 14, ho, hu, hK =>
      cases ho
      have hw : w.grownBy W none := gb_trans HN.out hg
      have e25 : A.eval (.tmp 25) = .pointer plr := (ev_in hA 25 11 rfl rfl rfl).trans (show f 11 = .pointer plr from hu 11 (by decide))
      have e26 : A.eval (.tmp 26) = .agg #[.string x.1, .string x.2.1, .int .i64 x.2.2] := (ev_in hA 26 12 rfl rfl rfl).trans (show f 12 = .agg #[.string x.1, .string x.2.1, .int .i64 x.2.2] from hu 12 (by decide))
      have e27 : A.eval (.tmp 27) = .pointer pr := (ev_in hA 27 13 rfl rfl rfl).trans (show f 13 = .pointer pr from hu 13 (by decide))
      refine ph_fn 35 _ _ rfl rfl #[.pointer plr, .agg #[.string x.1, .string x.2.1, .int .i64 x.2.2], .pointer pr] (by simp [e25, e26, e27]) (by kernel_rfl) ?_
      refine (Calls.mono (HI.out x plr pr _ _ lr r W (HOB.out W hw) (T2.out.gb hw) (T4.out.gb hw) HLN.out (by have := HS.out; simp only [Sm, List.length_append, List.length_cons, szs_app, szs_cons] at this ⊢; omega)) ?_)
      rintro e W' ⟨p, h, rfl, ht, hq⟩
      exact ⟨_, rfl, hK _ _ hq ⟨p, h, rfl, ht⟩⟩
    | 15, ho, hu, hK =>
      cases ho
      have hw : w.grownBy W none := gb_trans HN.out hg
      have e17 : A.eval (.tmp 17) = .pointer pll := (ev_in hA 17 3 rfl rfl rfl).trans (show f 3 = .pointer pll from hu 3 (by decide))
      have e21 : A.eval (.tmp 21) = .agg #[.string lx.1, .string lx.2.1, .int .i64 lx.2.2] := (ev_in hA 21 7 rfl rfl rfl).trans (show f 7 = .agg #[.string lx.1, .string lx.2.1, .int .i64 lx.2.2] from hu 7 (by decide))
      obtain ⟨p14, h14, hv14, ht14⟩ := hu 14 (by decide)
      have e28 : A.eval (.tmp 28) = .pointer p14 := (ev_in hA 28 14 rfl rfl rfl).trans hv14
      refine ph_fn 46 _ _ rfl rfl #[.pointer pll, .agg #[.string lx.1, .string lx.2.1, .int .i64 lx.2.2], .pointer p14] (by simp [e17, e21, e28]) (by kernel_rfl) ?_
      refine (Calls.mono (level_t o lx pll p14 _ _ ll (lr ++ x :: r) W (HOB.out W hw) (T1.out.gb hw) ht14 (by have := HS.out; simp only [Sm, List.length_append, List.length_cons, szs_app, szs_cons] at this ⊢; omega)) ?_)
      rintro e W' ⟨p, h, rfl, ht, hq⟩
      exact ⟨_, rfl, hK _ _ hq ⟨p, h, rfl, ht⟩⟩
    | 16, ho, hu, hK =>
      cases ho
      have hw : w.grownBy W none := gb_trans HN.out hg
      obtain ⟨p15, h15, hv15, ht15⟩ := hu 15 (by decide)
      have e29 : A.eval (.tmp 29) = .pointer p15 := (ev_in hA 29 15 rfl rfl rfl).trans hv15
      exact ph_assign _ rfl rfl _ (e29) (hK _ _ (gb_rr W _) ⟨p15, h15, rfl, ht15⟩)
    | i + 17, ho, hu, hK => simp at ho
  case fin =>
    intro f W A hA hg hu
    obtain ⟨p, h, h1, h2⟩ := hu 16 (by decide)
    refine (by assumption : ∀ (a : Act) (w : World), Code.wp Try.prog Code.ret _ a w → _) A W ?_
    refine wp_ret ?_
    refine ret_ph (fn := Try.f35) hA 6 Try.results35 rfl ((ev_in hA 6 16 rfl rfl rfl).trans h1) ?_
    exact ⟨p, h, rfl, by rw [show ((ll ++ lx :: lr) ++ x :: r : List Rw) = ll ++ lx :: (lr ++ x :: r) from by simp]; exact h2, gb_trans HN.out hg⟩
set_option maxRecDepth 20000 in
set_option maxHeartbeats 1000000 in
theorem join_b (o : Nat → Prop) (n : Nat) (ih : JoinC o n) (w : World) (ob : ∀ b, w.heap.size ≤ b → o b) (x : Rw) (rb : Nat) (rx : Rw) (prl prr pl : Option Addr) (hl hrl hrr hr nr zr : Nat) (rl rr l R : List Rw)
    (hb : Bk 62 w rb (nc rx prl prr hr nr zr)) (Tq : Tr o w (some ⟨rb, 0, none⟩) hr R) (Trl : Tr o w prl hrl rl) (Trr : Tr o w prr hrr rr) (Tl : Tr o w pl hl l) (c0 : ¬ hr + 1 < hl) (c1 : hl + 1 < hr) (bd : hr < 4611686018427387904) (hn : l.length + rl.length ≤ n) (hs : Sm (l ++ x :: (rl ++ rx :: rr))) : Calls Try.prog 35 #[.pointer pl, iv x, .pointer (some ⟨rb, 0, none⟩)] w (TR o w (l ++ x :: (rl ++ rx :: rr))) := by
  have HS : Hid (Sm (l ++ x :: (rl ++ rx :: rr))) := hs
  have HI : Hid (JoinC o n) := ih
  have HLN : Hid (l.length + rl.length ≤ n) := hn
  clear ih hn
  have HB : Hid (Bk 62 w rb (nc rx prl prr hr nr zr)) := hb
  have T1 : Hid (Tr o w prl hrl rl) := Trl
  have T2 : Hid (Tr o w prr hrr rr) := Trr
  have T4 : Hid (Tr o w pl hl l) := Tl
  have d0 : decide ((hr : Int) + 1 < (hl : Int)) = false := decide_eq_false (by omega)
  have wv0 : IntKind.i64.wrap ((hr : Int) + 1) = (hr : Int) + 1 := wr64 _ ⟨by omega, by omega⟩
  have wv1 : IntKind.i64.wrap ((hl : Int) + 1) = (hl : Int) + 1 := wr64 _ ⟨by omega, by omega⟩
  have d1 : ((hl : Int) + 1 < (hr : Int)) := by omega
  have HOB : Hid (∀ W, w.grownBy W none → ∀ b, W.heap.size ≤ b → o b) := fun W hg b hb => ob b (Nat.le_trans hg.size hb)
  have HH1 : Hid (∀ W, w.grownBy W none → Calls Try.prog 44 #[.pointer pl] W fun r w' => r = .returned (.int .i64 (hl : Nat)) ∧ w' = W) := fun W hg => height_c o _ _ _ _ (Tl.gb hg)
  have HH2 : Hid (∀ W, w.grownBy W none → Calls Try.prog 44 #[.pointer (some ⟨rb, 0, none⟩)] W fun r w' => r = .returned (.int .i64 (hr : Nat)) ∧ w' = W) := fun W hg => height_c o _ _ _ _ (Tq.gb hg)
  have HN : Hid (w.grownBy (w.alloc (.cells #[.string x.1, .string x.2.1, .int .i64 x.2.2] 52)) none) := gb_alloc _ _
  have HN2 : Hid (Bk 52 (w.alloc (.cells #[.string x.1, .string x.2.1, .int .i64 x.2.2] 52)) w.heap.size (ivs x)) := (blk_new w 52 _).1
  clear hs hb Tl Trl Trr Tq ob
  unfold iv
  go_enter Try.func35, Try.ntmps35
  go_wp2_with fail
  generalize hW1 : World.alloc w _ = w1 at *
  clear hW1
  obtain ⟨N, hN⟩ : ∃ N, N = w.heap.size := ⟨_, rfl⟩
  rw [← hN] at HN2 ⊢
  clear hN
  go_wp2_with (first | (go_at_call_has 44 (Value.pointer pl); go_must (refine (Calls.mono (HH1.out _ HN.out) ?_)); rintro r wq ⟨rfl, rfl⟩) | (go_at_call_has 44 (Value.pointer (some ⟨rb, 0, none⟩)); go_must (refine (Calls.mono (HH2.out _ HN.out) ?_)); rintro r wq ⟨rfl, rfl⟩))
  refine wp_region_phi none rfl (by kernel_rfl) [37, 38, 39, 40, 41, 42, 43, 44, 45, 46, 47, 48, 49, 50, 51, 52, 6] [[], [], [], [2], [3], [4], [0, 1, 5], [], [7], [8], [9], [], [11], [12], [13], [6, 10, 14], [15]] (by kernel_rfl) [fun u W => u = .pointer pl, fun u W => u = .agg #[.string x.1, .string x.2.1, .int .i64 x.2.2], fun u W => u = .pointer (some ⟨rb, 0, none⟩), fun u W => u = .pointer (some ⟨rb, 0, none⟩), fun u W => u = .pointer (some ⟨rb, 3, none⟩), fun u W => u = .pointer prl, fun u W => ∃ p h, u = .pointer p ∧ Tr o W p h (l ++ x :: rl), fun u W => u = .pointer (some ⟨rb, 0, none⟩), fun u W => u = .pointer (some ⟨rb, 0, none⟩), fun u W => u = .pointer (some ⟨rb, 0, none⟩), fun u W => u = .agg #[.string rx.1, .string rx.2.1, .int .i64 rx.2.2], fun u W => u = .pointer (some ⟨rb, 0, none⟩), fun u W => u = .pointer (some ⟨rb, 0, none⟩), fun u W => u = .pointer (some ⟨rb, 4, none⟩), fun u W => u = .pointer prr, fun u W => ∃ p h, u = .pointer p ∧ Tr o W p h ((l ++ x :: rl) ++ rx :: rr), fun u W => ∃ p h, u = .pointer p ∧ Tr o W p h ((l ++ x :: rl) ++ rx :: rr)] ?stable ?step ?fin
  case stable =>
    intro i v W W' h hg
    match i, h with
    | 0, h => exact h
    | 1, h => exact h
    | 2, h => exact h
    | 3, h => exact h
    | 4, h => exact h
    | 5, h => exact h
    | 6, h => obtain ⟨p, h, h1, h2⟩ := h; exact ⟨p, h, h1, h2.gb hg⟩
    | 7, h => exact h
    | 8, h => exact h
    | 9, h => exact h
    | 10, h => exact h
    | 11, h => exact h
    | 12, h => exact h
    | 13, h => exact h
    | 14, h => exact h
    | 15, h => obtain ⟨p, h, h1, h2⟩ := h; exact ⟨p, h, h1, h2.gb hg⟩
    | 16, h => obtain ⟨p, h, h1, h2⟩ := h; exact ⟨p, h, h1, h2.gb hg⟩
    | i + 17, h => exact trivial
  case step =>
    intro f W A hA hg i o ho hu K hK
    match i, ho, hu, hK with
    | 0, ho, hu, hK =>
      cases ho
      have hw : w.grownBy W none := gb_trans HN.out hg
      have e0 : A.eval (.tmp 0) = .pointer pl := ev_out hA 0 rfl
      exact ph_move _ rfl rfl (.pointer pl) e0 (hK _ _ (gb_rr W _) rfl)
    | 1, ho, hu, hK =>
      cases ho
      have hw : w.grownBy W none := gb_trans HN.out hg
      have e4 : A.eval (.tmp 4) = .pointer (some ⟨N, 0, none⟩) := ev_out hA 4 rfl
      exact ph_load rfl 52 _ rfl Try.underlying52 rfl N 0 [.string x.1, .string x.2.1, .int .i64 x.2.2] (by kernel_rfl) e4 (it_range (HN2.out.grew hg (by simp))) (hK _ _ (gb_rr W _) rfl)
    | 2, ho, hu, hK =>
      cases ho
      have hw : w.grownBy W none := gb_trans HN.out hg
      have e2 : A.eval (.tmp 2) = .pointer (some ⟨rb, 0, none⟩) := ev_out hA 2 rfl
      exact ph_move _ rfl rfl (.pointer (some ⟨rb, 0, none⟩)) e2 (hK _ _ (gb_rr W _) rfl)
    | 3, ho, hu, hK =>
      cases ho
      have hw : w.grownBy W none := gb_trans HN.out hg
      have e39 : A.eval (.tmp 39) = .pointer (some ⟨rb, 0, none⟩) := (ev_in hA 39 2 rfl rfl rfl).trans (show f 2 = .pointer (some ⟨rb, 0, none⟩) from hu 2 (by decide))
      exact ph_nil _ rfl rfl _ e39 (hK _ _ (gb_rr W _) rfl)
    | 4, ho, hu, hK =>
      cases ho
      have hw : w.grownBy W none := gb_trans HN.out hg
      have e40 : A.eval (.tmp 40) = .pointer (some ⟨rb, 0, none⟩) := (ev_in hA 40 3 rfl rfl rfl).trans (show f 3 = .pointer (some ⟨rb, 0, none⟩) from hu 3 (by decide))
      exact ph_field _ _ _ rfl rfl _ (.pointer (some ⟨rb, 3, none⟩)) e40 (by kernel_rfl) (hK _ _ (gb_rr W _) rfl)
    | 5, ho, hu, hK =>
      cases ho
      have hw : w.grownBy W none := gb_trans HN.out hg
      have e41 : A.eval (.tmp 41) = .pointer (some ⟨rb, 3, none⟩) := (ev_in hA 41 4 rfl rfl rfl).trans (show f 4 = .pointer (some ⟨rb, 3, none⟩) from hu 4 (by decide))
      have hc : W.cell? ⟨rb, 3, none⟩ = some (.pointer prl) := (HB.out.grew hw (by simp)).cell 3
      have eC : ∀ c, A.eval (.const c) = c := fun _ => rfl; have eF : ∀ g, A.eval (.func g) = .func (.func g) #[] #[] := fun _ => rfl; generalize hρ : A.eval = ρ at *
      clear hA hu hg
      refine ph_sem hρ rfl (r := .ok (.value (.pointer prl)) W) ?_ (hK _ _ (gb_rr W _) rfl)
      go_simp
    | 6, ho, hu, hK =>
      cases ho
      have hw : w.grownBy W none := gb_trans HN.out hg
      have e37 : A.eval (.tmp 37) = .pointer pl := (ev_in hA 37 0 rfl rfl rfl).trans (show f 0 = .pointer pl from hu 0 (by decide))
      have e38 : A.eval (.tmp 38) = .agg #[.string x.1, .string x.2.1, .int .i64 x.2.2] := (ev_in hA 38 1 rfl rfl rfl).trans (show f 1 = .agg #[.string x.1, .string x.2.1, .int .i64 x.2.2] from hu 1 (by decide))
      have e42 : A.eval (.tmp 42) = .pointer prl := (ev_in hA 42 5 rfl rfl rfl).trans (show f 5 = .pointer prl from hu 5 (by decide))
      refine ph_fn 35 _ _ rfl rfl #[.pointer pl, .agg #[.string x.1, .string x.2.1, .int .i64 x.2.2], .pointer prl] (by simp [e37, e38, e42]) (by kernel_rfl) ?_
      refine (Calls.mono (HI.out x pl prl _ _ l rl W (HOB.out W hw) (T4.out.gb hw) (T1.out.gb hw) HLN.out (by have := HS.out; simp only [Sm, List.length_append, List.length_cons, szs_app, szs_cons] at this ⊢; omega)) ?_)
      rintro e W' ⟨p, h, rfl, ht, hq⟩
      exact ⟨_, rfl, hK _ _ hq ⟨p, h, rfl, ht⟩⟩
    | 7, ho, hu, hK =>
      cases ho
      have hw : w.grownBy W none := gb_trans HN.out hg
      have e2 : A.eval (.tmp 2) = .pointer (some ⟨rb, 0, none⟩) := ev_out hA 2 rfl
      exact ph_move _ rfl rfl (.pointer (some ⟨rb, 0, none⟩)) e2 (hK _ _ (gb_rr W _) rfl)
    | 8, ho, hu, hK =>
      cases ho
      have hw : w.grownBy W none := gb_trans HN.out hg
      have e44 : A.eval (.tmp 44) = .pointer (some ⟨rb, 0, none⟩) := (ev_in hA 44 7 rfl rfl rfl).trans (show f 7 = .pointer (some ⟨rb, 0, none⟩) from hu 7 (by decide))
      exact ph_nil _ rfl rfl _ e44 (hK _ _ (gb_rr W _) rfl)
    | 9, ho, hu, hK =>
      cases ho
      have hw : w.grownBy W none := gb_trans HN.out hg
      have e45 : A.eval (.tmp 45) = .pointer (some ⟨rb, 0, none⟩) := (ev_in hA 45 8 rfl rfl rfl).trans (show f 8 = .pointer (some ⟨rb, 0, none⟩) from hu 8 (by decide))
      exact ph_field _ _ _ rfl rfl _ (.pointer (some ⟨rb, 0, none⟩)) e45 (by kernel_rfl) (hK _ _ (gb_rr W _) rfl)
    | 10, ho, hu, hK =>
      cases ho
      have hw : w.grownBy W none := gb_trans HN.out hg
      have e46 : A.eval (.tmp 46) = .pointer (some ⟨rb, 0, none⟩) := (ev_in hA 46 9 rfl rfl rfl).trans (show f 9 = .pointer (some ⟨rb, 0, none⟩) from hu 9 (by decide))
      exact ph_load rfl 52 _ rfl Try.underlying52 rfl rb 0 [.string rx.1, .string rx.2.1, .int .i64 rx.2.2] (by kernel_rfl) e46 (nc_range (HB.out.grew hw (by simp))) (hK _ _ (gb_rr W _) rfl)
    | 11, ho, hu, hK =>
      cases ho
      have hw : w.grownBy W none := gb_trans HN.out hg
      have e2 : A.eval (.tmp 2) = .pointer (some ⟨rb, 0, none⟩) := ev_out hA 2 rfl
      exact ph_move _ rfl rfl (.pointer (some ⟨rb, 0, none⟩)) e2 (hK _ _ (gb_rr W _) rfl)
    | 12, ho, hu, hK =>
      cases ho
      have hw : w.grownBy W none := gb_trans HN.out hg
      have e48 : A.eval (.tmp 48) = .pointer (some ⟨rb, 0, none⟩) := (ev_in hA 48 11 rfl rfl rfl).trans (show f 11 = .pointer (some ⟨rb, 0, none⟩) from hu 11 (by decide))
      exact ph_nil _ rfl rfl _ e48 (hK _ _ (gb_rr W _) rfl)
    | 13, ho, hu, hK =>
      cases ho
      have hw : w.grownBy W none := gb_trans HN.out hg
      have e49 : A.eval (.tmp 49) = .pointer (some ⟨rb, 0, none⟩) := (ev_in hA 49 12 rfl rfl rfl).trans (show f 12 = .pointer (some ⟨rb, 0, none⟩) from hu 12 (by decide))
      exact ph_field _ _ _ rfl rfl _ (.pointer (some ⟨rb, 4, none⟩)) e49 (by kernel_rfl) (hK _ _ (gb_rr W _) rfl)
    | 14, ho, hu, hK =>
      cases ho
      have hw : w.grownBy W none := gb_trans HN.out hg
      have e50 : A.eval (.tmp 50) = .pointer (some ⟨rb, 4, none⟩) := (ev_in hA 50 13 rfl rfl rfl).trans (show f 13 = .pointer (some ⟨rb, 4, none⟩) from hu 13 (by decide))
      have hc : W.cell? ⟨rb, 4, none⟩ = some (.pointer prr) := (HB.out.grew hw (by simp)).cell 4
      have eC : ∀ c, A.eval (.const c) = c := fun _ => rfl; have eF : ∀ g, A.eval (.func g) = .func (.func g) #[] #[] := fun _ => rfl; generalize hρ : A.eval = ρ at *
      clear hA hu hg
      refine ph_sem hρ rfl (r := .ok (.value (.pointer prr)) W) ?_ (hK _ _ (gb_rr W _) rfl)
      go_simp
    | 15, ho, hu, hK =>
      cases ho
      have hw : w.grownBy W none := gb_trans HN.out hg
      obtain ⟨p6, h6, hv6, ht6⟩ := hu 6 (by decide)
      have e43 : A.eval (.tmp 43) = .pointer p6 := (ev_in hA 43 6 rfl rfl rfl).trans hv6
      have e47 : A.eval (.tmp 47) = .agg #[.string rx.1, .string rx.2.1, .int .i64 rx.2.2] := (ev_in hA 47 10 rfl rfl rfl).trans (show f 10 = .agg #[.string rx.1, .string rx.2.1, .int .i64 rx.2.2] from hu 10 (by decide))
      have e51 : A.eval (.tmp 51) = .pointer prr := (ev_in hA 51 14 rfl rfl rfl).trans (show f 14 = .pointer prr from hu 14 (by decide))
      refine ph_fn 46 _ _ rfl rfl #[.pointer p6, .agg #[.string rx.1, .string rx.2.1, .int .i64 rx.2.2], .pointer prr] (by simp [e43, e47, e51]) (by kernel_rfl) ?_
      refine (Calls.mono (level_t o rx p6 prr _ _ (l ++ x :: rl) rr W (HOB.out W hw) ht6 (T2.out.gb hw) (by have := HS.out; simp only [Sm, List.length_append, List.length_cons, szs_app, szs_cons] at this ⊢; omega)) ?_)
      rintro e W' ⟨p, h, rfl, ht, hq⟩
      exact ⟨_, rfl, hK _ _ hq ⟨p, h, rfl, ht⟩⟩
    | 16, ho, hu, hK =>
      cases ho
      have hw : w.grownBy W none := gb_trans HN.out hg
      obtain ⟨p15, h15, hv15, ht15⟩ := hu 15 (by decide)
      have e52 : A.eval (.tmp 52) = .pointer p15 := (ev_in hA 52 15 rfl rfl rfl).trans hv15
      exact ph_assign _ rfl rfl _ (e52) (hK _ _ (gb_rr W _) ⟨p15, h15, rfl, ht15⟩)
    | i + 17, ho, hu, hK => simp at ho
  case fin =>
    intro f W A hA hg hu
    obtain ⟨p, h, h1, h2⟩ := hu 16 (by decide)
    refine (by assumption : ∀ (a : Act) (w : World), Code.wp Try.prog Code.ret _ a w → _) A W ?_
    refine wp_ret ?_
    refine ret_ph (fn := Try.f35) hA 6 Try.results35 rfl ((ev_in hA 6 16 rfl rfl rfl).trans h1) ?_
    exact ⟨p, h, rfl, by rw [show (l ++ x :: (rl ++ rx :: rr) : List Rw) = (l ++ x :: rl) ++ rx :: rr from by simp]; exact h2, gb_trans HN.out hg⟩
set_option maxRecDepth 20000 in
set_option maxHeartbeats 1000000 in
theorem join_c (o : Nat → Prop) (n : Nat) (w : World) (ob : ∀ b, w.heap.size ≤ b → o b) (x : Rw) (pl pr : Option Addr) (hl hr : Nat) (l r : List Rw)
    (Tl : Tr o w pl hl l) (Tq : Tr o w pr hr r) (c0 : ¬ hr + 1 < hl) (c1 : ¬ hl + 1 < hr) (bd : hl < 4611686018427387904) (bd2 : hr < 4611686018427387904) (hs : Sm (l ++ x :: r)) : Calls Try.prog 35 #[.pointer pl, iv x, .pointer pr] w (TR o w (l ++ x :: r)) := by
  have HS : Hid (Sm (l ++ x :: r)) := hs
  have T1 : Hid (Tr o w pl hl l) := Tl
  have T4 : Hid (Tr o w pr hr r) := Tq
  have d0 : decide ((hr : Int) + 1 < (hl : Int)) = false := decide_eq_false (by omega)
  have wv0 : IntKind.i64.wrap ((hr : Int) + 1) = (hr : Int) + 1 := wr64 _ ⟨by omega, by omega⟩
  have wv1 : IntKind.i64.wrap ((hl : Int) + 1) = (hl : Int) + 1 := wr64 _ ⟨by omega, by omega⟩
  have d1 : decide ((hl : Int) + 1 < (hr : Int)) = false := decide_eq_false (by omega)
  have HOB : Hid (∀ W, w.grownBy W none → ∀ b, W.heap.size ≤ b → o b) := fun W hg b hb => ob b (Nat.le_trans hg.size hb)
  have HH1 : Hid (∀ W, w.grownBy W none → Calls Try.prog 44 #[.pointer pl] W fun r w' => r = .returned (.int .i64 (hl : Nat)) ∧ w' = W) := fun W hg => height_c o _ _ _ _ (Tl.gb hg)
  have HH2 : Hid (∀ W, w.grownBy W none → Calls Try.prog 44 #[.pointer pr] W fun r w' => r = .returned (.int .i64 (hr : Nat)) ∧ w' = W) := fun W hg => height_c o _ _ _ _ (Tq.gb hg)
  have HN : Hid (w.grownBy (w.alloc (.cells #[.string x.1, .string x.2.1, .int .i64 x.2.2] 52)) none) := gb_alloc _ _
  have HN2 : Hid (Bk 52 (w.alloc (.cells #[.string x.1, .string x.2.1, .int .i64 x.2.2] 52)) w.heap.size (ivs x)) := (blk_new w 52 _).1
  clear hs Tl Tq ob
  unfold iv
  go_enter Try.func35, Try.ntmps35
  go_wp2_with fail
  generalize hW1 : World.alloc w _ = w1 at *
  clear hW1
  obtain ⟨N, hN⟩ : ∃ N, N = w.heap.size := ⟨_, rfl⟩
  rw [← hN] at HN2 ⊢
  clear hN
  go_wp2_with (first | (go_at_call_has 44 (Value.pointer pl); go_must (refine (Calls.mono (HH1.out _ HN.out) ?_)); rintro r wq ⟨rfl, rfl⟩) | (go_at_call_has 44 (Value.pointer pr); go_must (refine (Calls.mono (HH2.out _ HN.out) ?_)); rintro r wq ⟨rfl, rfl⟩) | (refine wpList_load_bk 52 rfl (.tmp 4) rfl Try.underlying52 rfl infoItem N (ivs x) rfl HN2.out rfl ?_) | (go_at_call 33; go_must (refine (Calls.mono (over_t o x pl pr _ _ l r _ (HOB.out _ HN.out) (T1.out.gb HN.out) (T4.out.gb HN.out) HS.out) ?_)); rintro e wq ⟨p, h, rfl, ht, hq⟩))
  go_ret
  exact ⟨p, h, rfl, ht, gb_trans HN.out hq⟩
theorem join_n (o : Nat → Prop) : ∀ n, JoinC o n := by
  intro n
  induction n using Nat.strongRecOn with
  | ind n IH =>
    intro x pl pr hl hr l r w ob h1 h2 hn hs
    have b1 := h1.len
    have b2 := h2.len
    have hs' := hs
    simp only [Sm, List.length_append, List.length_cons] at hs'
    by_cases hA : hr + 1 < hl
    · obtain ⟨a, rfl⟩ := h1.isNode (by omega)
      obtain ⟨b, ll, lx, lr, pll, plr, hll, hlr, rfl, ob', hb, t1, t2, rfl, hh⟩ := h1.node
      simp only [List.length_append, List.length_cons] at hn b1 hs'
      exact join_a o (n - 1) (IH (n - 1) (by omega)) w ob x b lx pll plr pr hl hll hlr hr _ _ ll lr r _ hb h1 t1 t2 h2 hA (by omega) (by omega) hs
    · by_cases hC : hl + 1 < hr
      · obtain ⟨a, rfl⟩ := h2.isNode (by omega)
        obtain ⟨b, rl, rx, rr, prl, prr, hrl, hrr, rfl, ob', hb, t1, t2, rfl, hh⟩ := h2.node
        simp only [List.length_append, List.length_cons] at hn b2 hs'
        exact join_b o (n - 1) (IH (n - 1) (by omega)) w ob x b rx prl prr pl hl hrl hrr hr _ _ rl rr l _ hb h2 t1 t2 h1 hA hC (by omega) (by omega) hs
      · exact join_c o n w ob x pl pr hl hr l r h1 h2 hA hC (by omega) (by omega) hs
theorem join_t (o : Nat → Prop) (x : Rw) (pl pr : Option Addr) (hl hr : Nat) (l r : List Rw) (w : World) (ob : ∀ b, w.heap.size ≤ b → o b) (h1 : Tr o w pl hl l) (h2 : Tr o w pr hr r) (hs : Sm (l ++ x :: r)) : Calls Try.prog 35 #[.pointer pl, iv x, .pointer pr] w (TR o w (l ++ x :: r)) :=
  join_n o _ x pl pr hl hr l r w ob h1 h2 (Nat.le_refl _) hs
end Go.Proofs.Ytdmchcdkfbijlab
