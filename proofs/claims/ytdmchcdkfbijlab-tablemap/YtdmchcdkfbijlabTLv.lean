/-
  What table's level answers: a tree that holds the one's rows, x, the other one's. Condition: no number outgrows its kind.
-/
import Derived.Test.YtdmchcdkfbijlabTOv
import Derived.Sort.AtCall
namespace Go.Proofs.Ytdmchcdkfbijlab
open Go.RowKit
set_option linter.unusedVariables false

set_option maxRecDepth 20000 in
set_option maxHeartbeats 1000000 in
theorem level_a1 (o : Nat → Prop) (w : World) (ob : ∀ b, w.heap.size ≤ b → o b) (x : Rw) (lb mb : Nat) (lx mx : Rw) (pll pml pmr pr : Option Addr) (hl hll hlr hml hmr hr nl zl nm zm : Nat) (ll ml mr r L M : List Rw)
    (hbl : Bk 62 w lb (nc lx pll (some ⟨mb, 0, none⟩) hl nl zl)) (Tl : Tr o w (some ⟨lb, 0, none⟩) hl L) (Tll : Tr o w pll hll ll) (Tq : Tr o w pr hr r) (c1 : hr + 1 < hl) (bd : hl < 4611686018427387904) (hs : Sm ((ll ++ lx :: (ml ++ mx :: mr)) ++ x :: r)) (hbm : Bk 62 w mb (nc mx pml pmr hlr nm zm)) (Tm : Tr o w (some ⟨mb, 0, none⟩) hlr M) (Tml : Tr o w pml hml ml) (Tmr : Tr o w pmr hmr mr) (c2 : hll < hlr) : Calls Try.prog 46 #[.pointer (some ⟨lb, 0, none⟩), iv x, .pointer pr] w (TR o w ((ll ++ lx :: (ml ++ mx :: mr)) ++ x :: r)) := by
  have HS : Hid (Sm ((ll ++ lx :: (ml ++ mx :: mr)) ++ x :: r)) := hs
  have HBl : Hid (Bk 62 w lb (nc lx pll (some ⟨mb, 0, none⟩) hl nl zl)) := hbl
  have T1 : Hid (Tr o w pll hll ll) := Tll
  have T4 : Hid (Tr o w pr hr r) := Tq
  have HBm : Hid (Bk 62 w mb (nc mx pml pmr hlr nm zm)) := hbm
  have T2 : Hid (Tr o w pml hml ml) := Tml
  have T3 : Hid (Tr o w pmr hmr mr) := Tmr
  have d2 : ((hll : Int) < (hlr : Int)) := by omega
  have d1 : ((hr : Int) + 1 < (hl : Int)) := by omega
  have HOB : Hid (∀ W, w.grownBy W none → ∀ b, W.heap.size ≤ b → o b) := fun W hg b hb => ob b (Nat.le_trans hg.size hb)
  have HH1 : Hid (∀ W, w.grownBy W none → Calls Try.prog 44 #[.pointer (some ⟨lb, 0, none⟩)] W fun r w' => r = .returned (.int .i64 (hl : Nat)) ∧ w' = W) := fun W hg => height_c o _ _ _ _ (Tl.gb hg)
  have HH2 : Hid (∀ W, w.grownBy W none → Calls Try.prog 44 #[.pointer pr] W fun r w' => r = .returned (.int .i64 (hr : Nat)) ∧ w' = W) := fun W hg => height_c o _ _ _ _ (Tq.gb hg)
  have HH4 : Hid (∀ W, w.grownBy W none → Calls Try.prog 44 #[.pointer pll] W fun r w' => r = .returned (.int .i64 (hll : Nat)) ∧ w' = W) := fun W hg => height_c o _ _ _ _ (Tll.gb hg)
  have HH3 : Hid (∀ W, w.grownBy W none → Calls Try.prog 44 #[.pointer (some ⟨mb, 0, none⟩)] W fun r w' => r = .returned (.int .i64 (hlr : Nat)) ∧ w' = W) := fun W hg => height_c o _ _ _ _ (Tm.gb hg)
  have HN : Hid (w.grownBy (w.alloc (.cells #[.string x.1, .string x.2.1, .int .i64 x.2.2] 52)) none) := gb_alloc _ _
  have HN2 : Hid (Bk 52 (w.alloc (.cells #[.string x.1, .string x.2.1, .int .i64 x.2.2] 52)) w.heap.size (ivs x)) := (blk_new w 52 _).1
  clear hs hbl hbm Tl Tm Tll Tml Tmr Tq ob
  unfold iv
  go_enter Try.func46, Try.ntmps46
  go_wp2_with fail
  generalize hW1 : World.alloc w _ = w1 at *
  clear hW1
  obtain ⟨N, hN⟩ : ∃ N, N = w.heap.size := ⟨_, rfl⟩
  rw [← hN] at HN2 ⊢
  clear hN
  have kl1 : w1.cell? ⟨lb, 3, none⟩ = some (.pointer pll) := (HBl.out.grew HN.out (by simp)).cell 3
  have kl2 : w1.cell? ⟨lb, 4, none⟩ = some (.pointer (some ⟨mb, 0, none⟩)) := (HBl.out.grew HN.out (by simp)).cell 4
  go_quiet (first | (go_at_call_has 44 (Value.pointer (some ⟨lb, 0, none⟩)); exact (HH1.out _ (gb_drewN HN.out _)).mono fun _ _ ⟨a, b⟩ => ⟨a, _, b⟩) | (go_at_call_has 44 (Value.pointer pr); exact (HH2.out _ (gb_drewN HN.out _)).mono fun _ _ ⟨a, b⟩ => ⟨a, _, b⟩) | (go_at_call_has 44 (Value.pointer pll); exact (HH4.out _ (gb_drewN HN.out _)).mono fun _ _ ⟨a, b⟩ => ⟨a, _, b⟩) | (go_at_call_has 44 (Value.pointer (some ⟨mb, 0, none⟩)); exact (HH3.out _ (gb_drewN HN.out _)).mono fun _ _ ⟨a, b⟩ => ⟨a, _, b⟩))
  replace HN : Hid (w.grownBy (w1.drewN nq) none) := gb_drewN HN.out nq
  replace HN2 : Hid (Bk 52 (w1.drewN nq) N (ivs x)) := HN2.out
  go_wp2_with (first | (go_at_call_has 44 (Value.pointer (some ⟨lb, 0, none⟩)); go_must (refine (Calls.mono (HH1.out _ HN.out) ?_)); rintro r wq ⟨rfl, rfl⟩) | (go_at_call_has 44 (Value.pointer pr); go_must (refine (Calls.mono (HH2.out _ HN.out) ?_)); rintro r wq ⟨rfl, rfl⟩) | (go_at_call_has 44 (Value.pointer pll); go_must (refine (Calls.mono (HH4.out _ HN.out) ?_)); rintro r wq ⟨rfl, rfl⟩) | (go_at_call_has 44 (Value.pointer (some ⟨mb, 0, none⟩)); go_must (refine (Calls.mono (HH3.out _ HN.out) ?_)); rintro r wq ⟨rfl, rfl⟩))
  clear kl1 kl2
  generalize w1.drewN nq = w2 at *
  refine wp_region_phi none rfl (by kernel_rfl) [33, 34, 35, 36, 37, 38, 39, 40, 41, 42, 43, 44, 45, 46, 47, 48, 49, 50, 51, 52, 53, 54, 55, 56, 57, 6] [[], [0], [1], [2], [], [4], [5], [6], [], [8], [9], [10], [3, 7, 11], [], [13], [14], [15], [], [17], [18], [19], [], [], [20, 21, 22], [12, 16, 23], [24]] (by kernel_rfl) [fun u W => u = .pointer (some ⟨lb, 0, none⟩), fun u W => u = .pointer (some ⟨lb, 0, none⟩), fun u W => u = .pointer (some ⟨lb, 3, none⟩), fun u W => u = .pointer pll, fun u W => u = .pointer (some ⟨lb, 0, none⟩), fun u W => u = .pointer (some ⟨lb, 0, none⟩), fun u W => u = .pointer (some ⟨lb, 0, none⟩), fun u W => u = .agg #[.string lx.1, .string lx.2.1, .int .i64 lx.2.2], fun u W => u = .pointer (some ⟨mb, 0, none⟩), fun u W => u = .pointer (some ⟨mb, 0, none⟩), fun u W => u = .pointer (some ⟨mb, 3, none⟩), fun u W => u = .pointer pml, fun u W => ∃ p h, u = .pointer p ∧ Tr o W p h (ll ++ lx :: ml), fun u W => u = .pointer (some ⟨mb, 0, none⟩), fun u W => u = .pointer (some ⟨mb, 0, none⟩), fun u W => u = .pointer (some ⟨mb, 0, none⟩), fun u W => u = .agg #[.string mx.1, .string mx.2.1, .int .i64 mx.2.2], fun u W => u = .pointer (some ⟨mb, 0, none⟩), fun u W => u = .pointer (some ⟨mb, 0, none⟩), fun u W => u = .pointer (some ⟨mb, 4, none⟩), fun u W => u = .pointer pmr, fun u W => u = .agg #[.string x.1, .string x.2.1, .int .i64 x.2.2], fun u W => u = .pointer pr, fun u W => ∃ p h, u = .pointer p ∧ Tr o W p h (mr ++ x :: r), fun u W => ∃ p h, u = .pointer p ∧ Tr o W p h ((ll ++ lx :: ml) ++ mx :: (mr ++ x :: r)), fun u W => ∃ p h, u = .pointer p ∧ Tr o W p h ((ll ++ lx :: ml) ++ mx :: (mr ++ x :: r))] ?stable ?step ?fin
  case stable =>
    intro i v W W' h hg
    match i, h with
    | 0, h => exact h
    | 1, h => exact h
    | 2, h => exact h
    | 3, h => exact h
    | 4, h => exact h
    | 5, h => exact h
    | 6, h => exact h
    | 7, h => exact h
    | 8, h => exact h
    | 9, h => exact h
    | 10, h => exact h
    | 11, h => exact h
    | 12, h => obtain ⟨p, h, h1, h2⟩ := h; exact ⟨p, h, h1, h2.gb hg⟩
    | 13, h => exact h
    | 14, h => exact h
    | 15, h => exact h
    | 16, h => exact h
    | 17, h => exact h
    | 18, h => exact h
    | 19, h => exact h
    | 20, h => exact h
    | 21, h => exact h
    | 22, h => exact h
    | 23, h => obtain ⟨p, h, h1, h2⟩ := h; exact ⟨p, h, h1, h2.gb hg⟩
    | 24, h => obtain ⟨p, h, h1, h2⟩ := h; exact ⟨p, h, h1, h2.gb hg⟩
    | 25, h => obtain ⟨p, h, h1, h2⟩ := h; exact ⟨p, h, h1, h2.gb hg⟩
    | i + 26, h => exact trivial
  case step =>
    intro f W A hA hg i o ho hu K hK
    match i, ho, hu, hK with
    | 0, ho, hu, hK =>
      cases ho
      have hw : w.grownBy W none := gb_trans HN.out hg
      have e0 : A.eval (.tmp 0) = .pointer (some ⟨lb, 0, none⟩) := ev_out hA 0 rfl
      exact ph_move _ rfl rfl (.pointer (some ⟨lb, 0, none⟩)) e0 (hK _ _ (gb_rr W _) rfl)
    | 1, ho, hu, hK =>
      cases ho
      have hw : w.grownBy W none := gb_trans HN.out hg
      have e33 : A.eval (.tmp 33) = .pointer (some ⟨lb, 0, none⟩) := (ev_in hA 33 0 rfl rfl rfl).trans (show f 0 = .pointer (some ⟨lb, 0, none⟩) from hu 0 (by decide))
      exact ph_nil _ rfl rfl _ e33 (hK _ _ (gb_rr W _) rfl)
    | 2, ho, hu, hK =>
      cases ho
      have hw : w.grownBy W none := gb_trans HN.out hg
      have e34 : A.eval (.tmp 34) = .pointer (some ⟨lb, 0, none⟩) := (ev_in hA 34 1 rfl rfl rfl).trans (show f 1 = .pointer (some ⟨lb, 0, none⟩) from hu 1 (by decide))
      exact ph_field _ _ _ rfl rfl _ (.pointer (some ⟨lb, 3, none⟩)) e34 (by kernel_rfl) (hK _ _ (gb_rr W _) rfl)
    | 3, ho, hu, hK =>
      cases ho
      have hw : w.grownBy W none := gb_trans HN.out hg
      have e35 : A.eval (.tmp 35) = .pointer (some ⟨lb, 3, none⟩) := (ev_in hA 35 2 rfl rfl rfl).trans (show f 2 = .pointer (some ⟨lb, 3, none⟩) from hu 2 (by decide))
      have hc : W.cell? ⟨lb, 3, none⟩ = some (.pointer pll) := (HBl.out.grew hw (by simp)).cell 3
      have eC : ∀ c, A.eval (.const c) = c := fun _ => rfl; have eF : ∀ g, A.eval (.func g) = .func (.func g) #[] #[] := fun _ => rfl; generalize hρ : A.eval = ρ at *
      clear hA hu hg
      refine ph_sem hρ rfl (r := .ok (.value (.pointer pll)) W) ?_ (hK _ _ (gb_rr W _) rfl)
      go_simp
    | 4, ho, hu, hK =>
      cases ho
      have hw : w.grownBy W none := gb_trans HN.out hg
      have e0 : A.eval (.tmp 0) = .pointer (some ⟨lb, 0, none⟩) := ev_out hA 0 rfl
      exact ph_move _ rfl rfl (.pointer (some ⟨lb, 0, none⟩)) e0 (hK _ _ (gb_rr W _) rfl)
    | 5, ho, hu, hK =>
      cases ho
      have hw : w.grownBy W none := gb_trans HN.out hg
      have e37 : A.eval (.tmp 37) = .pointer (some ⟨lb, 0, none⟩) := (ev_in hA 37 4 rfl rfl rfl).trans (show f 4 = .pointer (some ⟨lb, 0, none⟩) from hu 4 (by decide))
      exact ph_nil _ rfl rfl _ e37 (hK _ _ (gb_rr W _) rfl)
    | 6, ho, hu, hK =>
      cases ho
      have hw : w.grownBy W none := gb_trans HN.out hg
      have e38 : A.eval (.tmp 38) = .pointer (some ⟨lb, 0, none⟩) := (ev_in hA 38 5 rfl rfl rfl).trans (show f 5 = .pointer (some ⟨lb, 0, none⟩) from hu 5 (by decide))
      exact ph_field _ _ _ rfl rfl _ (.pointer (some ⟨lb, 0, none⟩)) e38 (by kernel_rfl) (hK _ _ (gb_rr W _) rfl)
    | 7, ho, hu, hK =>
      cases ho
      have hw : w.grownBy W none := gb_trans HN.out hg
      have e39 : A.eval (.tmp 39) = .pointer (some ⟨lb, 0, none⟩) := (ev_in hA 39 6 rfl rfl rfl).trans (show f 6 = .pointer (some ⟨lb, 0, none⟩) from hu 6 (by decide))
      exact ph_load rfl 52 _ rfl Try.underlying52 rfl lb 0 [.string lx.1, .string lx.2.1, .int .i64 lx.2.2] (by kernel_rfl) e39 (nc_range (HBl.out.grew hw (by simp))) (hK _ _ (gb_rr W _) rfl)
    | 8, ho, hu, hK =>
      cases ho
      have hw : w.grownBy W none := gb_trans HN.out hg
      have e7 : A.eval (.tmp 7) = .pointer (some ⟨mb, 0, none⟩) := ev_out hA 7 rfl
      exact ph_move _ rfl rfl (.pointer (some ⟨mb, 0, none⟩)) e7 (hK _ _ (gb_rr W _) rfl)
    | 9, ho, hu, hK =>
      cases ho
      have hw : w.grownBy W none := gb_trans HN.out hg
      have e41 : A.eval (.tmp 41) = .pointer (some ⟨mb, 0, none⟩) := (ev_in hA 41 8 rfl rfl rfl).trans (show f 8 = .pointer (some ⟨mb, 0, none⟩) from hu 8 (by decide))
      exact ph_nil _ rfl rfl _ e41 (hK _ _ (gb_rr W _) rfl)
    | 10, ho, hu, hK =>
      cases ho
      have hw : w.grownBy W none := gb_trans HN.out hg
      have e42 : A.eval (.tmp 42) = .pointer (some ⟨mb, 0, none⟩) := (ev_in hA 42 9 rfl rfl rfl).trans (show f 9 = .pointer (some ⟨mb, 0, none⟩) from hu 9 (by decide))
      exact ph_field _ _ _ rfl rfl _ (.pointer (some ⟨mb, 3, none⟩)) e42 (by kernel_rfl) (hK _ _ (gb_rr W _) rfl)
    | 11, ho, hu, hK =>
      cases ho
      have hw : w.grownBy W none := gb_trans HN.out hg
      have e43 : A.eval (.tmp 43) = .pointer (some ⟨mb, 3, none⟩) := (ev_in hA 43 10 rfl rfl rfl).trans (show f 10 = .pointer (some ⟨mb, 3, none⟩) from hu 10 (by decide))
      have hc : W.cell? ⟨mb, 3, none⟩ = some (.pointer pml) := (HBm.out.grew hw (by simp)).cell 3
      have eC : ∀ c, A.eval (.const c) = c := fun _ => rfl; have eF : ∀ g, A.eval (.func g) = .func (.func g) #[] #[] := fun _ => rfl; generalize hρ : A.eval = ρ at *
      clear hA hu hg
      refine ph_sem hρ rfl (r := .ok (.value (.pointer pml)) W) ?_ (hK _ _ (gb_rr W _) rfl)
      go_simp
    | 12, ho, hu, hK =>
      cases ho
      have hw : w.grownBy W none := gb_trans HN.out hg
      have e36 : A.eval (.tmp 36) = .pointer pll := (ev_in hA 36 3 rfl rfl rfl).trans (show f 3 = .pointer pll from hu 3 (by decide))
      have e40 : A.eval (.tmp 40) = .agg #[.string lx.1, .string lx.2.1, .int .i64 lx.2.2] := (ev_in hA 40 7 rfl rfl rfl).trans (show f 7 = .agg #[.string lx.1, .string lx.2.1, .int .i64 lx.2.2] from hu 7 (by decide))
      have e44 : A.eval (.tmp 44) = .pointer pml := (ev_in hA 44 11 rfl rfl rfl).trans (show f 11 = .pointer pml from hu 11 (by decide))
      refine ph_fn 33 _ _ rfl rfl #[.pointer pll, .agg #[.string lx.1, .string lx.2.1, .int .i64 lx.2.2], .pointer pml] (by simp [e36, e40, e44]) (by kernel_rfl) ?_
      refine (Calls.mono (over_t o lx pll pml _ _ ll ml W (HOB.out W hw) (T1.out.gb hw) (T2.out.gb hw) (by have := HS.out; simp only [Sm, List.length_append, List.length_cons, szs_app, szs_cons] at this ⊢; omega)) ?_)
      rintro e W' ⟨p, h, rfl, ht, hq⟩
      exact ⟨_, rfl, hK _ _ hq ⟨p, h, rfl, ht⟩⟩
    | 13, ho, hu, hK =>
      cases ho
      have hw : w.grownBy W none := gb_trans HN.out hg
      have e7 : A.eval (.tmp 7) = .pointer (some ⟨mb, 0, none⟩) := ev_out hA 7 rfl
      exact ph_move _ rfl rfl (.pointer (some ⟨mb, 0, none⟩)) e7 (hK _ _ (gb_rr W _) rfl)
    | 14, ho, hu, hK =>
      cases ho
      have hw : w.grownBy W none := gb_trans HN.out hg
      have e46 : A.eval (.tmp 46) = .pointer (some ⟨mb, 0, none⟩) := (ev_in hA 46 13 rfl rfl rfl).trans (show f 13 = .pointer (some ⟨mb, 0, none⟩) from hu 13 (by decide))
      exact ph_nil _ rfl rfl _ e46 (hK _ _ (gb_rr W _) rfl)
    | 15, ho, hu, hK =>
      cases ho
      have hw : w.grownBy W none := gb_trans HN.out hg
      have e47 : A.eval (.tmp 47) = .pointer (some ⟨mb, 0, none⟩) := (ev_in hA 47 14 rfl rfl rfl).trans (show f 14 = .pointer (some ⟨mb, 0, none⟩) from hu 14 (by decide))
      exact ph_field _ _ _ rfl rfl _ (.pointer (some ⟨mb, 0, none⟩)) e47 (by kernel_rfl) (hK _ _ (gb_rr W _) rfl)
    | 16, ho, hu, hK =>
      cases ho
      have hw : w.grownBy W none := gb_trans HN.out hg
      have e48 : A.eval (.tmp 48) = .pointer (some ⟨mb, 0, none⟩) := (ev_in hA 48 15 rfl rfl rfl).trans (show f 15 = .pointer (some ⟨mb, 0, none⟩) from hu 15 (by decide))
      exact ph_load rfl 52 _ rfl Try.underlying52 rfl mb 0 [.string mx.1, .string mx.2.1, .int .i64 mx.2.2] (by kernel_rfl) e48 (nc_range (HBm.out.grew hw (by simp))) (hK _ _ (gb_rr W _) rfl)
    | 17, ho, hu, hK =>
      cases ho
      have hw : w.grownBy W none := gb_trans HN.out hg
      have e7 : A.eval (.tmp 7) = .pointer (some ⟨mb, 0, none⟩) := ev_out hA 7 rfl
      exact ph_move _ rfl rfl (.pointer (some ⟨mb, 0, none⟩)) e7 (hK _ _ (gb_rr W _) rfl)
    | 18, ho, hu, hK =>
      cases ho
      have hw : w.grownBy W none := gb_trans HN.out hg
      have e50 : A.eval (.tmp 50) = .pointer (some ⟨mb, 0, none⟩) := (ev_in hA 50 17 rfl rfl rfl).trans (show f 17 = .pointer (some ⟨mb, 0, none⟩) from hu 17 (by decide))
      exact ph_nil _ rfl rfl _ e50 (hK _ _ (gb_rr W _) rfl)
    | 19, ho, hu, hK =>
      cases ho
      have hw : w.grownBy W none := gb_trans HN.out hg
      have e51 : A.eval (.tmp 51) = .pointer (some ⟨mb, 0, none⟩) := (ev_in hA 51 18 rfl rfl rfl).trans (show f 18 = .pointer (some ⟨mb, 0, none⟩) from hu 18 (by decide))
      exact ph_field _ _ _ rfl rfl _ (.pointer (some ⟨mb, 4, none⟩)) e51 (by kernel_rfl) (hK _ _ (gb_rr W _) rfl)
    | 20, ho, hu, hK =>
      cases ho
      have hw : w.grownBy W none := gb_trans HN.out hg
      have e52 : A.eval (.tmp 52) = .pointer (some ⟨mb, 4, none⟩) := (ev_in hA 52 19 rfl rfl rfl).trans (show f 19 = .pointer (some ⟨mb, 4, none⟩) from hu 19 (by decide))
      have hc : W.cell? ⟨mb, 4, none⟩ = some (.pointer pmr) := (HBm.out.grew hw (by simp)).cell 4
      have eC : ∀ c, A.eval (.const c) = c := fun _ => rfl; have eF : ∀ g, A.eval (.func g) = .func (.func g) #[] #[] := fun _ => rfl; generalize hρ : A.eval = ρ at *
      clear hA hu hg
      refine ph_sem hρ rfl (r := .ok (.value (.pointer pmr)) W) ?_ (hK _ _ (gb_rr W _) rfl)
      go_simp
    | 21, ho, hu, hK =>
      cases ho
      have hw : w.grownBy W none := gb_trans HN.out hg
      have e4 : A.eval (.tmp 4) = .pointer (some ⟨N, 0, none⟩) := ev_out hA 4 rfl
      exact ph_load rfl 52 _ rfl Try.underlying52 rfl N 0 [.string x.1, .string x.2.1, .int .i64 x.2.2] (by kernel_rfl) e4 (it_range (HN2.out.grew hg (by simp))) (hK _ _ (gb_rr W _) rfl)
    | 22, ho, hu, hK =>
      cases ho
      have hw : w.grownBy W none := gb_trans HN.out hg
      have e2 : A.eval (.tmp 2) = .pointer pr := ev_out hA 2 rfl
      exact ph_move _ rfl rfl (.pointer pr) e2 (hK _ _ (gb_rr W _) rfl)
    | 23, ho, hu, hK =>
      cases ho
      have hw : w.grownBy W none := gb_trans HN.out hg
      have e53 : A.eval (.tmp 53) = .pointer pmr := (ev_in hA 53 20 rfl rfl rfl).trans (show f 20 = .pointer pmr from hu 20 (by decide))
      have e54 : A.eval (.tmp 54) = .agg #[.string x.1, .string x.2.1, .int .i64 x.2.2] := (ev_in hA 54 21 rfl rfl rfl).trans (show f 21 = .agg #[.string x.1, .string x.2.1, .int .i64 x.2.2] from hu 21 (by decide))
      have e55 : A.eval (.tmp 55) = .pointer pr := (ev_in hA 55 22 rfl rfl rfl).trans (show f 22 = .pointer pr from hu 22 (by decide))
      refine ph_fn 33 _ _ rfl rfl #[.pointer pmr, .agg #[.string x.1, .string x.2.1, .int .i64 x.2.2], .pointer pr] (by simp [e53, e54, e55]) (by kernel_rfl) ?_
      refine (Calls.mono (over_t o x pmr pr _ _ mr r W (HOB.out W hw) (T3.out.gb hw) (T4.out.gb hw) (by have := HS.out; simp only [Sm, List.length_append, List.length_cons, szs_app, szs_cons] at this ⊢; omega)) ?_)
      rintro e W' ⟨p, h, rfl, ht, hq⟩
      exact ⟨_, rfl, hK _ _ hq ⟨p, h, rfl, ht⟩⟩
    | 24, ho, hu, hK =>
      cases ho
      have hw : w.grownBy W none := gb_trans HN.out hg
      obtain ⟨p12, h12, hv12, ht12⟩ := hu 12 (by decide)
      have e45 : A.eval (.tmp 45) = .pointer p12 := (ev_in hA 45 12 rfl rfl rfl).trans hv12
      have e49 : A.eval (.tmp 49) = .agg #[.string mx.1, .string mx.2.1, .int .i64 mx.2.2] := (ev_in hA 49 16 rfl rfl rfl).trans (show f 16 = .agg #[.string mx.1, .string mx.2.1, .int .i64 mx.2.2] from hu 16 (by decide))
      obtain ⟨p23, h23, hv23, ht23⟩ := hu 23 (by decide)
      have e56 : A.eval (.tmp 56) = .pointer p23 := (ev_in hA 56 23 rfl rfl rfl).trans hv23
      refine ph_fn 33 _ _ rfl rfl #[.pointer p12, .agg #[.string mx.1, .string mx.2.1, .int .i64 mx.2.2], .pointer p23] (by simp [e45, e49, e56]) (by kernel_rfl) ?_
      refine (Calls.mono (over_t o mx p12 p23 _ _ (ll ++ lx :: ml) (mr ++ x :: r) W (HOB.out W hw) ht12 ht23 (by have := HS.out; simp only [Sm, List.length_append, List.length_cons, szs_app, szs_cons] at this ⊢; omega)) ?_)
      rintro e W' ⟨p, h, rfl, ht, hq⟩
      exact ⟨_, rfl, hK _ _ hq ⟨p, h, rfl, ht⟩⟩
    | 25, ho, hu, hK =>
      cases ho
      have hw : w.grownBy W none := gb_trans HN.out hg
      obtain ⟨p24, h24, hv24, ht24⟩ := hu 24 (by decide)
      have e57 : A.eval (.tmp 57) = .pointer p24 := (ev_in hA 57 24 rfl rfl rfl).trans hv24
      exact ph_assign _ rfl rfl _ (e57) (hK _ _ (gb_rr W _) ⟨p24, h24, rfl, ht24⟩)
    | i + 26, ho, hu, hK => simp at ho
  case fin =>
    intro f W A hA hg hu
    obtain ⟨p, h, h1, h2⟩ := hu 25 (by decide)
    refine (by assumption : ∀ (a : Act) (w : World), Code.wp Try.prog Code.ret _ a w → _) A W ?_
    refine wp_ret ?_
    refine ret_ph (fn := Try.f46) hA 6 Try.results46 rfl ((ev_in hA 6 25 rfl rfl rfl).trans h1) ?_
    exact ⟨p, h, rfl, by rw [show ((ll ++ lx :: (ml ++ mx :: mr)) ++ x :: r : List Rw) = (ll ++ lx :: ml) ++ mx :: (mr ++ x :: r) from by simp]; exact h2, gb_trans HN.out hg⟩
set_option maxRecDepth 20000 in
set_option maxHeartbeats 1000000 in
theorem level_a2 (o : Nat → Prop) (w : World) (ob : ∀ b, w.heap.size ≤ b → o b) (x : Rw) (lb : Nat) (lx : Rw) (pll plr pr : Option Addr) (hl hll hlr hr nl zl : Nat) (ll lr r L : List Rw)
    (hbl : Bk 62 w lb (nc lx pll plr hl nl zl)) (Tl : Tr o w (some ⟨lb, 0, none⟩) hl L) (Tll : Tr o w pll hll ll) (Tq : Tr o w pr hr r) (c1 : hr + 1 < hl) (bd : hl < 4611686018427387904) (hs : Sm ((ll ++ lx :: lr) ++ x :: r)) (Tlr : Tr o w plr hlr lr) (c2 : ¬ hll < hlr) : Calls Try.prog 46 #[.pointer (some ⟨lb, 0, none⟩), iv x, .pointer pr] w (TR o w ((ll ++ lx :: lr) ++ x :: r)) := by
  have HS : Hid (Sm ((ll ++ lx :: lr) ++ x :: r)) := hs
  have HBl : Hid (Bk 62 w lb (nc lx pll plr hl nl zl)) := hbl
  have T1 : Hid (Tr o w pll hll ll) := Tll
  have T4 : Hid (Tr o w pr hr r) := Tq
  have T2 : Hid (Tr o w plr hlr lr) := Tlr
  have d2 : decide ((hll : Int) < (hlr : Int)) = false := decide_eq_false (by omega)
  have d1 : ((hr : Int) + 1 < (hl : Int)) := by omega
  have HOB : Hid (∀ W, w.grownBy W none → ∀ b, W.heap.size ≤ b → o b) := fun W hg b hb => ob b (Nat.le_trans hg.size hb)
  have HH1 : Hid (∀ W, w.grownBy W none → Calls Try.prog 44 #[.pointer (some ⟨lb, 0, none⟩)] W fun r w' => r = .returned (.int .i64 (hl : Nat)) ∧ w' = W) := fun W hg => height_c o _ _ _ _ (Tl.gb hg)
  have HH2 : Hid (∀ W, w.grownBy W none → Calls Try.prog 44 #[.pointer pr] W fun r w' => r = .returned (.int .i64 (hr : Nat)) ∧ w' = W) := fun W hg => height_c o _ _ _ _ (Tq.gb hg)
  have HH4 : Hid (∀ W, w.grownBy W none → Calls Try.prog 44 #[.pointer pll] W fun r w' => r = .returned (.int .i64 (hll : Nat)) ∧ w' = W) := fun W hg => height_c o _ _ _ _ (Tll.gb hg)
  have HH3 : Hid (∀ W, w.grownBy W none → Calls Try.prog 44 #[.pointer plr] W fun r w' => r = .returned (.int .i64 (hlr : Nat)) ∧ w' = W) := fun W hg => height_c o _ _ _ _ (Tlr.gb hg)
  have HN : Hid (w.grownBy (w.alloc (.cells #[.string x.1, .string x.2.1, .int .i64 x.2.2] 52)) none) := gb_alloc _ _
  have HN2 : Hid (Bk 52 (w.alloc (.cells #[.string x.1, .string x.2.1, .int .i64 x.2.2] 52)) w.heap.size (ivs x)) := (blk_new w 52 _).1
  clear hs hbl Tl Tll Tlr Tq ob
  unfold iv
  go_enter Try.func46, Try.ntmps46
  go_wp2_with fail
  generalize hW1 : World.alloc w _ = w1 at *
  clear hW1
  obtain ⟨N, hN⟩ : ∃ N, N = w.heap.size := ⟨_, rfl⟩
  rw [← hN] at HN2 ⊢
  clear hN
  have kl1 : w1.cell? ⟨lb, 3, none⟩ = some (.pointer pll) := (HBl.out.grew HN.out (by simp)).cell 3
  have kl2 : w1.cell? ⟨lb, 4, none⟩ = some (.pointer plr) := (HBl.out.grew HN.out (by simp)).cell 4
  go_quiet (first | (go_at_call_has 44 (Value.pointer (some ⟨lb, 0, none⟩)); exact (HH1.out _ (gb_drewN HN.out _)).mono fun _ _ ⟨a, b⟩ => ⟨a, _, b⟩) | (go_at_call_has 44 (Value.pointer pr); exact (HH2.out _ (gb_drewN HN.out _)).mono fun _ _ ⟨a, b⟩ => ⟨a, _, b⟩) | (go_at_call_has 44 (Value.pointer pll); exact (HH4.out _ (gb_drewN HN.out _)).mono fun _ _ ⟨a, b⟩ => ⟨a, _, b⟩) | (go_at_call_has 44 (Value.pointer plr); exact (HH3.out _ (gb_drewN HN.out _)).mono fun _ _ ⟨a, b⟩ => ⟨a, _, b⟩))
  replace HN : Hid (w.grownBy (w1.drewN nq) none) := gb_drewN HN.out nq
  replace HN2 : Hid (Bk 52 (w1.drewN nq) N (ivs x)) := HN2.out
  go_wp2_with (first | (go_at_call_has 44 (Value.pointer (some ⟨lb, 0, none⟩)); go_must (refine (Calls.mono (HH1.out _ HN.out) ?_)); rintro r wq ⟨rfl, rfl⟩) | (go_at_call_has 44 (Value.pointer pr); go_must (refine (Calls.mono (HH2.out _ HN.out) ?_)); rintro r wq ⟨rfl, rfl⟩) | (go_at_call_has 44 (Value.pointer pll); go_must (refine (Calls.mono (HH4.out _ HN.out) ?_)); rintro r wq ⟨rfl, rfl⟩) | (go_at_call_has 44 (Value.pointer plr); go_must (refine (Calls.mono (HH3.out _ HN.out) ?_)); rintro r wq ⟨rfl, rfl⟩))
  clear kl1 kl2
  generalize w1.drewN nq = w2 at *
  refine wp_region_phi none rfl (by kernel_rfl) [65, 66, 67, 68, 69, 70, 71, 72, 73, 74, 75, 76, 77, 78, 79, 80, 6] [[], [0], [1], [2], [], [4], [5], [6], [], [8], [9], [10], [], [], [11, 12, 13], [3, 7, 14], [15]] (by kernel_rfl) [fun u W => u = .pointer (some ⟨lb, 0, none⟩), fun u W => u = .pointer (some ⟨lb, 0, none⟩), fun u W => u = .pointer (some ⟨lb, 3, none⟩), fun u W => u = .pointer pll, fun u W => u = .pointer (some ⟨lb, 0, none⟩), fun u W => u = .pointer (some ⟨lb, 0, none⟩), fun u W => u = .pointer (some ⟨lb, 0, none⟩), fun u W => u = .agg #[.string lx.1, .string lx.2.1, .int .i64 lx.2.2], fun u W => u = .pointer (some ⟨lb, 0, none⟩), fun u W => u = .pointer (some ⟨lb, 0, none⟩), fun u W => u = .pointer (some ⟨lb, 4, none⟩), fun u W => u = .pointer plr, fun u W => u = .agg #[.string x.1, .string x.2.1, .int .i64 x.2.2], fun u W => u = .pointer pr, fun u W => ∃ p h, u = .pointer p ∧ Tr o W p h (lr ++ x :: r), fun u W => ∃ p h, u = .pointer p ∧ Tr o W p h (ll ++ lx :: (lr ++ x :: r)), fun u W => ∃ p h, u = .pointer p ∧ Tr o W p h (ll ++ lx :: (lr ++ x :: r))] ?stable ?step ?fin
  case stable =>
    intro i v W W' h hg
    match i, h with
    | 0, h => exact h
    | 1, h => exact h
    | 2, h => exact h
    | 3, h => exact h
    | 4, h => exact h
    | 5, h => exact h
    | 6, h => exact h
    | 7, h => exact h
    | 8, h => exact h
    | 9, h => exact h
    | 10, h => exact h
    | 11, h => exact h
    | 12, h => exact h
    | 13, h => exact h
    | 14, h => obtain ⟨p, h, h1, h2⟩ := h; exact ⟨p, h, h1, h2.gb hg⟩
    | 15, h => obtain ⟨p, h, h1, h2⟩ := h; exact ⟨p, h, h1, h2.gb hg⟩
    | 16, h => obtain ⟨p, h, h1, h2⟩ := h; exact ⟨p, h, h1, h2.gb hg⟩
    | i + 17, h => exact trivial
  case step =>
    intro f W A hA hg i o ho hu K hK
    match i, ho, hu, hK with
    | 0, ho, hu, hK =>
      cases ho
      have hw : w.grownBy W none := gb_trans HN.out hg
      have e0 : A.eval (.tmp 0) = .pointer (some ⟨lb, 0, none⟩) := ev_out hA 0 rfl
      exact ph_move _ rfl rfl (.pointer (some ⟨lb, 0, none⟩)) e0 (hK _ _ (gb_rr W _) rfl)
    | 1, ho, hu, hK =>
      cases ho
      have hw : w.grownBy W none := gb_trans HN.out hg
      have e65 : A.eval (.tmp 65) = .pointer (some ⟨lb, 0, none⟩) := (ev_in hA 65 0 rfl rfl rfl).trans (show f 0 = .pointer (some ⟨lb, 0, none⟩) from hu 0 (by decide))
      exact ph_nil _ rfl rfl _ e65 (hK _ _ (gb_rr W _) rfl)
    | 2, ho, hu, hK =>
      cases ho
      have hw : w.grownBy W none := gb_trans HN.out hg
      have e66 : A.eval (.tmp 66) = .pointer (some ⟨lb, 0, none⟩) := (ev_in hA 66 1 rfl rfl rfl).trans (show f 1 = .pointer (some ⟨lb, 0, none⟩) from hu 1 (by decide))
      exact ph_field _ _ _ rfl rfl _ (.pointer (some ⟨lb, 3, none⟩)) e66 (by kernel_rfl) (hK _ _ (gb_rr W _) rfl)
    | 3, ho, hu, hK =>
      cases ho
      have hw : w.grownBy W none := gb_trans HN.out hg
      have e67 : A.eval (.tmp 67) = .pointer (some ⟨lb, 3, none⟩) := (ev_in hA 67 2 rfl rfl rfl).trans (show f 2 = .pointer (some ⟨lb, 3, none⟩) from hu 2 (by decide))
      have hc : W.cell? ⟨lb, 3, none⟩ = some (.pointer pll) := (HBl.out.grew hw (by simp)).cell 3
      have eC : ∀ c, A.eval (.const c) = c := fun _ => rfl; have eF : ∀ g, A.eval (.func g) = .func (.func g) #[] #[] := fun _ => rfl; generalize hρ : A.eval = ρ at *
      clear hA hu hg
      refine ph_sem hρ rfl (r := .ok (.value (.pointer pll)) W) ?_ (hK _ _ (gb_rr W _) rfl)
      go_simp
    | 4, ho, hu, hK =>
      cases ho
      have hw : w.grownBy W none := gb_trans HN.out hg
      have e0 : A.eval (.tmp 0) = .pointer (some ⟨lb, 0, none⟩) := ev_out hA 0 rfl
      exact ph_move _ rfl rfl (.pointer (some ⟨lb, 0, none⟩)) e0 (hK _ _ (gb_rr W _) rfl)
    | 5, ho, hu, hK =>
      cases ho
      have hw : w.grownBy W none := gb_trans HN.out hg
      have e69 : A.eval (.tmp 69) = .pointer (some ⟨lb, 0, none⟩) := (ev_in hA 69 4 rfl rfl rfl).trans (show f 4 = .pointer (some ⟨lb, 0, none⟩) from hu 4 (by decide))
      exact ph_nil _ rfl rfl _ e69 (hK _ _ (gb_rr W _) rfl)
    | 6, ho, hu, hK =>
      cases ho
      have hw : w.grownBy W none := gb_trans HN.out hg
      have e70 : A.eval (.tmp 70) = .pointer (some ⟨lb, 0, none⟩) := (ev_in hA 70 5 rfl rfl rfl).trans (show f 5 = .pointer (some ⟨lb, 0, none⟩) from hu 5 (by decide))
      exact ph_field _ _ _ rfl rfl _ (.pointer (some ⟨lb, 0, none⟩)) e70 (by kernel_rfl) (hK _ _ (gb_rr W _) rfl)
    | 7, ho, hu, hK =>
      cases ho
      have hw : w.grownBy W none := gb_trans HN.out hg
      have e71 : A.eval (.tmp 71) = .pointer (some ⟨lb, 0, none⟩) := (ev_in hA 71 6 rfl rfl rfl).trans (show f 6 = .pointer (some ⟨lb, 0, none⟩) from hu 6 (by decide))
      exact ph_load rfl 52 _ rfl Try.underlying52 rfl lb 0 [.string lx.1, .string lx.2.1, .int .i64 lx.2.2] (by kernel_rfl) e71 (nc_range (HBl.out.grew hw (by simp))) (hK _ _ (gb_rr W _) rfl)
    | 8, ho, hu, hK =>
      cases ho
      have hw : w.grownBy W none := gb_trans HN.out hg
      have e0 : A.eval (.tmp 0) = .pointer (some ⟨lb, 0, none⟩) := ev_out hA 0 rfl
      exact ph_move _ rfl rfl (.pointer (some ⟨lb, 0, none⟩)) e0 (hK _ _ (gb_rr W _) rfl)
    | 9, ho, hu, hK =>
      cases ho
      have hw : w.grownBy W none := gb_trans HN.out hg
      have e73 : A.eval (.tmp 73) = .pointer (some ⟨lb, 0, none⟩) := (ev_in hA 73 8 rfl rfl rfl).trans (show f 8 = .pointer (some ⟨lb, 0, none⟩) from hu 8 (by decide))
      exact ph_nil _ rfl rfl _ e73 (hK _ _ (gb_rr W _) rfl)
    | 10, ho, hu, hK =>
      cases ho
      have hw : w.grownBy W none := gb_trans HN.out hg
      have e74 : A.eval (.tmp 74) = .pointer (some ⟨lb, 0, none⟩) := (ev_in hA 74 9 rfl rfl rfl).trans (show f 9 = .pointer (some ⟨lb, 0, none⟩) from hu 9 (by decide))
      exact ph_field _ _ _ rfl rfl _ (.pointer (some ⟨lb, 4, none⟩)) e74 (by kernel_rfl) (hK _ _ (gb_rr W _) rfl)
    | 11, ho, hu, hK =>
      cases ho
      have hw : w.grownBy W none := gb_trans HN.out hg
      have e75 : A.eval (.tmp 75) = .pointer (some ⟨lb, 4, none⟩) := (ev_in hA 75 10 rfl rfl rfl).trans (show f 10 = .pointer (some ⟨lb, 4, none⟩) from hu 10 (by decide))
      have hc : W.cell? ⟨lb, 4, none⟩ = some (.pointer plr) := (HBl.out.grew hw (by simp)).cell 4
      have eC : ∀ c, A.eval (.const c) = c := fun _ => rfl; have eF : ∀ g, A.eval (.func g) = .func (.func g) #[] #[] := fun _ => rfl; generalize hρ : A.eval = ρ at *
      clear hA hu hg
      refine ph_sem hρ rfl (r := .ok (.value (.pointer plr)) W) ?_ (hK _ _ (gb_rr W _) rfl)
      go_simp
    | 12, ho, hu, hK =>
      cases ho
      have hw : w.grownBy W none := gb_trans HN.out hg
      have e4 : A.eval (.tmp 4) = .pointer (some ⟨N, 0, none⟩) := ev_out hA 4 rfl
      exact ph_load rfl 52 _ rfl Try.underlying52 rfl N 0 [.string x.1, .string x.2.1, .int .i64 x.2.2] (by kernel_rfl) e4 (it_range (HN2.out.grew hg (by simp))) (hK _ _ (gb_rr W _) rfl)
    | 13, ho, hu, hK =>
      cases ho
      have hw : w.grownBy W none := gb_trans HN.out hg
      have e2 : A.eval (.tmp 2) = .pointer pr := ev_out hA 2 rfl
      exact ph_move _ rfl rfl (.pointer pr) e2 (hK _ _ (gb_rr W _) rfl)
    | 14, ho, hu, hK =>
      cases ho
      have hw : w.grownBy W none := gb_trans HN.out hg
      have e76 : A.eval (.tmp 76) = .pointer plr := (ev_in hA 76 11 rfl rfl rfl).trans (show f 11 = .pointer plr from hu 11 (by decide))
      have e77 : A.eval (.tmp 77) = .agg #[.string x.1, .string x.2.1, .int .i64 x.2.2] := (ev_in hA 77 12 rfl rfl rfl).trans (show f 12 = .agg #[.string x.1, .string x.2.1, .int .i64 x.2.2] from hu 12 (by decide))
      have e78 : A.eval (.tmp 78) = .pointer pr := (ev_in hA 78 13 rfl rfl rfl).trans (show f 13 = .pointer pr from hu 13 (by decide))
      refine ph_fn 33 _ _ rfl rfl #[.pointer plr, .agg #[.string x.1, .string x.2.1, .int .i64 x.2.2], .pointer pr] (by simp [e76, e77, e78]) (by kernel_rfl) ?_
      refine (Calls.mono (over_t o x plr pr _ _ lr r W (HOB.out W hw) (T2.out.gb hw) (T4.out.gb hw) (by have := HS.out; simp only [Sm, List.length_append, List.length_cons, szs_app, szs_cons] at this ⊢; omega)) ?_)
      rintro e W' ⟨p, h, rfl, ht, hq⟩
      exact ⟨_, rfl, hK _ _ hq ⟨p, h, rfl, ht⟩⟩
    | 15, ho, hu, hK =>
      cases ho
      have hw : w.grownBy W none := gb_trans HN.out hg
      have e68 : A.eval (.tmp 68) = .pointer pll := (ev_in hA 68 3 rfl rfl rfl).trans (show f 3 = .pointer pll from hu 3 (by decide))
      have e72 : A.eval (.tmp 72) = .agg #[.string lx.1, .string lx.2.1, .int .i64 lx.2.2] := (ev_in hA 72 7 rfl rfl rfl).trans (show f 7 = .agg #[.string lx.1, .string lx.2.1, .int .i64 lx.2.2] from hu 7 (by decide))
      obtain ⟨p14, h14, hv14, ht14⟩ := hu 14 (by decide)
      have e79 : A.eval (.tmp 79) = .pointer p14 := (ev_in hA 79 14 rfl rfl rfl).trans hv14
      refine ph_fn 33 _ _ rfl rfl #[.pointer pll, .agg #[.string lx.1, .string lx.2.1, .int .i64 lx.2.2], .pointer p14] (by simp [e68, e72, e79]) (by kernel_rfl) ?_
      refine (Calls.mono (over_t o lx pll p14 _ _ ll (lr ++ x :: r) W (HOB.out W hw) (T1.out.gb hw) ht14 (by have := HS.out; simp only [Sm, List.length_append, List.length_cons, szs_app, szs_cons] at this ⊢; omega)) ?_)
      rintro e W' ⟨p, h, rfl, ht, hq⟩
      exact ⟨_, rfl, hK _ _ hq ⟨p, h, rfl, ht⟩⟩
    | 16, ho, hu, hK =>
      cases ho
      have hw : w.grownBy W none := gb_trans HN.out hg
      obtain ⟨p15, h15, hv15, ht15⟩ := hu 15 (by decide)
      have e80 : A.eval (.tmp 80) = .pointer p15 := (ev_in hA 80 15 rfl rfl rfl).trans hv15
      exact ph_assign _ rfl rfl _ (e80) (hK _ _ (gb_rr W _) ⟨p15, h15, rfl, ht15⟩)
    | i + 17, ho, hu, hK => simp at ho
  case fin =>
    intro f W A hA hg hu
    obtain ⟨p, h, h1, h2⟩ := hu 16 (by decide)
    refine (by assumption : ∀ (a : Act) (w : World), Code.wp Try.prog Code.ret _ a w → _) A W ?_
    refine wp_ret ?_
    refine ret_ph (fn := Try.f46) hA 6 Try.results46 rfl ((ev_in hA 6 16 rfl rfl rfl).trans h1) ?_
    exact ⟨p, h, rfl, by rw [show ((ll ++ lx :: lr) ++ x :: r : List Rw) = ll ++ lx :: (lr ++ x :: r) from by simp]; exact h2, gb_trans HN.out hg⟩
set_option maxRecDepth 20000 in
set_option maxHeartbeats 1000000 in
theorem level_b1 (o : Nat → Prop) (w : World) (ob : ∀ b, w.heap.size ≤ b → o b) (x : Rw) (rb mb : Nat) (rx mx : Rw) (prr pml pmr pl : Option Addr) (hl hrr hrl hml hmr hr nr zr nm zm : Nat) (rr ml mr l R M : List Rw)
    (hbr : Bk 62 w rb (nc rx (some ⟨mb, 0, none⟩) prr hr nr zr)) (Trr0 : Tr o w (some ⟨rb, 0, none⟩) hr R) (Trr : Tr o w prr hrr rr) (Tl : Tr o w pl hl l) (c0 : ¬ hr + 1 < hl) (c1 : hl + 1 < hr) (bd : hr < 4611686018427387904) (hs : Sm (l ++ x :: ((ml ++ mx :: mr) ++ rx :: rr))) (hbm : Bk 62 w mb (nc mx pml pmr hrl nm zm)) (Tm : Tr o w (some ⟨mb, 0, none⟩) hrl M) (Tml : Tr o w pml hml ml) (Tmr : Tr o w pmr hmr mr) (c2 : hrr < hrl) : Calls Try.prog 46 #[.pointer pl, iv x, .pointer (some ⟨rb, 0, none⟩)] w (TR o w (l ++ x :: ((ml ++ mx :: mr) ++ rx :: rr))) := by
  have HS : Hid (Sm (l ++ x :: ((ml ++ mx :: mr) ++ rx :: rr))) := hs
  have HBr : Hid (Bk 62 w rb (nc rx (some ⟨mb, 0, none⟩) prr hr nr zr)) := hbr
  have T1 : Hid (Tr o w prr hrr rr) := Trr
  have T4 : Hid (Tr o w pl hl l) := Tl
  have HBm : Hid (Bk 62 w mb (nc mx pml pmr hrl nm zm)) := hbm
  have T2 : Hid (Tr o w pml hml ml) := Tml
  have T3 : Hid (Tr o w pmr hmr mr) := Tmr
  have d2 : ((hrr : Int) < (hrl : Int)) := by omega
  have d1 : ((hl : Int) + 1 < (hr : Int)) := by omega
  have d0 : decide ((hr : Int) + 1 < (hl : Int)) = false := decide_eq_false (by omega)
  have wv0 : IntKind.i64.wrap ((hr : Int) + 1) = (hr : Int) + 1 := wr64 _ ⟨by omega, by omega⟩
  have wv1 : IntKind.i64.wrap ((hl : Int) + 1) = (hl : Int) + 1 := wr64 _ ⟨by omega, by omega⟩
  have HOB : Hid (∀ W, w.grownBy W none → ∀ b, W.heap.size ≤ b → o b) := fun W hg b hb => ob b (Nat.le_trans hg.size hb)
  have HH1 : Hid (∀ W, w.grownBy W none → Calls Try.prog 44 #[.pointer (some ⟨rb, 0, none⟩)] W fun r w' => r = .returned (.int .i64 (hr : Nat)) ∧ w' = W) := fun W hg => height_c o _ _ _ _ (Trr0.gb hg)
  have HH2 : Hid (∀ W, w.grownBy W none → Calls Try.prog 44 #[.pointer pl] W fun r w' => r = .returned (.int .i64 (hl : Nat)) ∧ w' = W) := fun W hg => height_c o _ _ _ _ (Tl.gb hg)
  have HH4 : Hid (∀ W, w.grownBy W none → Calls Try.prog 44 #[.pointer prr] W fun r w' => r = .returned (.int .i64 (hrr : Nat)) ∧ w' = W) := fun W hg => height_c o _ _ _ _ (Trr.gb hg)
  have HH3 : Hid (∀ W, w.grownBy W none → Calls Try.prog 44 #[.pointer (some ⟨mb, 0, none⟩)] W fun r w' => r = .returned (.int .i64 (hrl : Nat)) ∧ w' = W) := fun W hg => height_c o _ _ _ _ (Tm.gb hg)
  have HN : Hid (w.grownBy (w.alloc (.cells #[.string x.1, .string x.2.1, .int .i64 x.2.2] 52)) none) := gb_alloc _ _
  have HN2 : Hid (Bk 52 (w.alloc (.cells #[.string x.1, .string x.2.1, .int .i64 x.2.2] 52)) w.heap.size (ivs x)) := (blk_new w 52 _).1
  clear hs hbr hbm Trr0 Tm Trr Tml Tmr Tl ob
  unfold iv
  go_enter Try.func46, Try.ntmps46
  go_wp2_with fail
  generalize hW1 : World.alloc w _ = w1 at *
  clear hW1
  obtain ⟨N, hN⟩ : ∃ N, N = w.heap.size := ⟨_, rfl⟩
  rw [← hN] at HN2 ⊢
  clear hN
  go_quiet (first | (go_at_call_has 44 (Value.pointer (some ⟨rb, 0, none⟩)); exact (HH1.out _ (gb_drewN HN.out _)).mono fun _ _ ⟨a, b⟩ => ⟨a, _, b⟩) | (go_at_call_has 44 (Value.pointer pl); exact (HH2.out _ (gb_drewN HN.out _)).mono fun _ _ ⟨a, b⟩ => ⟨a, _, b⟩) | (go_at_call_has 44 (Value.pointer prr); exact (HH4.out _ (gb_drewN HN.out _)).mono fun _ _ ⟨a, b⟩ => ⟨a, _, b⟩) | (go_at_call_has 44 (Value.pointer (some ⟨mb, 0, none⟩)); exact (HH3.out _ (gb_drewN HN.out _)).mono fun _ _ ⟨a, b⟩ => ⟨a, _, b⟩))
  replace HN : Hid (w.grownBy (w1.drewN nq) none) := gb_drewN HN.out nq
  replace HN2 : Hid (Bk 52 (w1.drewN nq) N (ivs x)) := HN2.out
  generalize hw2 : w1.drewN nq = w2 at *
  clear hw2 nq w1
  have kl1 : w2.cell? ⟨rb, 3, none⟩ = some (.pointer (some ⟨mb, 0, none⟩)) := (HBr.out.grew HN.out (by simp)).cell 3
  have kl2 : w2.cell? ⟨rb, 4, none⟩ = some (.pointer prr) := (HBr.out.grew HN.out (by simp)).cell 4
  go_wp2_with (first | (go_at_call_has 44 (Value.pointer (some ⟨rb, 0, none⟩)); go_must (refine (Calls.mono (HH1.out _ HN.out) ?_)); rintro r wq ⟨rfl, rfl⟩) | (go_at_call_has 44 (Value.pointer pl); go_must (refine (Calls.mono (HH2.out _ HN.out) ?_)); rintro r wq ⟨rfl, rfl⟩) | (go_at_call_has 44 (Value.pointer prr); go_must (refine (Calls.mono (HH4.out _ HN.out) ?_)); rintro r wq ⟨rfl, rfl⟩) | (go_at_call_has 44 (Value.pointer (some ⟨mb, 0, none⟩)); go_must (refine (Calls.mono (HH3.out _ HN.out) ?_)); rintro r wq ⟨rfl, rfl⟩))
  go_quiet (first | (go_at_call_has 44 (Value.pointer (some ⟨rb, 0, none⟩)); exact (HH1.out _ (gb_drewN HN.out _)).mono fun _ _ ⟨a, b⟩ => ⟨a, _, b⟩) | (go_at_call_has 44 (Value.pointer pl); exact (HH2.out _ (gb_drewN HN.out _)).mono fun _ _ ⟨a, b⟩ => ⟨a, _, b⟩) | (go_at_call_has 44 (Value.pointer prr); exact (HH4.out _ (gb_drewN HN.out _)).mono fun _ _ ⟨a, b⟩ => ⟨a, _, b⟩) | (go_at_call_has 44 (Value.pointer (some ⟨mb, 0, none⟩)); exact (HH3.out _ (gb_drewN HN.out _)).mono fun _ _ ⟨a, b⟩ => ⟨a, _, b⟩))
  replace HN : Hid (w.grownBy (wq.drewN nq) none) := gb_drewN HN.out nq
  replace HN2 : Hid (Bk 52 (wq.drewN nq) N (ivs x)) := HN2.out
  go_wp2_with (first | (go_at_call_has 44 (Value.pointer (some ⟨rb, 0, none⟩)); go_must (refine (Calls.mono (HH1.out _ HN.out) ?_)); rintro r wq ⟨rfl, rfl⟩) | (go_at_call_has 44 (Value.pointer pl); go_must (refine (Calls.mono (HH2.out _ HN.out) ?_)); rintro r wq ⟨rfl, rfl⟩) | (go_at_call_has 44 (Value.pointer prr); go_must (refine (Calls.mono (HH4.out _ HN.out) ?_)); rintro r wq ⟨rfl, rfl⟩) | (go_at_call_has 44 (Value.pointer (some ⟨mb, 0, none⟩)); go_must (refine (Calls.mono (HH3.out _ HN.out) ?_)); rintro r wq ⟨rfl, rfl⟩))
  clear kl1 kl2
  generalize wq.drewN nq = w3 at *
  refine wp_region_phi none rfl (by kernel_rfl) [105, 106, 107, 108, 109, 110, 111, 112, 113, 114, 115, 116, 117, 118, 119, 120, 121, 122, 123, 124, 125, 126, 127, 128, 129, 6] [[], [], [], [2], [3], [4], [0, 1, 5], [], [7], [8], [9], [], [11], [12], [13], [], [15], [16], [17], [], [19], [20], [21], [14, 18, 22], [6, 10, 23], [24]] (by kernel_rfl) [fun u W => u = .pointer pl, fun u W => u = .agg #[.string x.1, .string x.2.1, .int .i64 x.2.2], fun u W => u = .pointer (some ⟨mb, 0, none⟩), fun u W => u = .pointer (some ⟨mb, 0, none⟩), fun u W => u = .pointer (some ⟨mb, 3, none⟩), fun u W => u = .pointer pml, fun u W => ∃ p h, u = .pointer p ∧ Tr o W p h (l ++ x :: ml), fun u W => u = .pointer (some ⟨mb, 0, none⟩), fun u W => u = .pointer (some ⟨mb, 0, none⟩), fun u W => u = .pointer (some ⟨mb, 0, none⟩), fun u W => u = .agg #[.string mx.1, .string mx.2.1, .int .i64 mx.2.2], fun u W => u = .pointer (some ⟨mb, 0, none⟩), fun u W => u = .pointer (some ⟨mb, 0, none⟩), fun u W => u = .pointer (some ⟨mb, 4, none⟩), fun u W => u = .pointer pmr, fun u W => u = .pointer (some ⟨rb, 0, none⟩), fun u W => u = .pointer (some ⟨rb, 0, none⟩), fun u W => u = .pointer (some ⟨rb, 0, none⟩), fun u W => u = .agg #[.string rx.1, .string rx.2.1, .int .i64 rx.2.2], fun u W => u = .pointer (some ⟨rb, 0, none⟩), fun u W => u = .pointer (some ⟨rb, 0, none⟩), fun u W => u = .pointer (some ⟨rb, 4, none⟩), fun u W => u = .pointer prr, fun u W => ∃ p h, u = .pointer p ∧ Tr o W p h (mr ++ rx :: rr), fun u W => ∃ p h, u = .pointer p ∧ Tr o W p h ((l ++ x :: ml) ++ mx :: (mr ++ rx :: rr)), fun u W => ∃ p h, u = .pointer p ∧ Tr o W p h ((l ++ x :: ml) ++ mx :: (mr ++ rx :: rr))] ?stable ?step ?fin
  case stable =>
    intro i v W W' h hg
    match i, h with
    | 0, h => exact h
    | 1, h => exact h
    | 2, h => exact h
    | 3, h => exact h
    | 4, h => exact h
    | 5, h => exact h
    | 6, h => obtain ⟨p, h, h1, h2⟩ := h; exact ⟨p, h, h1, h2.gb hg⟩
    | 7, h => exact h
    | 8, h => exact h
    | 9, h => exact h
    | 10, h => exact h
    | 11, h => exact h
    | 12, h => exact h
    | 13, h => exact h
    | 14, h => exact h
    | 15, h => exact h
    | 16, h => exact h
    | 17, h => exact h
    | 18, h => exact h
    | 19, h => exact h
    | 20, h => exact h
    | 21, h => exact h
    | 22, h => exact h
    | 23, h => obtain ⟨p, h, h1, h2⟩ := h; exact ⟨p, h, h1, h2.gb hg⟩
    | 24, h => obtain ⟨p, h, h1, h2⟩ := h; exact ⟨p, h, h1, h2.gb hg⟩
    | 25, h => obtain ⟨p, h, h1, h2⟩ := h; exact ⟨p, h, h1, h2.gb hg⟩
    | i + 26, h => exact trivial
  case step =>
    intro f W A hA hg i o ho hu K hK
    match i, ho, hu, hK with
    | 0, ho, hu, hK =>
      cases ho
      have hw : w.grownBy W none := gb_trans HN.out hg
      have e0 : A.eval (.tmp 0) = .pointer pl := ev_out hA 0 rfl
      exact ph_move _ rfl rfl (.pointer pl) e0 (hK _ _ (gb_rr W _) rfl)
    | 1, ho, hu, hK =>
      cases ho
      have hw : w.grownBy W none := gb_trans HN.out hg
      have e4 : A.eval (.tmp 4) = .pointer (some ⟨N, 0, none⟩) := ev_out hA 4 rfl
      exact ph_load rfl 52 _ rfl Try.underlying52 rfl N 0 [.string x.1, .string x.2.1, .int .i64 x.2.2] (by kernel_rfl) e4 (it_range (HN2.out.grew hg (by simp))) (hK _ _ (gb_rr W _) rfl)
    | 2, ho, hu, hK =>
      cases ho
      have hw : w.grownBy W none := gb_trans HN.out hg
      have e8 : A.eval (.tmp 8) = .pointer (some ⟨mb, 0, none⟩) := ev_out hA 8 rfl
      exact ph_move _ rfl rfl (.pointer (some ⟨mb, 0, none⟩)) e8 (hK _ _ (gb_rr W _) rfl)
    | 3, ho, hu, hK =>
      cases ho
      have hw : w.grownBy W none := gb_trans HN.out hg
      have e107 : A.eval (.tmp 107) = .pointer (some ⟨mb, 0, none⟩) := (ev_in hA 107 2 rfl rfl rfl).trans (show f 2 = .pointer (some ⟨mb, 0, none⟩) from hu 2 (by decide))
      exact ph_nil _ rfl rfl _ e107 (hK _ _ (gb_rr W _) rfl)
    | 4, ho, hu, hK =>
      cases ho
      have hw : w.grownBy W none := gb_trans HN.out hg
      have e108 : A.eval (.tmp 108) = .pointer (some ⟨mb, 0, none⟩) := (ev_in hA 108 3 rfl rfl rfl).trans (show f 3 = .pointer (some ⟨mb, 0, none⟩) from hu 3 (by decide))
      exact ph_field _ _ _ rfl rfl _ (.pointer (some ⟨mb, 3, none⟩)) e108 (by kernel_rfl) (hK _ _ (gb_rr W _) rfl)
    | 5, ho, hu, hK =>
      cases ho
      have hw : w.grownBy W none := gb_trans HN.out hg
      have e109 : A.eval (.tmp 109) = .pointer (some ⟨mb, 3, none⟩) := (ev_in hA 109 4 rfl rfl rfl).trans (show f 4 = .pointer (some ⟨mb, 3, none⟩) from hu 4 (by decide))
      have hc : W.cell? ⟨mb, 3, none⟩ = some (.pointer pml) := (HBm.out.grew hw (by simp)).cell 3
      have eC : ∀ c, A.eval (.const c) = c := fun _ => rfl; have eF : ∀ g, A.eval (.func g) = .func (.func g) #[] #[] := fun _ => rfl; generalize hρ : A.eval = ρ at *
      clear hA hu hg
      refine ph_sem hρ rfl (r := .ok (.value (.pointer pml)) W) ?_ (hK _ _ (gb_rr W _) rfl)
      go_simp
    | 6, ho, hu, hK =>
      cases ho
      have hw : w.grownBy W none := gb_trans HN.out hg
      have e105 : A.eval (.tmp 105) = .pointer pl := (ev_in hA 105 0 rfl rfl rfl).trans (show f 0 = .pointer pl from hu 0 (by decide))
      have e106 : A.eval (.tmp 106) = .agg #[.string x.1, .string x.2.1, .int .i64 x.2.2] := (ev_in hA 106 1 rfl rfl rfl).trans (show f 1 = .agg #[.string x.1, .string x.2.1, .int .i64 x.2.2] from hu 1 (by decide))
      have e110 : A.eval (.tmp 110) = .pointer pml := (ev_in hA 110 5 rfl rfl rfl).trans (show f 5 = .pointer pml from hu 5 (by decide))
      refine ph_fn 33 _ _ rfl rfl #[.pointer pl, .agg #[.string x.1, .string x.2.1, .int .i64 x.2.2], .pointer pml] (by simp [e105, e106, e110]) (by kernel_rfl) ?_
      refine (Calls.mono (over_t o x pl pml _ _ l ml W (HOB.out W hw) (T4.out.gb hw) (T2.out.gb hw) (by have := HS.out; simp only [Sm, List.length_append, List.length_cons, szs_app, szs_cons] at this ⊢; omega)) ?_)
      rintro e W' ⟨p, h, rfl, ht, hq⟩
      exact ⟨_, rfl, hK _ _ hq ⟨p, h, rfl, ht⟩⟩
    | 7, ho, hu, hK =>
      cases ho
      have hw : w.grownBy W none := gb_trans HN.out hg
      have e8 : A.eval (.tmp 8) = .pointer (some ⟨mb, 0, none⟩) := ev_out hA 8 rfl
      exact ph_move _ rfl rfl (.pointer (some ⟨mb, 0, none⟩)) e8 (hK _ _ (gb_rr W _) rfl)
    | 8, ho, hu, hK =>
      cases ho
      have hw : w.grownBy W none := gb_trans HN.out hg
      have e112 : A.eval (.tmp 112) = .pointer (some ⟨mb, 0, none⟩) := (ev_in hA 112 7 rfl rfl rfl).trans (show f 7 = .pointer (some ⟨mb, 0, none⟩) from hu 7 (by decide))
      exact ph_nil _ rfl rfl _ e112 (hK _ _ (gb_rr W _) rfl)
    | 9, ho, hu, hK =>
      cases ho
      have hw : w.grownBy W none := gb_trans HN.out hg
      have e113 : A.eval (.tmp 113) = .pointer (some ⟨mb, 0, none⟩) := (ev_in hA 113 8 rfl rfl rfl).trans (show f 8 = .pointer (some ⟨mb, 0, none⟩) from hu 8 (by decide))
      exact ph_field _ _ _ rfl rfl _ (.pointer (some ⟨mb, 0, none⟩)) e113 (by kernel_rfl) (hK _ _ (gb_rr W _) rfl)
    | 10, ho, hu, hK =>
      cases ho
      have hw : w.grownBy W none := gb_trans HN.out hg
      have e114 : A.eval (.tmp 114) = .pointer (some ⟨mb, 0, none⟩) := (ev_in hA 114 9 rfl rfl rfl).trans (show f 9 = .pointer (some ⟨mb, 0, none⟩) from hu 9 (by decide))
      exact ph_load rfl 52 _ rfl Try.underlying52 rfl mb 0 [.string mx.1, .string mx.2.1, .int .i64 mx.2.2] (by kernel_rfl) e114 (nc_range (HBm.out.grew hw (by simp))) (hK _ _ (gb_rr W _) rfl)
    | 11, ho, hu, hK =>
      cases ho
      have hw : w.grownBy W none := gb_trans HN.out hg
      have e8 : A.eval (.tmp 8) = .pointer (some ⟨mb, 0, none⟩) := ev_out hA 8 rfl
      exact ph_move _ rfl rfl (.pointer (some ⟨mb, 0, none⟩)) e8 (hK _ _ (gb_rr W _) rfl)
    | 12, ho, hu, hK =>
      cases ho
      have hw : w.grownBy W none := gb_trans HN.out hg
      have e116 : A.eval (.tmp 116) = .pointer (some ⟨mb, 0, none⟩) := (ev_in hA 116 11 rfl rfl rfl).trans (show f 11 = .pointer (some ⟨mb, 0, none⟩) from hu 11 (by decide))
      exact ph_nil _ rfl rfl _ e116 (hK _ _ (gb_rr W _) rfl)
    | 13, ho, hu, hK =>
      cases ho
      have hw : w.grownBy W none := gb_trans HN.out hg
      have e117 : A.eval (.tmp 117) = .pointer (some ⟨mb, 0, none⟩) := (ev_in hA 117 12 rfl rfl rfl).trans (show f 12 = .pointer (some ⟨mb, 0, none⟩) from hu 12 (by decide))
      exact ph_field _ _ _ rfl rfl _ (.pointer (some ⟨mb, 4, none⟩)) e117 (by kernel_rfl) (hK _ _ (gb_rr W _) rfl)
    | 14, ho, hu, hK =>
      cases ho
      have hw : w.grownBy W none := gb_trans HN.out hg
      have e118 : A.eval (.tmp 118) = .pointer (some ⟨mb, 4, none⟩) := (ev_in hA 118 13 rfl rfl rfl).trans (show f 13 = .pointer (some ⟨mb, 4, none⟩) from hu 13 (by decide))
      have hc : W.cell? ⟨mb, 4, none⟩ = some (.pointer pmr) := (HBm.out.grew hw (by simp)).cell 4
      have eC : ∀ c, A.eval (.const c) = c := fun _ => rfl; have eF : ∀ g, A.eval (.func g) = .func (.func g) #[] #[] := fun _ => rfl; generalize hρ : A.eval = ρ at *
      clear hA hu hg
      refine ph_sem hρ rfl (r := .ok (.value (.pointer pmr)) W) ?_ (hK _ _ (gb_rr W _) rfl)
      go_simp
    | 15, ho, hu, hK =>
      cases ho
      have hw : w.grownBy W none := gb_trans HN.out hg
      have e2 : A.eval (.tmp 2) = .pointer (some ⟨rb, 0, none⟩) := ev_out hA 2 rfl
      exact ph_move _ rfl rfl (.pointer (some ⟨rb, 0, none⟩)) e2 (hK _ _ (gb_rr W _) rfl)
    | 16, ho, hu, hK =>
      cases ho
      have hw : w.grownBy W none := gb_trans HN.out hg
      have e120 : A.eval (.tmp 120) = .pointer (some ⟨rb, 0, none⟩) := (ev_in hA 120 15 rfl rfl rfl).trans (show f 15 = .pointer (some ⟨rb, 0, none⟩) from hu 15 (by decide))
      exact ph_nil _ rfl rfl _ e120 (hK _ _ (gb_rr W _) rfl)
    | 17, ho, hu, hK =>
      cases ho
      have hw : w.grownBy W none := gb_trans HN.out hg
      have e121 : A.eval (.tmp 121) = .pointer (some ⟨rb, 0, none⟩) := (ev_in hA 121 16 rfl rfl rfl).trans (show f 16 = .pointer (some ⟨rb, 0, none⟩) from hu 16 (by decide))
      exact ph_field _ _ _ rfl rfl _ (.pointer (some ⟨rb, 0, none⟩)) e121 (by kernel_rfl) (hK _ _ (gb_rr W _) rfl)
    | 18, ho, hu, hK =>
      cases ho
      have hw : w.grownBy W none := gb_trans HN.out hg
      have e122 : A.eval (.tmp 122) = .pointer (some ⟨rb, 0, none⟩) := (ev_in hA 122 17 rfl rfl rfl).trans (show f 17 = .pointer (some ⟨rb, 0, none⟩) from hu 17 (by decide))
      exact ph_load rfl 52 _ rfl Try.underlying52 rfl rb 0 [.string rx.1, .string rx.2.1, .int .i64 rx.2.2] (by kernel_rfl) e122 (nc_range (HBr.out.grew hw (by simp))) (hK _ _ (gb_rr W _) rfl)
    | 19, ho, hu, hK =>
      cases ho
      have hw : w.grownBy W none := gb_trans HN.out hg
      have e2 : A.eval (.tmp 2) = .pointer (some ⟨rb, 0, none⟩) := ev_out hA 2 rfl
      exact ph_move _ rfl rfl (.pointer (some ⟨rb, 0, none⟩)) e2 (hK _ _ (gb_rr W _) rfl)
    | 20, ho, hu, hK =>
      cases ho
      have hw : w.grownBy W none := gb_trans HN.out hg
      have e124 : A.eval (.tmp 124) = .pointer (some ⟨rb, 0, none⟩) := (ev_in hA 124 19 rfl rfl rfl).trans (show f 19 = .pointer (some ⟨rb, 0, none⟩) from hu 19 (by decide))
      exact ph_nil _ rfl rfl _ e124 (hK _ _ (gb_rr W _) rfl)
    | 21, ho, hu, hK =>
      cases ho
      have hw : w.grownBy W none := gb_trans HN.out hg
      have e125 : A.eval (.tmp 125) = .pointer (some ⟨rb, 0, none⟩) := (ev_in hA 125 20 rfl rfl rfl).trans (show f 20 = .pointer (some ⟨rb, 0, none⟩) from hu 20 (by decide))
      exact ph_field _ _ _ rfl rfl _ (.pointer (some ⟨rb, 4, none⟩)) e125 (by kernel_rfl) (hK _ _ (gb_rr W _) rfl)
    | 22, ho, hu, hK =>
      cases ho
      have hw : w.grownBy W none := gb_trans HN.out hg
      have e126 : A.eval (.tmp 126) = .pointer (some ⟨rb, 4, none⟩) := (ev_in hA 126 21 rfl rfl rfl).trans (show f 21 = .pointer (some ⟨rb, 4, none⟩) from hu 21 (by decide))
      have hc : W.cell? ⟨rb, 4, none⟩ = some (.pointer prr) := (HBr.out.grew hw (by simp)).cell 4
      have eC : ∀ c, A.eval (.const c) = c := fun _ => rfl; have eF : ∀ g, A.eval (.func g) = .func (.func g) #[] #[] := fun _ => rfl; generalize hρ : A.eval = ρ at *
      clear hA hu hg
      refine ph_sem hρ rfl (r := .ok (.value (.pointer prr)) W) ?_ (hK _ _ (gb_rr W _) rfl)
      go_simp
    | 23, ho, hu, hK =>
      cases ho
      have hw : w.grownBy W none := gb_trans HN.out hg
      have e119 : A.eval (.tmp 119) = .pointer pmr := (ev_in hA 119 14 rfl rfl rfl).trans (show f 14 = .pointer pmr from hu 14 (by decide))
      have e123 : A.eval (.tmp 123) = .agg #[.string rx.1, .string rx.2.1, .int .i64 rx.2.2] := (ev_in hA 123 18 rfl rfl rfl).trans (show f 18 = .agg #[.string rx.1, .string rx.2.1, .int .i64 rx.2.2] from hu 18 (by decide))
      have e127 : A.eval (.tmp 127) = .pointer prr := (ev_in hA 127 22 rfl rfl rfl).trans (show f 22 = .pointer prr from hu 22 (by decide))
      refine ph_fn 33 _ _ rfl rfl #[.pointer pmr, .agg #[.string rx.1, .string rx.2.1, .int .i64 rx.2.2], .pointer prr] (by simp [e119, e123, e127]) (by kernel_rfl) ?_
      refine (Calls.mono (over_t o rx pmr prr _ _ mr rr W (HOB.out W hw) (T3.out.gb hw) (T1.out.gb hw) (by have := HS.out; simp only [Sm, List.length_append, List.length_cons, szs_app, szs_cons] at this ⊢; omega)) ?_)
      rintro e W' ⟨p, h, rfl, ht, hq⟩
      exact ⟨_, rfl, hK _ _ hq ⟨p, h, rfl, ht⟩⟩
    | 24, ho, hu, hK =>
      cases ho
      have hw : w.grownBy W none := gb_trans HN.out hg
      obtain ⟨p6, h6, hv6, ht6⟩ := hu 6 (by decide)
      have e111 : A.eval (.tmp 111) = .pointer p6 := (ev_in hA 111 6 rfl rfl rfl).trans hv6
      have e115 : A.eval (.tmp 115) = .agg #[.string mx.1, .string mx.2.1, .int .i64 mx.2.2] := (ev_in hA 115 10 rfl rfl rfl).trans (show f 10 = .agg #[.string mx.1, .string mx.2.1, .int .i64 mx.2.2] from hu 10 (by decide))
      obtain ⟨p23, h23, hv23, ht23⟩ := hu 23 (by decide)
      have e128 : A.eval (.tmp 128) = .pointer p23 := (ev_in hA 128 23 rfl rfl rfl).trans hv23
      refine ph_fn 33 _ _ rfl rfl #[.pointer p6, .agg #[.string mx.1, .string mx.2.1, .int .i64 mx.2.2], .pointer p23] (by simp [e111, e115, e128]) (by kernel_rfl) ?_
      refine (Calls.mono (over_t o mx p6 p23 _ _ (l ++ x :: ml) (mr ++ rx :: rr) W (HOB.out W hw) ht6 ht23 (by have := HS.out; simp only [Sm, List.length_append, List.length_cons, szs_app, szs_cons] at this ⊢; omega)) ?_)
      rintro e W' ⟨p, h, rfl, ht, hq⟩
      exact ⟨_, rfl, hK _ _ hq ⟨p, h, rfl, ht⟩⟩
    | 25, ho, hu, hK =>
      cases ho
      have hw : w.grownBy W none := gb_trans HN.out hg
      obtain ⟨p24, h24, hv24, ht24⟩ := hu 24 (by decide)
      have e129 : A.eval (.tmp 129) = .pointer p24 := (ev_in hA 129 24 rfl rfl rfl).trans hv24
      exact ph_assign _ rfl rfl _ (e129) (hK _ _ (gb_rr W _) ⟨p24, h24, rfl, ht24⟩)
    | i + 26, ho, hu, hK => simp at ho
  case fin =>
    intro f W A hA hg hu
    obtain ⟨p, h, h1, h2⟩ := hu 25 (by decide)
    refine (by assumption : ∀ (a : Act) (w : World), Code.wp Try.prog Code.ret _ a w → _) A W ?_
    refine wp_ret ?_
    refine ret_ph (fn := Try.f46) hA 6 Try.results46 rfl ((ev_in hA 6 25 rfl rfl rfl).trans h1) ?_
    exact ⟨p, h, rfl, by rw [show (l ++ x :: ((ml ++ mx :: mr) ++ rx :: rr) : List Rw) = (l ++ x :: ml) ++ mx :: (mr ++ rx :: rr) from by simp]; exact h2, gb_trans HN.out hg⟩
set_option maxRecDepth 20000 in
set_option maxHeartbeats 1000000 in
theorem level_b2 (o : Nat → Prop) (w : World) (ob : ∀ b, w.heap.size ≤ b → o b) (x : Rw) (rb : Nat) (rx : Rw) (prl prr pl : Option Addr) (hl hrl hrr hr nr zr : Nat) (rl rr l R : List Rw)
    (hbr : Bk 62 w rb (nc rx prl prr hr nr zr)) (Trr0 : Tr o w (some ⟨rb, 0, none⟩) hr R) (Trr : Tr o w prr hrr rr) (Tl : Tr o w pl hl l) (c0 : ¬ hr + 1 < hl) (c1 : hl + 1 < hr) (bd : hr < 4611686018427387904) (hs : Sm (l ++ x :: (rl ++ rx :: rr))) (Trl : Tr o w prl hrl rl) (c2 : ¬ hrr < hrl) : Calls Try.prog 46 #[.pointer pl, iv x, .pointer (some ⟨rb, 0, none⟩)] w (TR o w (l ++ x :: (rl ++ rx :: rr))) := by
  have HS : Hid (Sm (l ++ x :: (rl ++ rx :: rr))) := hs
  have HBr : Hid (Bk 62 w rb (nc rx prl prr hr nr zr)) := hbr
  have T1 : Hid (Tr o w prr hrr rr) := Trr
  have T4 : Hid (Tr o w pl hl l) := Tl
  have T2 : Hid (Tr o w prl hrl rl) := Trl
  have d2 : decide ((hrr : Int) < (hrl : Int)) = false := decide_eq_false (by omega)
  have d1 : ((hl : Int) + 1 < (hr : Int)) := by omega
  have d0 : decide ((hr : Int) + 1 < (hl : Int)) = false := decide_eq_false (by omega)
  have wv0 : IntKind.i64.wrap ((hr : Int) + 1) = (hr : Int) + 1 := wr64 _ ⟨by omega, by omega⟩
  have wv1 : IntKind.i64.wrap ((hl : Int) + 1) = (hl : Int) + 1 := wr64 _ ⟨by omega, by omega⟩
  have HOB : Hid (∀ W, w.grownBy W none → ∀ b, W.heap.size ≤ b → o b) := fun W hg b hb => ob b (Nat.le_trans hg.size hb)
  have HH1 : Hid (∀ W, w.grownBy W none → Calls Try.prog 44 #[.pointer (some ⟨rb, 0, none⟩)] W fun r w' => r = .returned (.int .i64 (hr : Nat)) ∧ w' = W) := fun W hg => height_c o _ _ _ _ (Trr0.gb hg)
  have HH2 : Hid (∀ W, w.grownBy W none → Calls Try.prog 44 #[.pointer pl] W fun r w' => r = .returned (.int .i64 (hl : Nat)) ∧ w' = W) := fun W hg => height_c o _ _ _ _ (Tl.gb hg)
  have HH4 : Hid (∀ W, w.grownBy W none → Calls Try.prog 44 #[.pointer prr] W fun r w' => r = .returned (.int .i64 (hrr : Nat)) ∧ w' = W) := fun W hg => height_c o _ _ _ _ (Trr.gb hg)
  have HH3 : Hid (∀ W, w.grownBy W none → Calls Try.prog 44 #[.pointer prl] W fun r w' => r = .returned (.int .i64 (hrl : Nat)) ∧ w' = W) := fun W hg => height_c o _ _ _ _ (Trl.gb hg)
  have HN : Hid (w.grownBy (w.alloc (.cells #[.string x.1, .string x.2.1, .int .i64 x.2.2] 52)) none) := gb_alloc _ _
  have HN2 : Hid (Bk 52 (w.alloc (.cells #[.string x.1, .string x.2.1, .int .i64 x.2.2] 52)) w.heap.size (ivs x)) := (blk_new w 52 _).1
  clear hs hbr Trr0 Trr Trl Tl ob
  unfold iv
  go_enter Try.func46, Try.ntmps46
  go_wp2_with fail
  generalize hW1 : World.alloc w _ = w1 at *
  clear hW1
  obtain ⟨N, hN⟩ : ∃ N, N = w.heap.size := ⟨_, rfl⟩
  rw [← hN] at HN2 ⊢
  clear hN
  go_quiet (first | (go_at_call_has 44 (Value.pointer (some ⟨rb, 0, none⟩)); exact (HH1.out _ (gb_drewN HN.out _)).mono fun _ _ ⟨a, b⟩ => ⟨a, _, b⟩) | (go_at_call_has 44 (Value.pointer pl); exact (HH2.out _ (gb_drewN HN.out _)).mono fun _ _ ⟨a, b⟩ => ⟨a, _, b⟩) | (go_at_call_has 44 (Value.pointer prr); exact (HH4.out _ (gb_drewN HN.out _)).mono fun _ _ ⟨a, b⟩ => ⟨a, _, b⟩) | (go_at_call_has 44 (Value.pointer prl); exact (HH3.out _ (gb_drewN HN.out _)).mono fun _ _ ⟨a, b⟩ => ⟨a, _, b⟩))
  replace HN : Hid (w.grownBy (w1.drewN nq) none) := gb_drewN HN.out nq
  replace HN2 : Hid (Bk 52 (w1.drewN nq) N (ivs x)) := HN2.out
  generalize hw2 : w1.drewN nq = w2 at *
  clear hw2 nq w1
  have kl1 : w2.cell? ⟨rb, 3, none⟩ = some (.pointer prl) := (HBr.out.grew HN.out (by simp)).cell 3
  have kl2 : w2.cell? ⟨rb, 4, none⟩ = some (.pointer prr) := (HBr.out.grew HN.out (by simp)).cell 4
  go_wp2_with (first | (go_at_call_has 44 (Value.pointer (some ⟨rb, 0, none⟩)); go_must (refine (Calls.mono (HH1.out _ HN.out) ?_)); rintro r wq ⟨rfl, rfl⟩) | (go_at_call_has 44 (Value.pointer pl); go_must (refine (Calls.mono (HH2.out _ HN.out) ?_)); rintro r wq ⟨rfl, rfl⟩) | (go_at_call_has 44 (Value.pointer prr); go_must (refine (Calls.mono (HH4.out _ HN.out) ?_)); rintro r wq ⟨rfl, rfl⟩) | (go_at_call_has 44 (Value.pointer prl); go_must (refine (Calls.mono (HH3.out _ HN.out) ?_)); rintro r wq ⟨rfl, rfl⟩))
  go_quiet (first | (go_at_call_has 44 (Value.pointer (some ⟨rb, 0, none⟩)); exact (HH1.out _ (gb_drewN HN.out _)).mono fun _ _ ⟨a, b⟩ => ⟨a, _, b⟩) | (go_at_call_has 44 (Value.pointer pl); exact (HH2.out _ (gb_drewN HN.out _)).mono fun _ _ ⟨a, b⟩ => ⟨a, _, b⟩) | (go_at_call_has 44 (Value.pointer prr); exact (HH4.out _ (gb_drewN HN.out _)).mono fun _ _ ⟨a, b⟩ => ⟨a, _, b⟩) | (go_at_call_has 44 (Value.pointer prl); exact (HH3.out _ (gb_drewN HN.out _)).mono fun _ _ ⟨a, b⟩ => ⟨a, _, b⟩))
  replace HN : Hid (w.grownBy (wq.drewN nq) none) := gb_drewN HN.out nq
  replace HN2 : Hid (Bk 52 (wq.drewN nq) N (ivs x)) := HN2.out
  go_wp2_with (first | (go_at_call_has 44 (Value.pointer (some ⟨rb, 0, none⟩)); go_must (refine (Calls.mono (HH1.out _ HN.out) ?_)); rintro r wq ⟨rfl, rfl⟩) | (go_at_call_has 44 (Value.pointer pl); go_must (refine (Calls.mono (HH2.out _ HN.out) ?_)); rintro r wq ⟨rfl, rfl⟩) | (go_at_call_has 44 (Value.pointer prr); go_must (refine (Calls.mono (HH4.out _ HN.out) ?_)); rintro r wq ⟨rfl, rfl⟩) | (go_at_call_has 44 (Value.pointer prl); go_must (refine (Calls.mono (HH3.out _ HN.out) ?_)); rintro r wq ⟨rfl, rfl⟩))
  clear kl1 kl2
  generalize wq.drewN nq = w3 at *
  refine wp_region_phi none rfl (by kernel_rfl) [137, 138, 139, 140, 141, 142, 143, 144, 145, 146, 147, 148, 149, 150, 151, 152, 6] [[], [], [], [2], [3], [4], [0, 1, 5], [], [7], [8], [9], [], [11], [12], [13], [6, 10, 14], [15]] (by kernel_rfl) [fun u W => u = .pointer pl, fun u W => u = .agg #[.string x.1, .string x.2.1, .int .i64 x.2.2], fun u W => u = .pointer (some ⟨rb, 0, none⟩), fun u W => u = .pointer (some ⟨rb, 0, none⟩), fun u W => u = .pointer (some ⟨rb, 3, none⟩), fun u W => u = .pointer prl, fun u W => ∃ p h, u = .pointer p ∧ Tr o W p h (l ++ x :: rl), fun u W => u = .pointer (some ⟨rb, 0, none⟩), fun u W => u = .pointer (some ⟨rb, 0, none⟩), fun u W => u = .pointer (some ⟨rb, 0, none⟩), fun u W => u = .agg #[.string rx.1, .string rx.2.1, .int .i64 rx.2.2], fun u W => u = .pointer (some ⟨rb, 0, none⟩), fun u W => u = .pointer (some ⟨rb, 0, none⟩), fun u W => u = .pointer (some ⟨rb, 4, none⟩), fun u W => u = .pointer prr, fun u W => ∃ p h, u = .pointer p ∧ Tr o W p h ((l ++ x :: rl) ++ rx :: rr), fun u W => ∃ p h, u = .pointer p ∧ Tr o W p h ((l ++ x :: rl) ++ rx :: rr)] ?stable ?step ?fin
  case stable =>
    intro i v W W' h hg
    match i, h with
    | 0, h => exact h
    | 1, h => exact h
    | 2, h => exact h
    | 3, h => exact h
    | 4, h => exact h
    | 5, h => exact h
    | 6, h => obtain ⟨p, h, h1, h2⟩ := h; exact ⟨p, h, h1, h2.gb hg⟩
    | 7, h => exact h
    | 8, h => exact h
    | 9, h => exact h
    | 10, h => exact h
    | 11, h => exact h
    | 12, h => exact h
    | 13, h => exact h
    | 14, h => exact h
    | 15, h => obtain ⟨p, h, h1, h2⟩ := h; exact ⟨p, h, h1, h2.gb hg⟩
    | 16, h => obtain ⟨p, h, h1, h2⟩ := h; exact ⟨p, h, h1, h2.gb hg⟩
    | i + 17, h => exact trivial
  case step =>
    intro f W A hA hg i o ho hu K hK
    match i, ho, hu, hK with
    | 0, ho, hu, hK =>
      cases ho
      have hw : w.grownBy W none := gb_trans HN.out hg
      have e0 : A.eval (.tmp 0) = .pointer pl := ev_out hA 0 rfl
      exact ph_move _ rfl rfl (.pointer pl) e0 (hK _ _ (gb_rr W _) rfl)
    | 1, ho, hu, hK =>
      cases ho
      have hw : w.grownBy W none := gb_trans HN.out hg
      have e4 : A.eval (.tmp 4) = .pointer (some ⟨N, 0, none⟩) := ev_out hA 4 rfl
      exact ph_load rfl 52 _ rfl Try.underlying52 rfl N 0 [.string x.1, .string x.2.1, .int .i64 x.2.2] (by kernel_rfl) e4 (it_range (HN2.out.grew hg (by simp))) (hK _ _ (gb_rr W _) rfl)
    | 2, ho, hu, hK =>
      cases ho
      have hw : w.grownBy W none := gb_trans HN.out hg
      have e2 : A.eval (.tmp 2) = .pointer (some ⟨rb, 0, none⟩) := ev_out hA 2 rfl
      exact ph_move _ rfl rfl (.pointer (some ⟨rb, 0, none⟩)) e2 (hK _ _ (gb_rr W _) rfl)
    | 3, ho, hu, hK =>
      cases ho
      have hw : w.grownBy W none := gb_trans HN.out hg
      have e139 : A.eval (.tmp 139) = .pointer (some ⟨rb, 0, none⟩) := (ev_in hA 139 2 rfl rfl rfl).trans (show f 2 = .pointer (some ⟨rb, 0, none⟩) from hu 2 (by decide))
      exact ph_nil _ rfl rfl _ e139 (hK _ _ (gb_rr W _) rfl)
    | 4, ho, hu, hK =>
      cases ho
      have hw : w.grownBy W none := gb_trans HN.out hg
      have e140 : A.eval (.tmp 140) = .pointer (some ⟨rb, 0, none⟩) := (ev_in hA 140 3 rfl rfl rfl).trans (show f 3 = .pointer (some ⟨rb, 0, none⟩) from hu 3 (by decide))
      exact ph_field _ _ _ rfl rfl _ (.pointer (some ⟨rb, 3, none⟩)) e140 (by kernel_rfl) (hK _ _ (gb_rr W _) rfl)
    | 5, ho, hu, hK =>
      cases ho
      have hw : w.grownBy W none := gb_trans HN.out hg
      have e141 : A.eval (.tmp 141) = .pointer (some ⟨rb, 3, none⟩) := (ev_in hA 141 4 rfl rfl rfl).trans (show f 4 = .pointer (some ⟨rb, 3, none⟩) from hu 4 (by decide))
      have hc : W.cell? ⟨rb, 3, none⟩ = some (.pointer prl) := (HBr.out.grew hw (by simp)).cell 3
      have eC : ∀ c, A.eval (.const c) = c := fun _ => rfl; have eF : ∀ g, A.eval (.func g) = .func (.func g) #[] #[] := fun _ => rfl; generalize hρ : A.eval = ρ at *
      clear hA hu hg
      refine ph_sem hρ rfl (r := .ok (.value (.pointer prl)) W) ?_ (hK _ _ (gb_rr W _) rfl)
      go_simp
    | 6, ho, hu, hK =>
      cases ho
      have hw : w.grownBy W none := gb_trans HN.out hg
      have e137 : A.eval (.tmp 137) = .pointer pl := (ev_in hA 137 0 rfl rfl rfl).trans (show f 0 = .pointer pl from hu 0 (by decide))
      have e138 : A.eval (.tmp 138) = .agg #[.string x.1, .string x.2.1, .int .i64 x.2.2] := (ev_in hA 138 1 rfl rfl rfl).trans (show f 1 = .agg #[.string x.1, .string x.2.1, .int .i64 x.2.2] from hu 1 (by decide))
      have e142 : A.eval (.tmp 142) = .pointer prl := (ev_in hA 142 5 rfl rfl rfl).trans (show f 5 = .pointer prl from hu 5 (by decide))
      refine ph_fn 33 _ _ rfl rfl #[.pointer pl, .agg #[.string x.1, .string x.2.1, .int .i64 x.2.2], .pointer prl] (by simp [e137, e138, e142]) (by kernel_rfl) ?_
      refine (Calls.mono (over_t o x pl prl _ _ l rl W (HOB.out W hw) (T4.out.gb hw) (T2.out.gb hw) (by have := HS.out; simp only [Sm, List.length_append, List.length_cons, szs_app, szs_cons] at this ⊢; omega)) ?_)
      rintro e W' ⟨p, h, rfl, ht, hq⟩
      exact ⟨_, rfl, hK _ _ hq ⟨p, h, rfl, ht⟩⟩
    | 7, ho, hu, hK =>
      cases ho
      have hw : w.grownBy W none := gb_trans HN.out hg
      have e2 : A.eval (.tmp 2) = .pointer (some ⟨rb, 0, none⟩) := ev_out hA 2 rfl
      exact ph_move _ rfl rfl (.pointer (some ⟨rb, 0, none⟩)) e2 (hK _ _ (gb_rr W _) rfl)
    | 8, ho, hu, hK =>
      cases ho
      have hw : w.grownBy W none := gb_trans HN.out hg
      have e144 : A.eval (.tmp 144) = .pointer (some ⟨rb, 0, none⟩) := (ev_in hA 144 7 rfl rfl rfl).trans (show f 7 = .pointer (some ⟨rb, 0, none⟩) from hu 7 (by decide))
      exact ph_nil _ rfl rfl _ e144 (hK _ _ (gb_rr W _) rfl)
    | 9, ho, hu, hK =>
      cases ho
      have hw : w.grownBy W none := gb_trans HN.out hg
      have e145 : A.eval (.tmp 145) = .pointer (some ⟨rb, 0, none⟩) := (ev_in hA 145 8 rfl rfl rfl).trans (show f 8 = .pointer (some ⟨rb, 0, none⟩) from hu 8 (by decide))
      exact ph_field _ _ _ rfl rfl _ (.pointer (some ⟨rb, 0, none⟩)) e145 (by kernel_rfl) (hK _ _ (gb_rr W _) rfl)
    | 10, ho, hu, hK =>
      cases ho
      have hw : w.grownBy W none := gb_trans HN.out hg
      have e146 : A.eval (.tmp 146) = .pointer (some ⟨rb, 0, none⟩) := (ev_in hA 146 9 rfl rfl rfl).trans (show f 9 = .pointer (some ⟨rb, 0, none⟩) from hu 9 (by decide))
      exact ph_load rfl 52 _ rfl Try.underlying52 rfl rb 0 [.string rx.1, .string rx.2.1, .int .i64 rx.2.2] (by kernel_rfl) e146 (nc_range (HBr.out.grew hw (by simp))) (hK _ _ (gb_rr W _) rfl)
    | 11, ho, hu, hK =>
      cases ho
      have hw : w.grownBy W none := gb_trans HN.out hg
      have e2 : A.eval (.tmp 2) = .pointer (some ⟨rb, 0, none⟩) := ev_out hA 2 rfl
      exact ph_move _ rfl rfl (.pointer (some ⟨rb, 0, none⟩)) e2 (hK _ _ (gb_rr W _) rfl)
    | 12, ho, hu, hK =>
      cases ho
      have hw : w.grownBy W none := gb_trans HN.out hg
      have e148 : A.eval (.tmp 148) = .pointer (some ⟨rb, 0, none⟩) := (ev_in hA 148 11 rfl rfl rfl).trans (show f 11 = .pointer (some ⟨rb, 0, none⟩) from hu 11 (by decide))
      exact ph_nil _ rfl rfl _ e148 (hK _ _ (gb_rr W _) rfl)
    | 13, ho, hu, hK =>
      cases ho
      have hw : w.grownBy W none := gb_trans HN.out hg
      have e149 : A.eval (.tmp 149) = .pointer (some ⟨rb, 0, none⟩) := (ev_in hA 149 12 rfl rfl rfl).trans (show f 12 = .pointer (some ⟨rb, 0, none⟩) from hu 12 (by decide))
      exact ph_field _ _ _ rfl rfl _ (.pointer (some ⟨rb, 4, none⟩)) e149 (by kernel_rfl) (hK _ _ (gb_rr W _) rfl)
    | 14, ho, hu, hK =>
      cases ho
      have hw : w.grownBy W none := gb_trans HN.out hg
      have e150 : A.eval (.tmp 150) = .pointer (some ⟨rb, 4, none⟩) := (ev_in hA 150 13 rfl rfl rfl).trans (show f 13 = .pointer (some ⟨rb, 4, none⟩) from hu 13 (by decide))
      have hc : W.cell? ⟨rb, 4, none⟩ = some (.pointer prr) := (HBr.out.grew hw (by simp)).cell 4
      have eC : ∀ c, A.eval (.const c) = c := fun _ => rfl; have eF : ∀ g, A.eval (.func g) = .func (.func g) #[] #[] := fun _ => rfl; generalize hρ : A.eval = ρ at *
      clear hA hu hg
      refine ph_sem hρ rfl (r := .ok (.value (.pointer prr)) W) ?_ (hK _ _ (gb_rr W _) rfl)
      go_simp
    | 15, ho, hu, hK =>
      cases ho
      have hw : w.grownBy W none := gb_trans HN.out hg
      obtain ⟨p6, h6, hv6, ht6⟩ := hu 6 (by decide)
      have e143 : A.eval (.tmp 143) = .pointer p6 := (ev_in hA 143 6 rfl rfl rfl).trans hv6
      have e147 : A.eval (.tmp 147) = .agg #[.string rx.1, .string rx.2.1, .int .i64 rx.2.2] := (ev_in hA 147 10 rfl rfl rfl).trans (show f 10 = .agg #[.string rx.1, .string rx.2.1, .int .i64 rx.2.2] from hu 10 (by decide))
      have e151 : A.eval (.tmp 151) = .pointer prr := (ev_in hA 151 14 rfl rfl rfl).trans (show f 14 = .pointer prr from hu 14 (by decide))
      refine ph_fn 33 _ _ rfl rfl #[.pointer p6, .agg #[.string rx.1, .string rx.2.1, .int .i64 rx.2.2], .pointer prr] (by simp [e143, e147, e151]) (by kernel_rfl) ?_
      refine (Calls.mono (over_t o rx p6 prr _ _ (l ++ x :: rl) rr W (HOB.out W hw) ht6 (T1.out.gb hw) (by have := HS.out; simp only [Sm, List.length_append, List.length_cons, szs_app, szs_cons] at this ⊢; omega)) ?_)
      rintro e W' ⟨p, h, rfl, ht, hq⟩
      exact ⟨_, rfl, hK _ _ hq ⟨p, h, rfl, ht⟩⟩
    | 16, ho, hu, hK =>
      cases ho
      have hw : w.grownBy W none := gb_trans HN.out hg
      obtain ⟨p15, h15, hv15, ht15⟩ := hu 15 (by decide)
      have e152 : A.eval (.tmp 152) = .pointer p15 := (ev_in hA 152 15 rfl rfl rfl).trans hv15
      exact ph_assign _ rfl rfl _ (e152) (hK _ _ (gb_rr W _) ⟨p15, h15, rfl, ht15⟩)
    | i + 17, ho, hu, hK => simp at ho
  case fin =>
    intro f W A hA hg hu
    obtain ⟨p, h, h1, h2⟩ := hu 16 (by decide)
    refine (by assumption : ∀ (a : Act) (w : World), Code.wp Try.prog Code.ret _ a w → _) A W ?_
    refine wp_ret ?_
    refine ret_ph (fn := Try.f46) hA 6 Try.results46 rfl ((ev_in hA 6 16 rfl rfl rfl).trans h1) ?_
    exact ⟨p, h, rfl, by rw [show (l ++ x :: (rl ++ rx :: rr) : List Rw) = (l ++ x :: rl) ++ rx :: rr from by simp]; exact h2, gb_trans HN.out hg⟩
set_option maxRecDepth 20000 in
set_option maxHeartbeats 1000000 in
theorem level_c0 (o : Nat → Prop) (w : World) (ob : ∀ b, w.heap.size ≤ b → o b) (x : Rw) (pl pr : Option Addr) (hl hr : Nat) (l r : List Rw)
    (Tl : Tr o w pl hl l) (Tq : Tr o w pr hr r) (c0 : ¬ hr + 1 < hl) (c1 : ¬ hl + 1 < hr) (bd : hl < 4611686018427387904) (bd2 : hr < 4611686018427387904) (hs : Sm (l ++ x :: r)) : Calls Try.prog 46 #[.pointer pl, iv x, .pointer pr] w (TR o w (l ++ x :: r)) := by
  have HS : Hid (Sm (l ++ x :: r)) := hs
  have T1 : Hid (Tr o w pl hl l) := Tl
  have T4 : Hid (Tr o w pr hr r) := Tq
  have d1 : decide ((hl : Int) + 1 < (hr : Int)) = false := decide_eq_false (by omega)
  have d0 : decide ((hr : Int) + 1 < (hl : Int)) = false := decide_eq_false (by omega)
  have wv0 : IntKind.i64.wrap ((hr : Int) + 1) = (hr : Int) + 1 := wr64 _ ⟨by omega, by omega⟩
  have wv1 : IntKind.i64.wrap ((hl : Int) + 1) = (hl : Int) + 1 := wr64 _ ⟨by omega, by omega⟩
  have HOB : Hid (∀ W, w.grownBy W none → ∀ b, W.heap.size ≤ b → o b) := fun W hg b hb => ob b (Nat.le_trans hg.size hb)
  have HH1 : Hid (∀ W, w.grownBy W none → Calls Try.prog 44 #[.pointer pl] W fun r w' => r = .returned (.int .i64 (hl : Nat)) ∧ w' = W) := fun W hg => height_c o _ _ _ _ (Tl.gb hg)
  have HH2 : Hid (∀ W, w.grownBy W none → Calls Try.prog 44 #[.pointer pr] W fun r w' => r = .returned (.int .i64 (hr : Nat)) ∧ w' = W) := fun W hg => height_c o _ _ _ _ (Tq.gb hg)
  have HN : Hid (w.grownBy (w.alloc (.cells #[.string x.1, .string x.2.1, .int .i64 x.2.2] 52)) none) := gb_alloc _ _
  have HN2 : Hid (Bk 52 (w.alloc (.cells #[.string x.1, .string x.2.1, .int .i64 x.2.2] 52)) w.heap.size (ivs x)) := (blk_new w 52 _).1
  clear hs Tl Tq ob
  unfold iv
  go_enter Try.func46, Try.ntmps46
  go_wp2_with fail
  generalize hW1 : World.alloc w _ = w1 at *
  clear hW1
  obtain ⟨N, hN⟩ : ∃ N, N = w.heap.size := ⟨_, rfl⟩
  rw [← hN] at HN2 ⊢
  clear hN
  go_quiet (first | (go_at_call_has 44 (Value.pointer pl); exact (HH1.out _ (gb_drewN HN.out _)).mono fun _ _ ⟨a, b⟩ => ⟨a, _, b⟩) | (go_at_call_has 44 (Value.pointer pr); exact (HH2.out _ (gb_drewN HN.out _)).mono fun _ _ ⟨a, b⟩ => ⟨a, _, b⟩))
  replace HN : Hid (w.grownBy (w1.drewN nq) none) := gb_drewN HN.out nq
  replace HN2 : Hid (Bk 52 (w1.drewN nq) N (ivs x)) := HN2.out
  generalize hw2 : w1.drewN nq = w2 at *
  clear hw2 nq w1
  go_wp2_with (first | (go_at_call_has 44 (Value.pointer pl); go_must (refine (Calls.mono (HH1.out _ HN.out) ?_)); rintro r wq ⟨rfl, rfl⟩) | (go_at_call_has 44 (Value.pointer pr); go_must (refine (Calls.mono (HH2.out _ HN.out) ?_)); rintro r wq ⟨rfl, rfl⟩))
  go_quiet (first | (go_at_call_has 44 (Value.pointer pl); exact (HH1.out _ (gb_drewN HN.out _)).mono fun _ _ ⟨a, b⟩ => ⟨a, _, b⟩) | (go_at_call_has 44 (Value.pointer pr); exact (HH2.out _ (gb_drewN HN.out _)).mono fun _ _ ⟨a, b⟩ => ⟨a, _, b⟩))
  replace HN : Hid (w.grownBy (wq.drewN nq) none) := gb_drewN HN.out nq
  replace HN2 : Hid (Bk 52 (wq.drewN nq) N (ivs x)) := HN2.out
  generalize hw3 : wq.drewN nq = w3 at *
  clear hw3 nq wq
  go_wp2_with (first | (go_at_call_has 44 (Value.pointer pl); go_must (refine (Calls.mono (HH1.out _ HN.out) ?_)); rintro r wq ⟨rfl, rfl⟩) | (go_at_call_has 44 (Value.pointer pr); go_must (refine (Calls.mono (HH2.out _ HN.out) ?_)); rintro r wq ⟨rfl, rfl⟩) | (refine wpList_load_bk 52 rfl (.tmp 4) rfl Try.underlying52 rfl infoItem N (ivs x) rfl HN2.out rfl ?_) | (go_at_call 33; go_must (refine (Calls.mono (over_t o x pl pr _ _ l r _ (HOB.out _ HN.out) (T1.out.gb HN.out) (T4.out.gb HN.out) HS.out) ?_)); rintro e wq ⟨p, h, rfl, ht, hq⟩))
  go_ret
  exact ⟨p, h, rfl, ht, gb_trans HN.out hq⟩
theorem level_t (o : Nat → Prop) (x : Rw) (pl pr : Option Addr) (hl hr : Nat) (l r : List Rw) (w : World) (ob : ∀ b, w.heap.size ≤ b → o b) (h1 : Tr o w pl hl l) (h2 : Tr o w pr hr r) (hs : Sm (l ++ x :: r)) : Calls Try.prog 46 #[.pointer pl, iv x, .pointer pr] w (TR o w (l ++ x :: r)) := by
  have b1 := h1.len
  have b2 := h2.len
  have hs' := hs
  simp only [Sm, List.length_append, List.length_cons] at hs'
  by_cases hA : hr + 1 < hl
  · obtain ⟨a, rfl⟩ := h1.isNode (by omega)
    obtain ⟨b, ll, lx, lr, pll, plr, hll, hlr, rfl, ob', hb, t1, t2, rfl, hh⟩ := h1.node
    by_cases hB : hll < hlr
    · obtain ⟨a2, rfl⟩ := t2.isNode (by omega)
      obtain ⟨mb, ml, mx, mr, pml, pmr, hml, hmr, rfl, obm, hmb, t3, t4, rfl, hh2⟩ := t2.node
      exact level_a1 o w ob x b mb lx mx pll pml pmr pr hl hll hlr hml hmr hr _ _ _ _ ll ml mr r _ _ hb h1 t1 h2 hA (by omega) hs hmb t2 t3 t4 hB
    · exact level_a2 o w ob x b lx pll plr pr hl hll hlr hr _ _ ll lr r _ hb h1 t1 h2 hA (by omega) hs t2 hB
  · by_cases hC : hl + 1 < hr
    · obtain ⟨a, rfl⟩ := h2.isNode (by omega)
      obtain ⟨b, rl, rx, rr, prl, prr, hrl, hrr, rfl, ob', hb, t1, t2, rfl, hh⟩ := h2.node
      by_cases hB : hrr < hrl
      · obtain ⟨a2, rfl⟩ := t1.isNode (by omega)
        obtain ⟨mb, ml, mx, mr, pml, pmr, hml, hmr, rfl, obm, hmb, t3, t4, rfl, hh2⟩ := t1.node
        exact level_b1 o w ob x b mb rx mx prr pml pmr pl hl hrr hrl hml hmr hr _ _ _ _ rr ml mr l _ _ hb h2 t2 h1 hA hC (by omega) hs hmb t1 t3 t4 hB
      · exact level_b2 o w ob x b rx prl prr pl hl hrl hrr hr _ _ rl rr l _ hb h2 t2 h1 hA hC (by omega) hs t1 hB
    · exact level_c0 o w ob x pl pr hl hr l r h1 h2 hA hC (by omega) (by omega) hs
end Go.Proofs.Ytdmchcdkfbijlab
