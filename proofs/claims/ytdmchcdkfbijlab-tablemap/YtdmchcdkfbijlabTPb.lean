/-
  What the table's Put answers, and what it does. No condition.
-/
import Derived.Test.YtdmchcdkfbijlabTTb
import Derived.Test.YtdmchcdkfbijlabRLa
namespace Go.Proofs.Ytdmchcdkfbijlab
open Go.RowKit
set_option linter.unusedVariables false

set_option maxRecDepth 20000 in
set_option maxHeartbeats 1000000 in
theorem put_bad (o : Nat → Prop) (x : Rw) (g : Nat) (xs : List Rw) (w : World) (ob : ∀ b, w.heap.size ≤ b → o b) (og : ¬ o g) (h : Tbl o w g xs) (hx : rowE x ≠ 0) : Calls Try.prog 6 #[.pointer (some ⟨g, 0, none⟩), iv x] w fun e w' => e = .returned (.int .i64 (rowE x)) ∧ Tbl o w' g xs ∧ w.grownBy w' none := by
  have HTB : Hid (Tbl o w g xs) := h
  obtain ⟨p, hh, hb, ht, hR, hO, hL⟩ := h
  have HB : Hid (Bk 50 w g #[.bool true, .pointer p]) := hb
  have HT : Hid (Tr o w p hh xs) := ht
  have HOG : Hid (¬ o g) := og
  have HN : Hid (w.grownBy (w.alloc (.cells #[.string x.1, .string x.2.1, .int .i64 x.2.2] 28)) none) := gb_alloc _ _
  have HN2 : Hid (Bk 28 (w.alloc (.cells #[.string x.1, .string x.2.1, .int .i64 x.2.2] 28)) w.heap.size (ivs x)) := (blk_new w 28 _).1
  have HM : Hid _ := isMade_c g p (w.alloc (.cells #[.string x.1, .string x.2.1, .int .i64 x.2.2] 28)) (hb.grew HN.out (by simp))
  have HC : Hid (∀ W, Calls Try.prog 20 #[.agg #[.string x.1, .string x.2.1, .int .i64 x.2.2]] W fun r w' => r = .returned (.int .i64 (rowE x)) ∧ W.grownBy w' none) := fun W => tcheck_c x W
  generalize rowE x = E at *
  clear hb ht hR hO hL ob og
  unfold iv
  go_enter Try.func6, Try.ntmps6
  go_wp2_with (first
    | (go_at_call 19; refine (Calls.mono HM.out ?_); rintro e wq ⟨rfl, rfl⟩)
    | (refine wpList_load_bk 28 rfl (.tmp 3) rfl Try.underlying28 rfl infoRow w.heap.size (ivs x) rfl HN2.out rfl ?_)
    | (go_at_call 20; refine (Calls.mono (HC.out _) ?_); rintro e w1 ⟨rfl, hq⟩; have H1 : Hid ((w.alloc (.cells #[.string x.1, .string x.2.1, .int .i64 x.2.2] 28)).grownBy w1 none) := hq; clear hq))
  go_ret
  exact ⟨rfl, HTB.out.gb0 (gb_trans HN.out H1.out), gb_trans HN.out H1.out⟩
set_option maxRecDepth 20000 in
set_option maxHeartbeats 1000000 in
theorem put_full (o : Nat → Prop) (x : Rw) (g : Nat) (xs : List Rw) (w : World) (ob : ∀ b, w.heap.size ≤ b → o b) (og : ¬ o g) (h : Tbl o w g xs) (hx : rowE x = 0) (hf : xs.length = 1048576) (hk : getR x.1 xs = none) : Calls Try.prog 6 #[.pointer (some ⟨g, 0, none⟩), iv x] w fun e w' => e = .returned (.int .i64 3) ∧ Tbl o w' g xs ∧ w.grownBy w' none := by
  have HTB : Hid (Tbl o w g xs) := h
  obtain ⟨p, hh, hb, ht, hR, hO, hL⟩ := h
  have HB : Hid (Bk 50 w g #[.bool true, .pointer p]) := hb
  have HT : Hid (Tr o w p hh xs) := ht
  have HOG : Hid (¬ o g) := og
  have HN : Hid (w.grownBy (w.alloc (.cells #[.string x.1, .string x.2.1, .int .i64 x.2.2] 28)) none) := gb_alloc _ _
  have HN2 : Hid (Bk 28 (w.alloc (.cells #[.string x.1, .string x.2.1, .int .i64 x.2.2] 28)) w.heap.size (ivs x)) := (blk_new w 28 _).1
  have HM : Hid _ := isMade_c g p (w.alloc (.cells #[.string x.1, .string x.2.1, .int .i64 x.2.2] 28)) (hb.grew HN.out (by simp))
  have HC : Hid (∀ W, Calls Try.prog 20 #[.agg #[.string x.1, .string x.2.1, .int .i64 x.2.2]] W fun r w' => r = .returned (.int .i64 0) ∧ W.grownBy w' none) := fun W => by
    have := tcheck_c x W
    rw [hx] at this
    exact this
  have HCn : Hid (∀ W, w.grownBy W none → Calls Try.prog 21 #[.pointer p] W fun e w' => e = .returned (.int .i64 (1048576 : Nat)) ∧ w' = W) := fun W hg => by
    have := count_c o p hh xs W (HT.out.gb hg)
    rw [hf] at this
    exact this
  have HFi : Hid (∀ W, w.grownBy W none → Calls Try.prog 22 #[.pointer p, .string x.1] W fun e w' => ∃ q, e = .returned (.pointer q) ∧ FoundAt w' q none ∧ W.grownBy w' none) := fun W hg => by
    have := find_c o x.1 p hh xs W (HT.out.gb hg) hR
    rw [hk] at this
    exact this
  clear hb ht hR hO hL ob og hx hf hk
  unfold iv
  go_enter Try.func6, Try.ntmps6
  go_wp2_with (first
    | (go_at_call 19; refine (Calls.mono HM.out ?_); rintro e wq ⟨rfl, rfl⟩)
    | (refine wpList_load_bk 28 rfl (.tmp 3) rfl Try.underlying28 rfl infoRow w.heap.size (ivs x) rfl HN2.out rfl ?_)
    | (go_at_call 20; refine (Calls.mono (HC.out _) ?_); rintro e w1 ⟨rfl, hq⟩; have H1 : Hid ((w.alloc (.cells #[.string x.1, .string x.2.1, .int .i64 x.2.2] 28)).grownBy w1 none) := hq; clear hq))
  replace HN2 : Hid (Bk 28 w1 w.heap.size (ivs x)) := HN2.out.grew H1.out (by simp)
  replace HN : Hid (w.grownBy w1 none) := gb_trans HN.out H1.out
  clear H1 HM HC
  obtain ⟨N, hN⟩ : ∃ N, N = w.heap.size := ⟨_, rfl⟩
  rw [← hN] at HN2 ⊢
  clear hN
  refine wp_region_phi none rfl (by kernel_rfl) [14, 15, 16, 17, 18, 19, 20, 21, 22, 23, 24, 25, 26, 27, 28, 29] [[], [0], [1], [2], [3], [4], [5], [6], [7, 6], [8, 6], [9, 6], [6], [11, 6], [10, 12, 6], [13, 6], [6, 14]] (by kernel_rfl) [fun u W => u = .pointer (some ⟨g, 0, none⟩), fun u W => u = .pointer (some ⟨g, 0, none⟩), fun u W => u = .pointer (some ⟨g, 1, none⟩), fun u W => u = .pointer p, fun u W => u = .int .i64 (1048576 : Nat), fun u W => u = .bool true, fun u W => u = .bool true, fun u W => u = .pointer (some ⟨g, 0, none⟩), fun u W => u = .pointer (some ⟨g, 0, none⟩), fun u W => u = .pointer (some ⟨g, 1, none⟩), fun u W => u = .pointer p, fun u W => u = .pointer (some ⟨N, 0, none⟩), fun u W => u = .string x.1, fun u W => u = .pointer none, fun u W => u = .bool true, fun u W => u = .bool true] ?stable ?step ?fin
  case stable =>
    intro i v W W' h hg
    match i, h with
    | 0, h => exact h
    | 1, h => exact h
    | 2, h => exact h
    | 3, h => exact h
    | 4, h => exact h
    | 5, h => exact h
    | 6, h => exact h
    | 7, h => exact h
    | 8, h => exact h
    | 9, h => exact h
    | 10, h => exact h
    | 11, h => exact h
    | 12, h => exact h
    | 13, h => exact h
    | 14, h => exact h
    | 15, h => exact h
    | i + 16, h => exact trivial
  case step =>
    intro f W A hA hg i o ho hu K hK
    match i, ho, hu, hK with
    | 0, ho, hu, hK =>
      cases ho
      have hw : w.grownBy W none := gb_trans HN.out hg
      have e0 : A.eval (.tmp 0) = .pointer (some ⟨g, 0, none⟩) := ev_out hA 0 rfl
      exact ph_move _ rfl rfl (.pointer (some ⟨g, 0, none⟩)) e0 (hK _ _ (gb_rr W _) rfl)
    | 1, ho, hu, hK =>
      cases ho
      have hw : w.grownBy W none := gb_trans HN.out hg
      have e14 : A.eval (.tmp 14) = .pointer (some ⟨g, 0, none⟩) := (ev_in hA 14 0 rfl rfl rfl).trans (show f 0 = .pointer (some ⟨g, 0, none⟩) from hu 0 (by decide))
      exact ph_nil _ rfl rfl _ e14 (hK _ _ (gb_rr W _) rfl)
    | 2, ho, hu, hK =>
      cases ho
      have hw : w.grownBy W none := gb_trans HN.out hg
      have e15 : A.eval (.tmp 15) = .pointer (some ⟨g, 0, none⟩) := (ev_in hA 15 1 rfl rfl rfl).trans (show f 1 = .pointer (some ⟨g, 0, none⟩) from hu 1 (by decide))
      exact ph_field _ _ _ rfl rfl _ (.pointer (some ⟨g, 1, none⟩)) e15 (by kernel_rfl) (hK _ _ (gb_rr W _) rfl)
    | 3, ho, hu, hK =>
      cases ho
      have hw : w.grownBy W none := gb_trans HN.out hg
      have e16 : A.eval (.tmp 16) = .pointer (some ⟨g, 1, none⟩) := (ev_in hA 16 2 rfl rfl rfl).trans (show f 2 = .pointer (some ⟨g, 1, none⟩) from hu 2 (by decide))
      have hc : W.cell? ⟨g, 1, none⟩ = some (.pointer p) := (HB.out.grew hw (by simp)).cell 1
      refine ph_sem rfl rfl (r := .ok (.value (.pointer p)) W) ?_ (hK _ _ (gb_rr W _) rfl)
      have eC : ∀ c, A.eval (.const c) = c := fun _ => rfl; have eF : ∀ g, A.eval (.func g) = .func (.func g) #[] #[] := fun _ => rfl; generalize A.eval = ρ at *
      clear hA hu hg
      go_simp
    | 4, ho, hu, hK =>
      cases ho
      have hw : w.grownBy W none := gb_trans HN.out hg
      have e17 : A.eval (.tmp 17) = .pointer p := (ev_in hA 17 3 rfl rfl rfl).trans (show f 3 = .pointer p from hu 3 (by decide))
      refine ph_fn 21 _ _ rfl rfl #[.pointer p] (by simp [e17]) (by kernel_rfl) ?_
      refine (Calls.mono (HCn.out W hw) ?_)
      rintro e W' ⟨rfl, rfl⟩
      exact ⟨_, rfl, hK _ _ (gb_rr _ _) rfl⟩
    | 5, ho, hu, hK =>
      cases ho
      have hw : w.grownBy W none := gb_trans HN.out hg
      have e18 : A.eval (.tmp 18) = .int .i64 (1048576 : Nat) := (ev_in hA 18 4 rfl rfl rfl).trans (show f 4 = .int .i64 (1048576 : Nat) from hu 4 (by decide))
      refine ph_sem rfl rfl (r := .ok (.value (.bool true)) W) ?_ (hK _ _ (gb_rr W _) rfl)
      have eC : ∀ c, A.eval (.const c) = c := fun _ => rfl; have eF : ∀ g, A.eval (.func g) = .func (.func g) #[] #[] := fun _ => rfl; generalize A.eval = ρ at *
      clear hA hu
      go_simp
    | 6, ho, hu, hK =>
      cases ho
      have hw : w.grownBy W none := gb_trans HN.out hg
      have e19 : A.eval (.tmp 19) = .bool true := (ev_in hA 19 5 rfl rfl rfl).trans (show f 5 = .bool true from hu 5 (by decide))
      exact ph_move _ rfl rfl (.bool true) e19 (hK _ _ (gb_rr W _) rfl)
    | 7, ho, hu, hK =>
      cases ho
      have hw : w.grownBy W none := gb_trans HN.out hg
      have e0 : A.eval (.tmp 0) = .pointer (some ⟨g, 0, none⟩) := ev_out hA 0 rfl
      have e20 : A.eval (.tmp 20) = .bool true := (ev_in hA 20 6 rfl rfl rfl).trans (show f 6 = .bool true from hu 6 (by decide))
      exact ph_move _ rfl (wanted_in hA 6 true rfl 20 rfl rfl e20) (.pointer (some ⟨g, 0, none⟩)) e0 (hK _ _ (gb_rr W _) rfl)
    | 8, ho, hu, hK =>
      cases ho
      have hw : w.grownBy W none := gb_trans HN.out hg
      have e21 : A.eval (.tmp 21) = .pointer (some ⟨g, 0, none⟩) := (ev_in hA 21 7 rfl rfl rfl).trans (show f 7 = .pointer (some ⟨g, 0, none⟩) from hu 7 (by decide))
      have e20 : A.eval (.tmp 20) = .bool true := (ev_in hA 20 6 rfl rfl rfl).trans (show f 6 = .bool true from hu 6 (by decide))
      exact ph_nil _ rfl (wanted_in hA 6 true rfl 20 rfl rfl e20) _ e21 (hK _ _ (gb_rr W _) rfl)
    | 9, ho, hu, hK =>
      cases ho
      have hw : w.grownBy W none := gb_trans HN.out hg
      have e22 : A.eval (.tmp 22) = .pointer (some ⟨g, 0, none⟩) := (ev_in hA 22 8 rfl rfl rfl).trans (show f 8 = .pointer (some ⟨g, 0, none⟩) from hu 8 (by decide))
      have e20 : A.eval (.tmp 20) = .bool true := (ev_in hA 20 6 rfl rfl rfl).trans (show f 6 = .bool true from hu 6 (by decide))
      exact ph_field _ _ _ rfl (wanted_in hA 6 true rfl 20 rfl rfl e20) _ (.pointer (some ⟨g, 1, none⟩)) e22 (by kernel_rfl) (hK _ _ (gb_rr W _) rfl)
    | 10, ho, hu, hK =>
      cases ho
      have hw : w.grownBy W none := gb_trans HN.out hg
      have e23 : A.eval (.tmp 23) = .pointer (some ⟨g, 1, none⟩) := (ev_in hA 23 9 rfl rfl rfl).trans (show f 9 = .pointer (some ⟨g, 1, none⟩) from hu 9 (by decide))
      have e20 : A.eval (.tmp 20) = .bool true := (ev_in hA 20 6 rfl rfl rfl).trans (show f 6 = .bool true from hu 6 (by decide))
      have hc : W.cell? ⟨g, 1, none⟩ = some (.pointer p) := (HB.out.grew hw (by simp)).cell 1
      refine ph_sem rfl (wanted_in hA 6 true rfl 20 rfl rfl e20) (r := .ok (.value (.pointer p)) W) ?_ (hK _ _ (gb_rr W _) rfl)
      have eC : ∀ c, A.eval (.const c) = c := fun _ => rfl; have eF : ∀ g, A.eval (.func g) = .func (.func g) #[] #[] := fun _ => rfl; generalize A.eval = ρ at *
      clear hA hu hg
      go_simp
    | 11, ho, hu, hK =>
      cases ho
      have hw : w.grownBy W none := gb_trans HN.out hg
      have e3 : A.eval (.tmp 3) = .pointer (some ⟨N, 0, none⟩) := ev_out hA 3 rfl
      have e20 : A.eval (.tmp 20) = .bool true := (ev_in hA 20 6 rfl rfl rfl).trans (show f 6 = .bool true from hu 6 (by decide))
      exact ph_field _ _ _ rfl (wanted_in hA 6 true rfl 20 rfl rfl e20) _ (.pointer (some ⟨N, 0, none⟩)) e3 (by kernel_rfl) (hK _ _ (gb_rr W _) rfl)
    | 12, ho, hu, hK =>
      cases ho
      have hw : w.grownBy W none := gb_trans HN.out hg
      have e25 : A.eval (.tmp 25) = .pointer (some ⟨N, 0, none⟩) := (ev_in hA 25 11 rfl rfl rfl).trans (show f 11 = .pointer (some ⟨N, 0, none⟩) from hu 11 (by decide))
      have e20 : A.eval (.tmp 20) = .bool true := (ev_in hA 20 6 rfl rfl rfl).trans (show f 6 = .bool true from hu 6 (by decide))
      have hc : W.cell? ⟨N, 0, none⟩ = some (.string x.1) := (HN2.out.grew hg (by simp)).cell 0
      refine ph_sem rfl (wanted_in hA 6 true rfl 20 rfl rfl e20) (r := .ok (.value (.string x.1)) W) ?_ (hK _ _ (gb_rr W _) rfl)
      have eC : ∀ c, A.eval (.const c) = c := fun _ => rfl; have eF : ∀ g, A.eval (.func g) = .func (.func g) #[] #[] := fun _ => rfl; generalize A.eval = ρ at *
      clear hA hu hg
      go_simp
    | 13, ho, hu, hK =>
      cases ho
      have hw : w.grownBy W none := gb_trans HN.out hg
      have e24 : A.eval (.tmp 24) = .pointer p := (ev_in hA 24 10 rfl rfl rfl).trans (show f 10 = .pointer p from hu 10 (by decide))
      have e26 : A.eval (.tmp 26) = .string x.1 := (ev_in hA 26 12 rfl rfl rfl).trans (show f 12 = .string x.1 from hu 12 (by decide))
      have e20 : A.eval (.tmp 20) = .bool true := (ev_in hA 20 6 rfl rfl rfl).trans (show f 6 = .bool true from hu 6 (by decide))
      refine ph_fn 22 _ _ rfl (wanted_in hA 6 true rfl 20 rfl rfl e20) #[.pointer p, .string x.1] (by simp [e24, e26]) (by kernel_rfl) ?_
      refine (Calls.mono (HFi.out W hw) ?_)
      rintro e W' ⟨q, rfl, hf, hq⟩
      obtain rfl : q = none := hf
      exact ⟨_, rfl, hK _ _ hq rfl⟩
    | 14, ho, hu, hK =>
      cases ho
      have hw : w.grownBy W none := gb_trans HN.out hg
      have e27 : A.eval (.tmp 27) = .pointer none := (ev_in hA 27 13 rfl rfl rfl).trans (show f 13 = .pointer none from hu 13 (by decide))
      have e20 : A.eval (.tmp 20) = .bool true := (ev_in hA 20 6 rfl rfl rfl).trans (show f 6 = .bool true from hu 6 (by decide))
      refine ph_sem rfl (wanted_in hA 6 true rfl 20 rfl rfl e20) (r := .ok (.value (.bool true)) W) ?_ (hK _ _ (gb_rr W _) rfl)
      have eC : ∀ c, A.eval (.const c) = c := fun _ => rfl; have eF : ∀ g, A.eval (.func g) = .func (.func g) #[] #[] := fun _ => rfl; generalize A.eval = ρ at *
      clear hA hu
      go_simp
    | 15, ho, hu, hK =>
      cases ho
      have hw : w.grownBy W none := gb_trans HN.out hg
      have e20 : A.eval (.tmp 20) = .bool true := (ev_in hA 20 6 rfl rfl rfl).trans (show f 6 = .bool true from hu 6 (by decide))
      have e28 : A.eval (.tmp 28) = .bool true := (ev_in hA 28 14 rfl rfl rfl).trans (show f 14 = .bool true from hu 14 (by decide))
      exact ph_pick _ _ _ rfl rfl true (.bool true) (.bool false) e20 e28 rfl (hK _ _ (gb_rr W _) rfl)
    | i + 16, ho, hu, hK => simp at ho
  case fin =>
    intro f W A hA hg hu
    have hA2 := hA.trans (putAll_lit [(.pointer (some ⟨g, 0, none⟩)), (.pointer (some ⟨g, 0, none⟩)), (.pointer (some ⟨g, 1, none⟩)), (.pointer p), (.int .i64 (1048576 : Nat)), (.bool true), (.bool true), (.pointer (some ⟨g, 0, none⟩)), (.pointer (some ⟨g, 0, none⟩)), (.pointer (some ⟨g, 1, none⟩)), (.pointer p), (.pointer (some ⟨N, 0, none⟩)), (.string x.1), (.pointer none), (.bool true), (.bool true)] (by
      intro j hj
      match j, hj with
      | 0, _ => exact hu 0 (by decide)
      | 1, _ => exact hu 1 (by decide)
      | 2, _ => exact hu 2 (by decide)
      | 3, _ => exact hu 3 (by decide)
      | 4, _ => exact hu 4 (by decide)
      | 5, _ => exact hu 5 (by decide)
      | 6, _ => exact hu 6 (by decide)
      | 7, _ => exact hu 7 (by decide)
      | 8, _ => exact hu 8 (by decide)
      | 9, _ => exact hu 9 (by decide)
      | 10, _ => exact hu 10 (by decide)
      | 11, _ => exact hu 11 (by decide)
      | 12, _ => exact hu 12 (by decide)
      | 13, _ => exact hu 13 (by decide)
      | 14, _ => exact hu 14 (by decide)
      | 15, _ => exact hu 15 (by decide)
      | j + 16, hj => exact absurd hj (by simp)))
    clear hu hA
    subst hA2
    simp only [putAll, putL, List.mem_cons, List.not_mem_nil, List.idxOf_cons, Nat.reduceEqDiff, Nat.reduceBEq, Nat.reduceAdd, or_false, or_true, reduceIte, cond_true, cond_false, List.getD_cons_zero, List.getD_cons_succ, BEq.rfl]
    replace HN2 : Hid (Bk 28 W N (ivs x)) := HN2.out.grew hg (by simp)
    replace HN : Hid (w.grownBy W none) := gb_trans HN.out hg
    clear hg
    go_wp2_with fail
    go_ret
    exact ⟨rfl, HTB.out.gb0 HN.out, HN.out⟩
theorem tr_S (o : Nat → Prop) (g : Nat) (xs : List Rw) : ∀ W W' : World, W.grownBy W' none → (∃ q h, Bk 50 W g #[.bool true, .pointer q] ∧ Tr o W q h xs) → ∃ q h, Bk 50 W' g #[.bool true, .pointer q] ∧ Tr o W' q h xs := by
  rintro W W' hg ⟨q, h, hb, ht⟩
  exact ⟨q, h, hb.grew hg (by simp), ht.gb hg⟩
set_option maxRecDepth 20000 in
set_option maxHeartbeats 1000000 in
theorem put_room (o : Nat → Prop) (x : Rw) (g : Nat) (xs : List Rw) (w : World) (ob : ∀ b, w.heap.size ≤ b → o b) (og : ¬ o g) (h : Tbl o w g xs) (hx : rowE x = 0) (hf : xs.length ≠ 1048576) : Calls Try.prog 6 #[.pointer (some ⟨g, 0, none⟩), iv x] w fun e w' => e = .returned (.int .i64 0) ∧ Tbl o w' g (putR x xs) ∧ w.grownBy w' (some g) := by
  have HTB : Hid (Tbl o w g xs) := h
  obtain ⟨p, hh, hb, ht, hR, hO, hL⟩ := h
  have HB : Hid (Bk 50 w g #[.bool true, .pointer p]) := hb
  have HT : Hid (Tr o w p hh xs) := ht
  have HOG : Hid (¬ o g) := og
  have HN : Hid (w.grownBy (w.alloc (.cells #[.string x.1, .string x.2.1, .int .i64 x.2.2] 28)) none) := gb_alloc _ _
  have HN2 : Hid (Bk 28 (w.alloc (.cells #[.string x.1, .string x.2.1, .int .i64 x.2.2] 28)) w.heap.size (ivs x)) := (blk_new w 28 _).1
  have HM : Hid _ := isMade_c g p (w.alloc (.cells #[.string x.1, .string x.2.1, .int .i64 x.2.2] 28)) (hb.grew HN.out (by simp))
  have HC : Hid (∀ W, Calls Try.prog 20 #[.agg #[.string x.1, .string x.2.1, .int .i64 x.2.2]] W fun r w' => r = .returned (.int .i64 0) ∧ W.grownBy w' none) := fun W => by
    have := tcheck_c x W
    rw [hx] at this
    exact this
  have HPt : Hid (∀ W, w.grownBy W none → Calls Try.prog 23 #[.pointer p, .agg #[.string x.1, .string x.2.1, .int .i64 x.2.2]] W (TR o W (putR x xs))) := fun W hg => put_t o x p hh xs W (fun b hb => ob b (Nat.le_trans hg.size hb)) (HT.out.gb hg) hR (okR_sm (okR_put hO hx) (by have := len_put x xs; omega))
  have HPP : Hid (Rises (putR x xs) ∧ OkR (putR x xs) ∧ (putR x xs).length ≤ 1048576) := ⟨rises_put hR, okR_put hO hx, by have := len_put x xs; omega⟩
  have HGL : Hid (g < w.heap.size) := lt_of_block hb
  have HCn : Hid (∀ W, w.grownBy W none → Calls Try.prog 21 #[.pointer p] W fun e w' => e = .returned (.int .i64 (xs.length : Nat)) ∧ w' = W) := fun W hg => count_c o p hh xs W (HT.out.gb hg)
  have hd : ((xs.length : Int) == 1048576) = false := by simp; omega
  generalize hLL : xs.length = LL at *
  clear hb ht hR hO hL ob og hx hf hLL
  unfold iv
  go_enter Try.func6, Try.ntmps6
  go_wp2_with (first
    | (go_at_call 19; refine (Calls.mono HM.out ?_); rintro e wq ⟨rfl, rfl⟩)
    | (refine wpList_load_bk 28 rfl (.tmp 3) rfl Try.underlying28 rfl infoRow w.heap.size (ivs x) rfl HN2.out rfl ?_)
    | (go_at_call 20; refine (Calls.mono (HC.out _) ?_); rintro e w1 ⟨rfl, hq⟩; have H1 : Hid ((w.alloc (.cells #[.string x.1, .string x.2.1, .int .i64 x.2.2] 28)).grownBy w1 none) := hq; clear hq))
  replace HN2 : Hid (Bk 28 w1 w.heap.size (ivs x)) := HN2.out.grew H1.out (by simp)
  replace HN : Hid (w.grownBy w1 none) := gb_trans HN.out H1.out
  clear H1 HM HC
  obtain ⟨N, hN⟩ : ∃ N, N = w.heap.size := ⟨_, rfl⟩
  rw [← hN] at HN2 ⊢
  clear hN
  have k3 : w1.cell? ⟨g, 1, none⟩ = some (.pointer p) := (HB.out.grew HN.out (by simp)).cell 1
  go_quiet (first | (go_at_call 21; exact (HCn.out _ (gb_drewN HN.out _)).mono fun _ _ ⟨a, b⟩ => ⟨a, _, b⟩))
  clear k3
  replace HN : Hid (w.grownBy (w1.drewN nq) none) := gb_drewN HN.out nq
  replace HN2 : Hid (Bk 28 (w1.drewN nq) N (ivs x)) := HN2.out
  go_wp2_with fail
  generalize w1.drewN nq = W0 at *
  refine wp_region_last 9 rfl (by kernel_rfl) [30, 31, 32, 33, 34, 35, 36, 37, 38, 100009] [[], [], [1], [2], [3], [], [4, 5], [0], [7], [8, 6]] (by kernel_rfl) (by kernel_rfl) [fun u W => u = .pointer (some ⟨g, 0, none⟩), fun u W => u = .pointer (some ⟨g, 0, none⟩), fun u W => u = .pointer (some ⟨g, 0, none⟩), fun u W => u = .pointer (some ⟨g, 1, none⟩), fun u W => u = .pointer p, fun u W => u = .agg #[.string x.1, .string x.2.1, .int .i64 x.2.2], fun u W => ∃ p h, u = .pointer p ∧ Tr o W p h (putR x xs), fun u W => u = .pointer (some ⟨g, 0, none⟩), fun u W => u = .pointer (some ⟨g, 1, none⟩)] ?stable ?step ?last
  case stable =>
    intro i v W W' h hg
    match i, h with
    | 0, h => exact h
    | 1, h => exact h
    | 2, h => exact h
    | 3, h => exact h
    | 4, h => exact h
    | 5, h => exact h
    | 6, h => obtain ⟨p, h, h1, h2⟩ := h; exact ⟨p, h, h1, h2.gb hg⟩
    | 7, h => exact h
    | 8, h => exact h
    | i + 9, h => exact trivial
  case step =>
    intro f W A hA hg i o hin ho hu K hK
    match i, hin, ho, hu, hK with
    | 0, hin, ho, hu, hK =>
      cases ho
      have hw : w.grownBy W none := gb_trans HN.out hg
      have e0 : A.eval (.tmp 0) = .pointer (some ⟨g, 0, none⟩) := ev_out hA 0 rfl
      exact ph_move _ rfl rfl (.pointer (some ⟨g, 0, none⟩)) e0 (hK _ _ (gb_rr W _) rfl)
    | 1, hin, ho, hu, hK =>
      cases ho
      have hw : w.grownBy W none := gb_trans HN.out hg
      have e0 : A.eval (.tmp 0) = .pointer (some ⟨g, 0, none⟩) := ev_out hA 0 rfl
      exact ph_move _ rfl rfl (.pointer (some ⟨g, 0, none⟩)) e0 (hK _ _ (gb_rr W _) rfl)
    | 2, hin, ho, hu, hK =>
      cases ho
      have hw : w.grownBy W none := gb_trans HN.out hg
      have e31 : A.eval (.tmp 31) = .pointer (some ⟨g, 0, none⟩) := (ev_in hA 31 1 rfl rfl rfl).trans (show f 1 = .pointer (some ⟨g, 0, none⟩) from hu 1 (by decide))
      exact ph_nil _ rfl rfl _ e31 (hK _ _ (gb_rr W _) rfl)
    | 3, hin, ho, hu, hK =>
      cases ho
      have hw : w.grownBy W none := gb_trans HN.out hg
      have e32 : A.eval (.tmp 32) = .pointer (some ⟨g, 0, none⟩) := (ev_in hA 32 2 rfl rfl rfl).trans (show f 2 = .pointer (some ⟨g, 0, none⟩) from hu 2 (by decide))
      exact ph_field _ _ _ rfl rfl _ (.pointer (some ⟨g, 1, none⟩)) e32 (by kernel_rfl) (hK _ _ (gb_rr W _) rfl)
    | 4, hin, ho, hu, hK =>
      cases ho
      have hw : w.grownBy W none := gb_trans HN.out hg
      have e33 : A.eval (.tmp 33) = .pointer (some ⟨g, 1, none⟩) := (ev_in hA 33 3 rfl rfl rfl).trans (show f 3 = .pointer (some ⟨g, 1, none⟩) from hu 3 (by decide))
      have hc : W.cell? ⟨g, 1, none⟩ = some (.pointer p) := (HB.out.grew hw (by simp)).cell 1
      refine ph_sem rfl rfl (r := .ok (.value (.pointer p)) W) ?_ (hK _ _ (gb_rr W _) rfl)
      have eC : ∀ c, A.eval (.const c) = c := fun _ => rfl; have eF : ∀ g, A.eval (.func g) = .func (.func g) #[] #[] := fun _ => rfl; generalize A.eval = ρ at *
      clear hA hu hg
      go_simp
    | 5, hin, ho, hu, hK =>
      cases ho
      have hw : w.grownBy W none := gb_trans HN.out hg
      have e3 : A.eval (.tmp 3) = .pointer (some ⟨N, 0, none⟩) := ev_out hA 3 rfl
      exact ph_load rfl 28 _ rfl Try.underlying28 rfl N 0 [.string x.1, .string x.2.1, .int .i64 x.2.2] (by kernel_rfl) e3 (it_range (HN2.out.grew hg (by simp))) (hK _ _ (gb_rr W _) rfl)
    | 6, hin, ho, hu, hK =>
      cases ho
      have hw : w.grownBy W none := gb_trans HN.out hg
      have e34 : A.eval (.tmp 34) = .pointer p := (ev_in hA 34 4 rfl rfl rfl).trans (show f 4 = .pointer p from hu 4 (by decide))
      have e35 : A.eval (.tmp 35) = .agg #[.string x.1, .string x.2.1, .int .i64 x.2.2] := (ev_in hA 35 5 rfl rfl rfl).trans (show f 5 = .agg #[.string x.1, .string x.2.1, .int .i64 x.2.2] from hu 5 (by decide))
      refine ph_fn 23 _ _ rfl rfl #[.pointer p, .agg #[.string x.1, .string x.2.1, .int .i64 x.2.2]] (by simp [e34, e35]) (by kernel_rfl) ?_
      refine (Calls.mono (HPt.out W hw) ?_)
      rintro e W' ⟨p, h, rfl, ht, hq⟩
      exact ⟨_, rfl, hK _ _ hq ⟨p, h, rfl, ht⟩⟩
    | 7, hin, ho, hu, hK =>
      cases ho
      have hw : w.grownBy W none := gb_trans HN.out hg
      have e30 : A.eval (.tmp 30) = .pointer (some ⟨g, 0, none⟩) := (ev_in hA 30 0 rfl rfl rfl).trans (show f 0 = .pointer (some ⟨g, 0, none⟩) from hu 0 (by decide))
      exact ph_nil _ rfl rfl _ e30 (hK _ _ (gb_rr W _) rfl)
    | 8, hin, ho, hu, hK =>
      cases ho
      have hw : w.grownBy W none := gb_trans HN.out hg
      have e37 : A.eval (.tmp 37) = .pointer (some ⟨g, 0, none⟩) := (ev_in hA 37 7 rfl rfl rfl).trans (show f 7 = .pointer (some ⟨g, 0, none⟩) from hu 7 (by decide))
      exact ph_field _ _ _ rfl rfl _ (.pointer (some ⟨g, 1, none⟩)) e37 (by kernel_rfl) (hK _ _ (gb_rr W _) rfl)
    | i + 9, hin, ho, hu, hK => omega
  case last =>
    intro f W A hA hg hu o ho K hK
    cases ho
    have hw : w.grownBy W none := gb_trans HN.out hg
    obtain ⟨p6, h6, hv6, ht6⟩ := hu 6 (by decide)
    have hBW : Bk 50 W g #[.bool true, .pointer p] := HB.out.grew hw (by simp)
    have kc : W.cell? ⟨g, 1, none⟩ = some (.pointer p) := hBW.cell 1
    have kf : W.frozen? ⟨g, 1, none⟩ = false := frozen_of_row _ _ _ _ _ hBW
    have e36 : A.eval (.tmp 36) = .pointer p6 := (ev_in hA 36 6 rfl rfl rfl).trans hv6
    have e38 : A.eval (.tmp 38) = .pointer (some ⟨g, 1, none⟩) := (ev_in hA 38 8 rfl rfl rfl).trans (show f 8 = .pointer (some ⟨g, 1, none⟩) from hu 8 (by decide))
    refine ph_sem rfl rfl (r := .ok .skip (W.setCell ⟨g, 1, none⟩ (.pointer p6))) ?_ (hK _ _ ?_)
    · generalize A.eval = ρ at *
      clear hA hu hg hw hv6
      go_simp
    · show _
      have H9 : Hid (Tbl o (W.setCell ⟨g, 1, none⟩ (.pointer p6)) g (putR x xs) ∧ w.grownBy (W.setCell ⟨g, 1, none⟩ (.pointer p6)) (some g)) := ⟨⟨p6, h6, hBW.set 1 (.pointer p6), ht6.gbr (gb_set _ _ _ _) (fun n e => by cases e; exact HOG.out), HPP.out⟩, gb_trans (gb_wide hw _) (gb_set _ _ _ _)⟩
      clear ht6 hBW kc kf e36 e38 hg hw
      have hA2 := hA.trans (putAll_lit [(.pointer (some ⟨g, 0, none⟩)), (.pointer (some ⟨g, 0, none⟩)), (.pointer (some ⟨g, 0, none⟩)), (.pointer (some ⟨g, 1, none⟩)), (.pointer p), (.agg #[.string x.1, .string x.2.1, .int .i64 x.2.2]), (.pointer p6), (.pointer (some ⟨g, 0, none⟩)), (.pointer (some ⟨g, 1, none⟩)), (f 9)] (by
        intro j hj
        match j, hj with
        | 0, _ => exact hu 0 (by decide)
        | 1, _ => exact hu 1 (by decide)
        | 2, _ => exact hu 2 (by decide)
        | 3, _ => exact hu 3 (by decide)
        | 4, _ => exact hu 4 (by decide)
        | 5, _ => exact hu 5 (by decide)
        | 6, _ => exact hv6
        | 7, _ => exact hu 7 (by decide)
        | 8, _ => exact hu 8 (by decide)
        | 9, _ => rfl
        | j + 10, hj => exact absurd hj (by simp)))
      clear hu hA
      subst hA2
      simp only [putAll, putL, List.mem_cons, List.not_mem_nil, List.idxOf_cons, Nat.reduceEqDiff, Nat.reduceBEq, Nat.reduceAdd, or_false, or_true, reduceIte, cond_true, cond_false, List.getD_cons_zero, List.getD_cons_succ, BEq.rfl]
      generalize World.setCell W _ _ = W9 at *
      go_wp2_with fail
      go_ret
      exact ⟨rfl, H9.out.1, H9.out.2⟩
set_option maxRecDepth 20000 in
set_option maxHeartbeats 1000000 in
theorem put_over (o : Nat → Prop) (x : Rw) (g : Nat) (xs : List Rw) (w : World) (ob : ∀ b, w.heap.size ≤ b → o b) (og : ¬ o g) (h : Tbl o w g xs) (hx : rowE x = 0) (y : Rw) (hf : xs.length = 1048576) (hk : getR x.1 xs = some y) : Calls Try.prog 6 #[.pointer (some ⟨g, 0, none⟩), iv x] w fun e w' => e = .returned (.int .i64 0) ∧ Tbl o w' g (putR x xs) ∧ w.grownBy w' (some g) := by
  have HTB : Hid (Tbl o w g xs) := h
  obtain ⟨p, hh, hb, ht, hR, hO, hL⟩ := h
  have HB : Hid (Bk 50 w g #[.bool true, .pointer p]) := hb
  have HT : Hid (Tr o w p hh xs) := ht
  have HOG : Hid (¬ o g) := og
  have HN : Hid (w.grownBy (w.alloc (.cells #[.string x.1, .string x.2.1, .int .i64 x.2.2] 28)) none) := gb_alloc _ _
  have HN2 : Hid (Bk 28 (w.alloc (.cells #[.string x.1, .string x.2.1, .int .i64 x.2.2] 28)) w.heap.size (ivs x)) := (blk_new w 28 _).1
  have HM : Hid _ := isMade_c g p (w.alloc (.cells #[.string x.1, .string x.2.1, .int .i64 x.2.2] 28)) (hb.grew HN.out (by simp))
  have HC : Hid (∀ W, Calls Try.prog 20 #[.agg #[.string x.1, .string x.2.1, .int .i64 x.2.2]] W fun r w' => r = .returned (.int .i64 0) ∧ W.grownBy w' none) := fun W => by
    have := tcheck_c x W
    rw [hx] at this
    exact this
  have HPt : Hid (∀ W, w.grownBy W none → Calls Try.prog 23 #[.pointer p, .agg #[.string x.1, .string x.2.1, .int .i64 x.2.2]] W (TR o W (putR x xs))) := fun W hg => put_t o x p hh xs W (fun b hb => ob b (Nat.le_trans hg.size hb)) (HT.out.gb hg) hR (okR_sm (okR_put hO hx) (by have := len_put x xs; omega))
  have HPP : Hid (Rises (putR x xs) ∧ OkR (putR x xs) ∧ (putR x xs).length ≤ 1048576) := ⟨rises_put hR, okR_put hO hx, by rw [len_put_has hR (by rw [hk]; simp)]; omega⟩
  have HGL : Hid (g < w.heap.size) := lt_of_block hb
  have HCn : Hid (∀ W, w.grownBy W none → Calls Try.prog 21 #[.pointer p] W fun e w' => e = .returned (.int .i64 (1048576 : Nat)) ∧ w' = W) := fun W hg => by
    have := count_c o p hh xs W (HT.out.gb hg)
    rw [hf] at this
    exact this
  have HFi : Hid (∀ W, w.grownBy W none → Calls Try.prog 22 #[.pointer p, .string x.1] W fun e w' => ∃ q, e = .returned (.pointer q) ∧ FoundAt w' q (some y) ∧ W.grownBy w' none) := fun W hg => by
    have := find_c o x.1 p hh xs W (HT.out.gb hg) hR
    rw [hk] at this
    exact this
  clear hb ht hR hO hL ob og hx hf hk
  unfold iv
  go_enter Try.func6, Try.ntmps6
  go_wp2_with (first
    | (go_at_call 19; refine (Calls.mono HM.out ?_); rintro e wq ⟨rfl, rfl⟩)
    | (refine wpList_load_bk 28 rfl (.tmp 3) rfl Try.underlying28 rfl infoRow w.heap.size (ivs x) rfl HN2.out rfl ?_)
    | (go_at_call 20; refine (Calls.mono (HC.out _) ?_); rintro e w1 ⟨rfl, hq⟩; have H1 : Hid ((w.alloc (.cells #[.string x.1, .string x.2.1, .int .i64 x.2.2] 28)).grownBy w1 none) := hq; clear hq))
  replace HN2 : Hid (Bk 28 w1 w.heap.size (ivs x)) := HN2.out.grew H1.out (by simp)
  replace HN : Hid (w.grownBy w1 none) := gb_trans HN.out H1.out
  clear H1 HM HC
  obtain ⟨N, hN⟩ : ∃ N, N = w.heap.size := ⟨_, rfl⟩
  rw [← hN] at HN2 ⊢
  clear hN
  refine wp_region_phi none rfl (by kernel_rfl) [14, 15, 16, 17, 18, 19, 20, 21, 22, 23, 24, 25, 26, 27, 28, 29] [[], [0], [1], [2], [3], [4], [5], [6], [7, 6], [8, 6], [9, 6], [6], [11, 6], [10, 12, 6], [13, 6], [6, 14]] (by kernel_rfl) [fun u W => u = .pointer (some ⟨g, 0, none⟩), fun u W => u = .pointer (some ⟨g, 0, none⟩), fun u W => u = .pointer (some ⟨g, 1, none⟩), fun u W => u = .pointer p, fun u W => u = .int .i64 (1048576 : Nat), fun u W => u = .bool true, fun u W => u = .bool true, fun u W => u = .pointer (some ⟨g, 0, none⟩), fun u W => u = .pointer (some ⟨g, 0, none⟩), fun u W => u = .pointer (some ⟨g, 1, none⟩), fun u W => u = .pointer p, fun u W => u = .pointer (some ⟨N, 0, none⟩), fun u W => u = .string x.1, fun u W => ∃ b, u = .pointer (some ⟨b, 0, none⟩), fun u W => u = .bool false, fun u W => u = .bool false] ?stable ?step ?fin
  case stable =>
    intro i v W W' h hg
    match i, h with
    | 0, h => exact h
    | 1, h => exact h
    | 2, h => exact h
    | 3, h => exact h
    | 4, h => exact h
    | 5, h => exact h
    | 6, h => exact h
    | 7, h => exact h
    | 8, h => exact h
    | 9, h => exact h
    | 10, h => exact h
    | 11, h => exact h
    | 12, h => exact h
    | 13, h => exact h
    | 14, h => exact h
    | 15, h => exact h
    | i + 16, h => exact trivial
  case step =>
    intro f W A hA hg i o ho hu K hK
    match i, ho, hu, hK with
    | 0, ho, hu, hK =>
      cases ho
      have hw : w.grownBy W none := gb_trans HN.out hg
      have e0 : A.eval (.tmp 0) = .pointer (some ⟨g, 0, none⟩) := ev_out hA 0 rfl
      exact ph_move _ rfl rfl (.pointer (some ⟨g, 0, none⟩)) e0 (hK _ _ (gb_rr W _) rfl)
    | 1, ho, hu, hK =>
      cases ho
      have hw : w.grownBy W none := gb_trans HN.out hg
      have e14 : A.eval (.tmp 14) = .pointer (some ⟨g, 0, none⟩) := (ev_in hA 14 0 rfl rfl rfl).trans (show f 0 = .pointer (some ⟨g, 0, none⟩) from hu 0 (by decide))
      exact ph_nil _ rfl rfl _ e14 (hK _ _ (gb_rr W _) rfl)
    | 2, ho, hu, hK =>
      cases ho
      have hw : w.grownBy W none := gb_trans HN.out hg
      have e15 : A.eval (.tmp 15) = .pointer (some ⟨g, 0, none⟩) := (ev_in hA 15 1 rfl rfl rfl).trans (show f 1 = .pointer (some ⟨g, 0, none⟩) from hu 1 (by decide))
      exact ph_field _ _ _ rfl rfl _ (.pointer (some ⟨g, 1, none⟩)) e15 (by kernel_rfl) (hK _ _ (gb_rr W _) rfl)
    | 3, ho, hu, hK =>
      cases ho
      have hw : w.grownBy W none := gb_trans HN.out hg
      have e16 : A.eval (.tmp 16) = .pointer (some ⟨g, 1, none⟩) := (ev_in hA 16 2 rfl rfl rfl).trans (show f 2 = .pointer (some ⟨g, 1, none⟩) from hu 2 (by decide))
      have hc : W.cell? ⟨g, 1, none⟩ = some (.pointer p) := (HB.out.grew hw (by simp)).cell 1
      refine ph_sem rfl rfl (r := .ok (.value (.pointer p)) W) ?_ (hK _ _ (gb_rr W _) rfl)
      have eC : ∀ c, A.eval (.const c) = c := fun _ => rfl; have eF : ∀ g, A.eval (.func g) = .func (.func g) #[] #[] := fun _ => rfl; generalize A.eval = ρ at *
      clear hA hu hg
      go_simp
    | 4, ho, hu, hK =>
      cases ho
      have hw : w.grownBy W none := gb_trans HN.out hg
      have e17 : A.eval (.tmp 17) = .pointer p := (ev_in hA 17 3 rfl rfl rfl).trans (show f 3 = .pointer p from hu 3 (by decide))
      refine ph_fn 21 _ _ rfl rfl #[.pointer p] (by simp [e17]) (by kernel_rfl) ?_
      refine (Calls.mono (HCn.out W hw) ?_)
      rintro e W' ⟨rfl, rfl⟩
      exact ⟨_, rfl, hK _ _ (gb_rr _ _) rfl⟩
    | 5, ho, hu, hK =>
      cases ho
      have hw : w.grownBy W none := gb_trans HN.out hg
      have e18 : A.eval (.tmp 18) = .int .i64 (1048576 : Nat) := (ev_in hA 18 4 rfl rfl rfl).trans (show f 4 = .int .i64 (1048576 : Nat) from hu 4 (by decide))
      refine ph_sem rfl rfl (r := .ok (.value (.bool true)) W) ?_ (hK _ _ (gb_rr W _) rfl)
      have eC : ∀ c, A.eval (.const c) = c := fun _ => rfl; have eF : ∀ g, A.eval (.func g) = .func (.func g) #[] #[] := fun _ => rfl; generalize A.eval = ρ at *
      clear hA hu
      go_simp
    | 6, ho, hu, hK =>
      cases ho
      have hw : w.grownBy W none := gb_trans HN.out hg
      have e19 : A.eval (.tmp 19) = .bool true := (ev_in hA 19 5 rfl rfl rfl).trans (show f 5 = .bool true from hu 5 (by decide))
      exact ph_move _ rfl rfl (.bool true) e19 (hK _ _ (gb_rr W _) rfl)
    | 7, ho, hu, hK =>
      cases ho
      have hw : w.grownBy W none := gb_trans HN.out hg
      have e0 : A.eval (.tmp 0) = .pointer (some ⟨g, 0, none⟩) := ev_out hA 0 rfl
      have e20 : A.eval (.tmp 20) = .bool true := (ev_in hA 20 6 rfl rfl rfl).trans (show f 6 = .bool true from hu 6 (by decide))
      exact ph_move _ rfl (wanted_in hA 6 true rfl 20 rfl rfl e20) (.pointer (some ⟨g, 0, none⟩)) e0 (hK _ _ (gb_rr W _) rfl)
    | 8, ho, hu, hK =>
      cases ho
      have hw : w.grownBy W none := gb_trans HN.out hg
      have e21 : A.eval (.tmp 21) = .pointer (some ⟨g, 0, none⟩) := (ev_in hA 21 7 rfl rfl rfl).trans (show f 7 = .pointer (some ⟨g, 0, none⟩) from hu 7 (by decide))
      have e20 : A.eval (.tmp 20) = .bool true := (ev_in hA 20 6 rfl rfl rfl).trans (show f 6 = .bool true from hu 6 (by decide))
      exact ph_nil _ rfl (wanted_in hA 6 true rfl 20 rfl rfl e20) _ e21 (hK _ _ (gb_rr W _) rfl)
    | 9, ho, hu, hK =>
      cases ho
      have hw : w.grownBy W none := gb_trans HN.out hg
      have e22 : A.eval (.tmp 22) = .pointer (some ⟨g, 0, none⟩) := (ev_in hA 22 8 rfl rfl rfl).trans (show f 8 = .pointer (some ⟨g, 0, none⟩) from hu 8 (by decide))
      have e20 : A.eval (.tmp 20) = .bool true := (ev_in hA 20 6 rfl rfl rfl).trans (show f 6 = .bool true from hu 6 (by decide))
      exact ph_field _ _ _ rfl (wanted_in hA 6 true rfl 20 rfl rfl e20) _ (.pointer (some ⟨g, 1, none⟩)) e22 (by kernel_rfl) (hK _ _ (gb_rr W _) rfl)
    | 10, ho, hu, hK =>
      cases ho
      have hw : w.grownBy W none := gb_trans HN.out hg
      have e23 : A.eval (.tmp 23) = .pointer (some ⟨g, 1, none⟩) := (ev_in hA 23 9 rfl rfl rfl).trans (show f 9 = .pointer (some ⟨g, 1, none⟩) from hu 9 (by decide))
      have e20 : A.eval (.tmp 20) = .bool true := (ev_in hA 20 6 rfl rfl rfl).trans (show f 6 = .bool true from hu 6 (by decide))
      have hc : W.cell? ⟨g, 1, none⟩ = some (.pointer p) := (HB.out.grew hw (by simp)).cell 1
      refine ph_sem rfl (wanted_in hA 6 true rfl 20 rfl rfl e20) (r := .ok (.value (.pointer p)) W) ?_ (hK _ _ (gb_rr W _) rfl)
      have eC : ∀ c, A.eval (.const c) = c := fun _ => rfl; have eF : ∀ g, A.eval (.func g) = .func (.func g) #[] #[] := fun _ => rfl; generalize A.eval = ρ at *
      clear hA hu hg
      go_simp
    | 11, ho, hu, hK =>
      cases ho
      have hw : w.grownBy W none := gb_trans HN.out hg
      have e3 : A.eval (.tmp 3) = .pointer (some ⟨N, 0, none⟩) := ev_out hA 3 rfl
      have e20 : A.eval (.tmp 20) = .bool true := (ev_in hA 20 6 rfl rfl rfl).trans (show f 6 = .bool true from hu 6 (by decide))
      exact ph_field _ _ _ rfl (wanted_in hA 6 true rfl 20 rfl rfl e20) _ (.pointer (some ⟨N, 0, none⟩)) e3 (by kernel_rfl) (hK _ _ (gb_rr W _) rfl)
    | 12, ho, hu, hK =>
      cases ho
      have hw : w.grownBy W none := gb_trans HN.out hg
      have e25 : A.eval (.tmp 25) = .pointer (some ⟨N, 0, none⟩) := (ev_in hA 25 11 rfl rfl rfl).trans (show f 11 = .pointer (some ⟨N, 0, none⟩) from hu 11 (by decide))
      have e20 : A.eval (.tmp 20) = .bool true := (ev_in hA 20 6 rfl rfl rfl).trans (show f 6 = .bool true from hu 6 (by decide))
      have hc : W.cell? ⟨N, 0, none⟩ = some (.string x.1) := (HN2.out.grew hg (by simp)).cell 0
      refine ph_sem rfl (wanted_in hA 6 true rfl 20 rfl rfl e20) (r := .ok (.value (.string x.1)) W) ?_ (hK _ _ (gb_rr W _) rfl)
      have eC : ∀ c, A.eval (.const c) = c := fun _ => rfl; have eF : ∀ g, A.eval (.func g) = .func (.func g) #[] #[] := fun _ => rfl; generalize A.eval = ρ at *
      clear hA hu hg
      go_simp
    | 13, ho, hu, hK =>
      cases ho
      have hw : w.grownBy W none := gb_trans HN.out hg
      have e24 : A.eval (.tmp 24) = .pointer p := (ev_in hA 24 10 rfl rfl rfl).trans (show f 10 = .pointer p from hu 10 (by decide))
      have e26 : A.eval (.tmp 26) = .string x.1 := (ev_in hA 26 12 rfl rfl rfl).trans (show f 12 = .string x.1 from hu 12 (by decide))
      have e20 : A.eval (.tmp 20) = .bool true := (ev_in hA 20 6 rfl rfl rfl).trans (show f 6 = .bool true from hu 6 (by decide))
      refine ph_fn 22 _ _ rfl (wanted_in hA 6 true rfl 20 rfl rfl e20) #[.pointer p, .string x.1] (by simp [e24, e26]) (by kernel_rfl) ?_
      refine (Calls.mono (HFi.out W hw) ?_)
      rintro e W' ⟨q, rfl, ⟨b, pl, pr, h5, n5, z5, rfl, hb5⟩, hq⟩
      exact ⟨_, rfl, hK _ _ hq ⟨b, rfl⟩⟩
    | 14, ho, hu, hK =>
      cases ho
      have hw : w.grownBy W none := gb_trans HN.out hg
      obtain ⟨b13, hv13⟩ := hu 13 (by decide)
      have e27 : A.eval (.tmp 27) = .pointer (some ⟨b13, 0, none⟩) := (ev_in hA 27 13 rfl rfl rfl).trans hv13
      have e20 : A.eval (.tmp 20) = .bool true := (ev_in hA 20 6 rfl rfl rfl).trans (show f 6 = .bool true from hu 6 (by decide))
      refine ph_sem rfl (wanted_in hA 6 true rfl 20 rfl rfl e20) (r := .ok (.value (.bool false)) W) ?_ (hK _ _ (gb_rr W _) rfl)
      have eC : ∀ c, A.eval (.const c) = c := fun _ => rfl; have eF : ∀ g, A.eval (.func g) = .func (.func g) #[] #[] := fun _ => rfl; generalize A.eval = ρ at *
      clear hA hu
      go_simp
    | 15, ho, hu, hK =>
      cases ho
      have hw : w.grownBy W none := gb_trans HN.out hg
      have e20 : A.eval (.tmp 20) = .bool true := (ev_in hA 20 6 rfl rfl rfl).trans (show f 6 = .bool true from hu 6 (by decide))
      have e28 : A.eval (.tmp 28) = .bool false := (ev_in hA 28 14 rfl rfl rfl).trans (show f 14 = .bool false from hu 14 (by decide))
      exact ph_pick _ _ _ rfl rfl true (.bool false) (.bool false) e20 e28 rfl (hK _ _ (gb_rr W _) rfl)
    | i + 16, ho, hu, hK => simp at ho
  case fin =>
    intro f W A hA hg hu
    obtain ⟨b13, hv13⟩ := hu 13 (by decide)
    have hA2 := hA.trans (putAll_lit [(.pointer (some ⟨g, 0, none⟩)), (.pointer (some ⟨g, 0, none⟩)), (.pointer (some ⟨g, 1, none⟩)), (.pointer p), (.int .i64 (1048576 : Nat)), (.bool true), (.bool true), (.pointer (some ⟨g, 0, none⟩)), (.pointer (some ⟨g, 0, none⟩)), (.pointer (some ⟨g, 1, none⟩)), (.pointer p), (.pointer (some ⟨N, 0, none⟩)), (.string x.1), (.pointer (some ⟨b13, 0, none⟩)), (.bool false), (.bool false)] (by
      intro j hj
      match j, hj with
      | 0, _ => exact hu 0 (by decide)
      | 1, _ => exact hu 1 (by decide)
      | 2, _ => exact hu 2 (by decide)
      | 3, _ => exact hu 3 (by decide)
      | 4, _ => exact hu 4 (by decide)
      | 5, _ => exact hu 5 (by decide)
      | 6, _ => exact hu 6 (by decide)
      | 7, _ => exact hu 7 (by decide)
      | 8, _ => exact hu 8 (by decide)
      | 9, _ => exact hu 9 (by decide)
      | 10, _ => exact hu 10 (by decide)
      | 11, _ => exact hu 11 (by decide)
      | 12, _ => exact hu 12 (by decide)
      | 13, _ => exact hv13
      | 14, _ => exact hu 14 (by decide)
      | 15, _ => exact hu 15 (by decide)
      | j + 16, hj => exact absurd hj (by simp)))
    clear hu hA
    subst hA2
    simp only [putAll, putL, List.mem_cons, List.not_mem_nil, List.idxOf_cons, Nat.reduceEqDiff, Nat.reduceBEq, Nat.reduceAdd, or_false, or_true, reduceIte, cond_true, cond_false, List.getD_cons_zero, List.getD_cons_succ, BEq.rfl]
    replace HN2 : Hid (Bk 28 W N (ivs x)) := HN2.out.grew hg (by simp)
    replace HN : Hid (w.grownBy W none) := gb_trans HN.out hg
    clear hg
    go_wp2_with fail
    clear HFi HCn
    refine wp_region_last 9 rfl (by kernel_rfl) [30, 31, 32, 33, 34, 35, 36, 37, 38, 100009] [[], [], [1], [2], [3], [], [4, 5], [0], [7], [8, 6]] (by kernel_rfl) (by kernel_rfl) [fun u W => u = .pointer (some ⟨g, 0, none⟩), fun u W => u = .pointer (some ⟨g, 0, none⟩), fun u W => u = .pointer (some ⟨g, 0, none⟩), fun u W => u = .pointer (some ⟨g, 1, none⟩), fun u W => u = .pointer p, fun u W => u = .agg #[.string x.1, .string x.2.1, .int .i64 x.2.2], fun u W => ∃ p h, u = .pointer p ∧ Tr o W p h (putR x xs), fun u W => u = .pointer (some ⟨g, 0, none⟩), fun u W => u = .pointer (some ⟨g, 1, none⟩)] ?stable ?step ?last
    case stable =>
      intro i v W W' h hg
      match i, h with
      | 0, h => exact h
      | 1, h => exact h
      | 2, h => exact h
      | 3, h => exact h
      | 4, h => exact h
      | 5, h => exact h
      | 6, h => obtain ⟨p, h, h1, h2⟩ := h; exact ⟨p, h, h1, h2.gb hg⟩
      | 7, h => exact h
      | 8, h => exact h
      | i + 9, h => exact trivial
    case step =>
      intro f W A hA hg i o hin ho hu K hK
      match i, hin, ho, hu, hK with
      | 0, hin, ho, hu, hK =>
        cases ho
        have hw : w.grownBy W none := gb_trans HN.out hg
        have e0 : A.eval (.tmp 0) = .pointer (some ⟨g, 0, none⟩) := ev_out hA 0 rfl
        exact ph_move _ rfl rfl (.pointer (some ⟨g, 0, none⟩)) e0 (hK _ _ (gb_rr W _) rfl)
      | 1, hin, ho, hu, hK =>
        cases ho
        have hw : w.grownBy W none := gb_trans HN.out hg
        have e0 : A.eval (.tmp 0) = .pointer (some ⟨g, 0, none⟩) := ev_out hA 0 rfl
        exact ph_move _ rfl rfl (.pointer (some ⟨g, 0, none⟩)) e0 (hK _ _ (gb_rr W _) rfl)
      | 2, hin, ho, hu, hK =>
        cases ho
        have hw : w.grownBy W none := gb_trans HN.out hg
        have e31 : A.eval (.tmp 31) = .pointer (some ⟨g, 0, none⟩) := (ev_in hA 31 1 rfl rfl rfl).trans (show f 1 = .pointer (some ⟨g, 0, none⟩) from hu 1 (by decide))
        exact ph_nil _ rfl rfl _ e31 (hK _ _ (gb_rr W _) rfl)
      | 3, hin, ho, hu, hK =>
        cases ho
        have hw : w.grownBy W none := gb_trans HN.out hg
        have e32 : A.eval (.tmp 32) = .pointer (some ⟨g, 0, none⟩) := (ev_in hA 32 2 rfl rfl rfl).trans (show f 2 = .pointer (some ⟨g, 0, none⟩) from hu 2 (by decide))
        exact ph_field _ _ _ rfl rfl _ (.pointer (some ⟨g, 1, none⟩)) e32 (by kernel_rfl) (hK _ _ (gb_rr W _) rfl)
      | 4, hin, ho, hu, hK =>
        cases ho
        have hw : w.grownBy W none := gb_trans HN.out hg
        have e33 : A.eval (.tmp 33) = .pointer (some ⟨g, 1, none⟩) := (ev_in hA 33 3 rfl rfl rfl).trans (show f 3 = .pointer (some ⟨g, 1, none⟩) from hu 3 (by decide))
        have hc : W.cell? ⟨g, 1, none⟩ = some (.pointer p) := (HB.out.grew hw (by simp)).cell 1
        refine ph_sem rfl rfl (r := .ok (.value (.pointer p)) W) ?_ (hK _ _ (gb_rr W _) rfl)
        have eC : ∀ c, A.eval (.const c) = c := fun _ => rfl; have eF : ∀ g, A.eval (.func g) = .func (.func g) #[] #[] := fun _ => rfl; generalize A.eval = ρ at *
        clear hA hu hg
        go_simp
      | 5, hin, ho, hu, hK =>
        cases ho
        have hw : w.grownBy W none := gb_trans HN.out hg
        have e3 : A.eval (.tmp 3) = .pointer (some ⟨N, 0, none⟩) := ev_out hA 3 rfl
        exact ph_load rfl 28 _ rfl Try.underlying28 rfl N 0 [.string x.1, .string x.2.1, .int .i64 x.2.2] (by kernel_rfl) e3 (it_range (HN2.out.grew hg (by simp))) (hK _ _ (gb_rr W _) rfl)
      | 6, hin, ho, hu, hK =>
        cases ho
        have hw : w.grownBy W none := gb_trans HN.out hg
        have e34 : A.eval (.tmp 34) = .pointer p := (ev_in hA 34 4 rfl rfl rfl).trans (show f 4 = .pointer p from hu 4 (by decide))
        have e35 : A.eval (.tmp 35) = .agg #[.string x.1, .string x.2.1, .int .i64 x.2.2] := (ev_in hA 35 5 rfl rfl rfl).trans (show f 5 = .agg #[.string x.1, .string x.2.1, .int .i64 x.2.2] from hu 5 (by decide))
        refine ph_fn 23 _ _ rfl rfl #[.pointer p, .agg #[.string x.1, .string x.2.1, .int .i64 x.2.2]] (by simp [e34, e35]) (by kernel_rfl) ?_
        refine (Calls.mono (HPt.out W hw) ?_)
        rintro e W' ⟨p, h, rfl, ht, hq⟩
        exact ⟨_, rfl, hK _ _ hq ⟨p, h, rfl, ht⟩⟩
      | 7, hin, ho, hu, hK =>
        cases ho
        have hw : w.grownBy W none := gb_trans HN.out hg
        have e30 : A.eval (.tmp 30) = .pointer (some ⟨g, 0, none⟩) := (ev_in hA 30 0 rfl rfl rfl).trans (show f 0 = .pointer (some ⟨g, 0, none⟩) from hu 0 (by decide))
        exact ph_nil _ rfl rfl _ e30 (hK _ _ (gb_rr W _) rfl)
      | 8, hin, ho, hu, hK =>
        cases ho
        have hw : w.grownBy W none := gb_trans HN.out hg
        have e37 : A.eval (.tmp 37) = .pointer (some ⟨g, 0, none⟩) := (ev_in hA 37 7 rfl rfl rfl).trans (show f 7 = .pointer (some ⟨g, 0, none⟩) from hu 7 (by decide))
        exact ph_field _ _ _ rfl rfl _ (.pointer (some ⟨g, 1, none⟩)) e37 (by kernel_rfl) (hK _ _ (gb_rr W _) rfl)
      | i + 9, hin, ho, hu, hK => omega
    case last =>
      intro f W A hA hg hu o ho K hK
      cases ho
      have hw : w.grownBy W none := gb_trans HN.out hg
      obtain ⟨p6, h6, hv6, ht6⟩ := hu 6 (by decide)
      have hBW : Bk 50 W g #[.bool true, .pointer p] := HB.out.grew hw (by simp)
      have kc : W.cell? ⟨g, 1, none⟩ = some (.pointer p) := hBW.cell 1
      have kf : W.frozen? ⟨g, 1, none⟩ = false := frozen_of_row _ _ _ _ _ hBW
      have e36 : A.eval (.tmp 36) = .pointer p6 := (ev_in hA 36 6 rfl rfl rfl).trans hv6
      have e38 : A.eval (.tmp 38) = .pointer (some ⟨g, 1, none⟩) := (ev_in hA 38 8 rfl rfl rfl).trans (show f 8 = .pointer (some ⟨g, 1, none⟩) from hu 8 (by decide))
      refine ph_sem rfl rfl (r := .ok .skip (W.setCell ⟨g, 1, none⟩ (.pointer p6))) ?_ (hK _ _ ?_)
      · generalize A.eval = ρ at *
        clear hA hu hg hw hv6
        go_simp
      · show _
        have H9 : Hid (Tbl o (W.setCell ⟨g, 1, none⟩ (.pointer p6)) g (putR x xs) ∧ w.grownBy (W.setCell ⟨g, 1, none⟩ (.pointer p6)) (some g)) := ⟨⟨p6, h6, hBW.set 1 (.pointer p6), ht6.gbr (gb_set _ _ _ _) (fun n e => by cases e; exact HOG.out), HPP.out⟩, gb_trans (gb_wide hw _) (gb_set _ _ _ _)⟩
        clear ht6 hBW kc kf e36 e38 hg hw
        have hA2 := hA.trans (putAll_lit [(.pointer (some ⟨g, 0, none⟩)), (.pointer (some ⟨g, 0, none⟩)), (.pointer (some ⟨g, 0, none⟩)), (.pointer (some ⟨g, 1, none⟩)), (.pointer p), (.agg #[.string x.1, .string x.2.1, .int .i64 x.2.2]), (.pointer p6), (.pointer (some ⟨g, 0, none⟩)), (.pointer (some ⟨g, 1, none⟩)), (f 9)] (by
          intro j hj
          match j, hj with
          | 0, _ => exact hu 0 (by decide)
          | 1, _ => exact hu 1 (by decide)
          | 2, _ => exact hu 2 (by decide)
          | 3, _ => exact hu 3 (by decide)
          | 4, _ => exact hu 4 (by decide)
          | 5, _ => exact hu 5 (by decide)
          | 6, _ => exact hv6
          | 7, _ => exact hu 7 (by decide)
          | 8, _ => exact hu 8 (by decide)
          | 9, _ => rfl
          | j + 10, hj => exact absurd hj (by simp)))
        clear hu hA
        subst hA2
        simp only [putAll, putL, List.mem_cons, List.not_mem_nil, List.idxOf_cons, Nat.reduceEqDiff, Nat.reduceBEq, Nat.reduceAdd, or_false, or_true, reduceIte, cond_true, cond_false, List.getD_cons_zero, List.getD_cons_succ, BEq.rfl]
        generalize World.setCell W _ _ = W9 at *
        go_wp2_with fail
        go_ret
        exact ⟨rfl, H9.out.1, H9.out.2⟩
/-- What Put answers, and what it makes of the rows. -/
def putE (x : Rw) (xs : List Rw) : Int := if rowE x ≠ 0 then rowE x else if xs.length = 1048576 ∧ getR x.1 xs = none then 3 else 0
def putS (x : Rw) (xs : List Rw) : List Rw := if putE x xs = 0 then putR x xs else xs
theorem tput_c (o : Nat → Prop) (x : Rw) (g : Nat) (xs : List Rw) (w : World) (ob : ∀ b, w.heap.size ≤ b → o b) (og : ¬ o g) (h : Tbl o w g xs) : Calls Try.prog 6 #[.pointer (some ⟨g, 0, none⟩), iv x] w fun e w' => e = .returned (.int .i64 (putE x xs)) ∧ Tbl o w' g (putS x xs) ∧ w.grownBy w' (some g) := by
  by_cases hx : rowE x = 0
  · by_cases hf : xs.length = 1048576
    · cases hk : getR x.1 xs with
      | none =>
        have e1 : putE x xs = 3 := by unfold putE; rw [if_neg (by simp [hx]), if_pos ⟨hf, hk⟩]
        have e2 : putS x xs = xs := by unfold putS; rw [if_neg (by rw [e1]; decide)]
        rw [e1, e2]
        refine (put_full o x g xs w ob og h hx hf hk).mono ?_
        rintro e w' ⟨rfl, h1, h2⟩
        exact ⟨rfl, h1, gb_wide h2 _⟩
      | some y =>
        have e1 : putE x xs = 0 := by unfold putE; rw [if_neg (by simp [hx]), if_neg (by rw [hk]; simp)]
        have e2 : putS x xs = putR x xs := by unfold putS; rw [if_pos e1]
        rw [e1, e2]
        exact put_over o x g xs w ob og h hx y hf hk
    · have e1 : putE x xs = 0 := by unfold putE; rw [if_neg (by simp [hx]), if_neg (fun h => hf h.1)]
      have e2 : putS x xs = putR x xs := by unfold putS; rw [if_pos e1]
      rw [e1, e2]
      exact put_room o x g xs w ob og h hx hf
  · have e1 : putE x xs = rowE x := by unfold putE; rw [if_pos hx]
    have e2 : putS x xs = xs := by unfold putS; rw [if_neg (by rw [e1]; exact hx)]
    rw [e1, e2]
    refine (put_bad o x g xs w ob og h hx).mono ?_
    rintro e w' ⟨rfl, h1, h2⟩
    exact ⟨rfl, h1, gb_wide h2 _⟩
end Go.Proofs.Ytdmchcdkfbijlab
