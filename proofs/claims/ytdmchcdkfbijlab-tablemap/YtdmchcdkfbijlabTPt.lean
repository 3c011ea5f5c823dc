/-
  What the tree's put answers: the tree with the row, in the place of the one with its key. Condition: its rows rise, and no number outgrows its kind.
-/
import Derived.Test.YtdmchcdkfbijlabTCm
import Derived.Test.YtdmchcdkfbijlabTPu
namespace Go.Proofs.Ytdmchcdkfbijlab
open Go.RowKit
set_option linter.unusedVariables false

/-- What put answers of trees of at most n rows. -/
def PutC (o : Nat → Prop) (n : Nat) : Prop := ∀ (x : Rw) (p : Option Addr) (h : Nat) (xs : List Rw) (w : World), (∀ b, w.heap.size ≤ b → o b) → Tr o w p h xs → xs.length ≤ n → Rises xs → Sm (putR x xs) → Calls Try.prog 23 #[.pointer p, iv x] w (TR o w (putR x xs))
set_option maxRecDepth 20000 in
set_option maxHeartbeats 1000000 in
theorem put_nil (o : Nat → Prop) (w : World) (ob : ∀ b, w.heap.size ≤ b → o b) (x : Rw) (hs : Sm [x]) : Calls Try.prog 23 #[.pointer none, iv x] w (TR o w [x]) := by
  have HS : Hid (Sm [x]) := hs
  have HO : Hid (∀ W, w.grownBy W none → Calls Try.prog 33 #[.pointer none, .agg #[.string x.1, .string x.2.1, .int .i64 x.2.2], .pointer none] W (TR o W [x])) := fun W hg => over_t o x none none 0 0 [] [] W (fun b hb => ob b (Nat.le_trans hg.size hb)) (tr_nil o W) (tr_nil o W) HS.out
  have HOB : Hid (∀ W, w.grownBy W none → ∀ b, W.heap.size ≤ b → o b) := fun W hg b hb => ob b (Nat.le_trans hg.size hb)
  have HN : Hid (w.grownBy (w.alloc (.cells #[.string x.1, .string x.2.1, .int .i64 x.2.2] 52)) none) := gb_alloc _ _
  have HN2 : Hid (Bk 52 (w.alloc (.cells #[.string x.1, .string x.2.1, .int .i64 x.2.2] 52)) w.heap.size (ivs x)) := (blk_new w 52 _).1
  clear hs ob HOB
  unfold iv
  go_enter Try.func23, Try.ntmps23
  go_wp2_with fail
  generalize hW1 : World.alloc w _ = w1 at *
  clear hW1
  obtain ⟨N, hN⟩ : ∃ N, N = w.heap.size := ⟨_, rfl⟩
  rw [← hN] at HN2 ⊢
  clear hN
  go_wp2_with (first
    | (refine wpList_load_bk 52 rfl (.tmp 3) rfl Try.underlying52 rfl infoItem N (ivs x) rfl HN2.out rfl ?_)
    | (go_at_call 33; go_must (refine (Calls.mono (HO.out _ HN.out) ?_)); rintro e wq ⟨p, h, rfl, ht, hq⟩))
  go_ret
  exact ⟨p, h, rfl, ht, gb_trans HN.out hq⟩
set_option maxRecDepth 20000 in
set_option maxHeartbeats 1000000 in
theorem put_lt (o : Nat → Prop) (n : Nat) (w : World) (ob : ∀ b, w.heap.size ≤ b → o b) (x y : Rw) (b : Nat) (pl pr : Option Addr) (hh nn zz hl hr : Nat) (l r : List Rw)
    (hb : Bk 62 w b (nc y pl pr hh nn zz)) (T1 : Tr o w pl hl l) (T2 : Tr o w pr hr r) (ih : PutC o n) (hn : l.length ≤ n) (hR : Rises l) (hc : cmpT x.1 y.1 = -1) (hs : Sm (putR x l ++ y :: r)) : Calls Try.prog 23 #[.pointer (some ⟨b, 0, none⟩), iv x] w (TR o w (putR x l ++ y :: r)) := by
  have HS : Hid (Sm (putR x l ++ y :: r)) := hs
  have HB : Hid (Bk 62 w b (nc y pl pr hh nn zz)) := hb
  have U1 : Hid (Tr o w pl hl l) := T1
  have U2 : Hid (Tr o w pr hr r) := T2
  have HC : Hid (∀ W, Calls Try.prog 34 #[.string x.1, .string y.1] W fun r w' => r = .returned (.int .i64 (-1)) ∧ w' = W) := fun W => by rw [← hc]; exact compare_c x.1 y.1 W
  have HI : Hid (PutC o n) := ih
  have HLN : Hid (l.length ≤ n) := hn
  have HRI : Hid (Rises l) := hR
  have HOB : Hid (∀ W, w.grownBy W none → ∀ b, W.heap.size ≤ b → o b) := fun W hg b hb => ob b (Nat.le_trans hg.size hb)
  have HN : Hid (w.grownBy (w.alloc (.cells #[.string x.1, .string x.2.1, .int .i64 x.2.2] 52)) none) := gb_alloc _ _
  have HN2 : Hid (Bk 52 (w.alloc (.cells #[.string x.1, .string x.2.1, .int .i64 x.2.2] 52)) w.heap.size (ivs x)) := (blk_new w 52 _).1
  clear hs hb T1 T2 hc ob ih hn hR
  unfold iv
  go_enter Try.func23, Try.ntmps23
  go_wp2_with fail
  generalize hW1 : World.alloc w _ = w1 at *
  clear hW1
  obtain ⟨N, hN⟩ : ∃ N, N = w.heap.size := ⟨_, rfl⟩
  rw [← hN] at HN2 ⊢
  clear hN
  refine wp_region_phi none rfl (by kernel_rfl) [9, 10, 11, 12, 13, 14, 15, 16, 17, 18] [[], [0], [1], [], [3], [4], [5], [6], [7], [2, 8]] (by kernel_rfl) [fun u W => u = .agg #[.string x.1, .string x.2.1, .int .i64 x.2.2], fun u W => u = .iface 52 (.agg #[.string x.1, .string x.2.1, .int .i64 x.2.2]), fun u W => u = .string x.1, fun u W => u = .pointer (some ⟨b, 0, none⟩), fun u W => u = .pointer (some ⟨b, 0, none⟩), fun u W => u = .pointer (some ⟨b, 0, none⟩), fun u W => u = .agg #[.string y.1, .string y.2.1, .int .i64 y.2.2], fun u W => u = .iface 52 (.agg #[.string y.1, .string y.2.1, .int .i64 y.2.2]), fun u W => u = .string y.1, fun u W => u = .int .i64 (-1)] ?stable ?step ?fin
  case stable =>
    intro i v W W' h hg
    match i, h with
    | 0, h => exact h
    | 1, h => exact h
    | 2, h => exact h
    | 3, h => exact h
    | 4, h => exact h
    | 5, h => exact h
    | 6, h => exact h
    | 7, h => exact h
    | 8, h => exact h
    | 9, h => exact h
    | i + 10, h => exact trivial
  case step =>
    intro f W A hA hg i o ho hu K hK
    match i, ho, hu, hK with
    | 0, ho, hu, hK =>
      cases ho
      have hw : w.grownBy W none := gb_trans HN.out hg
      have e3 : A.eval (.tmp 3) = .pointer (some ⟨N, 0, none⟩) := ev_out hA 3 rfl
      exact ph_load rfl 52 _ rfl Try.underlying52 rfl N 0 [.string x.1, .string x.2.1, .int .i64 x.2.2] (by kernel_rfl) e3 (it_range (HN2.out.grew hg (by simp))) (hK _ _ (gb_rr W _) rfl)
    | 1, ho, hu, hK =>
      cases ho
      have hw : w.grownBy W none := gb_trans HN.out hg
      have e9 : A.eval (.tmp 9) = .agg #[.string x.1, .string x.2.1, .int .i64 x.2.2] := (ev_in hA 9 0 rfl rfl rfl).trans (show f 0 = .agg #[.string x.1, .string x.2.1, .int .i64 x.2.2] from hu 0 (by decide))
      have eC : ∀ c, A.eval (.const c) = c := fun _ => rfl; have eF : ∀ g, A.eval (.func g) = .func (.func g) #[] #[] := fun _ => rfl; generalize hρ : A.eval = ρ at *
      clear hA hu
      refine ph_sem hρ rfl (r := .ok (.value (.iface 52 (.agg #[.string x.1, .string x.2.1, .int .i64 x.2.2]))) W) ?_ (hK _ _ (gb_rr W _) rfl)
      go_simp
    | 2, ho, hu, hK =>
      cases ho
      have hw : w.grownBy W none := gb_trans HN.out hg
      have e10 : A.eval (.tmp 10) = .iface 52 (.agg #[.string x.1, .string x.2.1, .int .i64 x.2.2]) := (ev_in hA 10 1 rfl rfl rfl).trans (show f 1 = .iface 52 (.agg #[.string x.1, .string x.2.1, .int .i64 x.2.2]) from hu 1 (by decide))
      refine ph_inv _ _ _ rfl rfl _ e10 74 #[.agg #[.string x.1, .string x.2.1, .int .i64 x.2.2]] (by kernel_rfl) ?_
      refine (Calls.mono (place_c x W) ?_)
      rintro e W' ⟨rfl, hq⟩
      exact ⟨_, rfl, hK _ _ hq rfl⟩
    | 3, ho, hu, hK =>
      cases ho
      have hw : w.grownBy W none := gb_trans HN.out hg
      have e0 : A.eval (.tmp 0) = .pointer (some ⟨b, 0, none⟩) := ev_out hA 0 rfl
      exact ph_move _ rfl rfl (.pointer (some ⟨b, 0, none⟩)) e0 (hK _ _ (gb_rr W _) rfl)
    | 4, ho, hu, hK =>
      cases ho
      have hw : w.grownBy W none := gb_trans HN.out hg
      have e12 : A.eval (.tmp 12) = .pointer (some ⟨b, 0, none⟩) := (ev_in hA 12 3 rfl rfl rfl).trans (show f 3 = .pointer (some ⟨b, 0, none⟩) from hu 3 (by decide))
      exact ph_nil _ rfl rfl _ e12 (hK _ _ (gb_rr W _) rfl)
    | 5, ho, hu, hK =>
      cases ho
      have hw : w.grownBy W none := gb_trans HN.out hg
      have e13 : A.eval (.tmp 13) = .pointer (some ⟨b, 0, none⟩) := (ev_in hA 13 4 rfl rfl rfl).trans (show f 4 = .pointer (some ⟨b, 0, none⟩) from hu 4 (by decide))
      exact ph_field _ _ _ rfl rfl _ (.pointer (some ⟨b, 0, none⟩)) e13 (by kernel_rfl) (hK _ _ (gb_rr W _) rfl)
    | 6, ho, hu, hK =>
      cases ho
      have hw : w.grownBy W none := gb_trans HN.out hg
      have e14 : A.eval (.tmp 14) = .pointer (some ⟨b, 0, none⟩) := (ev_in hA 14 5 rfl rfl rfl).trans (show f 5 = .pointer (some ⟨b, 0, none⟩) from hu 5 (by decide))
      exact ph_load rfl 52 _ rfl Try.underlying52 rfl b 0 [.string y.1, .string y.2.1, .int .i64 y.2.2] (by kernel_rfl) e14 (nc_range (HB.out.grew hw (by simp))) (hK _ _ (gb_rr W _) rfl)
    | 7, ho, hu, hK =>
      cases ho
      have hw : w.grownBy W none := gb_trans HN.out hg
      have e15 : A.eval (.tmp 15) = .agg #[.string y.1, .string y.2.1, .int .i64 y.2.2] := (ev_in hA 15 6 rfl rfl rfl).trans (show f 6 = .agg #[.string y.1, .string y.2.1, .int .i64 y.2.2] from hu 6 (by decide))
      have eC : ∀ c, A.eval (.const c) = c := fun _ => rfl; have eF : ∀ g, A.eval (.func g) = .func (.func g) #[] #[] := fun _ => rfl; generalize hρ : A.eval = ρ at *
      clear hA hu
      refine ph_sem hρ rfl (r := .ok (.value (.iface 52 (.agg #[.string y.1, .string y.2.1, .int .i64 y.2.2]))) W) ?_ (hK _ _ (gb_rr W _) rfl)
      go_simp
    | 8, ho, hu, hK =>
      cases ho
      have hw : w.grownBy W none := gb_trans HN.out hg
      have e16 : A.eval (.tmp 16) = .iface 52 (.agg #[.string y.1, .string y.2.1, .int .i64 y.2.2]) := (ev_in hA 16 7 rfl rfl rfl).trans (show f 7 = .iface 52 (.agg #[.string y.1, .string y.2.1, .int .i64 y.2.2]) from hu 7 (by decide))
      refine ph_inv _ _ _ rfl rfl _ e16 74 #[.agg #[.string y.1, .string y.2.1, .int .i64 y.2.2]] (by kernel_rfl) ?_
      refine (Calls.mono (place_c y W) ?_)
      rintro e W' ⟨rfl, hq⟩
      exact ⟨_, rfl, hK _ _ hq rfl⟩
    | 9, ho, hu, hK =>
      cases ho
      have hw : w.grownBy W none := gb_trans HN.out hg
      have e11 : A.eval (.tmp 11) = .string x.1 := (ev_in hA 11 2 rfl rfl rfl).trans (show f 2 = .string x.1 from hu 2 (by decide))
      have e17 : A.eval (.tmp 17) = .string y.1 := (ev_in hA 17 8 rfl rfl rfl).trans (show f 8 = .string y.1 from hu 8 (by decide))
      refine ph_fn 34 _ _ rfl rfl #[.string x.1, .string y.1] (by simp [e11, e17]) (by kernel_rfl) ?_
      refine (Calls.mono (HC.out W) ?_)
      rintro e W' ⟨rfl, rfl⟩
      exact ⟨_, rfl, hK _ _ (gb_rr _ _) rfl⟩
    | i + 10, ho, hu, hK => simp at ho
  case fin =>
    intro f W A hA hg hu
    have hA2 := hA.trans (putAll_lit [(.agg #[.string x.1, .string x.2.1, .int .i64 x.2.2]), (.iface 52 (.agg #[.string x.1, .string x.2.1, .int .i64 x.2.2])), (.string x.1), (.pointer (some ⟨b, 0, none⟩)), (.pointer (some ⟨b, 0, none⟩)), (.pointer (some ⟨b, 0, none⟩)), (.agg #[.string y.1, .string y.2.1, .int .i64 y.2.2]), (.iface 52 (.agg #[.string y.1, .string y.2.1, .int .i64 y.2.2])), (.string y.1), (.int .i64 (-1))] (by
      intro j hj
      match j, hj with
      | 0, _ => exact hu 0 (by decide)
      | 1, _ => exact hu 1 (by decide)
      | 2, _ => exact hu 2 (by decide)
      | 3, _ => exact hu 3 (by decide)
      | 4, _ => exact hu 4 (by decide)
      | 5, _ => exact hu 5 (by decide)
      | 6, _ => exact hu 6 (by decide)
      | 7, _ => exact hu 7 (by decide)
      | 8, _ => exact hu 8 (by decide)
      | 9, _ => exact hu 9 (by decide)
      | j + 10, hj => exact absurd hj (by simp)))
    clear hu hA
    subst hA2
    simp only [putAll, putL, List.mem_cons, List.not_mem_nil, List.idxOf_cons, Nat.reduceEqDiff, Nat.reduceBEq, Nat.reduceAdd, or_false, or_true, reduceIte, cond_true, cond_false, List.getD_cons_zero, List.getD_cons_succ, BEq.rfl]
    replace HN : Hid (w.grownBy W none) := gb_trans HN.out hg
    replace HN2 : Hid (Bk 52 W N (ivs x)) := HN2.out.grew hg (by simp)
    clear hg
    go_wp2_with fail
    refine wp_region_phi none rfl (by kernel_rfl) [21, 22, 23, 24, 25, 26, 27, 28, 29, 30, 31, 32, 33, 34, 35, 4] [[], [0], [1], [2], [], [3, 4], [], [6], [7], [8], [], [10], [11], [12], [5, 9, 13], [14]] (by kernel_rfl) [fun u W => u = .pointer (some ⟨b, 0, none⟩), fun u W => u = .pointer (some ⟨b, 0, none⟩), fun u W => u = .pointer (some ⟨b, 3, none⟩), fun u W => u = .pointer pl, fun u W => u = .agg #[.string x.1, .string x.2.1, .int .i64 x.2.2], fun u W => ∃ p h, u = .pointer p ∧ Tr o W p h (putR x l), fun u W => u = .pointer (some ⟨b, 0, none⟩), fun u W => u = .pointer (some ⟨b, 0, none⟩), fun u W => u = .pointer (some ⟨b, 0, none⟩), fun u W => u = .agg #[.string y.1, .string y.2.1, .int .i64 y.2.2], fun u W => u = .pointer (some ⟨b, 0, none⟩), fun u W => u = .pointer (some ⟨b, 0, none⟩), fun u W => u = .pointer (some ⟨b, 4, none⟩), fun u W => u = .pointer pr, fun u W => ∃ p h, u = .pointer p ∧ Tr o W p h (putR x l ++ y :: r), fun u W => ∃ p h, u = .pointer p ∧ Tr o W p h (putR x l ++ y :: r)] ?stable ?step ?fin
    case stable =>
      intro i v W W' h hg
      match i, h with
      | 0, h => exact h
      | 1, h => exact h
      | 2, h => exact h
      | 3, h => exact h
      | 4, h => exact h
      | 5, h => obtain ⟨p, h, h1, h2⟩ := h; exact ⟨p, h, h1, h2.gb hg⟩
      | 6, h => exact h
      | 7, h => exact h
      | 8, h => exact h
      | 9, h => exact h
      | 10, h => exact h
      | 11, h => exact h
      | 12, h => exact h
      | 13, h => exact h
      | 14, h => obtain ⟨p, h, h1, h2⟩ := h; exact ⟨p, h, h1, h2.gb hg⟩
      | 15, h => obtain ⟨p, h, h1, h2⟩ := h; exact ⟨p, h, h1, h2.gb hg⟩
      | i + 16, h => exact trivial
    case step =>
      intro f W A hA hg i o ho hu K hK
      match i, ho, hu, hK with
      | 0, ho, hu, hK =>
        cases ho
        have hw : w.grownBy W none := gb_trans HN.out hg
        have e0 : A.eval (.tmp 0) = .pointer (some ⟨b, 0, none⟩) := ev_out hA 0 rfl
        exact ph_move _ rfl rfl (.pointer (some ⟨b, 0, none⟩)) e0 (hK _ _ (gb_rr W _) rfl)
      | 1, ho, hu, hK =>
        cases ho
        have hw : w.grownBy W none := gb_trans HN.out hg
        have e21 : A.eval (.tmp 21) = .pointer (some ⟨b, 0, none⟩) := (ev_in hA 21 0 rfl rfl rfl).trans (show f 0 = .pointer (some ⟨b, 0, none⟩) from hu 0 (by decide))
        exact ph_nil _ rfl rfl _ e21 (hK _ _ (gb_rr W _) rfl)
      | 2, ho, hu, hK =>
        cases ho
        have hw : w.grownBy W none := gb_trans HN.out hg
        have e22 : A.eval (.tmp 22) = .pointer (some ⟨b, 0, none⟩) := (ev_in hA 22 1 rfl rfl rfl).trans (show f 1 = .pointer (some ⟨b, 0, none⟩) from hu 1 (by decide))
        exact ph_field _ _ _ rfl rfl _ (.pointer (some ⟨b, 3, none⟩)) e22 (by kernel_rfl) (hK _ _ (gb_rr W _) rfl)
      | 3, ho, hu, hK =>
        cases ho
        have hw : w.grownBy W none := gb_trans HN.out hg
        have e23 : A.eval (.tmp 23) = .pointer (some ⟨b, 3, none⟩) := (ev_in hA 23 2 rfl rfl rfl).trans (show f 2 = .pointer (some ⟨b, 3, none⟩) from hu 2 (by decide))
        have hc : W.cell? ⟨b, 3, none⟩ = some (.pointer pl) := (HB.out.grew hw (by simp)).cell 3
        have eC : ∀ c, A.eval (.const c) = c := fun _ => rfl; have eF : ∀ g, A.eval (.func g) = .func (.func g) #[] #[] := fun _ => rfl; generalize hρ : A.eval = ρ at *
        clear hA hu hg
        refine ph_sem hρ rfl (r := .ok (.value (.pointer pl)) W) ?_ (hK _ _ (gb_rr W _) rfl)
        go_simp
      | 4, ho, hu, hK =>
        cases ho
        have hw : w.grownBy W none := gb_trans HN.out hg
        have e3 : A.eval (.tmp 3) = .pointer (some ⟨N, 0, none⟩) := ev_out hA 3 rfl
        exact ph_load rfl 52 _ rfl Try.underlying52 rfl N 0 [.string x.1, .string x.2.1, .int .i64 x.2.2] (by kernel_rfl) e3 (it_range (HN2.out.grew hg (by simp))) (hK _ _ (gb_rr W _) rfl)
      | 5, ho, hu, hK =>
        cases ho
        have hw : w.grownBy W none := gb_trans HN.out hg
        have e24 : A.eval (.tmp 24) = .pointer pl := (ev_in hA 24 3 rfl rfl rfl).trans (show f 3 = .pointer pl from hu 3 (by decide))
        have e25 : A.eval (.tmp 25) = .agg #[.string x.1, .string x.2.1, .int .i64 x.2.2] := (ev_in hA 25 4 rfl rfl rfl).trans (show f 4 = .agg #[.string x.1, .string x.2.1, .int .i64 x.2.2] from hu 4 (by decide))
        refine ph_fn 23 _ _ rfl rfl #[.pointer pl, .agg #[.string x.1, .string x.2.1, .int .i64 x.2.2]] (by simp [e24, e25]) (by kernel_rfl) ?_
        refine (Calls.mono (HI.out x pl _ l W (HOB.out W hw) (U1.out.gb hw) HLN.out HRI.out (by have := HS.out; simp only [Sm, List.length_append, List.length_cons, szs_app, szs_cons] at this ⊢; omega)) ?_)
        rintro e W' ⟨p, h, rfl, ht, hq⟩
        exact ⟨_, rfl, hK _ _ hq ⟨p, h, rfl, ht⟩⟩
      | 6, ho, hu, hK =>
        cases ho
        have hw : w.grownBy W none := gb_trans HN.out hg
        have e0 : A.eval (.tmp 0) = .pointer (some ⟨b, 0, none⟩) := ev_out hA 0 rfl
        exact ph_move _ rfl rfl (.pointer (some ⟨b, 0, none⟩)) e0 (hK _ _ (gb_rr W _) rfl)
      | 7, ho, hu, hK =>
        cases ho
        have hw : w.grownBy W none := gb_trans HN.out hg
        have e27 : A.eval (.tmp 27) = .pointer (some ⟨b, 0, none⟩) := (ev_in hA 27 6 rfl rfl rfl).trans (show f 6 = .pointer (some ⟨b, 0, none⟩) from hu 6 (by decide))
        exact ph_nil _ rfl rfl _ e27 (hK _ _ (gb_rr W _) rfl)
      | 8, ho, hu, hK =>
        cases ho
        have hw : w.grownBy W none := gb_trans HN.out hg
        have e28 : A.eval (.tmp 28) = .pointer (some ⟨b, 0, none⟩) := (ev_in hA 28 7 rfl rfl rfl).trans (show f 7 = .pointer (some ⟨b, 0, none⟩) from hu 7 (by decide))
        exact ph_field _ _ _ rfl rfl _ (.pointer (some ⟨b, 0, none⟩)) e28 (by kernel_rfl) (hK _ _ (gb_rr W _) rfl)
      | 9, ho, hu, hK =>
        cases ho
        have hw : w.grownBy W none := gb_trans HN.out hg
        have e29 : A.eval (.tmp 29) = .pointer (some ⟨b, 0, none⟩) := (ev_in hA 29 8 rfl rfl rfl).trans (show f 8 = .pointer (some ⟨b, 0, none⟩) from hu 8 (by decide))
        exact ph_load rfl 52 _ rfl Try.underlying52 rfl b 0 [.string y.1, .string y.2.1, .int .i64 y.2.2] (by kernel_rfl) e29 (nc_range (HB.out.grew hw (by simp))) (hK _ _ (gb_rr W _) rfl)
      | 10, ho, hu, hK =>
        cases ho
        have hw : w.grownBy W none := gb_trans HN.out hg
        have e0 : A.eval (.tmp 0) = .pointer (some ⟨b, 0, none⟩) := ev_out hA 0 rfl
        exact ph_move _ rfl rfl (.pointer (some ⟨b, 0, none⟩)) e0 (hK _ _ (gb_rr W _) rfl)
      | 11, ho, hu, hK =>
        cases ho
        have hw : w.grownBy W none := gb_trans HN.out hg
        have e31 : A.eval (.tmp 31) = .pointer (some ⟨b, 0, none⟩) := (ev_in hA 31 10 rfl rfl rfl).trans (show f 10 = .pointer (some ⟨b, 0, none⟩) from hu 10 (by decide))
        exact ph_nil _ rfl rfl _ e31 (hK _ _ (gb_rr W _) rfl)
      | 12, ho, hu, hK =>
        cases ho
        have hw : w.grownBy W none := gb_trans HN.out hg
        have e32 : A.eval (.tmp 32) = .pointer (some ⟨b, 0, none⟩) := (ev_in hA 32 11 rfl rfl rfl).trans (show f 11 = .pointer (some ⟨b, 0, none⟩) from hu 11 (by decide))
        exact ph_field _ _ _ rfl rfl _ (.pointer (some ⟨b, 4, none⟩)) e32 (by kernel_rfl) (hK _ _ (gb_rr W _) rfl)
      | 13, ho, hu, hK =>
        cases ho
        have hw : w.grownBy W none := gb_trans HN.out hg
        have e33 : A.eval (.tmp 33) = .pointer (some ⟨b, 4, none⟩) := (ev_in hA 33 12 rfl rfl rfl).trans (show f 12 = .pointer (some ⟨b, 4, none⟩) from hu 12 (by decide))
        have hc : W.cell? ⟨b, 4, none⟩ = some (.pointer pr) := (HB.out.grew hw (by simp)).cell 4
        have eC : ∀ c, A.eval (.const c) = c := fun _ => rfl; have eF : ∀ g, A.eval (.func g) = .func (.func g) #[] #[] := fun _ => rfl; generalize hρ : A.eval = ρ at *
        clear hA hu hg
        refine ph_sem hρ rfl (r := .ok (.value (.pointer pr)) W) ?_ (hK _ _ (gb_rr W _) rfl)
        go_simp
      | 14, ho, hu, hK =>
        cases ho
        have hw : w.grownBy W none := gb_trans HN.out hg
        obtain ⟨p5, h5, hv5, ht5⟩ := hu 5 (by decide)
        have e26 : A.eval (.tmp 26) = .pointer p5 := (ev_in hA 26 5 rfl rfl rfl).trans hv5
        have e30 : A.eval (.tmp 30) = .agg #[.string y.1, .string y.2.1, .int .i64 y.2.2] := (ev_in hA 30 9 rfl rfl rfl).trans (show f 9 = .agg #[.string y.1, .string y.2.1, .int .i64 y.2.2] from hu 9 (by decide))
        have e34 : A.eval (.tmp 34) = .pointer pr := (ev_in hA 34 13 rfl rfl rfl).trans (show f 13 = .pointer pr from hu 13 (by decide))
        refine ph_fn 35 _ _ rfl rfl #[.pointer p5, .agg #[.string y.1, .string y.2.1, .int .i64 y.2.2], .pointer pr] (by simp [e26, e30, e34]) (by kernel_rfl) ?_
        refine (Calls.mono (join_t o y p5 pr _ _ (putR x l) r W (HOB.out W hw) ht5 (U2.out.gb hw) (by have := HS.out; simp only [Sm, List.length_append, List.length_cons, szs_app, szs_cons] at this ⊢; omega)) ?_)
        rintro e W' ⟨p, h, rfl, ht, hq⟩
        exact ⟨_, rfl, hK _ _ hq ⟨p, h, rfl, ht⟩⟩
      | 15, ho, hu, hK =>
        cases ho
        have hw : w.grownBy W none := gb_trans HN.out hg
        obtain ⟨p14, h14, hv14, ht14⟩ := hu 14 (by decide)
        have e35 : A.eval (.tmp 35) = .pointer p14 := (ev_in hA 35 14 rfl rfl rfl).trans hv14
        exact ph_assign _ rfl rfl _ (e35) (hK _ _ (gb_rr W _) ⟨p14, h14, rfl, ht14⟩)
      | i + 16, ho, hu, hK => simp at ho
    case fin =>
      intro f W A hA hg hu
      obtain ⟨p, h, h1, h2⟩ := hu 15 (by decide)
      refine (by assumption : ∀ (a : Act) (w : World), Code.wp Try.prog Code.ret _ a w → _) A W ?_
      refine wp_ret ?_
      refine ret_ph (fn := Try.f23) hA 4 Try.results23 rfl ((ev_in hA 4 15 rfl rfl rfl).trans h1) ?_
      exact ⟨p, h, rfl, h2, gb_trans HN.out hg⟩
set_option maxRecDepth 20000 in
set_option maxHeartbeats 1000000 in
theorem put_gt (o : Nat → Prop) (n : Nat) (w : World) (ob : ∀ b, w.heap.size ≤ b → o b) (x y : Rw) (b : Nat) (pl pr : Option Addr) (hh nn zz hl hr : Nat) (l r : List Rw)
    (hb : Bk 62 w b (nc y pl pr hh nn zz)) (T1 : Tr o w pl hl l) (T2 : Tr o w pr hr r) (ih : PutC o n) (hn : r.length ≤ n) (hR : Rises r) (hc : cmpT x.1 y.1 = 1) (hs : Sm (l ++ y :: putR x r)) : Calls Try.prog 23 #[.pointer (some ⟨b, 0, none⟩), iv x] w (TR o w (l ++ y :: putR x r)) := by
  have HS : Hid (Sm (l ++ y :: putR x r)) := hs
  have HB : Hid (Bk 62 w b (nc y pl pr hh nn zz)) := hb
  have U1 : Hid (Tr o w pl hl l) := T1
  have U2 : Hid (Tr o w pr hr r) := T2
  have HC : Hid (∀ W, Calls Try.prog 34 #[.string x.1, .string y.1] W fun r w' => r = .returned (.int .i64 (1)) ∧ w' = W) := fun W => by rw [← hc]; exact compare_c x.1 y.1 W
  have HI : Hid (PutC o n) := ih
  have HLN : Hid (r.length ≤ n) := hn
  have HRI : Hid (Rises r) := hR
  have HOB : Hid (∀ W, w.grownBy W none → ∀ b, W.heap.size ≤ b → o b) := fun W hg b hb => ob b (Nat.le_trans hg.size hb)
  have HN : Hid (w.grownBy (w.alloc (.cells #[.string x.1, .string x.2.1, .int .i64 x.2.2] 52)) none) := gb_alloc _ _
  have HN2 : Hid (Bk 52 (w.alloc (.cells #[.string x.1, .string x.2.1, .int .i64 x.2.2] 52)) w.heap.size (ivs x)) := (blk_new w 52 _).1
  clear hs hb T1 T2 hc ob ih hn hR
  unfold iv
  go_enter Try.func23, Try.ntmps23
  go_wp2_with fail
  generalize hW1 : World.alloc w _ = w1 at *
  clear hW1
  obtain ⟨N, hN⟩ : ∃ N, N = w.heap.size := ⟨_, rfl⟩
  rw [← hN] at HN2 ⊢
  clear hN
  refine wp_region_phi none rfl (by kernel_rfl) [9, 10, 11, 12, 13, 14, 15, 16, 17, 18] [[], [0], [1], [], [3], [4], [5], [6], [7], [2, 8]] (by kernel_rfl) [fun u W => u = .agg #[.string x.1, .string x.2.1, .int .i64 x.2.2], fun u W => u = .iface 52 (.agg #[.string x.1, .string x.2.1, .int .i64 x.2.2]), fun u W => u = .string x.1, fun u W => u = .pointer (some ⟨b, 0, none⟩), fun u W => u = .pointer (some ⟨b, 0, none⟩), fun u W => u = .pointer (some ⟨b, 0, none⟩), fun u W => u = .agg #[.string y.1, .string y.2.1, .int .i64 y.2.2], fun u W => u = .iface 52 (.agg #[.string y.1, .string y.2.1, .int .i64 y.2.2]), fun u W => u = .string y.1, fun u W => u = .int .i64 (1)] ?stable ?step ?fin
  case stable =>
    intro i v W W' h hg
    match i, h with
    | 0, h => exact h
    | 1, h => exact h
    | 2, h => exact h
    | 3, h => exact h
    | 4, h => exact h
    | 5, h => exact h
    | 6, h => exact h
    | 7, h => exact h
    | 8, h => exact h
    | 9, h => exact h
    | i + 10, h => exact trivial
  case step =>
    intro f W A hA hg i o ho hu K hK
    match i, ho, hu, hK with
    | 0, ho, hu, hK =>
      cases ho
      have hw : w.grownBy W none := gb_trans HN.out hg
      have e3 : A.eval (.tmp 3) = .pointer (some ⟨N, 0, none⟩) := ev_out hA 3 rfl
      exact ph_load rfl 52 _ rfl Try.underlying52 rfl N 0 [.string x.1, .string x.2.1, .int .i64 x.2.2] (by kernel_rfl) e3 (it_range (HN2.out.grew hg (by simp))) (hK _ _ (gb_rr W _) rfl)
    | 1, ho, hu, hK =>
      cases ho
      have hw : w.grownBy W none := gb_trans HN.out hg
      have e9 : A.eval (.tmp 9) = .agg #[.string x.1, .string x.2.1, .int .i64 x.2.2] := (ev_in hA 9 0 rfl rfl rfl).trans (show f 0 = .agg #[.string x.1, .string x.2.1, .int .i64 x.2.2] from hu 0 (by decide))
      have eC : ∀ c, A.eval (.const c) = c := fun _ => rfl; have eF : ∀ g, A.eval (.func g) = .func (.func g) #[] #[] := fun _ => rfl; generalize hρ : A.eval = ρ at *
      clear hA hu
      refine ph_sem hρ rfl (r := .ok (.value (.iface 52 (.agg #[.string x.1, .string x.2.1, .int .i64 x.2.2]))) W) ?_ (hK _ _ (gb_rr W _) rfl)
      go_simp
    | 2, ho, hu, hK =>
      cases ho
      have hw : w.grownBy W none := gb_trans HN.out hg
      have e10 : A.eval (.tmp 10) = .iface 52 (.agg #[.string x.1, .string x.2.1, .int .i64 x.2.2]) := (ev_in hA 10 1 rfl rfl rfl).trans (show f 1 = .iface 52 (.agg #[.string x.1, .string x.2.1, .int .i64 x.2.2]) from hu 1 (by decide))
      refine ph_inv _ _ _ rfl rfl _ e10 74 #[.agg #[.string x.1, .string x.2.1, .int .i64 x.2.2]] (by kernel_rfl) ?_
      refine (Calls.mono (place_c x W) ?_)
      rintro e W' ⟨rfl, hq⟩
      exact ⟨_, rfl, hK _ _ hq rfl⟩
    | 3, ho, hu, hK =>
      cases ho
      have hw : w.grownBy W none := gb_trans HN.out hg
      have e0 : A.eval (.tmp 0) = .pointer (some ⟨b, 0, none⟩) := ev_out hA 0 rfl
      exact ph_move _ rfl rfl (.pointer (some ⟨b, 0, none⟩)) e0 (hK _ _ (gb_rr W _) rfl)
    | 4, ho, hu, hK =>
      cases ho
      have hw : w.grownBy W none := gb_trans HN.out hg
      have e12 : A.eval (.tmp 12) = .pointer (some ⟨b, 0, none⟩) := (ev_in hA 12 3 rfl rfl rfl).trans (show f 3 = .pointer (some ⟨b, 0, none⟩) from hu 3 (by decide))
      exact ph_nil _ rfl rfl _ e12 (hK _ _ (gb_rr W _) rfl)
    | 5, ho, hu, hK =>
      cases ho
      have hw : w.grownBy W none := gb_trans HN.out hg
      have e13 : A.eval (.tmp 13) = .pointer (some ⟨b, 0, none⟩) := (ev_in hA 13 4 rfl rfl rfl).trans (show f 4 = .pointer (some ⟨b, 0, none⟩) from hu 4 (by decide))
      exact ph_field _ _ _ rfl rfl _ (.pointer (some ⟨b, 0, none⟩)) e13 (by kernel_rfl) (hK _ _ (gb_rr W _) rfl)
    | 6, ho, hu, hK =>
      cases ho
      have hw : w.grownBy W none := gb_trans HN.out hg
      have e14 : A.eval (.tmp 14) = .pointer (some ⟨b, 0, none⟩) := (ev_in hA 14 5 rfl rfl rfl).trans (show f 5 = .pointer (some ⟨b, 0, none⟩) from hu 5 (by decide))
      exact ph_load rfl 52 _ rfl Try.underlying52 rfl b 0 [.string y.1, .string y.2.1, .int .i64 y.2.2] (by kernel_rfl) e14 (nc_range (HB.out.grew hw (by simp))) (hK _ _ (gb_rr W _) rfl)
    | 7, ho, hu, hK =>
      cases ho
      have hw : w.grownBy W none := gb_trans HN.out hg
      have e15 : A.eval (.tmp 15) = .agg #[.string y.1, .string y.2.1, .int .i64 y.2.2] := (ev_in hA 15 6 rfl rfl rfl).trans (show f 6 = .agg #[.string y.1, .string y.2.1, .int .i64 y.2.2] from hu 6 (by decide))
      have eC : ∀ c, A.eval (.const c) = c := fun _ => rfl; have eF : ∀ g, A.eval (.func g) = .func (.func g) #[] #[] := fun _ => rfl; generalize hρ : A.eval = ρ at *
      clear hA hu
      refine ph_sem hρ rfl (r := .ok (.value (.iface 52 (.agg #[.string y.1, .string y.2.1, .int .i64 y.2.2]))) W) ?_ (hK _ _ (gb_rr W _) rfl)
      go_simp
    | 8, ho, hu, hK =>
      cases ho
      have hw : w.grownBy W none := gb_trans HN.out hg
      have e16 : A.eval (.tmp 16) = .iface 52 (.agg #[.string y.1, .string y.2.1, .int .i64 y.2.2]) := (ev_in hA 16 7 rfl rfl rfl).trans (show f 7 = .iface 52 (.agg #[.string y.1, .string y.2.1, .int .i64 y.2.2]) from hu 7 (by decide))
      refine ph_inv _ _ _ rfl rfl _ e16 74 #[.agg #[.string y.1, .string y.2.1, .int .i64 y.2.2]] (by kernel_rfl) ?_
      refine (Calls.mono (place_c y W) ?_)
      rintro e W' ⟨rfl, hq⟩
      exact ⟨_, rfl, hK _ _ hq rfl⟩
    | 9, ho, hu, hK =>
      cases ho
      have hw : w.grownBy W none := gb_trans HN.out hg
      have e11 : A.eval (.tmp 11) = .string x.1 := (ev_in hA 11 2 rfl rfl rfl).trans (show f 2 = .string x.1 from hu 2 (by decide))
      have e17 : A.eval (.tmp 17) = .string y.1 := (ev_in hA 17 8 rfl rfl rfl).trans (show f 8 = .string y.1 from hu 8 (by decide))
      refine ph_fn 34 _ _ rfl rfl #[.string x.1, .string y.1] (by simp [e11, e17]) (by kernel_rfl) ?_
      refine (Calls.mono (HC.out W) ?_)
      rintro e W' ⟨rfl, rfl⟩
      exact ⟨_, rfl, hK _ _ (gb_rr _ _) rfl⟩
    | i + 10, ho, hu, hK => simp at ho
  case fin =>
    intro f W A hA hg hu
    have hA2 := hA.trans (putAll_lit [(.agg #[.string x.1, .string x.2.1, .int .i64 x.2.2]), (.iface 52 (.agg #[.string x.1, .string x.2.1, .int .i64 x.2.2])), (.string x.1), (.pointer (some ⟨b, 0, none⟩)), (.pointer (some ⟨b, 0, none⟩)), (.pointer (some ⟨b, 0, none⟩)), (.agg #[.string y.1, .string y.2.1, .int .i64 y.2.2]), (.iface 52 (.agg #[.string y.1, .string y.2.1, .int .i64 y.2.2])), (.string y.1), (.int .i64 (1))] (by
      intro j hj
      match j, hj with
      | 0, _ => exact hu 0 (by decide)
      | 1, _ => exact hu 1 (by decide)
      | 2, _ => exact hu 2 (by decide)
      | 3, _ => exact hu 3 (by decide)
      | 4, _ => exact hu 4 (by decide)
      | 5, _ => exact hu 5 (by decide)
      | 6, _ => exact hu 6 (by decide)
      | 7, _ => exact hu 7 (by decide)
      | 8, _ => exact hu 8 (by decide)
      | 9, _ => exact hu 9 (by decide)
      | j + 10, hj => exact absurd hj (by simp)))
    clear hu hA
    subst hA2
    simp only [putAll, putL, List.mem_cons, List.not_mem_nil, List.idxOf_cons, Nat.reduceEqDiff, Nat.reduceBEq, Nat.reduceAdd, or_false, or_true, reduceIte, cond_true, cond_false, List.getD_cons_zero, List.getD_cons_succ, BEq.rfl]
    replace HN : Hid (w.grownBy W none) := gb_trans HN.out hg
    replace HN2 : Hid (Bk 52 W N (ivs x)) := HN2.out.grew hg (by simp)
    clear hg
    go_wp2_with fail
    refine wp_region_phi none rfl (by kernel_rfl) [38, 39, 40, 41, 42, 43, 44, 45, 46, 47, 48, 49, 50, 51, 52, 4] [[], [0], [1], [2], [], [4], [5], [6], [], [8], [9], [10], [], [11, 12], [3, 7, 13], [14]] (by kernel_rfl) [fun u W => u = .pointer (some ⟨b, 0, none⟩), fun u W => u = .pointer (some ⟨b, 0, none⟩), fun u W => u = .pointer (some ⟨b, 3, none⟩), fun u W => u = .pointer pl, fun u W => u = .pointer (some ⟨b, 0, none⟩), fun u W => u = .pointer (some ⟨b, 0, none⟩), fun u W => u = .pointer (some ⟨b, 0, none⟩), fun u W => u = .agg #[.string y.1, .string y.2.1, .int .i64 y.2.2], fun u W => u = .pointer (some ⟨b, 0, none⟩), fun u W => u = .pointer (some ⟨b, 0, none⟩), fun u W => u = .pointer (some ⟨b, 4, none⟩), fun u W => u = .pointer pr, fun u W => u = .agg #[.string x.1, .string x.2.1, .int .i64 x.2.2], fun u W => ∃ p h, u = .pointer p ∧ Tr o W p h (putR x r), fun u W => ∃ p h, u = .pointer p ∧ Tr o W p h (l ++ y :: putR x r), fun u W => ∃ p h, u = .pointer p ∧ Tr o W p h (l ++ y :: putR x r)] ?stable ?step ?fin
    case stable =>
      intro i v W W' h hg
      match i, h with
      | 0, h => exact h
      | 1, h => exact h
      | 2, h => exact h
      | 3, h => exact h
      | 4, h => exact h
      | 5, h => exact h
      | 6, h => exact h
      | 7, h => exact h
      | 8, h => exact h
      | 9, h => exact h
      | 10, h => exact h
      | 11, h => exact h
      | 12, h => exact h
      | 13, h => obtain ⟨p, h, h1, h2⟩ := h; exact ⟨p, h, h1, h2.gb hg⟩
      | 14, h => obtain ⟨p, h, h1, h2⟩ := h; exact ⟨p, h, h1, h2.gb hg⟩
      | 15, h => obtain ⟨p, h, h1, h2⟩ := h; exact ⟨p, h, h1, h2.gb hg⟩
      | i + 16, h => exact trivial
    case step =>
      intro f W A hA hg i o ho hu K hK
      match i, ho, hu, hK with
      | 0, ho, hu, hK =>
        cases ho
        have hw : w.grownBy W none := gb_trans HN.out hg
        have e0 : A.eval (.tmp 0) = .pointer (some ⟨b, 0, none⟩) := ev_out hA 0 rfl
        exact ph_move _ rfl rfl (.pointer (some ⟨b, 0, none⟩)) e0 (hK _ _ (gb_rr W _) rfl)
      | 1, ho, hu, hK =>
        cases ho
        have hw : w.grownBy W none := gb_trans HN.out hg
        have e38 : A.eval (.tmp 38) = .pointer (some ⟨b, 0, none⟩) := (ev_in hA 38 0 rfl rfl rfl).trans (show f 0 = .pointer (some ⟨b, 0, none⟩) from hu 0 (by decide))
        exact ph_nil _ rfl rfl _ e38 (hK _ _ (gb_rr W _) rfl)
      | 2, ho, hu, hK =>
        cases ho
        have hw : w.grownBy W none := gb_trans HN.out hg
        have e39 : A.eval (.tmp 39) = .pointer (some ⟨b, 0, none⟩) := (ev_in hA 39 1 rfl rfl rfl).trans (show f 1 = .pointer (some ⟨b, 0, none⟩) from hu 1 (by decide))
        exact ph_field _ _ _ rfl rfl _ (.pointer (some ⟨b, 3, none⟩)) e39 (by kernel_rfl) (hK _ _ (gb_rr W _) rfl)
      | 3, ho, hu, hK =>
        cases ho
        have hw : w.grownBy W none := gb_trans HN.out hg
        have e40 : A.eval (.tmp 40) = .pointer (some ⟨b, 3, none⟩) := (ev_in hA 40 2 rfl rfl rfl).trans (show f 2 = .pointer (some ⟨b, 3, none⟩) from hu 2 (by decide))
        have hc : W.cell? ⟨b, 3, none⟩ = some (.pointer pl) := (HB.out.grew hw (by simp)).cell 3
        have eC : ∀ c, A.eval (.const c) = c := fun _ => rfl; have eF : ∀ g, A.eval (.func g) = .func (.func g) #[] #[] := fun _ => rfl; generalize hρ : A.eval = ρ at *
        clear hA hu hg
        refine ph_sem hρ rfl (r := .ok (.value (.pointer pl)) W) ?_ (hK _ _ (gb_rr W _) rfl)
        go_simp
      | 4, ho, hu, hK =>
        cases ho
        have hw : w.grownBy W none := gb_trans HN.out hg
        have e0 : A.eval (.tmp 0) = .pointer (some ⟨b, 0, none⟩) := ev_out hA 0 rfl
        exact ph_move _ rfl rfl (.pointer (some ⟨b, 0, none⟩)) e0 (hK _ _ (gb_rr W _) rfl)
      | 5, ho, hu, hK =>
        cases ho
        have hw : w.grownBy W none := gb_trans HN.out hg
        have e42 : A.eval (.tmp 42) = .pointer (some ⟨b, 0, none⟩) := (ev_in hA 42 4 rfl rfl rfl).trans (show f 4 = .pointer (some ⟨b, 0, none⟩) from hu 4 (by decide))
        exact ph_nil _ rfl rfl _ e42 (hK _ _ (gb_rr W _) rfl)
      | 6, ho, hu, hK =>
        cases ho
        have hw : w.grownBy W none := gb_trans HN.out hg
        have e43 : A.eval (.tmp 43) = .pointer (some ⟨b, 0, none⟩) := (ev_in hA 43 5 rfl rfl rfl).trans (show f 5 = .pointer (some ⟨b, 0, none⟩) from hu 5 (by decide))
        exact ph_field _ _ _ rfl rfl _ (.pointer (some ⟨b, 0, none⟩)) e43 (by kernel_rfl) (hK _ _ (gb_rr W _) rfl)
      | 7, ho, hu, hK =>
        cases ho
        have hw : w.grownBy W none := gb_trans HN.out hg
        have e44 : A.eval (.tmp 44) = .pointer (some ⟨b, 0, none⟩) := (ev_in hA 44 6 rfl rfl rfl).trans (show f 6 = .pointer (some ⟨b, 0, none⟩) from hu 6 (by decide))
        exact ph_load rfl 52 _ rfl Try.underlying52 rfl b 0 [.string y.1, .string y.2.1, .int .i64 y.2.2] (by kernel_rfl) e44 (nc_range (HB.out.grew hw (by simp))) (hK _ _ (gb_rr W _) rfl)
      | 8, ho, hu, hK =>
        cases ho
        have hw : w.grownBy W none := gb_trans HN.out hg
        have e0 : A.eval (.tmp 0) = .pointer (some ⟨b, 0, none⟩) := ev_out hA 0 rfl
        exact ph_move _ rfl rfl (.pointer (some ⟨b, 0, none⟩)) e0 (hK _ _ (gb_rr W _) rfl)
      | 9, ho, hu, hK =>
        cases ho
        have hw : w.grownBy W none := gb_trans HN.out hg
        have e46 : A.eval (.tmp 46) = .pointer (some ⟨b, 0, none⟩) := (ev_in hA 46 8 rfl rfl rfl).trans (show f 8 = .pointer (some ⟨b, 0, none⟩) from hu 8 (by decide))
        exact ph_nil _ rfl rfl _ e46 (hK _ _ (gb_rr W _) rfl)
      | 10, ho, hu, hK =>
        cases ho
        have hw : w.grownBy W none := gb_trans HN.out hg
        have e47 : A.eval (.tmp 47) = .pointer (some ⟨b, 0, none⟩) := (ev_in hA 47 9 rfl rfl rfl).trans (show f 9 = .pointer (some ⟨b, 0, none⟩) from hu 9 (by decide))
        exact ph_field _ _ _ rfl rfl _ (.pointer (some ⟨b, 4, none⟩)) e47 (by kernel_rfl) (hK _ _ (gb_rr W _) rfl)
      | 11, ho, hu, hK =>
        cases ho
        have hw : w.grownBy W none := gb_trans HN.out hg
        have e48 : A.eval (.tmp 48) = .pointer (some ⟨b, 4, none⟩) := (ev_in hA 48 10 rfl rfl rfl).trans (show f 10 = .pointer (some ⟨b, 4, none⟩) from hu 10 (by decide))
        have hc : W.cell? ⟨b, 4, none⟩ = some (.pointer pr) := (HB.out.grew hw (by simp)).cell 4
        have eC : ∀ c, A.eval (.const c) = c := fun _ => rfl; have eF : ∀ g, A.eval (.func g) = .func (.func g) #[] #[] := fun _ => rfl; generalize hρ : A.eval = ρ at *
        clear hA hu hg
        refine ph_sem hρ rfl (r := .ok (.value (.pointer pr)) W) ?_ (hK _ _ (gb_rr W _) rfl)
        go_simp
      | 12, ho, hu, hK =>
        cases ho
        have hw : w.grownBy W none := gb_trans HN.out hg
        have e3 : A.eval (.tmp 3) = .pointer (some ⟨N, 0, none⟩) := ev_out hA 3 rfl
        exact ph_load rfl 52 _ rfl Try.underlying52 rfl N 0 [.string x.1, .string x.2.1, .int .i64 x.2.2] (by kernel_rfl) e3 (it_range (HN2.out.grew hg (by simp))) (hK _ _ (gb_rr W _) rfl)
      | 13, ho, hu, hK =>
        cases ho
        have hw : w.grownBy W none := gb_trans HN.out hg
        have e49 : A.eval (.tmp 49) = .pointer pr := (ev_in hA 49 11 rfl rfl rfl).trans (show f 11 = .pointer pr from hu 11 (by decide))
        have e50 : A.eval (.tmp 50) = .agg #[.string x.1, .string x.2.1, .int .i64 x.2.2] := (ev_in hA 50 12 rfl rfl rfl).trans (show f 12 = .agg #[.string x.1, .string x.2.1, .int .i64 x.2.2] from hu 12 (by decide))
        refine ph_fn 23 _ _ rfl rfl #[.pointer pr, .agg #[.string x.1, .string x.2.1, .int .i64 x.2.2]] (by simp [e49, e50]) (by kernel_rfl) ?_
        refine (Calls.mono (HI.out x pr _ r W (HOB.out W hw) (U2.out.gb hw) HLN.out HRI.out (by have := HS.out; simp only [Sm, List.length_append, List.length_cons, szs_app, szs_cons] at this ⊢; omega)) ?_)
        rintro e W' ⟨p, h, rfl, ht, hq⟩
        exact ⟨_, rfl, hK _ _ hq ⟨p, h, rfl, ht⟩⟩
      | 14, ho, hu, hK =>
        cases ho
        have hw : w.grownBy W none := gb_trans HN.out hg
        have e41 : A.eval (.tmp 41) = .pointer pl := (ev_in hA 41 3 rfl rfl rfl).trans (show f 3 = .pointer pl from hu 3 (by decide))
        have e45 : A.eval (.tmp 45) = .agg #[.string y.1, .string y.2.1, .int .i64 y.2.2] := (ev_in hA 45 7 rfl rfl rfl).trans (show f 7 = .agg #[.string y.1, .string y.2.1, .int .i64 y.2.2] from hu 7 (by decide))
        obtain ⟨p13, h13, hv13, ht13⟩ := hu 13 (by decide)
        have e51 : A.eval (.tmp 51) = .pointer p13 := (ev_in hA 51 13 rfl rfl rfl).trans hv13
        refine ph_fn 35 _ _ rfl rfl #[.pointer pl, .agg #[.string y.1, .string y.2.1, .int .i64 y.2.2], .pointer p13] (by simp [e41, e45, e51]) (by kernel_rfl) ?_
        refine (Calls.mono (join_t o y pl p13 _ _ l (putR x r) W (HOB.out W hw) (U1.out.gb hw) ht13 (by have := HS.out; simp only [Sm, List.length_append, List.length_cons, szs_app, szs_cons] at this ⊢; omega)) ?_)
        rintro e W' ⟨p, h, rfl, ht, hq⟩
        exact ⟨_, rfl, hK _ _ hq ⟨p, h, rfl, ht⟩⟩
      | 15, ho, hu, hK =>
        cases ho
        have hw : w.grownBy W none := gb_trans HN.out hg
        obtain ⟨p14, h14, hv14, ht14⟩ := hu 14 (by decide)
        have e52 : A.eval (.tmp 52) = .pointer p14 := (ev_in hA 52 14 rfl rfl rfl).trans hv14
        exact ph_assign _ rfl rfl _ (e52) (hK _ _ (gb_rr W _) ⟨p14, h14, rfl, ht14⟩)
      | i + 16, ho, hu, hK => simp at ho
    case fin =>
      intro f W A hA hg hu
      obtain ⟨p, h, h1, h2⟩ := hu 15 (by decide)
      refine (by assumption : ∀ (a : Act) (w : World), Code.wp Try.prog Code.ret _ a w → _) A W ?_
      refine wp_ret ?_
      refine ret_ph (fn := Try.f23) hA 4 Try.results23 rfl ((ev_in hA 4 15 rfl rfl rfl).trans h1) ?_
      exact ⟨p, h, rfl, h2, gb_trans HN.out hg⟩
set_option maxRecDepth 20000 in
set_option maxHeartbeats 1000000 in
theorem put_eq (o : Nat → Prop) (n : Nat) (w : World) (ob : ∀ b, w.heap.size ≤ b → o b) (x y : Rw) (b : Nat) (pl pr : Option Addr) (hh nn zz hl hr : Nat) (l r : List Rw)
    (hb : Bk 62 w b (nc y pl pr hh nn zz)) (T1 : Tr o w pl hl l) (T2 : Tr o w pr hr r) (hc : cmpT x.1 y.1 = 0) (hs : Sm (l ++ x :: r)) : Calls Try.prog 23 #[.pointer (some ⟨b, 0, none⟩), iv x] w (TR o w (l ++ x :: r)) := by
  have HS : Hid (Sm (l ++ x :: r)) := hs
  have HB : Hid (Bk 62 w b (nc y pl pr hh nn zz)) := hb
  have U1 : Hid (Tr o w pl hl l) := T1
  have U2 : Hid (Tr o w pr hr r) := T2
  have HC : Hid (∀ W, Calls Try.prog 34 #[.string x.1, .string y.1] W fun r w' => r = .returned (.int .i64 (0)) ∧ w' = W) := fun W => by rw [← hc]; exact compare_c x.1 y.1 W
  have HOB : Hid (∀ W, w.grownBy W none → ∀ b, W.heap.size ≤ b → o b) := fun W hg b hb => ob b (Nat.le_trans hg.size hb)
  have HN : Hid (w.grownBy (w.alloc (.cells #[.string x.1, .string x.2.1, .int .i64 x.2.2] 52)) none) := gb_alloc _ _
  have HN2 : Hid (Bk 52 (w.alloc (.cells #[.string x.1, .string x.2.1, .int .i64 x.2.2] 52)) w.heap.size (ivs x)) := (blk_new w 52 _).1
  clear hs hb T1 T2 hc ob
  unfold iv
  go_enter Try.func23, Try.ntmps23
  go_wp2_with fail
  generalize hW1 : World.alloc w _ = w1 at *
  clear hW1
  obtain ⟨N, hN⟩ : ∃ N, N = w.heap.size := ⟨_, rfl⟩
  rw [← hN] at HN2 ⊢
  clear hN
  refine wp_region_phi none rfl (by kernel_rfl) [9, 10, 11, 12, 13, 14, 15, 16, 17, 18] [[], [0], [1], [], [3], [4], [5], [6], [7], [2, 8]] (by kernel_rfl) [fun u W => u = .agg #[.string x.1, .string x.2.1, .int .i64 x.2.2], fun u W => u = .iface 52 (.agg #[.string x.1, .string x.2.1, .int .i64 x.2.2]), fun u W => u = .string x.1, fun u W => u = .pointer (some ⟨b, 0, none⟩), fun u W => u = .pointer (some ⟨b, 0, none⟩), fun u W => u = .pointer (some ⟨b, 0, none⟩), fun u W => u = .agg #[.string y.1, .string y.2.1, .int .i64 y.2.2], fun u W => u = .iface 52 (.agg #[.string y.1, .string y.2.1, .int .i64 y.2.2]), fun u W => u = .string y.1, fun u W => u = .int .i64 (0)] ?stable ?step ?fin
  case stable =>
    intro i v W W' h hg
    match i, h with
    | 0, h => exact h
    | 1, h => exact h
    | 2, h => exact h
    | 3, h => exact h
    | 4, h => exact h
    | 5, h => exact h
    | 6, h => exact h
    | 7, h => exact h
    | 8, h => exact h
    | 9, h => exact h
    | i + 10, h => exact trivial
  case step =>
    intro f W A hA hg i o ho hu K hK
    match i, ho, hu, hK with
    | 0, ho, hu, hK =>
      cases ho
      have hw : w.grownBy W none := gb_trans HN.out hg
      have e3 : A.eval (.tmp 3) = .pointer (some ⟨N, 0, none⟩) := ev_out hA 3 rfl
      exact ph_load rfl 52 _ rfl Try.underlying52 rfl N 0 [.string x.1, .string x.2.1, .int .i64 x.2.2] (by kernel_rfl) e3 (it_range (HN2.out.grew hg (by simp))) (hK _ _ (gb_rr W _) rfl)
    | 1, ho, hu, hK =>
      cases ho
      have hw : w.grownBy W none := gb_trans HN.out hg
      have e9 : A.eval (.tmp 9) = .agg #[.string x.1, .string x.2.1, .int .i64 x.2.2] := (ev_in hA 9 0 rfl rfl rfl).trans (show f 0 = .agg #[.string x.1, .string x.2.1, .int .i64 x.2.2] from hu 0 (by decide))
      have eC : ∀ c, A.eval (.const c) = c := fun _ => rfl; have eF : ∀ g, A.eval (.func g) = .func (.func g) #[] #[] := fun _ => rfl; generalize hρ : A.eval = ρ at *
      clear hA hu
      refine ph_sem hρ rfl (r := .ok (.value (.iface 52 (.agg #[.string x.1, .string x.2.1, .int .i64 x.2.2]))) W) ?_ (hK _ _ (gb_rr W _) rfl)
      go_simp
    | 2, ho, hu, hK =>
      cases ho
      have hw : w.grownBy W none := gb_trans HN.out hg
      have e10 : A.eval (.tmp 10) = .iface 52 (.agg #[.string x.1, .string x.2.1, .int .i64 x.2.2]) := (ev_in hA 10 1 rfl rfl rfl).trans (show f 1 = .iface 52 (.agg #[.string x.1, .string x.2.1, .int .i64 x.2.2]) from hu 1 (by decide))
      refine ph_inv _ _ _ rfl rfl _ e10 74 #[.agg #[.string x.1, .string x.2.1, .int .i64 x.2.2]] (by kernel_rfl) ?_
      refine (Calls.mono (place_c x W) ?_)
      rintro e W' ⟨rfl, hq⟩
      exact ⟨_, rfl, hK _ _ hq rfl⟩
    | 3, ho, hu, hK =>
      cases ho
      have hw : w.grownBy W none := gb_trans HN.out hg
      have e0 : A.eval (.tmp 0) = .pointer (some ⟨b, 0, none⟩) := ev_out hA 0 rfl
      exact ph_move _ rfl rfl (.pointer (some ⟨b, 0, none⟩)) e0 (hK _ _ (gb_rr W _) rfl)
    | 4, ho, hu, hK =>
      cases ho
      have hw : w.grownBy W none := gb_trans HN.out hg
      have e12 : A.eval (.tmp 12) = .pointer (some ⟨b, 0, none⟩) := (ev_in hA 12 3 rfl rfl rfl).trans (show f 3 = .pointer (some ⟨b, 0, none⟩) from hu 3 (by decide))
      exact ph_nil _ rfl rfl _ e12 (hK _ _ (gb_rr W _) rfl)
    | 5, ho, hu, hK =>
      cases ho
      have hw : w.grownBy W none := gb_trans HN.out hg
      have e13 : A.eval (.tmp 13) = .pointer (some ⟨b, 0, none⟩) := (ev_in hA 13 4 rfl rfl rfl).trans (show f 4 = .pointer (some ⟨b, 0, none⟩) from hu 4 (by decide))
      exact ph_field _ _ _ rfl rfl _ (.pointer (some ⟨b, 0, none⟩)) e13 (by kernel_rfl) (hK _ _ (gb_rr W _) rfl)
    | 6, ho, hu, hK =>
      cases ho
      have hw : w.grownBy W none := gb_trans HN.out hg
      have e14 : A.eval (.tmp 14) = .pointer (some ⟨b, 0, none⟩) := (ev_in hA 14 5 rfl rfl rfl).trans (show f 5 = .pointer (some ⟨b, 0, none⟩) from hu 5 (by decide))
      exact ph_load rfl 52 _ rfl Try.underlying52 rfl b 0 [.string y.1, .string y.2.1, .int .i64 y.2.2] (by kernel_rfl) e14 (nc_range (HB.out.grew hw (by simp))) (hK _ _ (gb_rr W _) rfl)
    | 7, ho, hu, hK =>
      cases ho
      have hw : w.grownBy W none := gb_trans HN.out hg
      have e15 : A.eval (.tmp 15) = .agg #[.string y.1, .string y.2.1, .int .i64 y.2.2] := (ev_in hA 15 6 rfl rfl rfl).trans (show f 6 = .agg #[.string y.1, .string y.2.1, .int .i64 y.2.2] from hu 6 (by decide))
      have eC : ∀ c, A.eval (.const c) = c := fun _ => rfl; have eF : ∀ g, A.eval (.func g) = .func (.func g) #[] #[] := fun _ => rfl; generalize hρ : A.eval = ρ at *
      clear hA hu
      refine ph_sem hρ rfl (r := .ok (.value (.iface 52 (.agg #[.string y.1, .string y.2.1, .int .i64 y.2.2]))) W) ?_ (hK _ _ (gb_rr W _) rfl)
      go_simp
    | 8, ho, hu, hK =>
      cases ho
      have hw : w.grownBy W none := gb_trans HN.out hg
      have e16 : A.eval (.tmp 16) = .iface 52 (.agg #[.string y.1, .string y.2.1, .int .i64 y.2.2]) := (ev_in hA 16 7 rfl rfl rfl).trans (show f 7 = .iface 52 (.agg #[.string y.1, .string y.2.1, .int .i64 y.2.2]) from hu 7 (by decide))
      refine ph_inv _ _ _ rfl rfl _ e16 74 #[.agg #[.string y.1, .string y.2.1, .int .i64 y.2.2]] (by kernel_rfl) ?_
      refine (Calls.mono (place_c y W) ?_)
      rintro e W' ⟨rfl, hq⟩
      exact ⟨_, rfl, hK _ _ hq rfl⟩
    | 9, ho, hu, hK =>
      cases ho
      have hw : w.grownBy W none := gb_trans HN.out hg
      have e11 : A.eval (.tmp 11) = .string x.1 := (ev_in hA 11 2 rfl rfl rfl).trans (show f 2 = .string x.1 from hu 2 (by decide))
      have e17 : A.eval (.tmp 17) = .string y.1 := (ev_in hA 17 8 rfl rfl rfl).trans (show f 8 = .string y.1 from hu 8 (by decide))
      refine ph_fn 34 _ _ rfl rfl #[.string x.1, .string y.1] (by simp [e11, e17]) (by kernel_rfl) ?_
      refine (Calls.mono (HC.out W) ?_)
      rintro e W' ⟨rfl, rfl⟩
      exact ⟨_, rfl, hK _ _ (gb_rr _ _) rfl⟩
    | i + 10, ho, hu, hK => simp at ho
  case fin =>
    intro f W A hA hg hu
    have hA2 := hA.trans (putAll_lit [(.agg #[.string x.1, .string x.2.1, .int .i64 x.2.2]), (.iface 52 (.agg #[.string x.1, .string x.2.1, .int .i64 x.2.2])), (.string x.1), (.pointer (some ⟨b, 0, none⟩)), (.pointer (some ⟨b, 0, none⟩)), (.pointer (some ⟨b, 0, none⟩)), (.agg #[.string y.1, .string y.2.1, .int .i64 y.2.2]), (.iface 52 (.agg #[.string y.1, .string y.2.1, .int .i64 y.2.2])), (.string y.1), (.int .i64 (0))] (by
      intro j hj
      match j, hj with
      | 0, _ => exact hu 0 (by decide)
      | 1, _ => exact hu 1 (by decide)
      | 2, _ => exact hu 2 (by decide)
      | 3, _ => exact hu 3 (by decide)
      | 4, _ => exact hu 4 (by decide)
      | 5, _ => exact hu 5 (by decide)
      | 6, _ => exact hu 6 (by decide)
      | 7, _ => exact hu 7 (by decide)
      | 8, _ => exact hu 8 (by decide)
      | 9, _ => exact hu 9 (by decide)
      | j + 10, hj => exact absurd hj (by simp)))
    clear hu hA
    subst hA2
    simp only [putAll, putL, List.mem_cons, List.not_mem_nil, List.idxOf_cons, Nat.reduceEqDiff, Nat.reduceBEq, Nat.reduceAdd, or_false, or_true, reduceIte, cond_true, cond_false, List.getD_cons_zero, List.getD_cons_succ, BEq.rfl]
    replace HN : Hid (w.grownBy W none) := gb_trans HN.out hg
    replace HN2 : Hid (Bk 52 W N (ivs x)) := HN2.out.grew hg (by simp)
    clear hg
    go_wp2_with fail
    refine wp_region_phi none rfl (by kernel_rfl) [53, 54, 55, 56, 57, 58, 59, 60, 61, 62, 4] [[], [0], [1], [2], [], [], [5], [6], [7], [3, 4, 8], [9]] (by kernel_rfl) [fun u W => u = .pointer (some ⟨b, 0, none⟩), fun u W => u = .pointer (some ⟨b, 0, none⟩), fun u W => u = .pointer (some ⟨b, 3, none⟩), fun u W => u = .pointer pl, fun u W => u = .agg #[.string x.1, .string x.2.1, .int .i64 x.2.2], fun u W => u = .pointer (some ⟨b, 0, none⟩), fun u W => u = .pointer (some ⟨b, 0, none⟩), fun u W => u = .pointer (some ⟨b, 4, none⟩), fun u W => u = .pointer pr, fun u W => ∃ p h, u = .pointer p ∧ Tr o W p h (l ++ x :: r), fun u W => ∃ p h, u = .pointer p ∧ Tr o W p h (l ++ x :: r)] ?stable ?step ?fin
    case stable =>
      intro i v W W' h hg
      match i, h with
      | 0, h => exact h
      | 1, h => exact h
      | 2, h => exact h
      | 3, h => exact h
      | 4, h => exact h
      | 5, h => exact h
      | 6, h => exact h
      | 7, h => exact h
      | 8, h => exact h
      | 9, h => obtain ⟨p, h, h1, h2⟩ := h; exact ⟨p, h, h1, h2.gb hg⟩
      | 10, h => obtain ⟨p, h, h1, h2⟩ := h; exact ⟨p, h, h1, h2.gb hg⟩
      | i + 11, h => exact trivial
    case step =>
      intro f W A hA hg i o ho hu K hK
      match i, ho, hu, hK with
      | 0, ho, hu, hK =>
        cases ho
        have hw : w.grownBy W none := gb_trans HN.out hg
        have e0 : A.eval (.tmp 0) = .pointer (some ⟨b, 0, none⟩) := ev_out hA 0 rfl
        exact ph_move _ rfl rfl (.pointer (some ⟨b, 0, none⟩)) e0 (hK _ _ (gb_rr W _) rfl)
      | 1, ho, hu, hK =>
        cases ho
        have hw : w.grownBy W none := gb_trans HN.out hg
        have e53 : A.eval (.tmp 53) = .pointer (some ⟨b, 0, none⟩) := (ev_in hA 53 0 rfl rfl rfl).trans (show f 0 = .pointer (some ⟨b, 0, none⟩) from hu 0 (by decide))
        exact ph_nil _ rfl rfl _ e53 (hK _ _ (gb_rr W _) rfl)
      | 2, ho, hu, hK =>
        cases ho
        have hw : w.grownBy W none := gb_trans HN.out hg
        have e54 : A.eval (.tmp 54) = .pointer (some ⟨b, 0, none⟩) := (ev_in hA 54 1 rfl rfl rfl).trans (show f 1 = .pointer (some ⟨b, 0, none⟩) from hu 1 (by decide))
        exact ph_field _ _ _ rfl rfl _ (.pointer (some ⟨b, 3, none⟩)) e54 (by kernel_rfl) (hK _ _ (gb_rr W _) rfl)
      | 3, ho, hu, hK =>
        cases ho
        have hw : w.grownBy W none := gb_trans HN.out hg
        have e55 : A.eval (.tmp 55) = .pointer (some ⟨b, 3, none⟩) := (ev_in hA 55 2 rfl rfl rfl).trans (show f 2 = .pointer (some ⟨b, 3, none⟩) from hu 2 (by decide))
        have hc : W.cell? ⟨b, 3, none⟩ = some (.pointer pl) := (HB.out.grew hw (by simp)).cell 3
        have eC : ∀ c, A.eval (.const c) = c := fun _ => rfl; have eF : ∀ g, A.eval (.func g) = .func (.func g) #[] #[] := fun _ => rfl; generalize hρ : A.eval = ρ at *
        clear hA hu hg
        refine ph_sem hρ rfl (r := .ok (.value (.pointer pl)) W) ?_ (hK _ _ (gb_rr W _) rfl)
        go_simp
      | 4, ho, hu, hK =>
        cases ho
        have hw : w.grownBy W none := gb_trans HN.out hg
        have e3 : A.eval (.tmp 3) = .pointer (some ⟨N, 0, none⟩) := ev_out hA 3 rfl
        exact ph_load rfl 52 _ rfl Try.underlying52 rfl N 0 [.string x.1, .string x.2.1, .int .i64 x.2.2] (by kernel_rfl) e3 (it_range (HN2.out.grew hg (by simp))) (hK _ _ (gb_rr W _) rfl)
      | 5, ho, hu, hK =>
        cases ho
        have hw : w.grownBy W none := gb_trans HN.out hg
        have e0 : A.eval (.tmp 0) = .pointer (some ⟨b, 0, none⟩) := ev_out hA 0 rfl
        exact ph_move _ rfl rfl (.pointer (some ⟨b, 0, none⟩)) e0 (hK _ _ (gb_rr W _) rfl)
      | 6, ho, hu, hK =>
        cases ho
        have hw : w.grownBy W none := gb_trans HN.out hg
        have e58 : A.eval (.tmp 58) = .pointer (some ⟨b, 0, none⟩) := (ev_in hA 58 5 rfl rfl rfl).trans (show f 5 = .pointer (some ⟨b, 0, none⟩) from hu 5 (by decide))
        exact ph_nil _ rfl rfl _ e58 (hK _ _ (gb_rr W _) rfl)
      | 7, ho, hu, hK =>
        cases ho
        have hw : w.grownBy W none := gb_trans HN.out hg
        have e59 : A.eval (.tmp 59) = .pointer (some ⟨b, 0, none⟩) := (ev_in hA 59 6 rfl rfl rfl).trans (show f 6 = .pointer (some ⟨b, 0, none⟩) from hu 6 (by decide))
        exact ph_field _ _ _ rfl rfl _ (.pointer (some ⟨b, 4, none⟩)) e59 (by kernel_rfl) (hK _ _ (gb_rr W _) rfl)
      | 8, ho, hu, hK =>
        cases ho
        have hw : w.grownBy W none := gb_trans HN.out hg
        have e60 : A.eval (.tmp 60) = .pointer (some ⟨b, 4, none⟩) := (ev_in hA 60 7 rfl rfl rfl).trans (show f 7 = .pointer (some ⟨b, 4, none⟩) from hu 7 (by decide))
        have hc : W.cell? ⟨b, 4, none⟩ = some (.pointer pr) := (HB.out.grew hw (by simp)).cell 4
        have eC : ∀ c, A.eval (.const c) = c := fun _ => rfl; have eF : ∀ g, A.eval (.func g) = .func (.func g) #[] #[] := fun _ => rfl; generalize hρ : A.eval = ρ at *
        clear hA hu hg
        refine ph_sem hρ rfl (r := .ok (.value (.pointer pr)) W) ?_ (hK _ _ (gb_rr W _) rfl)
        go_simp
      | 9, ho, hu, hK =>
        cases ho
        have hw : w.grownBy W none := gb_trans HN.out hg
        have e56 : A.eval (.tmp 56) = .pointer pl := (ev_in hA 56 3 rfl rfl rfl).trans (show f 3 = .pointer pl from hu 3 (by decide))
        have e57 : A.eval (.tmp 57) = .agg #[.string x.1, .string x.2.1, .int .i64 x.2.2] := (ev_in hA 57 4 rfl rfl rfl).trans (show f 4 = .agg #[.string x.1, .string x.2.1, .int .i64 x.2.2] from hu 4 (by decide))
        have e61 : A.eval (.tmp 61) = .pointer pr := (ev_in hA 61 8 rfl rfl rfl).trans (show f 8 = .pointer pr from hu 8 (by decide))
        refine ph_fn 33 _ _ rfl rfl #[.pointer pl, .agg #[.string x.1, .string x.2.1, .int .i64 x.2.2], .pointer pr] (by simp [e56, e57, e61]) (by kernel_rfl) ?_
        refine (Calls.mono (over_t o x pl pr _ _ l r W (HOB.out W hw) (U1.out.gb hw) (U2.out.gb hw) HS.out) ?_)
        rintro e W' ⟨p, h, rfl, ht, hq⟩
        exact ⟨_, rfl, hK _ _ hq ⟨p, h, rfl, ht⟩⟩
      | 10, ho, hu, hK =>
        cases ho
        have hw : w.grownBy W none := gb_trans HN.out hg
        obtain ⟨p9, h9, hv9, ht9⟩ := hu 9 (by decide)
        have e62 : A.eval (.tmp 62) = .pointer p9 := (ev_in hA 62 9 rfl rfl rfl).trans hv9
        exact ph_assign _ rfl rfl _ (e62) (hK _ _ (gb_rr W _) ⟨p9, h9, rfl, ht9⟩)
      | i + 11, ho, hu, hK => simp at ho
    case fin =>
      intro f W A hA hg hu
      obtain ⟨p, h, h1, h2⟩ := hu 10 (by decide)
      refine (by assumption : ∀ (a : Act) (w : World), Code.wp Try.prog Code.ret _ a w → _) A W ?_
      refine wp_ret ?_
      refine ret_ph (fn := Try.f23) hA 4 Try.results23 rfl ((ev_in hA 4 10 rfl rfl rfl).trans h1) ?_
      exact ⟨p, h, rfl, h2, gb_trans HN.out hg⟩
theorem cmpT_cases (s t : ByteArray) : (cmpT s t = -1 ∧ tl s t = true) ∨ (cmpT s t = 1 ∧ tl t s = true) ∨ (cmpT s t = 0 ∧ s = t) := by
  unfold cmpT
  by_cases h1 : tl s t = true
  · exact .inl ⟨if_pos h1, h1⟩
  · by_cases h2 : tl t s = true
    · exact .inr (.inl ⟨by rw [if_neg h1, if_pos h2], h2⟩)
    · exact .inr (.inr ⟨by rw [if_neg h1, if_neg h2], tl_eq (by simpa using h1) (by simpa using h2)⟩)
theorem put_n (o : Nat → Prop) : ∀ n, PutC o n := by
  intro n
  induction n using Nat.strongRecOn with
  | ind n IH =>
    intro x p h xs w ob ht hn hR hs
    cases p with
    | none =>
      obtain ⟨rfl, rfl⟩ := ht.nil0
      exact put_nil o w ob x hs
    | some a =>
      obtain ⟨b, l, y, r, pl, pr, hl, hr, rfl, ob', hb, t1, t2, rfl, hh⟩ := ht.node
      obtain ⟨r1, r2, r3, r4⟩ := rises_mid hR
      simp only [List.length_append, List.length_cons] at hn
      rcases cmpT_cases x.1 y.1 with ⟨hc, hk⟩ | ⟨hc, hk⟩ | ⟨hc, hk⟩
      · rw [putR_lt hk r3] at hs ⊢
        exact put_lt o (n - 1) w ob x y b pl pr _ _ _ hl hr l r hb t1 t2 (IH (n - 1) (by omega)) (by omega) r1 hc hs
      · rw [putR_gt hk r3] at hs ⊢
        exact put_gt o (n - 1) w ob x y b pl pr _ _ _ hl hr l r hb t1 t2 (IH (n - 1) (by omega)) (by omega) r2 hc hs
      · rw [putR_eq hk r3] at hs ⊢
        exact put_eq o 0 w ob x y b pl pr _ _ _ hl hr l r hb t1 t2 hc hs
theorem put_t (o : Nat → Prop) (x : Rw) (p : Option Addr) (h : Nat) (xs : List Rw) (w : World) (ob : ∀ b, w.heap.size ≤ b → o b) (ht : Tr o w p h xs) (hR : Rises xs) (hs : Sm (putR x xs)) : Calls Try.prog 23 #[.pointer p, iv x] w (TR o w (putR x xs)) :=
  put_n o _ x p h xs w ob ht (Nat.le_refl _) hR hs
end Go.Proofs.Ytdmchcdkfbijlab
