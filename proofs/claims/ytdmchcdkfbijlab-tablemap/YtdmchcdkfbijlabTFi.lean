/-
  What the tree's first answers: its first row, and the tree of the others; and link: a tree that holds the one's rows and the other one's. Condition: it holds some; no number outgrows its kind.
-/
import Derived.Test.YtdmchcdkfbijlabTJn
namespace Go.Proofs.Ytdmchcdkfbijlab
open Go.RowKit
set_option linter.unusedVariables false

def zItem : Array Value := #[.string .empty, .string .empty, .int .i64 0]
theorem zI (w : World) : (zeroValue 52).run Try.prog w = .ok (.agg zItem) w := by
  have h : (Try.prog.info? 52).map (fun i => (i.zero, i.size)) = some (some (.agg zItem), 3) := by kernel_rfl
  exact (zero_of_info h).1 w
theorem ivs_one (x : Rw) : (ivs x).all (·.oneCell') = true := by simp [ivs, Value.oneCell']
theorem tr_notN {o : Nat → Prop} {w : World} {p : Option Addr} {h : Nat} {xs : List Rw} (ht : Tr o w p h xs) : Tr (fun b => o b ∧ b ≠ w.heap.size) w p h xs := ht.weak fun b hb ho => ⟨ho, by omega⟩
/-- What first answers of trees of at most n rows. -/
def FirstC (o : Nat → Prop) (n : Nat) : Prop := ∀ (p : Option Addr) (h : Nat) (y : Rw) (ys : List Rw) (w : World), (∀ b, w.heap.size ≤ b → o b) → Tr o w p h (y :: ys) → (y :: ys).length ≤ n → Sm (y :: ys) → Calls Try.prog 49 #[.pointer p] w fun e w' => ∃ q h', e = .returned (.tuple #[.agg #[.string y.1, .string y.2.1, .int .i64 y.2.2], .pointer q]) ∧ Tr o w' q h' ys ∧ w.grownBy w' none
set_option maxRecDepth 20000 in
set_option maxHeartbeats 1000000 in
theorem first_leaf (o : Nat → Prop) (w : World) (ob : ∀ b, w.heap.size ≤ b → o b) (y : Rw) (b : Nat) (pr : Option Addr) (hh nn zz hr : Nat) (r : List Rw) (hb : Bk 62 w b (nc y none pr hh nn zz)) (T2 : Tr o w pr hr r) :
    Calls Try.prog 49 #[.pointer (some ⟨b, 0, none⟩)] w fun e w' => ∃ q h', e = .returned (.tuple #[.agg #[.string y.1, .string y.2.1, .int .i64 y.2.2], .pointer q]) ∧ Tr o w' q h' r ∧ w.grownBy w' none := by
  have hz := zI
  have HB : Hid (Bk 62 w b (nc y none pr hh nn zz)) := hb
  have U2 : Hid (Tr o w pr hr r) := T2
  have HN : Hid (w.grownBy (w.alloc (.cells zItem 52)) none) := gb_alloc _ _
  have HN2 : Hid (Bk 52 (w.alloc (.cells zItem 52)) w.heap.size zItem) := (blk_new w 52 _).1
  have HNL : Hid (w.heap.size ≤ w.heap.size) := Nat.le_refl _
  have kl : (w.alloc (.cells zItem 52)).cell? ⟨b, 3, none⟩ = some (.pointer none) := (HB.out.grew HN.out (by simp)).cell 3
  clear hb T2 ob
  go_enter Try.func49, Try.ntmps49
  go_wp2_with fail
  clear hz kl
  generalize hW1 : World.alloc w _ = w1 at *
  clear hW1
  obtain ⟨N, hN⟩ : ∃ N, N = w.heap.size := ⟨_, rfl⟩
  have hN2 : w.heap.size ≤ N := by omega
  replace HNL : Hid (w.heap.size ≤ N) := hN2
  rw [← hN] at HN2 ⊢
  clear hN hN2
  refine wp_region_rs 52 N (ivs y) rfl (by kernel_rfl) [11, 12, 13, 14, 15, 16, 17, 18, 100008, 3] [[], [0], [1], [2], [], [4], [5], [6], [3], [7]] (by kernel_rfl) [fun u W => u = .pointer (some ⟨b, 0, none⟩), fun u W => u = .pointer (some ⟨b, 0, none⟩), fun u W => u = .pointer (some ⟨b, 0, none⟩), fun u W => u = .agg #[.string y.1, .string y.2.1, .int .i64 y.2.2], fun u W => u = .pointer (some ⟨b, 0, none⟩), fun u W => u = .pointer (some ⟨b, 0, none⟩), fun u W => u = .pointer (some ⟨b, 4, none⟩), fun u W => u = .pointer pr, fun u W => Bk 52 W N (ivs y), fun u W => u = .pointer pr] ?stable ?step ?fin
  case stable =>
    intro i v W W' h hg
    match i, h with
    | 0, h => exact h
    | 1, h => exact h
    | 2, h => exact h
    | 3, h => exact h
    | 4, h => exact h
    | 5, h => exact h
    | 6, h => exact h
    | 7, h => exact h
    | 8, h => exact rs_es hg h
    | 9, h => exact h
    | i + 10, h => exact trivial
  case step =>
    intro f W A hA hg i o ho hu K hK
    match i, ho, hu, hK with
    | 0, ho, hu, hK =>
      cases ho
      have hw : w.grownBy W none := gb_newer HN.out hg.1 HNL.out
      have e0 : A.eval (.tmp 0) = .pointer (some ⟨b, 0, none⟩) := ev_out hA 0 rfl
      exact ph_move _ rfl rfl (.pointer (some ⟨b, 0, none⟩)) e0 (hK _ _ (rs_rr _ _ _ W) rfl)
    | 1, ho, hu, hK =>
      cases ho
      have hw : w.grownBy W none := gb_newer HN.out hg.1 HNL.out
      have e11 : A.eval (.tmp 11) = .pointer (some ⟨b, 0, none⟩) := (ev_in hA 11 0 rfl rfl rfl).trans (show f 0 = .pointer (some ⟨b, 0, none⟩) from hu 0 (by decide))
      exact ph_nil _ rfl rfl _ e11 (hK _ _ (rs_rr _ _ _ W) rfl)
    | 2, ho, hu, hK =>
      cases ho
      have hw : w.grownBy W none := gb_newer HN.out hg.1 HNL.out
      have e12 : A.eval (.tmp 12) = .pointer (some ⟨b, 0, none⟩) := (ev_in hA 12 1 rfl rfl rfl).trans (show f 1 = .pointer (some ⟨b, 0, none⟩) from hu 1 (by decide))
      exact ph_field _ _ _ rfl rfl _ (.pointer (some ⟨b, 0, none⟩)) e12 (by kernel_rfl) (hK _ _ (rs_rr _ _ _ W) rfl)
    | 3, ho, hu, hK =>
      cases ho
      have hw : w.grownBy W none := gb_newer HN.out hg.1 HNL.out
      have e13 : A.eval (.tmp 13) = .pointer (some ⟨b, 0, none⟩) := (ev_in hA 13 2 rfl rfl rfl).trans (show f 2 = .pointer (some ⟨b, 0, none⟩) from hu 2 (by decide))
      exact ph_load rfl 52 _ rfl Try.underlying52 rfl b 0 [.string y.1, .string y.2.1, .int .i64 y.2.2] (by kernel_rfl) e13 (nc_range (HB.out.grew hw (by simp))) (hK _ _ (rs_rr _ _ _ W) rfl)
    | 4, ho, hu, hK =>
      cases ho
      have hw : w.grownBy W none := gb_newer HN.out hg.1 HNL.out
      have e0 : A.eval (.tmp 0) = .pointer (some ⟨b, 0, none⟩) := ev_out hA 0 rfl
      exact ph_move _ rfl rfl (.pointer (some ⟨b, 0, none⟩)) e0 (hK _ _ (rs_rr _ _ _ W) rfl)
    | 5, ho, hu, hK =>
      cases ho
      have hw : w.grownBy W none := gb_newer HN.out hg.1 HNL.out
      have e15 : A.eval (.tmp 15) = .pointer (some ⟨b, 0, none⟩) := (ev_in hA 15 4 rfl rfl rfl).trans (show f 4 = .pointer (some ⟨b, 0, none⟩) from hu 4 (by decide))
      exact ph_nil _ rfl rfl _ e15 (hK _ _ (rs_rr _ _ _ W) rfl)
    | 6, ho, hu, hK =>
      cases ho
      have hw : w.grownBy W none := gb_newer HN.out hg.1 HNL.out
      have e16 : A.eval (.tmp 16) = .pointer (some ⟨b, 0, none⟩) := (ev_in hA 16 5 rfl rfl rfl).trans (show f 5 = .pointer (some ⟨b, 0, none⟩) from hu 5 (by decide))
      exact ph_field _ _ _ rfl rfl _ (.pointer (some ⟨b, 4, none⟩)) e16 (by kernel_rfl) (hK _ _ (rs_rr _ _ _ W) rfl)
    | 7, ho, hu, hK =>
      cases ho
      have hw : w.grownBy W none := gb_newer HN.out hg.1 HNL.out
      have e17 : A.eval (.tmp 17) = .pointer (some ⟨b, 4, none⟩) := (ev_in hA 17 6 rfl rfl rfl).trans (show f 6 = .pointer (some ⟨b, 4, none⟩) from hu 6 (by decide))
      have hc : W.cell? ⟨b, 4, none⟩ = some (.pointer pr) := (HB.out.grew hw (by simp)).cell 4
      have eC : ∀ c, A.eval (.const c) = c := fun _ => rfl; have eF : ∀ g, A.eval (.func g) = .func (.func g) #[] #[] := fun _ => rfl; generalize hρ : A.eval = ρ at *
      clear hA hu hg
      refine ph_sem hρ rfl (r := .ok (.value (.pointer pr)) W) ?_ (hK _ _ (rs_rr _ _ _ W) rfl)
      go_simp
    | 8, ho, hu, hK =>
      cases ho
      have hw : w.grownBy W none := gb_newer HN.out hg.1 HNL.out
      have e2 : A.eval (.tmp 2) = .pointer (some ⟨N, 0, none⟩) := ev_out hA 2 rfl
      have e14 : A.eval (.tmp 14) = .agg #[.string y.1, .string y.2.1, .int .i64 y.2.2] := (ev_in hA 14 3 rfl rfl rfl).trans (show f 3 = .agg #[.string y.1, .string y.2.1, .int .i64 y.2.2] from hu 3 (by decide))
      obtain ⟨W2, s1, s2, s3⟩ : ∃ W2, (storeVar 52 ⟨N, 0, none⟩ (.agg (ivs y))).run Try.prog W = .ok () W2 ∧ Bk 52 W2 N (ivs y) ∧ W.grownBy W2 (some N) := by
        rcases hg.2 _ HN2.out with h0 | h0 <;> exact bk_store (P := Try.prog) infoItem h0 rfl rfl (ivs_one _)
      exact ph_store _ _ _ rfl rfl ⟨N, 0, none⟩ _ e2 e14 W2 s1 (hK _ _ ⟨s3, fun _ _ => .inr s2⟩ s2)
    | 9, ho, hu, hK =>
      cases ho
      have hw : w.grownBy W none := gb_newer HN.out hg.1 HNL.out
      have e18 : A.eval (.tmp 18) = .pointer pr := (ev_in hA 18 7 rfl rfl rfl).trans (show f 7 = .pointer pr from hu 7 (by decide))
      exact ph_assign _ rfl rfl (.pointer pr) e18 (hK _ _ (rs_rr _ _ _ W) rfl)
    | i + 10, ho, hu, hK => simp at ho
  case fin =>
    intro f W A hA hg hu
    have h8 : Bk 52 W N (ivs y) := hu 8 (by decide)
    have h9 : f 9 = .pointer pr := hu 9 (by decide)
    have hw : w.grownBy W none := gb_newer HN.out hg.1 HNL.out
    refine (by assumption : ∀ (a : Act) (w : World), Code.wp Try.prog Code.ret _ a w → _) A W ?_
    refine wp_ret ?_
    simp only [Exit.then]
    refine ret_ph2 (fn := Try.f49) hA 2 3 52 Try.results49 rfl ⟨N, 0, none⟩ (ev_out hA 2 rfl) (bk_load (T := 52) Try.underlying52 rfl infoItem h8 rfl) ((ev_in hA 3 9 rfl rfl rfl).trans h9) ?_
    exact ⟨pr, hr, rfl, U2.out.gb hw, hw⟩
set_option maxRecDepth 20000 in
set_option maxHeartbeats 1000000 in
theorem first_node (o : Nat → Prop) (n : Nat) (ih : ∀ o, FirstC o n) (w : World) (ob : ∀ b, w.heap.size ≤ b → o b) (y m : Rw) (b : Nat) (a : Addr) (pr : Option Addr) (hh nn zz hl hr : Nat) (ys r : List Rw) (hb : Bk 62 w b (nc m (some a) pr hh nn zz)) (T1 : Tr o w (some a) hl (y :: ys)) (T2 : Tr o w pr hr r) (hn : (y :: ys).length ≤ n) (hs : Sm (y :: (ys ++ m :: r))) :
    Calls Try.prog 49 #[.pointer (some ⟨b, 0, none⟩)] w fun e w' => ∃ q h', e = .returned (.tuple #[.agg #[.string y.1, .string y.2.1, .int .i64 y.2.2], .pointer q]) ∧ Tr o w' q h' (ys ++ m :: r) ∧ w.grownBy w' none := by
  have hz := zI
  have HS : Hid (Sm (y :: (ys ++ m :: r))) := hs
  have HB : Hid (Bk 62 w b (nc m (some a) pr hh nn zz)) := hb
  have HU : Hid (Tr (fun b => o b ∧ b ≠ w.heap.size) w pr hr r) := tr_notN T2
  have HN : Hid (w.grownBy (w.alloc (.cells zItem 52)) none) := gb_alloc _ _
  have HN2 : Hid (Bk 52 (w.alloc (.cells zItem 52)) w.heap.size zItem) := (blk_new w 52 _).1
  have HNL : Hid (w.heap.size ≤ w.heap.size) := Nat.le_refl _
  have HOB : Hid (∀ W, (w.alloc (.cells zItem 52)).grownBy W (some w.heap.size) → ∀ b, W.heap.size ≤ b → (o b ∧ b ≠ w.heap.size)) := fun W hg b hb => by
    have := hg.size
    rw [World.size_alloc] at this
    exact ⟨ob b (by omega), by omega⟩
  have HF : Hid (Calls Try.prog 49 #[.pointer (some a)] (w.alloc (.cells zItem 52)) fun e w' => ∃ q h', e = .returned (.tuple #[.agg #[.string y.1, .string y.2.1, .int .i64 y.2.2], .pointer q]) ∧ Tr (fun b => o b ∧ b ≠ w.heap.size) w' q h' ys ∧ (w.alloc (.cells zItem 52)).grownBy w' none) :=
    ih _ (some a) hl y ys _ (HOB.out _ (gb_rr _ _)) ((tr_notN T1).gb HN.out) hn (by have := HS.out; simp only [Sm, List.length_append, List.length_cons, szs_app, szs_cons] at this ⊢; omega)
  have kl : (w.alloc (.cells zItem 52)).cell? ⟨b, 3, none⟩ = some (.pointer (some a)) := (HB.out.grew HN.out (by simp)).cell 3
  clear hb T2 T1 ob ih hs hn
  go_enter Try.func49, Try.ntmps49
  go_wp2_with (first
    | (go_at_call 49; refine (Calls.mono HF.out ?_); rintro e w2 ⟨q, h', rfl, ht2, hg2⟩; have HT : Hid (Tr (fun b => o b ∧ b ≠ w.heap.size) w2 q h' ys) := ht2; have HG2 : Hid (((w.alloc (.cells zItem 52)).grownBy w2 none)) := hg2; clear ht2 hg2; have HM0 : Hid (Bk 52 (w2.alloc (.cells zItem 52)) w2.heap.size zItem ∧ w2.grownBy (w2.alloc (.cells zItem 52)) none) := blk_new w2 _ _)
    | (refine wpList_store_bk 52 rfl (.tmp 4) (.tmp 25) rfl infoItem w2.heap.size zItem (ivs y) rfl rfl HM0.out.1 rfl rfl (ivs_one y) ?_; intro w3 hs1 hs2; have HM : Hid (Bk 52 w3 w2.heap.size (ivs y)) := hs1; have HW23 : Hid (w2.grownBy w3 none) := gb_new HM0.out.2 hs2; clear hs1 hs2))
  clear hz kl HF HM0
  replace HT := (show Hid (Tr (fun b => o b ∧ b ≠ w.heap.size) w3 q h' ys) from HT.out.gb HW23.out)
  have HW13 : Hid ((w.alloc (.cells zItem 52)).grownBy w3 none) := gb_trans HG2.out HW23.out
  have HW3 : Hid (w.grownBy w3 none) := gb_trans HN.out HW13.out
  replace HN2 := (show Hid (Bk 52 w3 w.heap.size zItem) from HN2.out.grew HW13.out (by simp))
  have HNM : Hid (¬ w.heap.size = w2.heap.size) := by
    have := HG2.out.size
    rw [World.size_alloc] at this
    show ¬ _
    omega
  replace HOB := (show Hid (∀ W, w3.grownBy W (some w.heap.size) → ∀ b, W.heap.size ≤ b → (o b ∧ b ≠ w.heap.size)) from fun W hg => HOB.out W (gb_trans (gb_wide HW13.out _) hg))
  replace HN : Hid (w.grownBy w3 none) := HW3.out
  clear HG2 HW23 HW13
  generalize w2.heap.size = M at *
  obtain ⟨N, hN⟩ : ∃ N, N = w.heap.size := ⟨_, rfl⟩
  have hN2 : w.heap.size ≤ N := by omega
  replace HNL : Hid (w.heap.size ≤ N) := hN2
  rw [← hN] at HN2 HT HU HNM HOB ⊢
  clear hN hN2
  refine wp_region_rs 52 N (ivs y) rfl (by kernel_rfl) [27, 28, 29, 30, 31, 32, 33, 34, 35, 36, 37, 100011, 3] [[], [], [], [2], [3], [4], [], [6], [7], [8], [1, 5, 9], [0], [10]] (by kernel_rfl) [fun u W => u = .agg #[.string y.1, .string y.2.1, .int .i64 y.2.2], fun u W => u = .pointer q, fun u W => u = .pointer (some ⟨b, 0, none⟩), fun u W => u = .pointer (some ⟨b, 0, none⟩), fun u W => u = .pointer (some ⟨b, 0, none⟩), fun u W => u = .agg #[.string m.1, .string m.2.1, .int .i64 m.2.2], fun u W => u = .pointer (some ⟨b, 0, none⟩), fun u W => u = .pointer (some ⟨b, 0, none⟩), fun u W => u = .pointer (some ⟨b, 4, none⟩), fun u W => u = .pointer pr, fun u W => ∃ p h, u = .pointer p ∧ Tr (fun b => o b ∧ b ≠ N) W p h (ys ++ m :: r), fun u W => Bk 52 W N (ivs y), fun u W => ∃ p h, u = .pointer p ∧ Tr (fun b => o b ∧ b ≠ N) W p h (ys ++ m :: r)] ?stable ?step ?fin
  case stable =>
    intro i v W W' h hg
    match i, h with
    | 0, h => exact h
    | 1, h => exact h
    | 2, h => exact h
    | 3, h => exact h
    | 4, h => exact h
    | 5, h => exact h
    | 6, h => exact h
    | 7, h => exact h
    | 8, h => exact h
    | 9, h => exact h
    | 10, h => obtain ⟨p, h, h1, h2⟩ := h; exact ⟨p, h, h1, h2.gbr hg.1 (fun n e => by cases e; exact fun h => h.2 rfl)⟩
    | 11, h => exact rs_es hg h
    | 12, h => obtain ⟨p, h, h1, h2⟩ := h; exact ⟨p, h, h1, h2.gbr hg.1 (fun n e => by cases e; exact fun h => h.2 rfl)⟩
    | i + 13, h => exact trivial
  case step =>
    intro f W A hA hg i o ho hu K hK
    match i, ho, hu, hK with
    | 0, ho, hu, hK =>
      cases ho
      have hw : w.grownBy W none := gb_newer HN.out hg.1 HNL.out
      have e4 : A.eval (.tmp 4) = .pointer (some ⟨M, 0, none⟩) := ev_out hA 4 rfl
      exact ph_load rfl 52 _ rfl Try.underlying52 rfl M 0 [.string y.1, .string y.2.1, .int .i64 y.2.2] (by kernel_rfl) e4 (it_range (HM.out.grew hg.1 (fun e => HNM.out (Option.some.inj e)))) (hK _ _ (rs_rr _ _ _ W) rfl)
    | 1, ho, hu, hK =>
      cases ho
      have hw : w.grownBy W none := gb_newer HN.out hg.1 HNL.out
      have e5 : A.eval (.tmp 5) = .pointer q := ev_out hA 5 rfl
      exact ph_move _ rfl rfl (.pointer q) e5 (hK _ _ (rs_rr _ _ _ W) rfl)
    | 2, ho, hu, hK =>
      cases ho
      have hw : w.grownBy W none := gb_newer HN.out hg.1 HNL.out
      have e0 : A.eval (.tmp 0) = .pointer (some ⟨b, 0, none⟩) := ev_out hA 0 rfl
      exact ph_move _ rfl rfl (.pointer (some ⟨b, 0, none⟩)) e0 (hK _ _ (rs_rr _ _ _ W) rfl)
    | 3, ho, hu, hK =>
      cases ho
      have hw : w.grownBy W none := gb_newer HN.out hg.1 HNL.out
      have e29 : A.eval (.tmp 29) = .pointer (some ⟨b, 0, none⟩) := (ev_in hA 29 2 rfl rfl rfl).trans (show f 2 = .pointer (some ⟨b, 0, none⟩) from hu 2 (by decide))
      exact ph_nil _ rfl rfl _ e29 (hK _ _ (rs_rr _ _ _ W) rfl)
    | 4, ho, hu, hK =>
      cases ho
      have hw : w.grownBy W none := gb_newer HN.out hg.1 HNL.out
      have e30 : A.eval (.tmp 30) = .pointer (some ⟨b, 0, none⟩) := (ev_in hA 30 3 rfl rfl rfl).trans (show f 3 = .pointer (some ⟨b, 0, none⟩) from hu 3 (by decide))
      exact ph_field _ _ _ rfl rfl _ (.pointer (some ⟨b, 0, none⟩)) e30 (by kernel_rfl) (hK _ _ (rs_rr _ _ _ W) rfl)
    | 5, ho, hu, hK =>
      cases ho
      have hw : w.grownBy W none := gb_newer HN.out hg.1 HNL.out
      have e31 : A.eval (.tmp 31) = .pointer (some ⟨b, 0, none⟩) := (ev_in hA 31 4 rfl rfl rfl).trans (show f 4 = .pointer (some ⟨b, 0, none⟩) from hu 4 (by decide))
      exact ph_load rfl 52 _ rfl Try.underlying52 rfl b 0 [.string m.1, .string m.2.1, .int .i64 m.2.2] (by kernel_rfl) e31 (nc_range (HB.out.grew hw (by simp))) (hK _ _ (rs_rr _ _ _ W) rfl)
    | 6, ho, hu, hK =>
      cases ho
      have hw : w.grownBy W none := gb_newer HN.out hg.1 HNL.out
      have e0 : A.eval (.tmp 0) = .pointer (some ⟨b, 0, none⟩) := ev_out hA 0 rfl
      exact ph_move _ rfl rfl (.pointer (some ⟨b, 0, none⟩)) e0 (hK _ _ (rs_rr _ _ _ W) rfl)
    | 7, ho, hu, hK =>
      cases ho
      have hw : w.grownBy W none := gb_newer HN.out hg.1 HNL.out
      have e33 : A.eval (.tmp 33) = .pointer (some ⟨b, 0, none⟩) := (ev_in hA 33 6 rfl rfl rfl).trans (show f 6 = .pointer (some ⟨b, 0, none⟩) from hu 6 (by decide))
      exact ph_nil _ rfl rfl _ e33 (hK _ _ (rs_rr _ _ _ W) rfl)
    | 8, ho, hu, hK =>
      cases ho
      have hw : w.grownBy W none := gb_newer HN.out hg.1 HNL.out
      have e34 : A.eval (.tmp 34) = .pointer (some ⟨b, 0, none⟩) := (ev_in hA 34 7 rfl rfl rfl).trans (show f 7 = .pointer (some ⟨b, 0, none⟩) from hu 7 (by decide))
      exact ph_field _ _ _ rfl rfl _ (.pointer (some ⟨b, 4, none⟩)) e34 (by kernel_rfl) (hK _ _ (rs_rr _ _ _ W) rfl)
    | 9, ho, hu, hK =>
      cases ho
      have hw : w.grownBy W none := gb_newer HN.out hg.1 HNL.out
      have e35 : A.eval (.tmp 35) = .pointer (some ⟨b, 4, none⟩) := (ev_in hA 35 8 rfl rfl rfl).trans (show f 8 = .pointer (some ⟨b, 4, none⟩) from hu 8 (by decide))
      have hc : W.cell? ⟨b, 4, none⟩ = some (.pointer pr) := (HB.out.grew hw (by simp)).cell 4
      have eC : ∀ c, A.eval (.const c) = c := fun _ => rfl; have eF : ∀ g, A.eval (.func g) = .func (.func g) #[] #[] := fun _ => rfl; generalize hρ : A.eval = ρ at *
      clear hA hu hg
      refine ph_sem hρ rfl (r := .ok (.value (.pointer pr)) W) ?_ (hK _ _ (rs_rr _ _ _ W) rfl)
      go_simp
    | 10, ho, hu, hK =>
      cases ho
      have hw : w.grownBy W none := gb_newer HN.out hg.1 HNL.out
      have e28 : A.eval (.tmp 28) = .pointer q := (ev_in hA 28 1 rfl rfl rfl).trans (show f 1 = .pointer q from hu 1 (by decide))
      have e32 : A.eval (.tmp 32) = .agg #[.string m.1, .string m.2.1, .int .i64 m.2.2] := (ev_in hA 32 5 rfl rfl rfl).trans (show f 5 = .agg #[.string m.1, .string m.2.1, .int .i64 m.2.2] from hu 5 (by decide))
      have e36 : A.eval (.tmp 36) = .pointer pr := (ev_in hA 36 9 rfl rfl rfl).trans (show f 9 = .pointer pr from hu 9 (by decide))
      refine ph_fn 35 _ _ rfl rfl #[.pointer q, .agg #[.string m.1, .string m.2.1, .int .i64 m.2.2], .pointer pr] (by simp [e28, e32, e36]) (by kernel_rfl) ?_
      refine (Calls.mono (join_t (fun b => o b ∧ b ≠ N) m q pr _ _ ys r W (HOB.out W hg.1) (HT.out.gbr hg.1 (fun n e => by cases e; exact fun h => h.2 rfl)) ((HU.out.gb HW3.out).gbr hg.1 (fun n e => by cases e; exact fun h => h.2 rfl)) (by have := HS.out; simp only [Sm, List.length_append, List.length_cons, szs_app, szs_cons] at this ⊢; omega)) ?_)
      rintro e W' ⟨p, h, rfl, ht, hq⟩
      exact ⟨_, rfl, hK _ _ (rs_gb hq) ⟨p, h, rfl, ht⟩⟩
    | 11, ho, hu, hK =>
      cases ho
      have hw : w.grownBy W none := gb_newer HN.out hg.1 HNL.out
      have e2 : A.eval (.tmp 2) = .pointer (some ⟨N, 0, none⟩) := ev_out hA 2 rfl
      have e27 : A.eval (.tmp 27) = .agg #[.string y.1, .string y.2.1, .int .i64 y.2.2] := (ev_in hA 27 0 rfl rfl rfl).trans (show f 0 = .agg #[.string y.1, .string y.2.1, .int .i64 y.2.2] from hu 0 (by decide))
      obtain ⟨W2, s1, s2, s3⟩ : ∃ W2, (storeVar 52 ⟨N, 0, none⟩ (.agg (ivs y))).run Try.prog W = .ok () W2 ∧ Bk 52 W2 N (ivs y) ∧ W.grownBy W2 (some N) := by
        rcases hg.2 _ HN2.out with h0 | h0 <;> exact bk_store (P := Try.prog) infoItem h0 rfl rfl (ivs_one _)
      exact ph_store _ _ _ rfl rfl ⟨N, 0, none⟩ _ e2 e27 W2 s1 (hK _ _ ⟨s3, fun _ _ => .inr s2⟩ s2)
    | 12, ho, hu, hK =>
      cases ho
      have hw : w.grownBy W none := gb_newer HN.out hg.1 HNL.out
      obtain ⟨p10, h10, hv10, ht10⟩ := hu 10 (by decide)
      have e37 : A.eval (.tmp 37) = .pointer p10 := (ev_in hA 37 10 rfl rfl rfl).trans hv10
      exact ph_assign _ rfl rfl _ (e37) (hK _ _ (rs_rr _ _ _ W) ⟨p10, h10, rfl, ht10⟩)
    | i + 13, ho, hu, hK => simp at ho
  case fin =>
    intro f W A hA hg hu
    have h8 : Bk 52 W N (ivs y) := hu 11 (by decide)
    obtain ⟨p, h, h9, ht⟩ := hu 12 (by decide)
    have hw : w.grownBy W none := gb_newer HN.out hg.1 HNL.out
    refine (by assumption : ∀ (a : Act) (w : World), Code.wp Try.prog Code.ret _ a w → _) A W ?_
    refine wp_ret ?_
    refine ret_ph2 (fn := Try.f49) hA 2 3 52 Try.results49 rfl ⟨N, 0, none⟩ (ev_out hA 2 rfl) (bk_load (T := 52) Try.underlying52 rfl infoItem h8 rfl) ((ev_in hA 3 12 rfl rfl rfl).trans h9) ?_
    exact ⟨p, h, rfl, ht.weak (fun b _ h => h.1), hw⟩
theorem first_n : ∀ n o, FirstC o n := by
  intro n
  induction n using Nat.strongRecOn with
  | ind n IH =>
    intro o p h y ys w ob ht hn hs
    cases p with
    | none => have := ht.nil0; simp at this
    | some a =>
      obtain ⟨b, l, m, r, pl, pr, hl, hr, rfl, ob', hb, t1, t2, he, hh⟩ := ht.node
      cases pl with
      | none =>
        obtain ⟨rfl, rfl⟩ := t1.nil0
        simp only [List.nil_append, List.cons.injEq] at he
        obtain ⟨rfl, rfl⟩ := he
        exact first_leaf o w ob y b pr _ _ _ hr ys hb t2
      | some a1 =>
        cases l with
        | nil => have := t1.node; simp at this
        | cons z zs =>
          simp only [List.cons_append, List.cons.injEq] at he
          obtain ⟨rfl, rfl⟩ := he
          simp only [List.length_append, List.length_cons] at hn
          exact first_node o (n - 1) (IH (n - 1) (by omega)) w ob y m b a1 pr _ _ _ hl hr zs r hb t1 t2 (by simp only [List.length_cons]; omega) hs
theorem first_t (o : Nat → Prop) (p : Option Addr) (h : Nat) (y : Rw) (ys : List Rw) (w : World) (ob : ∀ b, w.heap.size ≤ b → o b) (ht : Tr o w p h (y :: ys)) (hs : Sm (y :: ys)) : Calls Try.prog 49 #[.pointer p] w fun e w' => ∃ q h', e = .returned (.tuple #[.agg #[.string y.1, .string y.2.1, .int .i64 y.2.2], .pointer q]) ∧ Tr o w' q h' ys ∧ w.grownBy w' none :=
  first_n _ o p h y ys w ob ht (Nat.le_refl _) hs
set_option maxRecDepth 20000 in
set_option maxHeartbeats 1000000 in
theorem link_t (o : Nat → Prop) (pl pr : Option Addr) (hl hr : Nat) (l r : List Rw) (w : World) (ob : ∀ b, w.heap.size ≤ b → o b) (h1 : Tr o w pl hl l) (h2 : Tr o w pr hr r) (hs : Sm (l ++ r)) : Calls Try.prog 38 #[.pointer pl, .pointer pr] w (TR o w (l ++ r)) := by
  cases pr with
  | none =>
    obtain ⟨rfl, rfl⟩ := h2.nil0
    rw [List.append_nil]
    go_enter Try.func38, Try.ntmps38
    go_wp2
    go_ret
    exact ⟨pl, hl, rfl, h1, gb_rr _ _⟩
  | some a =>
    cases r with
    | nil => have := h2.node; simp at this
    | cons y ys =>
      have hz := zI
      have HOB : Hid (∀ W, w.grownBy W none → ∀ b, W.heap.size ≤ b → o b) := fun W hg b hb => ob b (Nat.le_trans hg.size hb)
      have HS : Hid (Sm (l ++ y :: ys)) := hs
      have U1 : Hid (Tr o w pl hl l) := h1
      have HF : Hid (Calls Try.prog 49 #[.pointer (some a)] w fun e w' => ∃ q h', e = .returned (.tuple #[.agg #[.string y.1, .string y.2.1, .int .i64 y.2.2], .pointer q]) ∧ Tr o w' q h' ys ∧ w.grownBy w' none) := first_t o (some a) hr y ys w ob h2 (by have := HS.out; simp only [Sm, List.length_append, List.length_cons, szs_app, szs_cons] at this ⊢; omega)
      clear h1 h2 hs ob
      go_enter Try.func38, Try.ntmps38
      go_wp2_with (first
        | (go_at_call 49; refine (Calls.mono HF.out ?_); rintro e w2 ⟨q, h', rfl, ht2, hg2⟩; have HT : Hid (Tr o w2 q h' ys ∧ w.grownBy w2 none) := ⟨ht2, hg2⟩; clear ht2 hg2; have HM0 : Hid (Bk 52 (w2.alloc (.cells zItem 52)) w2.heap.size zItem ∧ w2.grownBy (w2.alloc (.cells zItem 52)) none) := blk_new w2 _ _)
        | (refine wpList_store_bk 52 rfl (.tmp 5) (.tmp 13) rfl infoItem w2.heap.size zItem (ivs y) rfl rfl HM0.out.1 rfl rfl (ivs_one y) ?_; intro w3 hs1 hs2; have HM : Hid (Bk 52 w3 w2.heap.size (ivs y) ∧ Tr o w3 q h' ys ∧ w.grownBy w3 none) := ⟨hs1, HT.out.1.gb (gb_new HM0.out.2 hs2), gb_trans HT.out.2 (gb_new HM0.out.2 hs2)⟩; clear hs1 hs2)
        | (refine wpList_load_bk 52 rfl (.tmp 5) rfl Try.underlying52 rfl infoItem w2.heap.size (ivs y) rfl HM.out.1 rfl ?_)
        | (go_at_call 35; go_must (refine (Calls.mono (join_t o y pl q _ _ l ys w3 (HOB.out _ HM.out.2.2) (U1.out.gb HM.out.2.2) HM.out.2.1 HS.out) ?_)); rintro e wq ⟨p, h, rfl, ht, hq⟩))
      go_ret
      exact ⟨p, h, rfl, ht, gb_trans HM.out.2.2 hq⟩
end Go.Proofs.Ytdmchcdkfbijlab
