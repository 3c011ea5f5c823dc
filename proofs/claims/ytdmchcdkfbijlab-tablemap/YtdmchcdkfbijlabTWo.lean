/-
  What the tree's without answers: the tree without the key. Condition: its rows rise, and no number outgrows its kind.
-/
import Derived.Test.YtdmchcdkfbijlabTPt
import Derived.Test.YtdmchcdkfbijlabTFi
namespace Go.Proofs.Ytdmchcdkfbijlab
open Go.RowKit
set_option linter.unusedVariables false

/-- What without answers of trees of at most n rows. -/
def WithoutC (o : Nat → Prop) (n : Nat) : Prop := ∀ (k : ByteArray) (p : Option Addr) (h : Nat) (xs : List Rw) (w : World), (∀ b, w.heap.size ≤ b → o b) → Tr o w p h xs → xs.length ≤ n → Rises xs → Sm xs → Calls Try.prog 31 #[.pointer p, .string k] w (TR o w (delR k xs))
theorem without_nil (o : Nat → Prop) (w : World) (k : ByteArray) : Calls Try.prog 31 #[.pointer none, .string k] w (TR o w []) := by
  go_enter Try.func31, Try.ntmps31
  go_wp2
  go_ret
  exact ⟨none, 0, rfl, tr_nil o _, gb_rr _ _⟩
set_option maxRecDepth 20000 in
set_option maxHeartbeats 1000000 in
theorem without_lt (o : Nat → Prop) (n : Nat) (w : World) (ob : ∀ b, w.heap.size ≤ b → o b) (k : ByteArray) (y : Rw) (b : Nat) (pl pr : Option Addr) (hh nn zz hl hr : Nat) (l r : List Rw)
    (hb : Bk 62 w b (nc y pl pr hh nn zz)) (T1 : Tr o w pl hl l) (T2 : Tr o w pr hr r) (hs : Sm (l ++ y :: r)) (ih : WithoutC o n) (hn : l.length ≤ n) (hR : Rises l) (hc : cmpT k y.1 = -1) : Calls Try.prog 31 #[.pointer (some ⟨b, 0, none⟩), .string k] w (TR o w (delR k l ++ y :: r)) := by
  have HS : Hid (Sm (l ++ y :: r)) := hs
  have HB : Hid (Bk 62 w b (nc y pl pr hh nn zz)) := hb
  have U1 : Hid (Tr o w pl hl l) := T1
  have U2 : Hid (Tr o w pr hr r) := T2
  have HC : Hid (∀ W, Calls Try.prog 34 #[.string k, .string y.1] W fun r w' => r = .returned (.int .i64 (-1)) ∧ w' = W) := fun W => by rw [← hc]; exact compare_c k y.1 W
  have HP : Hid (∀ W, Calls Try.prog 74 #[.agg #[.string y.1, .string y.2.1, .int .i64 y.2.2]] W fun r w' => r = .returned (.string y.1) ∧ W.grownBy w' none) := fun W => place_c y W
  have HOB : Hid (∀ W, w.grownBy W none → ∀ b, W.heap.size ≤ b → o b) := fun W hg b hb => ob b (Nat.le_trans hg.size hb)
  have HI : Hid (WithoutC o n) := ih
  have HLN : Hid (l.length ≤ n) := hn
  have HRI : Hid (Rises l) := hR
  have hrg := nc_range hb
  have hmp := meth_place
  clear hs hb T1 T2 hc ob ih hn hR
  go_enter Try.func31, Try.ntmps31
  go_wp2_with (first
    | (refine wpList_load_mid rfl 52 (.tmp 10) rfl b 0 rfl [.string y.1, .string y.2.1, .int .i64 y.2.2] _ hrg Try.underlying52 rfl (by kernel_rfl) ?_)
    | (go_at_call 74; go_must (refine (Calls.mono (HP.out _) ?_)); rintro e w1 ⟨rfl, hq⟩; have HN : Hid (w.grownBy w1 none) := hq; clear hq)
    | (go_at_call 34; go_must (refine (Calls.mono (HC.out _) ?_)); rintro e wq ⟨rfl, rfl⟩))
  refine wp_region_phi none rfl (by kernel_rfl) [17, 18, 19, 20, 21, 22, 23, 24, 25, 26, 27, 28, 29, 30, 31, 4] [[], [0], [1], [2], [], [3, 4], [], [6], [7], [8], [], [10], [11], [12], [5, 9, 13], [14]] (by kernel_rfl) [fun u W => u = .pointer (some ⟨b, 0, none⟩), fun u W => u = .pointer (some ⟨b, 0, none⟩), fun u W => u = .pointer (some ⟨b, 3, none⟩), fun u W => u = .pointer pl, fun u W => u = .string k, fun u W => ∃ p h, u = .pointer p ∧ Tr o W p h (delR k l), fun u W => u = .pointer (some ⟨b, 0, none⟩), fun u W => u = .pointer (some ⟨b, 0, none⟩), fun u W => u = .pointer (some ⟨b, 0, none⟩), fun u W => u = .agg #[.string y.1, .string y.2.1, .int .i64 y.2.2], fun u W => u = .pointer (some ⟨b, 0, none⟩), fun u W => u = .pointer (some ⟨b, 0, none⟩), fun u W => u = .pointer (some ⟨b, 4, none⟩), fun u W => u = .pointer pr, fun u W => ∃ p h, u = .pointer p ∧ Tr o W p h (delR k l ++ y :: r), fun u W => ∃ p h, u = .pointer p ∧ Tr o W p h (delR k l ++ y :: r)] ?stable ?step ?fin
  case stable =>
    intro i v W W' h hg
    match i, h with
    | 0, h => exact h
    | 1, h => exact h
    | 2, h => exact h
    | 3, h => exact h
    | 4, h => exact h
    | 5, h => obtain ⟨p, h, h1, h2⟩ := h; exact ⟨p, h, h1, h2.gb hg⟩
    | 6, h => exact h
    | 7, h => exact h
    | 8, h => exact h
    | 9, h => exact h
    | 10, h => exact h
    | 11, h => exact h
    | 12, h => exact h
    | 13, h => exact h
    | 14, h => obtain ⟨p, h, h1, h2⟩ := h; exact ⟨p, h, h1, h2.gb hg⟩
    | 15, h => obtain ⟨p, h, h1, h2⟩ := h; exact ⟨p, h, h1, h2.gb hg⟩
    | i + 16, h => exact trivial
  case step =>
    intro f W A hA hg i o ho hu K hK
    match i, ho, hu, hK with
    | 0, ho, hu, hK =>
      cases ho
      have hw : w.grownBy W none := gb_trans HN.out hg
      have e0 : A.eval (.tmp 0) = .pointer (some ⟨b, 0, none⟩) := ev_out hA 0 rfl
      exact ph_move _ rfl rfl (.pointer (some ⟨b, 0, none⟩)) e0 (hK _ _ (gb_rr W _) rfl)
    | 1, ho, hu, hK =>
      cases ho
      have hw : w.grownBy W none := gb_trans HN.out hg
      have e17 : A.eval (.tmp 17) = .pointer (some ⟨b, 0, none⟩) := (ev_in hA 17 0 rfl rfl rfl).trans (show f 0 = .pointer (some ⟨b, 0, none⟩) from hu 0 (by decide))
      exact ph_nil _ rfl rfl _ e17 (hK _ _ (gb_rr W _) rfl)
    | 2, ho, hu, hK =>
      cases ho
      have hw : w.grownBy W none := gb_trans HN.out hg
      have e18 : A.eval (.tmp 18) = .pointer (some ⟨b, 0, none⟩) := (ev_in hA 18 1 rfl rfl rfl).trans (show f 1 = .pointer (some ⟨b, 0, none⟩) from hu 1 (by decide))
      exact ph_field _ _ _ rfl rfl _ (.pointer (some ⟨b, 3, none⟩)) e18 (by kernel_rfl) (hK _ _ (gb_rr W _) rfl)
    | 3, ho, hu, hK =>
      cases ho
      have hw : w.grownBy W none := gb_trans HN.out hg
      have e19 : A.eval (.tmp 19) = .pointer (some ⟨b, 3, none⟩) := (ev_in hA 19 2 rfl rfl rfl).trans (show f 2 = .pointer (some ⟨b, 3, none⟩) from hu 2 (by decide))
      have hc : W.cell? ⟨b, 3, none⟩ = some (.pointer pl) := (HB.out.grew hw (by simp)).cell 3
      have eC : ∀ c, A.eval (.const c) = c := fun _ => rfl; have eF : ∀ g, A.eval (.func g) = .func (.func g) #[] #[] := fun _ => rfl; generalize hρ : A.eval = ρ at *
      clear hA hu hg
      refine ph_sem hρ rfl (r := .ok (.value (.pointer pl)) W) ?_ (hK _ _ (gb_rr W _) rfl)
      go_simp
    | 4, ho, hu, hK =>
      cases ho
      have hw : w.grownBy W none := gb_trans HN.out hg
      have e1 : A.eval (.tmp 1) = .string k := ev_out hA 1 rfl
      exact ph_move _ rfl rfl (.string k) e1 (hK _ _ (gb_rr W _) rfl)
    | 5, ho, hu, hK =>
      cases ho
      have hw : w.grownBy W none := gb_trans HN.out hg
      have e20 : A.eval (.tmp 20) = .pointer pl := (ev_in hA 20 3 rfl rfl rfl).trans (show f 3 = .pointer pl from hu 3 (by decide))
      have e21 : A.eval (.tmp 21) = .string k := (ev_in hA 21 4 rfl rfl rfl).trans (show f 4 = .string k from hu 4 (by decide))
      refine ph_fn 31 _ _ rfl rfl #[.pointer pl, .string k] (by simp [e20, e21]) (by kernel_rfl) ?_
      refine (Calls.mono (HI.out k pl _ l W (HOB.out W hw) (U1.out.gb hw) HLN.out HRI.out (by have := HS.out; have s1 := len_del k l; have s2 := szs_del k l; have s3 := len_del k r; have s4 := szs_del k r; simp only [Sm, List.length_append, List.length_cons, szs_app, szs_cons] at this ⊢; omega)) ?_)
      rintro e W' ⟨p, h, rfl, ht, hq⟩
      exact ⟨_, rfl, hK _ _ hq ⟨p, h, rfl, ht⟩⟩
    | 6, ho, hu, hK =>
      cases ho
      have hw : w.grownBy W none := gb_trans HN.out hg
      have e0 : A.eval (.tmp 0) = .pointer (some ⟨b, 0, none⟩) := ev_out hA 0 rfl
      exact ph_move _ rfl rfl (.pointer (some ⟨b, 0, none⟩)) e0 (hK _ _ (gb_rr W _) rfl)
    | 7, ho, hu, hK =>
      cases ho
      have hw : w.grownBy W none := gb_trans HN.out hg
      have e23 : A.eval (.tmp 23) = .pointer (some ⟨b, 0, none⟩) := (ev_in hA 23 6 rfl rfl rfl).trans (show f 6 = .pointer (some ⟨b, 0, none⟩) from hu 6 (by decide))
      exact ph_nil _ rfl rfl _ e23 (hK _ _ (gb_rr W _) rfl)
    | 8, ho, hu, hK =>
      cases ho
      have hw : w.grownBy W none := gb_trans HN.out hg
      have e24 : A.eval (.tmp 24) = .pointer (some ⟨b, 0, none⟩) := (ev_in hA 24 7 rfl rfl rfl).trans (show f 7 = .pointer (some ⟨b, 0, none⟩) from hu 7 (by decide))
      exact ph_field _ _ _ rfl rfl _ (.pointer (some ⟨b, 0, none⟩)) e24 (by kernel_rfl) (hK _ _ (gb_rr W _) rfl)
    | 9, ho, hu, hK =>
      cases ho
      have hw : w.grownBy W none := gb_trans HN.out hg
      have e25 : A.eval (.tmp 25) = .pointer (some ⟨b, 0, none⟩) := (ev_in hA 25 8 rfl rfl rfl).trans (show f 8 = .pointer (some ⟨b, 0, none⟩) from hu 8 (by decide))
      exact ph_load rfl 52 _ rfl Try.underlying52 rfl b 0 [.string y.1, .string y.2.1, .int .i64 y.2.2] (by kernel_rfl) e25 (nc_range (HB.out.grew hw (by simp))) (hK _ _ (gb_rr W _) rfl)
    | 10, ho, hu, hK =>
      cases ho
      have hw : w.grownBy W none := gb_trans HN.out hg
      have e0 : A.eval (.tmp 0) = .pointer (some ⟨b, 0, none⟩) := ev_out hA 0 rfl
      exact ph_move _ rfl rfl (.pointer (some ⟨b, 0, none⟩)) e0 (hK _ _ (gb_rr W _) rfl)
    | 11, ho, hu, hK =>
      cases ho
      have hw : w.grownBy W none := gb_trans HN.out hg
      have e27 : A.eval (.tmp 27) = .pointer (some ⟨b, 0, none⟩) := (ev_in hA 27 10 rfl rfl rfl).trans (show f 10 = .pointer (some ⟨b, 0, none⟩) from hu 10 (by decide))
      exact ph_nil _ rfl rfl _ e27 (hK _ _ (gb_rr W _) rfl)
    | 12, ho, hu, hK =>
      cases ho
      have hw : w.grownBy W none := gb_trans HN.out hg
      have e28 : A.eval (.tmp 28) = .pointer (some ⟨b, 0, none⟩) := (ev_in hA 28 11 rfl rfl rfl).trans (show f 11 = .pointer (some ⟨b, 0, none⟩) from hu 11 (by decide))
      exact ph_field _ _ _ rfl rfl _ (.pointer (some ⟨b, 4, none⟩)) e28 (by kernel_rfl) (hK _ _ (gb_rr W _) rfl)
    | 13, ho, hu, hK =>
      cases ho
      have hw : w.grownBy W none := gb_trans HN.out hg
      have e29 : A.eval (.tmp 29) = .pointer (some ⟨b, 4, none⟩) := (ev_in hA 29 12 rfl rfl rfl).trans (show f 12 = .pointer (some ⟨b, 4, none⟩) from hu 12 (by decide))
      have hc : W.cell? ⟨b, 4, none⟩ = some (.pointer pr) := (HB.out.grew hw (by simp)).cell 4
      have eC : ∀ c, A.eval (.const c) = c := fun _ => rfl; have eF : ∀ g, A.eval (.func g) = .func (.func g) #[] #[] := fun _ => rfl; generalize hρ : A.eval = ρ at *
      clear hA hu hg
      refine ph_sem hρ rfl (r := .ok (.value (.pointer pr)) W) ?_ (hK _ _ (gb_rr W _) rfl)
      go_simp
    | 14, ho, hu, hK =>
      cases ho
      have hw : w.grownBy W none := gb_trans HN.out hg
      obtain ⟨p5, h5, hv5, ht5⟩ := hu 5 (by decide)
      have e22 : A.eval (.tmp 22) = .pointer p5 := (ev_in hA 22 5 rfl rfl rfl).trans hv5
      have e26 : A.eval (.tmp 26) = .agg #[.string y.1, .string y.2.1, .int .i64 y.2.2] := (ev_in hA 26 9 rfl rfl rfl).trans (show f 9 = .agg #[.string y.1, .string y.2.1, .int .i64 y.2.2] from hu 9 (by decide))
      have e30 : A.eval (.tmp 30) = .pointer pr := (ev_in hA 30 13 rfl rfl rfl).trans (show f 13 = .pointer pr from hu 13 (by decide))
      refine ph_fn 35 _ _ rfl rfl #[.pointer p5, .agg #[.string y.1, .string y.2.1, .int .i64 y.2.2], .pointer pr] (by simp [e22, e26, e30]) (by kernel_rfl) ?_
      refine (Calls.mono (join_t o y p5 pr _ _ (delR k l) r W (HOB.out W hw) ht5 (U2.out.gb hw) (by have := HS.out; have s1 := len_del k l; have s2 := szs_del k l; have s3 := len_del k r; have s4 := szs_del k r; simp only [Sm, List.length_append, List.length_cons, szs_app, szs_cons] at this ⊢; omega)) ?_)
      rintro e W' ⟨p, h, rfl, ht, hq⟩
      exact ⟨_, rfl, hK _ _ hq ⟨p, h, rfl, ht⟩⟩
    | 15, ho, hu, hK =>
      cases ho
      have hw : w.grownBy W none := gb_trans HN.out hg
      obtain ⟨p14, h14, hv14, ht14⟩ := hu 14 (by decide)
      have e31 : A.eval (.tmp 31) = .pointer p14 := (ev_in hA 31 14 rfl rfl rfl).trans hv14
      exact ph_assign _ rfl rfl _ (e31) (hK _ _ (gb_rr W _) ⟨p14, h14, rfl, ht14⟩)
    | i + 16, ho, hu, hK => simp at ho
  case fin =>
    intro f W A hA hg hu
    obtain ⟨p, h, h1, h2⟩ := hu 15 (by decide)
    refine (by assumption : ∀ (a : Act) (w : World), Code.wp Try.prog Code.ret _ a w → _) A W ?_
    refine wp_ret ?_
    refine ret_ph (fn := Try.f31) hA 4 Try.results31 rfl ((ev_in hA 4 15 rfl rfl rfl).trans h1) ?_
    exact ⟨p, h, rfl, h2, gb_trans HN.out hg⟩
set_option maxRecDepth 20000 in
set_option maxHeartbeats 1000000 in
theorem without_gt (o : Nat → Prop) (n : Nat) (w : World) (ob : ∀ b, w.heap.size ≤ b → o b) (k : ByteArray) (y : Rw) (b : Nat) (pl pr : Option Addr) (hh nn zz hl hr : Nat) (l r : List Rw)
    (hb : Bk 62 w b (nc y pl pr hh nn zz)) (T1 : Tr o w pl hl l) (T2 : Tr o w pr hr r) (hs : Sm (l ++ y :: r)) (ih : WithoutC o n) (hn : r.length ≤ n) (hR : Rises r) (hc : cmpT k y.1 = 1) : Calls Try.prog 31 #[.pointer (some ⟨b, 0, none⟩), .string k] w (TR o w (l ++ y :: delR k r)) := by
  have HS : Hid (Sm (l ++ y :: r)) := hs
  have HB : Hid (Bk 62 w b (nc y pl pr hh nn zz)) := hb
  have U1 : Hid (Tr o w pl hl l) := T1
  have U2 : Hid (Tr o w pr hr r) := T2
  have HC : Hid (∀ W, Calls Try.prog 34 #[.string k, .string y.1] W fun r w' => r = .returned (.int .i64 (1)) ∧ w' = W) := fun W => by rw [← hc]; exact compare_c k y.1 W
  have HP : Hid (∀ W, Calls Try.prog 74 #[.agg #[.string y.1, .string y.2.1, .int .i64 y.2.2]] W fun r w' => r = .returned (.string y.1) ∧ W.grownBy w' none) := fun W => place_c y W
  have HOB : Hid (∀ W, w.grownBy W none → ∀ b, W.heap.size ≤ b → o b) := fun W hg b hb => ob b (Nat.le_trans hg.size hb)
  have HI : Hid (WithoutC o n) := ih
  have HLN : Hid (r.length ≤ n) := hn
  have HRI : Hid (Rises r) := hR
  have hrg := nc_range hb
  have hmp := meth_place
  clear hs hb T1 T2 hc ob ih hn hR
  go_enter Try.func31, Try.ntmps31
  go_wp2_with (first
    | (refine wpList_load_mid rfl 52 (.tmp 10) rfl b 0 rfl [.string y.1, .string y.2.1, .int .i64 y.2.2] _ hrg Try.underlying52 rfl (by kernel_rfl) ?_)
    | (go_at_call 74; go_must (refine (Calls.mono (HP.out _) ?_)); rintro e w1 ⟨rfl, hq⟩; have HN : Hid (w.grownBy w1 none) := hq; clear hq)
    | (go_at_call 34; go_must (refine (Calls.mono (HC.out _) ?_)); rintro e wq ⟨rfl, rfl⟩))
  refine wp_region_phi none rfl (by kernel_rfl) [34, 35, 36, 37, 38, 39, 40, 41, 42, 43, 44, 45, 46, 47, 48, 4] [[], [0], [1], [2], [], [4], [5], [6], [], [8], [9], [10], [], [11, 12], [3, 7, 13], [14]] (by kernel_rfl) [fun u W => u = .pointer (some ⟨b, 0, none⟩), fun u W => u = .pointer (some ⟨b, 0, none⟩), fun u W => u = .pointer (some ⟨b, 3, none⟩), fun u W => u = .pointer pl, fun u W => u = .pointer (some ⟨b, 0, none⟩), fun u W => u = .pointer (some ⟨b, 0, none⟩), fun u W => u = .pointer (some ⟨b, 0, none⟩), fun u W => u = .agg #[.string y.1, .string y.2.1, .int .i64 y.2.2], fun u W => u = .pointer (some ⟨b, 0, none⟩), fun u W => u = .pointer (some ⟨b, 0, none⟩), fun u W => u = .pointer (some ⟨b, 4, none⟩), fun u W => u = .pointer pr, fun u W => u = .string k, fun u W => ∃ p h, u = .pointer p ∧ Tr o W p h (delR k r), fun u W => ∃ p h, u = .pointer p ∧ Tr o W p h (l ++ y :: delR k r), fun u W => ∃ p h, u = .pointer p ∧ Tr o W p h (l ++ y :: delR k r)] ?stable ?step ?fin
  case stable =>
    intro i v W W' h hg
    match i, h with
    | 0, h => exact h
    | 1, h => exact h
    | 2, h => exact h
    | 3, h => exact h
    | 4, h => exact h
    | 5, h => exact h
    | 6, h => exact h
    | 7, h => exact h
    | 8, h => exact h
    | 9, h => exact h
    | 10, h => exact h
    | 11, h => exact h
    | 12, h => exact h
    | 13, h => obtain ⟨p, h, h1, h2⟩ := h; exact ⟨p, h, h1, h2.gb hg⟩
    | 14, h => obtain ⟨p, h, h1, h2⟩ := h; exact ⟨p, h, h1, h2.gb hg⟩
    | 15, h => obtain ⟨p, h, h1, h2⟩ := h; exact ⟨p, h, h1, h2.gb hg⟩
    | i + 16, h => exact trivial
  case step =>
    intro f W A hA hg i o ho hu K hK
    match i, ho, hu, hK with
    | 0, ho, hu, hK =>
      cases ho
      have hw : w.grownBy W none := gb_trans HN.out hg
      have e0 : A.eval (.tmp 0) = .pointer (some ⟨b, 0, none⟩) := ev_out hA 0 rfl
      exact ph_move _ rfl rfl (.pointer (some ⟨b, 0, none⟩)) e0 (hK _ _ (gb_rr W _) rfl)
    | 1, ho, hu, hK =>
      cases ho
      have hw : w.grownBy W none := gb_trans HN.out hg
      have e34 : A.eval (.tmp 34) = .pointer (some ⟨b, 0, none⟩) := (ev_in hA 34 0 rfl rfl rfl).trans (show f 0 = .pointer (some ⟨b, 0, none⟩) from hu 0 (by decide))
      exact ph_nil _ rfl rfl _ e34 (hK _ _ (gb_rr W _) rfl)
    | 2, ho, hu, hK =>
      cases ho
      have hw : w.grownBy W none := gb_trans HN.out hg
      have e35 : A.eval (.tmp 35) = .pointer (some ⟨b, 0, none⟩) := (ev_in hA 35 1 rfl rfl rfl).trans (show f 1 = .pointer (some ⟨b, 0, none⟩) from hu 1 (by decide))
      exact ph_field _ _ _ rfl rfl _ (.pointer (some ⟨b, 3, none⟩)) e35 (by kernel_rfl) (hK _ _ (gb_rr W _) rfl)
    | 3, ho, hu, hK =>
      cases ho
      have hw : w.grownBy W none := gb_trans HN.out hg
      have e36 : A.eval (.tmp 36) = .pointer (some ⟨b, 3, none⟩) := (ev_in hA 36 2 rfl rfl rfl).trans (show f 2 = .pointer (some ⟨b, 3, none⟩) from hu 2 (by decide))
      have hc : W.cell? ⟨b, 3, none⟩ = some (.pointer pl) := (HB.out.grew hw (by simp)).cell 3
      have eC : ∀ c, A.eval (.const c) = c := fun _ => rfl; have eF : ∀ g, A.eval (.func g) = .func (.func g) #[] #[] := fun _ => rfl; generalize hρ : A.eval = ρ at *
      clear hA hu hg
      refine ph_sem hρ rfl (r := .ok (.value (.pointer pl)) W) ?_ (hK _ _ (gb_rr W _) rfl)
      go_simp
    | 4, ho, hu, hK =>
      cases ho
      have hw : w.grownBy W none := gb_trans HN.out hg
      have e0 : A.eval (.tmp 0) = .pointer (some ⟨b, 0, none⟩) := ev_out hA 0 rfl
      exact ph_move _ rfl rfl (.pointer (some ⟨b, 0, none⟩)) e0 (hK _ _ (gb_rr W _) rfl)
    | 5, ho, hu, hK =>
      cases ho
      have hw : w.grownBy W none := gb_trans HN.out hg
      have e38 : A.eval (.tmp 38) = .pointer (some ⟨b, 0, none⟩) := (ev_in hA 38 4 rfl rfl rfl).trans (show f 4 = .pointer (some ⟨b, 0, none⟩) from hu 4 (by decide))
      exact ph_nil _ rfl rfl _ e38 (hK _ _ (gb_rr W _) rfl)
    | 6, ho, hu, hK =>
      cases ho
      have hw : w.grownBy W none := gb_trans HN.out hg
      have e39 : A.eval (.tmp 39) = .pointer (some ⟨b, 0, none⟩) := (ev_in hA 39 5 rfl rfl rfl).trans (show f 5 = .pointer (some ⟨b, 0, none⟩) from hu 5 (by decide))
      exact ph_field _ _ _ rfl rfl _ (.pointer (some ⟨b, 0, none⟩)) e39 (by kernel_rfl) (hK _ _ (gb_rr W _) rfl)
    | 7, ho, hu, hK =>
      cases ho
      have hw : w.grownBy W none := gb_trans HN.out hg
      have e40 : A.eval (.tmp 40) = .pointer (some ⟨b, 0, none⟩) := (ev_in hA 40 6 rfl rfl rfl).trans (show f 6 = .pointer (some ⟨b, 0, none⟩) from hu 6 (by decide))
      exact ph_load rfl 52 _ rfl Try.underlying52 rfl b 0 [.string y.1, .string y.2.1, .int .i64 y.2.2] (by kernel_rfl) e40 (nc_range (HB.out.grew hw (by simp))) (hK _ _ (gb_rr W _) rfl)
    | 8, ho, hu, hK =>
      cases ho
      have hw : w.grownBy W none := gb_trans HN.out hg
      have e0 : A.eval (.tmp 0) = .pointer (some ⟨b, 0, none⟩) := ev_out hA 0 rfl
      exact ph_move _ rfl rfl (.pointer (some ⟨b, 0, none⟩)) e0 (hK _ _ (gb_rr W _) rfl)
    | 9, ho, hu, hK =>
      cases ho
      have hw : w.grownBy W none := gb_trans HN.out hg
      have e42 : A.eval (.tmp 42) = .pointer (some ⟨b, 0, none⟩) := (ev_in hA 42 8 rfl rfl rfl).trans (show f 8 = .pointer (some ⟨b, 0, none⟩) from hu 8 (by decide))
      exact ph_nil _ rfl rfl _ e42 (hK _ _ (gb_rr W _) rfl)
    | 10, ho, hu, hK =>
      cases ho
      have hw : w.grownBy W none := gb_trans HN.out hg
      have e43 : A.eval (.tmp 43) = .pointer (some ⟨b, 0, none⟩) := (ev_in hA 43 9 rfl rfl rfl).trans (show f 9 = .pointer (some ⟨b, 0, none⟩) from hu 9 (by decide))
      exact ph_field _ _ _ rfl rfl _ (.pointer (some ⟨b, 4, none⟩)) e43 (by kernel_rfl) (hK _ _ (gb_rr W _) rfl)
    | 11, ho, hu, hK =>
      cases ho
      have hw : w.grownBy W none := gb_trans HN.out hg
      have e44 : A.eval (.tmp 44) = .pointer (some ⟨b, 4, none⟩) := (ev_in hA 44 10 rfl rfl rfl).trans (show f 10 = .pointer (some ⟨b, 4, none⟩) from hu 10 (by decide))
      have hc : W.cell? ⟨b, 4, none⟩ = some (.pointer pr) := (HB.out.grew hw (by simp)).cell 4
      have eC : ∀ c, A.eval (.const c) = c := fun _ => rfl; have eF : ∀ g, A.eval (.func g) = .func (.func g) #[] #[] := fun _ => rfl; generalize hρ : A.eval = ρ at *
      clear hA hu hg
      refine ph_sem hρ rfl (r := .ok (.value (.pointer pr)) W) ?_ (hK _ _ (gb_rr W _) rfl)
      go_simp
    | 12, ho, hu, hK =>
      cases ho
      have hw : w.grownBy W none := gb_trans HN.out hg
      have e1 : A.eval (.tmp 1) = .string k := ev_out hA 1 rfl
      exact ph_move _ rfl rfl (.string k) e1 (hK _ _ (gb_rr W _) rfl)
    | 13, ho, hu, hK =>
      cases ho
      have hw : w.grownBy W none := gb_trans HN.out hg
      have e45 : A.eval (.tmp 45) = .pointer pr := (ev_in hA 45 11 rfl rfl rfl).trans (show f 11 = .pointer pr from hu 11 (by decide))
      have e46 : A.eval (.tmp 46) = .string k := (ev_in hA 46 12 rfl rfl rfl).trans (show f 12 = .string k from hu 12 (by decide))
      refine ph_fn 31 _ _ rfl rfl #[.pointer pr, .string k] (by simp [e45, e46]) (by kernel_rfl) ?_
      refine (Calls.mono (HI.out k pr _ r W (HOB.out W hw) (U2.out.gb hw) HLN.out HRI.out (by have := HS.out; have s1 := len_del k l; have s2 := szs_del k l; have s3 := len_del k r; have s4 := szs_del k r; simp only [Sm, List.length_append, List.length_cons, szs_app, szs_cons] at this ⊢; omega)) ?_)
      rintro e W' ⟨p, h, rfl, ht, hq⟩
      exact ⟨_, rfl, hK _ _ hq ⟨p, h, rfl, ht⟩⟩
    | 14, ho, hu, hK =>
      cases ho
      have hw : w.grownBy W none := gb_trans HN.out hg
      have e37 : A.eval (.tmp 37) = .pointer pl := (ev_in hA 37 3 rfl rfl rfl).trans (show f 3 = .pointer pl from hu 3 (by decide))
      have e41 : A.eval (.tmp 41) = .agg #[.string y.1, .string y.2.1, .int .i64 y.2.2] := (ev_in hA 41 7 rfl rfl rfl).trans (show f 7 = .agg #[.string y.1, .string y.2.1, .int .i64 y.2.2] from hu 7 (by decide))
      obtain ⟨p13, h13, hv13, ht13⟩ := hu 13 (by decide)
      have e47 : A.eval (.tmp 47) = .pointer p13 := (ev_in hA 47 13 rfl rfl rfl).trans hv13
      refine ph_fn 35 _ _ rfl rfl #[.pointer pl, .agg #[.string y.1, .string y.2.1, .int .i64 y.2.2], .pointer p13] (by simp [e37, e41, e47]) (by kernel_rfl) ?_
      refine (Calls.mono (join_t o y pl p13 _ _ l (delR k r) W (HOB.out W hw) (U1.out.gb hw) ht13 (by have := HS.out; have s1 := len_del k l; have s2 := szs_del k l; have s3 := len_del k r; have s4 := szs_del k r; simp only [Sm, List.length_append, List.length_cons, szs_app, szs_cons] at this ⊢; omega)) ?_)
      rintro e W' ⟨p, h, rfl, ht, hq⟩
      exact ⟨_, rfl, hK _ _ hq ⟨p, h, rfl, ht⟩⟩
    | 15, ho, hu, hK =>
      cases ho
      have hw : w.grownBy W none := gb_trans HN.out hg
      obtain ⟨p14, h14, hv14, ht14⟩ := hu 14 (by decide)
      have e48 : A.eval (.tmp 48) = .pointer p14 := (ev_in hA 48 14 rfl rfl rfl).trans hv14
      exact ph_assign _ rfl rfl _ (e48) (hK _ _ (gb_rr W _) ⟨p14, h14, rfl, ht14⟩)
    | i + 16, ho, hu, hK => simp at ho
  case fin =>
    intro f W A hA hg hu
    obtain ⟨p, h, h1, h2⟩ := hu 15 (by decide)
    refine (by assumption : ∀ (a : Act) (w : World), Code.wp Try.prog Code.ret _ a w → _) A W ?_
    refine wp_ret ?_
    refine ret_ph (fn := Try.f31) hA 4 Try.results31 rfl ((ev_in hA 4 15 rfl rfl rfl).trans h1) ?_
    exact ⟨p, h, rfl, h2, gb_trans HN.out hg⟩
set_option maxRecDepth 20000 in
set_option maxHeartbeats 1000000 in
theorem without_eq (o : Nat → Prop) (n : Nat) (w : World) (ob : ∀ b, w.heap.size ≤ b → o b) (k : ByteArray) (y : Rw) (b : Nat) (pl pr : Option Addr) (hh nn zz hl hr : Nat) (l r : List Rw)
    (hb : Bk 62 w b (nc y pl pr hh nn zz)) (T1 : Tr o w pl hl l) (T2 : Tr o w pr hr r) (hs : Sm (l ++ y :: r)) (hc : cmpT k y.1 = 0) : Calls Try.prog 31 #[.pointer (some ⟨b, 0, none⟩), .string k] w (TR o w (l ++ r)) := by
  have HS : Hid (Sm (l ++ y :: r)) := hs
  have HB : Hid (Bk 62 w b (nc y pl pr hh nn zz)) := hb
  have U1 : Hid (Tr o w pl hl l) := T1
  have U2 : Hid (Tr o w pr hr r) := T2
  have HC : Hid (∀ W, Calls Try.prog 34 #[.string k, .string y.1] W fun r w' => r = .returned (.int .i64 (0)) ∧ w' = W) := fun W => by rw [← hc]; exact compare_c k y.1 W
  have HP : Hid (∀ W, Calls Try.prog 74 #[.agg #[.string y.1, .string y.2.1, .int .i64 y.2.2]] W fun r w' => r = .returned (.string y.1) ∧ W.grownBy w' none) := fun W => place_c y W
  have HOB : Hid (∀ W, w.grownBy W none → ∀ b, W.heap.size ≤ b → o b) := fun W hg b hb => ob b (Nat.le_trans hg.size hb)
  have hrg := nc_range hb
  have hmp := meth_place
  clear hs hb T1 T2 hc ob
  go_enter Try.func31, Try.ntmps31
  go_wp2_with (first
    | (refine wpList_load_mid rfl 52 (.tmp 10) rfl b 0 rfl [.string y.1, .string y.2.1, .int .i64 y.2.2] _ hrg Try.underlying52 rfl (by kernel_rfl) ?_)
    | (go_at_call 74; go_must (refine (Calls.mono (HP.out _) ?_)); rintro e w1 ⟨rfl, hq⟩; have HN : Hid (w.grownBy w1 none) := hq; clear hq)
    | (go_at_call 34; go_must (refine (Calls.mono (HC.out _) ?_)); rintro e wq ⟨rfl, rfl⟩))
  refine wp_region_phi none rfl (by kernel_rfl) [49, 50, 51, 52, 53, 54, 55, 56, 57, 4] [[], [0], [1], [2], [], [4], [5], [6], [3, 7], [8]] (by kernel_rfl) [fun u W => u = .pointer (some ⟨b, 0, none⟩), fun u W => u = .pointer (some ⟨b, 0, none⟩), fun u W => u = .pointer (some ⟨b, 3, none⟩), fun u W => u = .pointer pl, fun u W => u = .pointer (some ⟨b, 0, none⟩), fun u W => u = .pointer (some ⟨b, 0, none⟩), fun u W => u = .pointer (some ⟨b, 4, none⟩), fun u W => u = .pointer pr, fun u W => ∃ p h, u = .pointer p ∧ Tr o W p h (l ++ r), fun u W => ∃ p h, u = .pointer p ∧ Tr o W p h (l ++ r)] ?stable ?step ?fin
  case stable =>
    intro i v W W' h hg
    match i, h with
    | 0, h => exact h
    | 1, h => exact h
    | 2, h => exact h
    | 3, h => exact h
    | 4, h => exact h
    | 5, h => exact h
    | 6, h => exact h
    | 7, h => exact h
    | 8, h => obtain ⟨p, h, h1, h2⟩ := h; exact ⟨p, h, h1, h2.gb hg⟩
    | 9, h => obtain ⟨p, h, h1, h2⟩ := h; exact ⟨p, h, h1, h2.gb hg⟩
    | i + 10, h => exact trivial
  case step =>
    intro f W A hA hg i o ho hu K hK
    match i, ho, hu, hK with
    | 0, ho, hu, hK =>
      cases ho
      have hw : w.grownBy W none := gb_trans HN.out hg
      have e0 : A.eval (.tmp 0) = .pointer (some ⟨b, 0, none⟩) := ev_out hA 0 rfl
      exact ph_move _ rfl rfl (.pointer (some ⟨b, 0, none⟩)) e0 (hK _ _ (gb_rr W _) rfl)
    | 1, ho, hu, hK =>
      cases ho
      have hw : w.grownBy W none := gb_trans HN.out hg
      have e49 : A.eval (.tmp 49) = .pointer (some ⟨b, 0, none⟩) := (ev_in hA 49 0 rfl rfl rfl).trans (show f 0 = .pointer (some ⟨b, 0, none⟩) from hu 0 (by decide))
      exact ph_nil _ rfl rfl _ e49 (hK _ _ (gb_rr W _) rfl)
    | 2, ho, hu, hK =>
      cases ho
      have hw : w.grownBy W none := gb_trans HN.out hg
      have e50 : A.eval (.tmp 50) = .pointer (some ⟨b, 0, none⟩) := (ev_in hA 50 1 rfl rfl rfl).trans (show f 1 = .pointer (some ⟨b, 0, none⟩) from hu 1 (by decide))
      exact ph_field _ _ _ rfl rfl _ (.pointer (some ⟨b, 3, none⟩)) e50 (by kernel_rfl) (hK _ _ (gb_rr W _) rfl)
    | 3, ho, hu, hK =>
      cases ho
      have hw : w.grownBy W none := gb_trans HN.out hg
      have e51 : A.eval (.tmp 51) = .pointer (some ⟨b, 3, none⟩) := (ev_in hA 51 2 rfl rfl rfl).trans (show f 2 = .pointer (some ⟨b, 3, none⟩) from hu 2 (by decide))
      have hc : W.cell? ⟨b, 3, none⟩ = some (.pointer pl) := (HB.out.grew hw (by simp)).cell 3
      have eC : ∀ c, A.eval (.const c) = c := fun _ => rfl; have eF : ∀ g, A.eval (.func g) = .func (.func g) #[] #[] := fun _ => rfl; generalize hρ : A.eval = ρ at *
      clear hA hu hg
      refine ph_sem hρ rfl (r := .ok (.value (.pointer pl)) W) ?_ (hK _ _ (gb_rr W _) rfl)
      go_simp
    | 4, ho, hu, hK =>
      cases ho
      have hw : w.grownBy W none := gb_trans HN.out hg
      have e0 : A.eval (.tmp 0) = .pointer (some ⟨b, 0, none⟩) := ev_out hA 0 rfl
      exact ph_move _ rfl rfl (.pointer (some ⟨b, 0, none⟩)) e0 (hK _ _ (gb_rr W _) rfl)
    | 5, ho, hu, hK =>
      cases ho
      have hw : w.grownBy W none := gb_trans HN.out hg
      have e53 : A.eval (.tmp 53) = .pointer (some ⟨b, 0, none⟩) := (ev_in hA 53 4 rfl rfl rfl).trans (show f 4 = .pointer (some ⟨b, 0, none⟩) from hu 4 (by decide))
      exact ph_nil _ rfl rfl _ e53 (hK _ _ (gb_rr W _) rfl)
    | 6, ho, hu, hK =>
      cases ho
      have hw : w.grownBy W none := gb_trans HN.out hg
      have e54 : A.eval (.tmp 54) = .pointer (some ⟨b, 0, none⟩) := (ev_in hA 54 5 rfl rfl rfl).trans (show f 5 = .pointer (some ⟨b, 0, none⟩) from hu 5 (by decide))
      exact ph_field _ _ _ rfl rfl _ (.pointer (some ⟨b, 4, none⟩)) e54 (by kernel_rfl) (hK _ _ (gb_rr W _) rfl)
    | 7, ho, hu, hK =>
      cases ho
      have hw : w.grownBy W none := gb_trans HN.out hg
      have e55 : A.eval (.tmp 55) = .pointer (some ⟨b, 4, none⟩) := (ev_in hA 55 6 rfl rfl rfl).trans (show f 6 = .pointer (some ⟨b, 4, none⟩) from hu 6 (by decide))
      have hc : W.cell? ⟨b, 4, none⟩ = some (.pointer pr) := (HB.out.grew hw (by simp)).cell 4
      have eC : ∀ c, A.eval (.const c) = c := fun _ => rfl; have eF : ∀ g, A.eval (.func g) = .func (.func g) #[] #[] := fun _ => rfl; generalize hρ : A.eval = ρ at *
      clear hA hu hg
      refine ph_sem hρ rfl (r := .ok (.value (.pointer pr)) W) ?_ (hK _ _ (gb_rr W _) rfl)
      go_simp
    | 8, ho, hu, hK =>
      cases ho
      have hw : w.grownBy W none := gb_trans HN.out hg
      have e52 : A.eval (.tmp 52) = .pointer pl := (ev_in hA 52 3 rfl rfl rfl).trans (show f 3 = .pointer pl from hu 3 (by decide))
      have e56 : A.eval (.tmp 56) = .pointer pr := (ev_in hA 56 7 rfl rfl rfl).trans (show f 7 = .pointer pr from hu 7 (by decide))
      refine ph_fn 38 _ _ rfl rfl #[.pointer pl, .pointer pr] (by simp [e52, e56]) (by kernel_rfl) ?_
      refine (Calls.mono (link_t o pl pr _ _ l r W (HOB.out W hw) (U1.out.gb hw) (U2.out.gb hw) (by have := HS.out; have s1 := len_del k l; have s2 := szs_del k l; have s3 := len_del k r; have s4 := szs_del k r; simp only [Sm, List.length_append, List.length_cons, szs_app, szs_cons] at this ⊢; omega)) ?_)
      rintro e W' ⟨p, h, rfl, ht, hq⟩
      exact ⟨_, rfl, hK _ _ hq ⟨p, h, rfl, ht⟩⟩
    | 9, ho, hu, hK =>
      cases ho
      have hw : w.grownBy W none := gb_trans HN.out hg
      obtain ⟨p8, h8, hv8, ht8⟩ := hu 8 (by decide)
      have e57 : A.eval (.tmp 57) = .pointer p8 := (ev_in hA 57 8 rfl rfl rfl).trans hv8
      exact ph_assign _ rfl rfl _ (e57) (hK _ _ (gb_rr W _) ⟨p8, h8, rfl, ht8⟩)
    | i + 10, ho, hu, hK => simp at ho
  case fin =>
    intro f W A hA hg hu
    obtain ⟨p, h, h1, h2⟩ := hu 9 (by decide)
    refine (by assumption : ∀ (a : Act) (w : World), Code.wp Try.prog Code.ret _ a w → _) A W ?_
    refine wp_ret ?_
    refine ret_ph (fn := Try.f31) hA 4 Try.results31 rfl ((ev_in hA 4 9 rfl rfl rfl).trans h1) ?_
    exact ⟨p, h, rfl, h2, gb_trans HN.out hg⟩
theorem without_n (o : Nat → Prop) : ∀ n, WithoutC o n := by
  intro n
  induction n using Nat.strongRecOn with
  | ind n IH =>
    intro k p h xs w ob ht hn hR hs
    cases p with
    | none =>
      obtain ⟨rfl, rfl⟩ := ht.nil0
      exact without_nil o w k
    | some a =>
      obtain ⟨b, l, y, r, pl, pr, hl, hr, rfl, ob', hb, t1, t2, rfl, hh⟩ := ht.node
      obtain ⟨r1, r2, r3, r4⟩ := rises_mid hR
      simp only [List.length_append, List.length_cons] at hn
      rcases cmpT_cases k y.1 with ⟨hc, hk⟩ | ⟨hc, hk⟩ | ⟨hc, hk⟩
      · rw [delR_lt hk r4]
        exact without_lt o (n - 1) w ob k y b pl pr _ _ _ hl hr l r hb t1 t2 hs (IH (n - 1) (by omega)) (by omega) r1 hc
      · rw [delR_gt hk r3]
        exact without_gt o (n - 1) w ob k y b pl pr _ _ _ hl hr l r hb t1 t2 hs (IH (n - 1) (by omega)) (by omega) r2 hc
      · rw [delR_eq hk r3 r4]
        exact without_eq o 0 w ob k y b pl pr _ _ _ hl hr l r hb t1 t2 hs hc
theorem without_t (o : Nat → Prop) (k : ByteArray) (p : Option Addr) (h : Nat) (xs : List Rw) (w : World) (ob : ∀ b, w.heap.size ≤ b → o b) (ht : Tr o w p h xs) (hR : Rises xs) (hs : Sm xs) : Calls Try.prog 31 #[.pointer p, .string k] w (TR o w (delR k xs)) :=
  without_n o _ k p h xs w ob ht (Nat.le_refl _) hR hs
end Go.Proofs.Ytdmchcdkfbijlab
