/-
  What the document's Peek and Room answer: what the plain functions pk and rm give. Condition: at most 2^47 bytes.
-/
import Derived.Test.YteilmkibbdlnoaaIPg
namespace Go.Proofs.Yteilmkibbdlnoaa
open Go.RowKit
set_option linter.unusedVariables false

theorem xint_c (g : Nat) (a : Option Addr) (len cap : Nat) (xs : List Int) (e : Int) (p : Nat) (most : Int) (w : World) (h : XS w g a len cap xs e p) (hm : most ≤ 9223372036854775807) :
    Calls Try.prog 11 #[.pointer (some ⟨g, 0, none⟩), .int .i64 most] w fun r w' => r = .returned (.int .i64 (pI xs p e most).1) ∧ XS w' g a len cap xs (pI xs p e most).2.2 (pI xs p e most).2.1 ∧ w.grownBy w' (some g) := by
  unfold pI
  by_cases he : e = 0
  · subst he
    rw [if_neg (by simp)]
    exact xint_ok g a len cap xs p most w h hm
  · rw [if_pos he]
    exact (xint_no g a len cap xs e p most w h (by simpa using he)).mono fun r w' ⟨h1, h2⟩ => ⟨h1, by rw [h2]; exact ⟨h, World.grownBy.refl _ _⟩⟩
theorem xs_new {w : World} {a : Option Addr} {len cap : Nat} {xs : List Int} (h : Seg .u8 w a len xs) (hx : Bytes xs) (hl : len ≤ 140737488355328) (hlc : len ≤ cap) (hcm : cap ≤ 9223372036854775807) :
    XS (w.alloc (.cells #[.slice a len cap, .int .i64 0, .int .i64 0] 37)) w.heap.size a len cap xs 0 0 ∧ w.grownBy (w.alloc (.cells #[.slice a len cap, .int .i64 0, .int .i64 0] 37)) none := by
  have hg : w.grownBy (w.alloc (.cells #[.slice a len cap, .int .i64 0, .int .i64 0] 37)) none := World.grownBy_alloc _ _ _
  refine ⟨⟨heap_new w _, h.grew hg (by simp), hx, ?_, Nat.zero_le _, hlc, hl, hcm⟩, hg⟩
  rcases h.2 with z | ⟨b, off, q, hb, _⟩
  · exact .inl z
  · refine .inr (fun b' o s q' => ?_)
    rw [q] at q'
    cases q'
    omega
set_option maxRecDepth 20000 in
set_option maxHeartbeats 1000000 in
theorem gpeek_c (a : Option Addr) (len cap : Nat) (xs : List Int) (w : World) (h : Seg .u8 w a len xs) (hx : Bytes xs) (hl : len ≤ 140737488355328) (hlc : len ≤ cap) (hcm : cap ≤ 9223372036854775807) :
    Calls Try.prog 6 #[.slice a len cap] w fun r w' => HA xs w r w' := by
  have hxl : xs.length = len := h.1
  rcases Nat.lt_or_ge len 4 with hlt | hge
  · have hm : mk4 xs = false := by
      unfold mk4
      rw [decide_eq_false (by omega), Bool.false_and]
    have hp : pk xs = (0, 0, 0, 92) := by unfold pk; rw [if_neg (by rw [hm]; simp)]
    unfold HA
    rw [hp]
    have hd : (len : Int) < 4 := by omega
    clear h hx hp hm hxl hlt
    go_enter Try.func6, Try.ntmps6
    go_wp2
    refine bodyPost_ret (results_tmp4 rfl _ _) rfl ?_
    exact ⟨rfl, World.grownBy.refl _ _⟩
  · have hd : ¬ (len : Int) < 4 := by omega
    have hs := sliceH a len cap 4 4 rfl (by omega)
    have hcv := seg_string (P := Try.prog) 22 9 5 cap (seg_take h 4 hge) Try.underlying22 Try.underlying5 Try.underlying9
    have he := mark_eq hx (by omega)
    generalize strOfNums (xs.take 4) = S at hcv he
    cases hm : mk4 xs with
    | false =>
      have hp : pk xs = (0, 0, 0, 92) := by unfold pk; rw [if_neg (by rw [hm]; simp)]
      unfold HA
      rw [hp]
      rw [hm] at he
      have he2 : (S.toList != [104, 119, 105, 49]) = true := by simp [bne, he]
      clear h hx hp hm hxl
      go_enter Try.func6, Try.ntmps6
      go_wp2
      refine bodyPost_ret (results_tmp4 rfl _ _) rfl ?_
      exact ⟨rfl, World.grownBy.refl _ _⟩
    | true =>
      rw [hm] at he
      have he2 : (S.toList != [104, 119, 105, 49]) = false := by simp [bne, he]
      have hys : Bytes (xs.drop 4) := bytes_drop hx 4
      have hyl : (xs.drop 4).length = len - 4 := by rw [List.length_drop, hxl]
      have hX := xs_new (seg_cutI h 4 hlc) hys (by omega) (by omega : len - 4 ≤ cap - 4) (by omega)
      obtain ⟨V1, p1, E1, hr1⟩ : ∃ V p E, h1 xs = (V, p, E) := ⟨_, _, _, rfl⟩
      obtain ⟨V2, p2, E2, hr2⟩ : ∃ V p E, h2 xs = (V, p, E) := ⟨_, _, _, rfl⟩
      obtain ⟨ys, hy⟩ : ∃ ys, ys = xs.drop 4 := ⟨_, rfl⟩
      have hp2 : p2 ≤ 140737488355328 := by
        have : (h2 xs).2.1 ≤ (xs.drop 4).length := pI_le hys (by rw [show (h1 xs).2.1 = (ri (xs.drop 4) 0 1152921504606846976).2.1 from rfl]; exact (ri_bd hys 0 (Nat.zero_le _) _).2.2.2.1) _ _
        rw [hr2] at this
        simp only at this
        omega
      have hsl := sliceL a len cap 4 4 rfl (by omega)
      obtain ⟨A4, hA4⟩ : ∃ A, A = cutI a cap 4 := ⟨_, rfl⟩
      obtain ⟨M, hM⟩ : ∃ M, M = len - 4 := ⟨_, rfl⟩
      obtain ⟨C, hC⟩ : ∃ M, M = cap - 4 := ⟨_, rfl⟩
      rw [← hA4, ← hM, ← hC] at hsl hX
      rw [← hy] at hX
      have H1 : Hid _ := hX
      have HI1 : Hid (∀ g W, XS W g A4 M C ys 0 0 → Calls Try.prog 11 #[.pointer (some ⟨g, 0, none⟩), .int .i64 1152921504606846976] W fun r w' => r = .returned (.int .i64 V1) ∧ XS w' g A4 M C ys E1 p1 ∧ W.grownBy w' (some g)) := fun g W hs => by
        have := xint_ok g A4 M C ys 0 1152921504606846976 W hs (by omega)
        rw [hy, show ri (xs.drop 4) 0 1152921504606846976 = h1 xs from rfl, hr1, ← hy] at this
        exact this
      have HI2 : Hid (∀ g W, XS W g A4 M C ys E1 p1 → Calls Try.prog 11 #[.pointer (some ⟨g, 0, none⟩), .int .i64 1048576] W fun r w' => r = .returned (.int .i64 V2) ∧ XS w' g A4 M C ys E2 p2 ∧ W.grownBy w' (some g)) := fun g W hs => by
        have := xint_c g A4 M C ys E1 p1 1048576 W hs (by omega)
        have e : pI ys p1 E1 1048576 = h2 xs := by rw [hy]; unfold h2; rw [hr1]
        rw [e, hr2] at this
        exact this
      have HPK : Hid (pk xs = if E2 = 0 then (V1, V2, 4 + p2, 0) else (0, 0, 0, 92)) := by
        show _ = _
        unfold pk
        rw [hm, hr1, hr2]
        simp
      unfold HA
      clear h hx hm hys hyl hxl hA4 hM hC hX hr1 hr2 hy
      by_cases hE : E2 = 0
      · subst hE
        rw [if_pos rfl] at HPK
        rw [HPK.out]
        go_enter Try.func6, Try.ntmps6
        go_wp2_with (first
          | ((fail_if_success (have z := H3)); go_at_call 11; go_must (refine (Calls.mono (HI1.out _ _ H1.out.1) ?_)); rintro r w3 ⟨rfl, k1, k2⟩; have H3 : Hid (XS w3 w.heap.size A4 M C ys E1 p1 ∧ w.grownBy w3 none) := ⟨k1, gb_far' H1.out.2 k2 (Nat.le_refl _)⟩; clear k1 k2)
          | ((fail_if_success (have z := H4)); have z := H3; clear z; go_at_call 11; go_must (refine (Calls.mono (HI2.out _ _ H3.out.1) ?_)); rintro r w4 ⟨rfl, k1, k2⟩; have H4 : Hid (XS w4 w.heap.size A4 M C ys 0 p2 ∧ w.grownBy w4 none) := ⟨k1, gb_far' H3.out.2 k2 (Nat.le_refl _)⟩; have c1 := k1.rdr.c1; have c2 := k1.rdr.c2; clear k1 k2))
        go_quiet (fail)
        go_wp2
        refine bodyPost_ret (results_tmp4 rfl _ _) rfl ?_
        exact ⟨rfl, gb_drewN H4.out.2 _⟩
      · have hEb : (E2 != 0) = true := by simp [hE]
        rw [if_neg hE] at HPK
        rw [HPK.out]
        clear hE
        go_enter Try.func6, Try.ntmps6
        go_wp2_with (first
          | ((fail_if_success (have z := H3)); go_at_call 11; go_must (refine (Calls.mono (HI1.out _ _ H1.out.1) ?_)); rintro r w3 ⟨rfl, k1, k2⟩; have H3 : Hid (XS w3 w.heap.size A4 M C ys E1 p1 ∧ w.grownBy w3 none) := ⟨k1, gb_far' H1.out.2 k2 (Nat.le_refl _)⟩; clear k1 k2)
          | ((fail_if_success (have z := H4)); have z := H3; clear z; go_at_call 11; go_must (refine (Calls.mono (HI2.out _ _ H3.out.1) ?_)); rintro r w4 ⟨rfl, k1, k2⟩; have H4 : Hid (XS w4 w.heap.size A4 M C ys E2 p2 ∧ w.grownBy w4 none) := ⟨k1, gb_far' H3.out.2 k2 (Nat.le_refl _)⟩; have c1 := k1.rdr.c1; have c2 := k1.rdr.c2; clear k1 k2))
        refine bodyPost_ret (results_tmp4 rfl _ _) rfl ?_
        exact ⟨rfl, H4.out.2⟩
set_option maxRecDepth 20000 in
theorem groom_c (a : Option Addr) (len cap : Nat) (xs : List Int) (w : World) (h : Seg .u8 w a len xs) (hx : Bytes xs) (hl : len ≤ 140737488355328) (hlc : len ≤ cap) (hcm : cap ≤ 9223372036854775807) :
    Calls Try.prog 8 #[.slice a len cap] w fun r w' => r = .returned (.int .i64 (rm xs)) ∧ w.grownBy w' none := by
  have HH : Hid (Calls Try.prog 6 #[.slice a len cap] w fun r w' => HA xs w r w') := gpeek_c a len cap xs w h hx hl hlc hcm
  have hb := pk_bd hx
  have hrm : rm xs = if (pk xs).2.2.2 = 0 then min (pk xs).2.1 (((len - (pk xs).2.2.1 - 4 : Nat) / 4 : Nat) : Int) else 0 := by unfold rm; rw [h.1]
  obtain ⟨V, n, q, e, hk⟩ : ∃ V n q e, pk xs = (V, n, q, e) := ⟨_, _, _, _, rfl⟩
  unfold HA at HH
  rw [hk] at HH hb hrm
  rw [h.1] at hb
  simp only at hb hrm
  clear h hx hk
  rcases hb.2 with ⟨rfl, hql⟩ | ⟨rfl, rfl, rfl⟩
  · have hn0 := hb.1
    rw [if_pos rfl] at hrm
    have HRM : Hid (rm xs = min n (((len - q - 4 : Nat) / 4 : Nat) : Int)) := hrm
    have HR : Hid (∀ r : Int, (len < q + 4 ∧ r = 0) ∨ (q + 4 ≤ len ∧ ((r = n ∧ n ≤ ((len : Int) - q - 4) / 4) ∨ (r = ((len : Int) - q - 4) / 4 ∧ ((len : Int) - q - 4) / 4 ≤ n))) → r = rm xs) := fun r h => by rw [hrm]; omega
    clear hb hrm HRM
    rcases Nat.lt_or_ge len (q + 4) with hlt | hge
    · have f1 : (len : Int) - (q : Int) - 4 < 0 := by omega
      go_enter Try.func8, Try.ntmps8
      go_wp2_with (go_at_call 6; go_must (refine (Calls.mono HH.out ?_)); rintro r w2 ⟨rfl, k⟩; have H2 : Hid (w.grownBy w2 none) := k; clear k)
      all_goals
        go_ret
        refine ⟨ret_int (HR.out _ ?_), H2.out⟩
        omega
    · have f1 : ¬ (len : Int) - (q : Int) - 4 < 0 := by omega
      obtain ⟨d, hd⟩ : ∃ d : Nat, d = len - q - 4 := ⟨_, rfl⟩
      have hdI : (len : Int) - (q : Int) - 4 = (d : Int) := by omega
      have hdb : d ≤ 140737488355328 := by omega
      have HR2 : Hid (∀ r : Int, ((r = n ∧ n ≤ (d : Int) / 4) ∨ (r = (d : Int) / 4 ∧ (d : Int) / 4 ≤ n)) → r = rm xs) := fun r h => HR.out r (by rw [hdI]; omega)
      clear hd HR
      go_enter Try.func8, Try.ntmps8
      go_wp2_with (go_at_call 6; go_must (refine (Calls.mono HH.out ?_)); rintro r w2 ⟨rfl, k⟩; have H2 : Hid (w.grownBy w2 none) := k; clear k)
      all_goals
        go_ret
        refine ⟨ret_int (HR2.out _ ?_), H2.out⟩
        omega
  · rw [if_neg (by decide)] at hrm
    rw [hrm]
    clear hb hrm
    go_enter Try.func8, Try.ntmps8
    go_wp2_with (go_at_call 6; go_must (refine (Calls.mono HH.out ?_)); rintro r w2 ⟨rfl, k⟩; have H2 : Hid (w.grownBy w2 none) := k; clear k)
    go_ret
    exact ⟨rfl, H2.out⟩
end Go.Proofs.Yteilmkibbdlnoaa
