/-
  What image's head, Peek and Room answer: what the plain functions pk and rm give. Condition: at most 2^47 bytes.
-/
import Derived.Test.YtlmjgjimmbadeaaDoorIPk
namespace Go.Proofs.YtlmjgjimmbadeaaDoor
open Go.RowKit
set_option linter.unusedVariables false

theorem int_c (g : Nat) (a : Option Addr) (len cap : Nat) (xs : List Int) (e : Int) (p : Nat) (most : Int) (w : World) (h : RS w g a len cap xs e p) (hm : most ≤ 9223372036854775807) :
    Calls Tryd.prog 81 #[.pointer (some ⟨g, 0, none⟩), .int .i64 most] w fun r w' => r = .returned (.int .i64 (pI xs p e most).1) ∧ RS w' g a len cap xs (pI xs p e most).2.2 (pI xs p e most).2.1 ∧ w.grownBy w' (some g) := by
  unfold pI
  by_cases he : e = 0
  · subst he
    rw [if_neg (by simp)]
    exact int_ok g a len cap xs p most w h hm
  · rw [if_pos he]
    exact (int_no g e _ p most w h.rdr (by simpa using he)).mono fun r w' ⟨h1, h2⟩ => ⟨h1, by rw [h2]; exact ⟨h, World.grownBy.refl _ _⟩⟩
theorem gb_far' {a b c : World} {g : Nat} (h : a.grownBy b none) (k : b.grownBy c (some g)) (hg : a.heap.size ≤ g) : a.grownBy c none :=
  ⟨k.os.trans h.os, k.tape.trans h.tape, k.output.trans h.output, Nat.le_trans h.size k.size, fun i hi hn => (k.block i (Nat.lt_of_lt_of_le hi h.size) (fun e => by cases e; omega)).trans (h.block i hi hn)⟩
theorem results_tmp4 {P : Program} {fn : Func} {t u v x : Nat} (h : fn.results = #[.tmp t, .tmp u, .tmp v, .tmp x]) (tmps : Array Value) (w : World) :
    (results fn tmps).run P w = .ok (.tuple #[tmps.getD t undef, tmps.getD u undef, tmps.getD v undef, tmps.getD x undef]) w := by
  simp [results, h]
/-- What head answers. -/
def HA (xs : List Int) (w : World) (r : Ending) (w' : World) : Prop := r = .returned (.tuple #[.int .i64 (pk xs).1, .int .i64 (pk xs).2.1, .int .i64 ((pk xs).2.2.1 : Int), .int .i64 (pk xs).2.2.2]) ∧ w.grownBy w' none
set_option maxRecDepth 20000 in
set_option maxHeartbeats 1000000 in
theorem head_c (a : Option Addr) (len cap : Nat) (xs : List Int) (w : World) (h : Seg .u8 w a len xs) (hx : Bytes xs) (hl : len ≤ 140737488355328) (hlc : len ≤ cap) (hnz : a = none → cap = 0) :
    Calls Tryd.prog 63 #[.slice a len cap] w fun r w' => HA xs w r w' := by
  have hxl : xs.length = len := h.1
  have HM : Hid (Calls Tryd.prog 48 #[.slice a len cap] w fun r w' => r = .returned (.bool (mk4 xs)) ∧ w' = w) := marked_c a len cap xs w h hx hl hlc
  cases hm : mk4 xs with
  | false =>
    have hp : pk xs = (0, 0, 0, 92) := by unfold pk; rw [if_neg (by rw [hm]; simp)]
    unfold HA
    rw [hp]
    rw [hm] at HM
    clear h hx hp hm
    go_enter Tryd.func63, Tryd.ntmps63
    go_wp2_with (go_at_call 48; go_must (refine (Calls.mono HM.out ?_)); rintro r wq ⟨rfl, hq⟩; obtain rfl := hq.symm)
    refine bodyPost_ret (results_tmp4 rfl _ _) rfl ?_
    exact ⟨rfl, World.grownBy.refl _ _⟩
  | true =>
    rw [hm] at HM
    have h4 : 4 ≤ len := by have := len_of_mk4 hm; omega
    obtain ⟨m, hm1, hm2⟩ : ∃ m : Nat, 4 ≤ m ∧ m ≤ len ∧ ((m = len ∧ ¬ (24 : Int) < (len : Int)) ∨ (m = 24 ∧ (24 : Int) < (len : Int))) := by
      rcases Nat.lt_or_ge 24 len with q | q
      · exact ⟨24, by omega, by omega, .inr ⟨rfl, by omega⟩⟩
      · exact ⟨len, by omega, by omega, .inl ⟨rfl, by omega⟩⟩
    have hys : Bytes (xs.drop 4) := bytes_drop hx 4
    have hyl : (xs.drop 4).length = len - 4 := by rw [List.length_drop, hxl]
    obtain ⟨zs, hzs⟩ : ∃ zs, zs = (xs.drop 4).take (m - 4) := ⟨_, rfl⟩
    have hseg : Seg .u8 w (cutI a cap 4) (m - 4) zs := by rw [hzs]; exact seg_take (seg_cutI h 4 hlc) (m - 4) (by omega)
    have hzb : Bytes zs := by
      rw [hzs]
      intro i hi
      rw [List.length_take] at hi
      rw [List.getElem?_take_of_lt (by omega)]
      exact hys i (by omega)
    have e1 : ri zs 0 1152921504606846976 = h1 xs := by
      unfold h1
      rw [hzs]
      rcases hm2.2 with q | q
      · rw [List.take_of_length_le (by omega)]
      · exact ri_take _ _ _ _ (by omega)
    have e2 : pI zs (h1 xs).2.1 (h1 xs).2.2 1048576 = h2 xs := by
      unfold h2
      rw [hzs]
      have h10 : (h1 xs).2.1 ≤ 0 + 10 := ri_le10 hys 0 _
      rcases hm2.2 with q | q
      · rw [List.take_of_length_le (by omega)]
      · exact pI_take _ _ _ _ _ (by omega)
    have HN : Hid (Calls Tryd.prog 51 #[.slice (cutI a cap 4) (m - 4) (cap - 4)] w fun r w' => ∃ g a' cap', r = .returned (.pointer (some ⟨g, 0, none⟩)) ∧ RS w' g a' (m - 4) cap' zs 0 0 ∧ w.heap.size ≤ g ∧ (∀ b o s, a' = some ⟨b, o, s⟩ → w.heap.size ≤ b ∧ b < w'.heap.size) ∧ w.grownBy w' none) :=
      new_c2 _ _ _ zs w hseg hzb (by omega) (fun q => by
        unfold cutI at q
        split at q
        · omega
        · cases a with
          | none => have := hnz rfl; omega
          | some ad => cases q)
    obtain ⟨V1, p1, E1, hr1⟩ : ∃ V p E, h1 xs = (V, p, E) := ⟨_, _, _, rfl⟩
    obtain ⟨V2, p2, E2, hr2⟩ : ∃ V p E, h2 xs = (V, p, E) := ⟨_, _, _, rfl⟩
    have HI1 : Hid (∀ g a' c' W, RS W g a' (m - 4) c' zs 0 0 → Calls Tryd.prog 81 #[.pointer (some ⟨g, 0, none⟩), .int .i64 1152921504606846976] W fun r w' => r = .returned (.int .i64 V1) ∧ RS w' g a' (m - 4) c' zs E1 p1 ∧ W.grownBy w' (some g)) := fun g a' c' W hs => by
      have := int_ok g a' (m - 4) c' zs 0 1152921504606846976 W hs (by omega)
      rw [e1, hr1] at this
      exact this
    have HI2 : Hid (∀ g a' c' W, RS W g a' (m - 4) c' zs E1 p1 → Calls Tryd.prog 81 #[.pointer (some ⟨g, 0, none⟩), .int .i64 1048576] W fun r w' => r = .returned (.int .i64 V2) ∧ RS w' g a' (m - 4) c' zs E2 p2 ∧ W.grownBy w' (some g)) := fun g a' c' W hs => by
      have := int_c g a' (m - 4) c' zs E1 p1 1048576 W hs (by omega)
      rw [hr1] at e2
      rw [e2, hr2] at this
      exact this
    have hp2 : p2 ≤ 140737488355328 := by
      have : (h2 xs).2.1 ≤ (xs.drop 4).length := pI_le hys (by rw [show (h1 xs).2.1 = (ri (xs.drop 4) 0 1152921504606846976).2.1 from rfl]; exact (ri_bd hys 0 (Nat.zero_le _) _).2.2.2.1) _ _
      rw [hr2] at this
      simp only at this
      omega
    have HPK : Hid (pk xs = if E2 = 0 then (V1, V2, 4 + p2, 0) else (0, 0, 0, 92)) := by
      show _ = _
      unfold pk
      rw [hm, hr1, hr2]
      simp
    unfold HA
    have hsl := fun (H : Int) (hH : H = (m : Int)) => sliceI a len cap 4 m 4 H rfl hH hm1 (by omega)
    obtain ⟨A4, hA4⟩ : ∃ A, A = cutI a cap 4 := ⟨_, rfl⟩
    rw [← hA4] at hsl HN
    obtain ⟨M, hM⟩ : ∃ M, M = m - 4 := ⟨_, rfl⟩
    rw [← hM] at hsl HN HI1 HI2
    have hq3 := hm2.2
    clear h hx hm hseg hzb e1 e2 hr1 hr2 hys hyl hxl hzs hA4 hM hnz hm2
    by_cases hE : E2 = 0
    · subst hE
      rw [if_pos rfl] at HPK
      rw [HPK.out]
      rcases hq3 with ⟨rfl, hmin⟩ | ⟨rfl, hmin⟩
      · have hsl' := hsl m rfl
        clear hsl
        go_enter Tryd.func63, Tryd.ntmps63
        go_wp2_with (first
          | (go_at_call 48; go_must (refine (Calls.mono HM.out ?_)); rintro r wq ⟨rfl, hq⟩; obtain rfl := hq.symm)
          | (go_at_call 51; go_must (refine (Calls.mono HN.out ?_)); rintro r w2 ⟨g, a', c', rfl, k1, k2, k3, k4⟩; have H2 : Hid (RS w2 g a' M c' zs 0 0 ∧ w.heap.size ≤ g ∧ w.grownBy w2 none) := ⟨k1, k2, k4⟩; clear k1 k2 k3 k4)
          | ((fail_if_success (have z := H3)); have z := H2; clear z; go_at_call 81; go_must (refine (Calls.mono (HI1.out _ _ _ _ H2.out.1) ?_)); rintro r w3 ⟨rfl, k1, k2⟩; have H3 : Hid (RS w3 g a' M c' zs E1 p1 ∧ w.heap.size ≤ g ∧ w.grownBy w3 none) := ⟨k1, H2.out.2.1, gb_far' H2.out.2.2 k2 H2.out.2.1⟩; clear k1 k2)
          | ((fail_if_success (have z := H4)); have z := H3; clear z; go_at_call 81; go_must (refine (Calls.mono (HI2.out _ _ _ _ H3.out.1) ?_)); rintro r w4 ⟨rfl, k1, k2⟩; have H4 : Hid (RS w4 g a' M c' zs 0 p2 ∧ w.grownBy w4 none) := ⟨k1, gb_far' H3.out.2.2 k2 H3.out.2.1⟩; clear k1 k2)
          | (have z := H4; clear z; go_at_call 97; go_must (refine (err_c g _ _ _ _ H4.out.1.rdr).mono ?_); rintro r wq ⟨rfl, hq⟩; obtain rfl := hq.symm)
          | (have z := H4; clear z; go_at_call 98; go_must (refine (at_c g _ _ _ _ H4.out.1.rdr).mono ?_); rintro r wq ⟨rfl, hq⟩; obtain rfl := hq.symm))
        refine bodyPost_ret (results_tmp4 rfl _ _) rfl ?_
        exact ⟨rfl, H4.out.2⟩
      · have hsl' := hsl 24 rfl
        clear hsl
        go_enter Tryd.func63, Tryd.ntmps63
        go_wp2_with (first
          | (go_at_call 48; go_must (refine (Calls.mono HM.out ?_)); rintro r wq ⟨rfl, hq⟩; obtain rfl := hq.symm)
          | (go_at_call 51; go_must (refine (Calls.mono HN.out ?_)); rintro r w2 ⟨g, a', c', rfl, k1, k2, k3, k4⟩; have H2 : Hid (RS w2 g a' M c' zs 0 0 ∧ w.heap.size ≤ g ∧ w.grownBy w2 none) := ⟨k1, k2, k4⟩; clear k1 k2 k3 k4)
          | ((fail_if_success (have z := H3)); have z := H2; clear z; go_at_call 81; go_must (refine (Calls.mono (HI1.out _ _ _ _ H2.out.1) ?_)); rintro r w3 ⟨rfl, k1, k2⟩; have H3 : Hid (RS w3 g a' M c' zs E1 p1 ∧ w.heap.size ≤ g ∧ w.grownBy w3 none) := ⟨k1, H2.out.2.1, gb_far' H2.out.2.2 k2 H2.out.2.1⟩; clear k1 k2)
          | ((fail_if_success (have z := H4)); have z := H3; clear z; go_at_call 81; go_must (refine (Calls.mono (HI2.out _ _ _ _ H3.out.1) ?_)); rintro r w4 ⟨rfl, k1, k2⟩; have H4 : Hid (RS w4 g a' M c' zs 0 p2 ∧ w.grownBy w4 none) := ⟨k1, gb_far' H3.out.2.2 k2 H3.out.2.1⟩; clear k1 k2)
          | (have z := H4; clear z; go_at_call 97; go_must (refine (err_c g _ _ _ _ H4.out.1.rdr).mono ?_); rintro r wq ⟨rfl, hq⟩; obtain rfl := hq.symm)
          | (have z := H4; clear z; go_at_call 98; go_must (refine (at_c g _ _ _ _ H4.out.1.rdr).mono ?_); rintro r wq ⟨rfl, hq⟩; obtain rfl := hq.symm))
        refine bodyPost_ret (results_tmp4 rfl _ _) rfl ?_
        exact ⟨rfl, H4.out.2⟩
    · have hEb : (E2 != 0) = true := by simp [hE]
      rw [if_neg hE] at HPK
      rw [HPK.out]
      clear hE
      rcases hq3 with ⟨rfl, hmin⟩ | ⟨rfl, hmin⟩
      · have hsl' := hsl m rfl
        clear hsl
        go_enter Tryd.func63, Tryd.ntmps63
        go_wp2_with (first
          | (go_at_call 48; go_must (refine (Calls.mono HM.out ?_)); rintro r wq ⟨rfl, hq⟩; obtain rfl := hq.symm)
          | (go_at_call 51; go_must (refine (Calls.mono HN.out ?_)); rintro r w2 ⟨g, a', c', rfl, k1, k2, k3, k4⟩; have H2 : Hid (RS w2 g a' M c' zs 0 0 ∧ w.heap.size ≤ g ∧ w.grownBy w2 none) := ⟨k1, k2, k4⟩; clear k1 k2 k3 k4)
          | ((fail_if_success (have z := H3)); have z := H2; clear z; go_at_call 81; go_must (refine (Calls.mono (HI1.out _ _ _ _ H2.out.1) ?_)); rintro r w3 ⟨rfl, k1, k2⟩; have H3 : Hid (RS w3 g a' M c' zs E1 p1 ∧ w.heap.size ≤ g ∧ w.grownBy w3 none) := ⟨k1, H2.out.2.1, gb_far' H2.out.2.2 k2 H2.out.2.1⟩; clear k1 k2)
          | ((fail_if_success (have z := H4)); have z := H3; clear z; go_at_call 81; go_must (refine (Calls.mono (HI2.out _ _ _ _ H3.out.1) ?_)); rintro r w4 ⟨rfl, k1, k2⟩; have H4 : Hid (RS w4 g a' M c' zs E2 p2 ∧ w.grownBy w4 none) := ⟨k1, gb_far' H3.out.2.2 k2 H3.out.2.1⟩; clear k1 k2)
          | (have z := H4; clear z; go_at_call 97; go_must (refine (err_c g _ _ _ _ H4.out.1.rdr).mono ?_); rintro r wq ⟨rfl, hq⟩; obtain rfl := hq.symm)
          | (have z := H4; clear z; go_at_call 98; go_must (refine (at_c g _ _ _ _ H4.out.1.rdr).mono ?_); rintro r wq ⟨rfl, hq⟩; obtain rfl := hq.symm))
        refine bodyPost_ret (results_tmp4 rfl _ _) rfl ?_
        exact ⟨rfl, H4.out.2⟩
      · have hsl' := hsl 24 rfl
        clear hsl
        go_enter Tryd.func63, Tryd.ntmps63
        go_wp2_with (first
          | (go_at_call 48; go_must (refine (Calls.mono HM.out ?_)); rintro r wq ⟨rfl, hq⟩; obtain rfl := hq.symm)
          | (go_at_call 51; go_must (refine (Calls.mono HN.out ?_)); rintro r w2 ⟨g, a', c', rfl, k1, k2, k3, k4⟩; have H2 : Hid (RS w2 g a' M c' zs 0 0 ∧ w.heap.size ≤ g ∧ w.grownBy w2 none) := ⟨k1, k2, k4⟩; clear k1 k2 k3 k4)
          | ((fail_if_success (have z := H3)); have z := H2; clear z; go_at_call 81; go_must (refine (Calls.mono (HI1.out _ _ _ _ H2.out.1) ?_)); rintro r w3 ⟨rfl, k1, k2⟩; have H3 : Hid (RS w3 g a' M c' zs E1 p1 ∧ w.heap.size ≤ g ∧ w.grownBy w3 none) := ⟨k1, H2.out.2.1, gb_far' H2.out.2.2 k2 H2.out.2.1⟩; clear k1 k2)
          | ((fail_if_success (have z := H4)); have z := H3; clear z; go_at_call 81; go_must (refine (Calls.mono (HI2.out _ _ _ _ H3.out.1) ?_)); rintro r w4 ⟨rfl, k1, k2⟩; have H4 : Hid (RS w4 g a' M c' zs E2 p2 ∧ w.grownBy w4 none) := ⟨k1, gb_far' H3.out.2.2 k2 H3.out.2.1⟩; clear k1 k2)
          | (have z := H4; clear z; go_at_call 97; go_must (refine (err_c g _ _ _ _ H4.out.1.rdr).mono ?_); rintro r wq ⟨rfl, hq⟩; obtain rfl := hq.symm)
          | (have z := H4; clear z; go_at_call 98; go_must (refine (at_c g _ _ _ _ H4.out.1.rdr).mono ?_); rintro r wq ⟨rfl, hq⟩; obtain rfl := hq.symm))
        refine bodyPost_ret (results_tmp4 rfl _ _) rfl ?_
        exact ⟨rfl, H4.out.2⟩
end Go.Proofs.YtlmjgjimmbadeaaDoor
