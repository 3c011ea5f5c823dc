/-
  What frame.steps answers, and what Splitter.walk leaves: all that is seen of the bytes. Condition: the table of package crc lies in memory; at most 2^40 bytes and frames.
-/
import Derived.Test.YtbfbehjldloeoaaDoorFIn
namespace Go.Proofs.YtbfbehjldloeoaaDoor
set_option linter.unusedVariables false
open Go.RowKit

/-- The table of what is done. -/
def stepT : Bool → Array Value
  | false => #[.func (.func 28) #[] #[], .nilFunc, .nilFunc, .nilFunc, .nilFunc, .nilFunc, .nilFunc, .nilFunc, .nilFunc, .nilFunc, .nilFunc, .nilFunc, .nilFunc, .nilFunc, .nilFunc, .nilFunc, .nilFunc, .nilFunc, .nilFunc, .nilFunc, .nilFunc, .nilFunc, .nilFunc, .nilFunc, .nilFunc, .nilFunc, .nilFunc, .nilFunc, .nilFunc, .nilFunc, .nilFunc, .nilFunc, .nilFunc, .nilFunc, .nilFunc, .nilFunc, .nilFunc, .nilFunc, .nilFunc, .nilFunc, .func (.func 29) #[] #[], .func (.func 21) #[] #[], .func (.func 21) #[] #[], .func (.func 21) #[] #[], .func (.func 30) #[] #[]]
  | true => #[.func (.func 28) #[] #[], .nilFunc, .nilFunc, .nilFunc, .nilFunc, .nilFunc, .nilFunc, .nilFunc, .nilFunc, .nilFunc, .nilFunc, .nilFunc, .nilFunc, .nilFunc, .nilFunc, .nilFunc, .nilFunc, .nilFunc, .nilFunc, .nilFunc, .nilFunc, .nilFunc, .nilFunc, .nilFunc, .nilFunc, .nilFunc, .nilFunc, .nilFunc, .nilFunc, .nilFunc, .nilFunc, .nilFunc, .nilFunc, .nilFunc, .nilFunc, .nilFunc, .nilFunc, .nilFunc, .nilFunc, .nilFunc, .func (.func 21) #[] #[], .func (.func 21) #[] #[], .func (.func 21) #[] #[], .func (.func 21) #[] #[], .func (.func 30) #[] #[]]
def aAt (w : World) (S : Nat) : Nat := match w.cell? ⟨S, 1, none⟩ with
  | some (.int _ v) => v.toNat
  | _ => 0
theorem aAt_is {w : World} {S T : Nat} {a : Nat} {e m j l : Int} {f : Value} (h : Sp w S T (a : Nat) e m j l f) : aAt w S = a := by
  unfold aAt
  rw [h.cells.2.1]
  simp
/-- What walk leaves. -/
def WalkB (G : Nat → Prop) (w : World) (S T : Nat) (v : Value) (xs : List Int) (a most j l : Nat) (L : List FrM) (e : Bool) (w' : World) : Prop :=
  ∃ a' j' l' fv' L' O' F' u' M', Inn G w' S T v xs a' most j' l' fv' L' O' F' u' M' ∧ WE most e xs a j l L a' j' l' L' ∧ Gr G w w'
theorem inn_tab {G : Nat → Prop} {w w' : World} (ht : Tab w) (h0 : ¬ G 0) (hg : Gr G w w') : Tab w' := ht.gr hg h0
theorem wi_len {most : Nat} {e : Bool} {xs : List Int} {a0 j0 l0 a j l : Nat} {L0 L : List FrM} (h : WI most e xs a0 j0 l0 L0 a j l L) (ha : a ≤ xs.length) : L.length ≤ L0.length + xs.length ∧ j ≤ j0 + xs.length ∧ l ≤ l0 + xs.length := by
  obtain ⟨D, jd, ld, rfl, rfl, rfl, h6⟩ := h
  have q := fseen_all most e _ (xs.drop a0) (Nat.le_refl _)
  have q2 : ∀ n (ys : List Int), ys.length ≤ n → (fseen most e ys).lost ≤ (fseen most e ys).junk := by
    intro n
    induction n with
    | zero =>
      intro ys h
      obtain rfl : ys = [] := List.eq_nil_of_length_eq_zero (by omega)
      rw [fseen_nil]; exact Nat.le_refl _
    | succ n ih =>
      intro ys h
      by_cases h0 : ys = []
      · subst h0; rw [fseen_nil]; exact Nat.le_refl _
      have hp : 0 < ys.length := List.length_pos_iff.2 h0
      have i1 := ih (ys.drop 1) (by rw [List.length_drop]; omega)
      have i2 := ih (ys.drop (flen ys + 14)) (by rw [List.length_drop]; omega)
      rw [fseen_step most e ys h0]
      split
      · simp only [Seen.add]; omega
      · split
        · simp
        · split
          · simp only [Seen.add]; omega
          · simp only [Seen.add]; omega
  have q3 := q2 _ (xs.drop a0) (Nat.le_refl _)
  rw [h6] at q q3
  simp only [Seen.add, List.map_append, List.map_map, List.sum_append] at q q3
  have q4 : D.length ≤ (D.map ((fun f : Int × List Int => f.2.length + 14) ∘ FrM.fr)).sum := by
    clear q q3 h6 q2
    induction D with
    | nil => simp
    | cons f D ih => simp only [List.map_cons, List.sum_cons, List.length_cons, Function.comp]; omega
  have q5 := q2 _ (xs.drop a) (Nat.le_refl _)
  have q6 := fseen_all most e _ (xs.drop a) (Nat.le_refl _)
  rw [List.length_drop] at q q6
  rw [List.length_append]
  have q7 : ld ≤ jd ∨ True := .inr trivial
  have q8 := q3
  refine ⟨by omega, by omega, ?_⟩
  omega
set_option maxRecDepth 20000 in
set_option maxHeartbeats 4000000 in
theorem walk_c (G : Nat → Prop) (S T : Nat) (v u : Value) (xs : List Int) (M a most j l : Nat) (fv : Value) (L : List FrM) (O F : Nat → Prop) (e : Bool) (w : World) (h : Inn G w S T v xs a most j l fv L O F u M) (hup : ∀ k, w.heap.size ≤ k → G k) (ht : Tab w) (h0 : ¬ G 0) (hm : most ≤ 1048576) (hl : xs.length ≤ 549755813888) (hc : L.length ≤ 549755813888) (hj : j ≤ 1152921504606846976) (hlo : l ≤ 1152921504606846976) :
    Calls Tryd.prog 18 #[.pointer (some ⟨S, 0, none⟩), .agg (stepT e)] w fun r w' => WalkB G w S T v xs a most j l L e w' ∧ r = .returned (.tuple #[]) := by
  obtain ⟨n, hn⟩ : ∃ n, n = xs.length := ⟨_, rfl⟩
  have HB : Hid (n = xs.length ∧ n ≤ 549755813888 ∧ L.length ≤ 549755813888 ∧ j ≤ 1152921504606846976 ∧ l ≤ 1152921504606846976 ∧ most ≤ 1048576) := ⟨hn, by omega, hc, hj, hlo, hm⟩
  obtain ⟨tb, htb⟩ : ∃ tb, tb = stepT e := ⟨_, rfl⟩
  have hbx : Hid (Bk 55 (w.alloc (.cells tb 55)) w.heap.size tb) := heap_new w _
  obtain ⟨K, hK⟩ : ∃ K, K = w.heap.size := ⟨_, rfl⟩
  have HT : Hid (∀ W, Gr G w W → Tab W ∧ (∀ k, W.heap.size ≤ k → G k)) := fun W hg => ⟨ht.gr hg h0, fun k hk => hup k (by have := hg.size; omega)⟩
  have HK : Hid (K = w.heap.size ∧ tb = stepT e ∧ ¬ G 0) := ⟨hK, htb, h0⟩
  have H1 : Hid (∃ O' F' u' M', Inn (fun k => G k ∧ k ≠ K) (w.alloc (.cells tb 55)) S T v xs a most j l fv L O' F' u' M') := by
    exact ⟨O, F, u, M, (h.weak (G' := fun k => G k ∧ k ≠ K) (fun k hk hg => ⟨hg, by omega⟩)).gr ((Gr.refl (fun _ => False) w).alloc (.cells tb 55)) (fun _ _ z => z)⟩
  have HG1 : Hid (∀ W, Gr (fun k => G k ∧ k ≠ K) (w.alloc (.cells tb 55)) W → Tab W ∧ (∀ k, W.heap.size ≤ k → G k ∧ k ≠ K) ∧ Bk 55 W K tb ∧ Gr G w W) := fun W hg => by
    have hsz := hg.size
    rw [World.size_alloc] at hsz
    have hgw : Gr G w W := ((Gr.refl G w).alloc _).then hg (fun i _ z => z.1)
    refine ⟨(HT.out W hgw).1, fun k hk => ⟨hup k (by omega), by omega⟩, ?_, hgw⟩
    have := hbx.out
    rw [← hK] at this
    exact this.gr hg (fun z => z.2 rfl)
  have hts : tb.size = 45 := by rw [htb]; cases e <;> rfl
  have HW0 : Hid (Gr (fun k => G k ∧ k ≠ K) (w.alloc (.cells tb 55)) (w.alloc (.cells tb 55))) := Gr.refl _ _
  obtain ⟨w0, hw0⟩ : ∃ w0, w0 = w.alloc (.cells tb 55) := ⟨_, rfl⟩
  rw [← hw0] at H1 HG1 HW0
  replace hw0 : Hid _ := hw0
  clear h hup ht h0 hn hbx HT hc hj hlo hm
  go_enter Tryd.func18, Tryd.ntmps18
  rw [← htb]
  clear htb
  go_wp2_with fail
  rw [← hK, ← hw0.out]
  clear hK
  go_loopw [4] (fun _ wr => ∃ a' j' l' fv' L' O' F' u' M', Hid (Inn (fun k => G k ∧ k ≠ K) wr S T v xs a' most j' l' fv' L' O' F' u' M' ∧ WI most e xs a j l L a' j' l' L' ∧ Gr (fun k => G k ∧ k ≠ K) w0 wr)) (fun _ wr => n - aAt wr S)
  case atStart =>
    obtain ⟨O', F', u', M', h1⟩ := H1.out
    exact ⟨a, j, l, fv, L, O', F', u', M', ⟨h1, wi_start _ _ _ _ _ _ _, HW0.out⟩⟩
  case round =>
    clear H1 HW0 hw0
    obtain ⟨a', j', l', fv', L', O', F', u', M', HR⟩ := hrel
    obtain ⟨_, c1, c2, _⟩ := HR.out.1.sp.cells
    rw [← HB.out.1] at c2
    by_cases hlt : a' < n
    · have hci : (a' : Int) < (n : Int) := by omega
      have HX : Hid (xs.length ≤ 1099511627776 ∧ a' < xs.length ∧ j' ≤ 4611686018427387904 ∧ l' ≤ 4611686018427387904 ∧ L'.length ≤ 1099511627776) := by
        have q := wi_len HR.out.2.1 HR.out.1.le
        have q2 := HB.out
        exact ⟨by omega, by omega, by omega, by omega, by omega⟩
      go_wp2_with fail
      go_quiet (fail)
      go_wp2_with fail
      clear c1 c2
      generalize hW0 : World.drewN wr _ = W0
      have HD : Hid (wr.grownBy W0 none) := by rw [← hW0]; exact drewN_gb wr _
      clear hW0
      have HME0 : Hid (Calls Tryd.prog 33 #[.pointer (some ⟨S, 0, none⟩)] W0 fun r w' => r = .returned (.int .i64 ((fmeet most (xs.drop a') : Nat) : Int)) ∧ (∃ O' u' M', Inn (fun k => G k ∧ k ≠ K) w' S T v xs a' most j' l' fv' L' O' F' u' M') ∧ Gr (fun k => G k ∧ k ≠ K) W0 w') := by
        have hgD : Gr (fun k => G k ∧ k ≠ K) w0 W0 := HR.out.2.2.trans (Gr.of HD.out (by simp))
        have q := HG1.out W0 hgD
        exact inn_meets (HR.out.1.gr (Gr.of (G := fun _ => False) HD.out (by simp)) (fun _ _ z => z)) q.2.1 q.1 (fun z => HK.out.2.2 z.1) HB.out.2.2.2.2.2 HX.out.1
      rcases fmeet_six most (xs.drop a') with hq | hq | hq | hq | hq | hq
      · have HME : Hid (Calls Tryd.prog 33 #[.pointer (some ⟨S, 0, none⟩)] W0 fun r w' => r = .returned (.int .i64 0) ∧ (∃ O' u' M', Inn (fun k => G k ∧ k ≠ K) w' S T v xs a' most j' l' fv' L' O' F' u' M') ∧ Gr (fun k => G k ∧ k ≠ K) W0 w') := by
          have := HME0.out
          rw [hq] at this
          exact this
        clear HME0
        go_wp2_with (first
          | (go_at_call 33; go_must (refine (Calls.mono HME.out ?_)); rintro r w1 ⟨rfl, ⟨O1, u1, M1, h1⟩, h2⟩; have H2 : Hid (Inn (fun k => G k ∧ k ≠ K) w1 S T v xs a' most j' l' fv' L' O1 F' u1 M1 ∧ Gr (fun k => G k ∧ k ≠ K) w0 w1) := ⟨h1, (HR.out.2.2.trans (Gr.of HD.out (by simp))).trans h2⟩; have ck : w1.cell? ⟨K, 0, none⟩ = some (.func (.func 28) #[] #[]) := (by have := (HG1.out w1 ((HR.out.2.2.trans (Gr.of HD.out (by simp))).trans h2)).2.2.1.cell 0; rw [HK.out.2.1] at this; cases e <;> exact this); clear h1 h2)
          | (go_at_call 28; go_must (refine (Calls.mono (inn_find H2.out.1 (HG1.out w1 H2.out.2).2.1 HB.out.2.2.2.2.2 HX.out.1 HX.out.2.2.2.2 hq) ?_)); rintro r w2 ⟨rfl, ⟨fv2, f2, F2, h5, h3⟩, h4⟩; have H3 : Hid (Inn (fun k => G k ∧ k ≠ K) w2 S T v xs (a' + (flen (xs.drop a') + 14)) most j' l' fv2 (L' ++ [f2]) O1 F2 u1 M1 ∧ Gr (fun k => G k ∧ k ≠ K) w0 w2) := ⟨h3, H2.out.2.trans h4⟩; have H5 : Hid _ := h5; clear h3 h4 h5))
        go_roundw
        case rel => exact ⟨a' + (flen (xs.drop a') + 14), j', l', fv2, L' ++ [f2], O1, F2, u1, M1, ⟨H3.out.1, wi_find HR.out.2.1 HX.out.2.1 hq H5.out, H3.out.2⟩⟩
        case measure => rw [aAt_is H3.out.1.sp, aAt_is HR.out.1.sp]; have := HB.out.1; have := H3.out.1.le; omega
      · cases hev : e with
        | false =>
          have HME : Hid (Calls Tryd.prog 33 #[.pointer (some ⟨S, 0, none⟩)] W0 fun r w' => r = .returned (.int .i64 40) ∧ (∃ O' u' M', Inn (fun k => G k ∧ k ≠ K) w' S T v xs a' most j' l' fv' L' O' F' u' M') ∧ Gr (fun k => G k ∧ k ≠ K) W0 w') := by
            have := HME0.out
            rw [hq] at this
            exact this
          clear HME0
          go_wp2_with (first
            | (go_at_call 33; go_must (refine (Calls.mono HME.out ?_)); rintro r w1 ⟨rfl, ⟨O1, u1, M1, h1⟩, h2⟩; have H2 : Hid (Inn (fun k => G k ∧ k ≠ K) w1 S T v xs a' most j' l' fv' L' O1 F' u1 M1 ∧ Gr (fun k => G k ∧ k ≠ K) w0 w1) := ⟨h1, (HR.out.2.2.trans (Gr.of HD.out (by simp))).trans h2⟩; have ck : w1.cell? ⟨K, 40, none⟩ = some (.func (.func 29) #[] #[]) := (by have := (HG1.out w1 ((HR.out.2.2.trans (Gr.of HD.out (by simp))).trans h2)).2.2.1.cell 40; rw [HK.out.2.1, hev] at this; exact this); clear h1 h2)
            | (go_at_call 29; go_must (refine (Calls.mono (wait_c _ w1) ?_)); rintro r w2 ⟨rfl, rfl⟩))
          refine bodyPost_ret (results_none rfl _ _ _) rfl ?_
          exact ⟨⟨a', j', l', fv', L', O1, F', u1, M1, H2.out.1.weak (fun k _ z => z.1), by rw [hev]; exact we_wait (by have := HR.out.2.1; rw [hev] at this; exact this) HX.out.2.1 hq, (HG1.out _ H2.out.2).2.2.2⟩, rfl⟩
        | true =>
          have hev : e = true := hev
          have HME : Hid (Calls Tryd.prog 33 #[.pointer (some ⟨S, 0, none⟩)] W0 fun r w' => r = .returned (.int .i64 40) ∧ (∃ O' u' M', Inn (fun k => G k ∧ k ≠ K) w' S T v xs a' most j' l' fv' L' O' F' u' M') ∧ Gr (fun k => G k ∧ k ≠ K) W0 w') := by
            have := HME0.out
            rw [hq] at this
            exact this
          clear HME0
          go_wp2_with (first
            | (go_at_call 33; go_must (refine (Calls.mono HME.out ?_)); rintro r w1 ⟨rfl, ⟨O1, u1, M1, h1⟩, h2⟩; have H2 : Hid (Inn (fun k => G k ∧ k ≠ K) w1 S T v xs a' most j' l' fv' L' O1 F' u1 M1 ∧ Gr (fun k => G k ∧ k ≠ K) w0 w1) := ⟨h1, (HR.out.2.2.trans (Gr.of HD.out (by simp))).trans h2⟩; have ck : w1.cell? ⟨K, 40, none⟩ = some (.func (.func 21) #[] #[]) := (by have := (HG1.out w1 ((HR.out.2.2.trans (Gr.of HD.out (by simp))).trans h2)).2.2.1.cell 40; rw [HK.out.2.1, hev] at this; exact this); clear h1 h2)
            | (go_at_call 21; go_must (refine (Calls.mono (inn_skip H2.out.1 HX.out.1 HX.out.2.1 HX.out.2.2.1) ?_)); rintro r w2 ⟨rfl, h3, h4⟩; have H3 : Hid (Inn (fun k => G k ∧ k ≠ K) w2 S T v xs (a' + 1) most (j' + 1) l' fv' L' O1 F' u1 M1 ∧ Gr (fun k => G k ∧ k ≠ K) w0 w2) := ⟨h3, H2.out.2.trans h4⟩; clear h3 h4))
          go_roundw
          case rel => exact ⟨a' + 1, j' + 1, l', fv', L', O1, F', u1, M1, ⟨H3.out.1, wi_skip HR.out.2.1 HX.out.2.1 (by rw [hq]; decide) (fun z => by rw [hev] at z; cases z.2) (by rw [hq]; decide), H3.out.2⟩⟩
          case measure => rw [aAt_is H3.out.1.sp, aAt_is HR.out.1.sp]; have := HB.out.1; have := H3.out.1.le; omega
      · have HME : Hid (Calls Tryd.prog 33 #[.pointer (some ⟨S, 0, none⟩)] W0 fun r w' => r = .returned (.int .i64 41) ∧ (∃ O' u' M', Inn (fun k => G k ∧ k ≠ K) w' S T v xs a' most j' l' fv' L' O' F' u' M') ∧ Gr (fun k => G k ∧ k ≠ K) W0 w') := by
          have := HME0.out
          rw [hq] at this
          exact this
        clear HME0
        go_wp2_with (first
          | (go_at_call 33; go_must (refine (Calls.mono HME.out ?_)); rintro r w1 ⟨rfl, ⟨O1, u1, M1, h1⟩, h2⟩; have H2 : Hid (Inn (fun k => G k ∧ k ≠ K) w1 S T v xs a' most j' l' fv' L' O1 F' u1 M1 ∧ Gr (fun k => G k ∧ k ≠ K) w0 w1) := ⟨h1, (HR.out.2.2.trans (Gr.of HD.out (by simp))).trans h2⟩; have ck : w1.cell? ⟨K, 41, none⟩ = some (.func (.func 21) #[] #[]) := (by have := (HG1.out w1 ((HR.out.2.2.trans (Gr.of HD.out (by simp))).trans h2)).2.2.1.cell 41; rw [HK.out.2.1] at this; cases e <;> exact this); clear h1 h2)
          | (go_at_call 21; go_must (refine (Calls.mono (inn_skip H2.out.1 HX.out.1 HX.out.2.1 HX.out.2.2.1) ?_)); rintro r w2 ⟨rfl, h3, h4⟩; have H3 : Hid (Inn (fun k => G k ∧ k ≠ K) w2 S T v xs (a' + 1) most (j' + 1) l' fv' L' O1 F' u1 M1 ∧ Gr (fun k => G k ∧ k ≠ K) w0 w2) := ⟨h3, H2.out.2.trans h4⟩; clear h3 h4))
        go_roundw
        case rel => exact ⟨a' + 1, j' + 1, l', fv', L', O1, F', u1, M1, ⟨H3.out.1, wi_skip HR.out.2.1 HX.out.2.1 (by rw [hq]; decide) (fun z => by rw [hq] at z; omega) (by rw [hq]; decide), H3.out.2⟩⟩
        case measure => rw [aAt_is H3.out.1.sp, aAt_is HR.out.1.sp]; have := HB.out.1; have := H3.out.1.le; omega
      · have HME : Hid (Calls Tryd.prog 33 #[.pointer (some ⟨S, 0, none⟩)] W0 fun r w' => r = .returned (.int .i64 42) ∧ (∃ O' u' M', Inn (fun k => G k ∧ k ≠ K) w' S T v xs a' most j' l' fv' L' O' F' u' M') ∧ Gr (fun k => G k ∧ k ≠ K) W0 w') := by
          have := HME0.out
          rw [hq] at this
          exact this
        clear HME0
        go_wp2_with (first
          | (go_at_call 33; go_must (refine (Calls.mono HME.out ?_)); rintro r w1 ⟨rfl, ⟨O1, u1, M1, h1⟩, h2⟩; have H2 : Hid (Inn (fun k => G k ∧ k ≠ K) w1 S T v xs a' most j' l' fv' L' O1 F' u1 M1 ∧ Gr (fun k => G k ∧ k ≠ K) w0 w1) := ⟨h1, (HR.out.2.2.trans (Gr.of HD.out (by simp))).trans h2⟩; have ck : w1.cell? ⟨K, 42, none⟩ = some (.func (.func 21) #[] #[]) := (by have := (HG1.out w1 ((HR.out.2.2.trans (Gr.of HD.out (by simp))).trans h2)).2.2.1.cell 42; rw [HK.out.2.1] at this; cases e <;> exact this); clear h1 h2)
          | (go_at_call 21; go_must (refine (Calls.mono (inn_skip H2.out.1 HX.out.1 HX.out.2.1 HX.out.2.2.1) ?_)); rintro r w2 ⟨rfl, h3, h4⟩; have H3 : Hid (Inn (fun k => G k ∧ k ≠ K) w2 S T v xs (a' + 1) most (j' + 1) l' fv' L' O1 F' u1 M1 ∧ Gr (fun k => G k ∧ k ≠ K) w0 w2) := ⟨h3, H2.out.2.trans h4⟩; clear h3 h4))
        go_roundw
        case rel => exact ⟨a' + 1, j' + 1, l', fv', L', O1, F', u1, M1, ⟨H3.out.1, wi_skip HR.out.2.1 HX.out.2.1 (by rw [hq]; decide) (fun z => by rw [hq] at z; omega) (by rw [hq]; decide), H3.out.2⟩⟩
        case measure => rw [aAt_is H3.out.1.sp, aAt_is HR.out.1.sp]; have := HB.out.1; have := H3.out.1.le; omega
      · have HME : Hid (Calls Tryd.prog 33 #[.pointer (some ⟨S, 0, none⟩)] W0 fun r w' => r = .returned (.int .i64 43) ∧ (∃ O' u' M', Inn (fun k => G k ∧ k ≠ K) w' S T v xs a' most j' l' fv' L' O' F' u' M') ∧ Gr (fun k => G k ∧ k ≠ K) W0 w') := by
          have := HME0.out
          rw [hq] at this
          exact this
        clear HME0
        go_wp2_with (first
          | (go_at_call 33; go_must (refine (Calls.mono HME.out ?_)); rintro r w1 ⟨rfl, ⟨O1, u1, M1, h1⟩, h2⟩; have H2 : Hid (Inn (fun k => G k ∧ k ≠ K) w1 S T v xs a' most j' l' fv' L' O1 F' u1 M1 ∧ Gr (fun k => G k ∧ k ≠ K) w0 w1) := ⟨h1, (HR.out.2.2.trans (Gr.of HD.out (by simp))).trans h2⟩; have ck : w1.cell? ⟨K, 43, none⟩ = some (.func (.func 21) #[] #[]) := (by have := (HG1.out w1 ((HR.out.2.2.trans (Gr.of HD.out (by simp))).trans h2)).2.2.1.cell 43; rw [HK.out.2.1] at this; cases e <;> exact this); clear h1 h2)
          | (go_at_call 21; go_must (refine (Calls.mono (inn_skip H2.out.1 HX.out.1 HX.out.2.1 HX.out.2.2.1) ?_)); rintro r w2 ⟨rfl, h3, h4⟩; have H3 : Hid (Inn (fun k => G k ∧ k ≠ K) w2 S T v xs (a' + 1) most (j' + 1) l' fv' L' O1 F' u1 M1 ∧ Gr (fun k => G k ∧ k ≠ K) w0 w2) := ⟨h3, H2.out.2.trans h4⟩; clear h3 h4))
        go_roundw
        case rel => exact ⟨a' + 1, j' + 1, l', fv', L', O1, F', u1, M1, ⟨H3.out.1, wi_skip HR.out.2.1 HX.out.2.1 (by rw [hq]; decide) (fun z => by rw [hq] at z; omega) (by rw [hq]; decide), H3.out.2⟩⟩
        case measure => rw [aAt_is H3.out.1.sp, aAt_is HR.out.1.sp]; have := HB.out.1; have := H3.out.1.le; omega
      · have HME : Hid (Calls Tryd.prog 33 #[.pointer (some ⟨S, 0, none⟩)] W0 fun r w' => r = .returned (.int .i64 44) ∧ (∃ O' u' M', Inn (fun k => G k ∧ k ≠ K) w' S T v xs a' most j' l' fv' L' O' F' u' M') ∧ Gr (fun k => G k ∧ k ≠ K) W0 w') := by
          have := HME0.out
          rw [hq] at this
          exact this
        clear HME0
        go_wp2_with (first
          | (go_at_call 33; go_must (refine (Calls.mono HME.out ?_)); rintro r w1 ⟨rfl, ⟨O1, u1, M1, h1⟩, h2⟩; have H2 : Hid (Inn (fun k => G k ∧ k ≠ K) w1 S T v xs a' most j' l' fv' L' O1 F' u1 M1 ∧ Gr (fun k => G k ∧ k ≠ K) w0 w1) := ⟨h1, (HR.out.2.2.trans (Gr.of HD.out (by simp))).trans h2⟩; have ck : w1.cell? ⟨K, 44, none⟩ = some (.func (.func 30) #[] #[]) := (by have := (HG1.out w1 ((HR.out.2.2.trans (Gr.of HD.out (by simp))).trans h2)).2.2.1.cell 44; rw [HK.out.2.1] at this; cases e <;> exact this); clear h1 h2)
          | (go_at_call 30; go_must (refine (Calls.mono (inn_lose H2.out.1 HX.out.1 HX.out.2.1 HX.out.2.2.1 HX.out.2.2.2.1) ?_)); rintro r w2 ⟨rfl, h3, h4⟩; have H3 : Hid (Inn (fun k => G k ∧ k ≠ K) w2 S T v xs (a' + 1) most (j' + 1) (l' + 1) fv' L' O1 F' u1 M1 ∧ Gr (fun k => G k ∧ k ≠ K) w0 w2) := ⟨h3, H2.out.2.trans h4⟩; clear h3 h4))
        go_roundw
        case rel => exact ⟨a' + 1, j' + 1, l' + 1, fv', L', O1, F', u1, M1, ⟨H3.out.1, wi_lose HR.out.2.1 HX.out.2.1 hq, H3.out.2⟩⟩
        case measure => rw [aAt_is H3.out.1.sp, aAt_is HR.out.1.sp]; have := HB.out.1; have := H3.out.1.le; omega
    · have hci : ¬ ((a' : Int) < (n : Int)) := by omega
      have HNL : Hid (¬ a' < xs.length) := by have := HB.out.1; show ¬ _; omega
      go_wp2_with fail
      go_quiet (fail)
      go_wp2
      go_end0
      refine ⟨⟨a', j', l', fv', L', O', F', u', M', (HR.out.1.weak (fun k _ z => z.1)).gr (Gr.ofB (G := fun _ => False) (belowDrew (Below.refl _ _) _)) (fun _ _ z => z), we_all HR.out.2.1 HNL.out, ((HG1.out wr HR.out.2.2).2.2.2).drewN _⟩, rfl⟩
end Go.Proofs.YtbfbehjldloeoaaDoor
