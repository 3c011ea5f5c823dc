/-
  What a pack Reader's Flag and Count answer: what the plain functions rf and rc give. Condition: the Reader's bytes can be read, and their length is one that a machine has.
-/
import Derived.Test.YtlmjgjimmbadeaaDoorFa
namespace Go.Proofs.YtlmjgjimmbadeaaDoor
open Go.RowKit
set_option linter.unusedVariables false

/-- What Flag takes up. -/
def rf (xs : List Int) (p : Nat) : Bool × Nat × Int :=
  if xs.length ≤ p then (false, p, 30) else if 1 < xs[p]?.getD 0 then (false, p, 32) else (xs[p]?.getD 0 == 1, p + 1, 0)
/-- What Count takes up. -/
def rc (xs : List Int) (p : Nat) (most least : Int) : Int × Nat × Int :=
  if most < 0 ∨ least < 0 then (0, p, 1) else if (ri xs p most).2.2 ≠ 0 then (0, p, (ri xs p most).2.2)
  else if 0 < least ∧ ((xs.length - (ri xs p most).2.1 : Nat) : Int) / least < (ri xs p most).1 then (0, p, 30)
  else ((ri xs p most).1, (ri xs p most).2.1, 0)

theorem ready_r (g : Nat) (a : Option Addr) (len cap : Nat) (xs : List Int) (e : Int) (p : Nat) (w : World) (h : RS w g a len cap xs e p) :
    Calls Tryd.prog 106 #[.pointer (some ⟨g, 0, none⟩)] w fun r w' => r = .returned (.bool (e == 0)) ∧ RS w' g a len cap xs e p ∧ w.grownBy w' (some g) :=
  (ready_c g e _ _ w h.rdr).mono (fun _ _ ⟨h1, h2⟩ => ⟨h1, by rw [h2]; exact ⟨h, World.grownBy.refl _ _⟩⟩)

theorem count_no (g : Nat) (e : Int) (v : Value) (p : Int) (most least : Int) (w : World) (h : Rdr w g e v p) (he : (e == 0) = false) :
    Calls Tryd.prog 82 #[.pointer (some ⟨g, 0, none⟩), .int .i64 most, .int .i64 least] w fun r w' => r = .returned (.int .i64 0) ∧ w' = w := by
  go_enter Tryd.func82, Tryd.ntmps82
  go_wp2_with fail
  refine (ready_c g e v p w h).mono ?_
  rintro r w1 ⟨rfl, rfl⟩
  go_wp2
  go_ret
  exact ⟨rfl, rfl⟩

set_option maxRecDepth 20000 in
theorem count_neg (g : Nat) (a : Option Addr) (len cap : Nat) (xs : List Int) (p : Nat) (most least : Int) (w : World) (h : RS w g a len cap xs 0 p) (hm : most < 0 ∨ least < 0) :
    Calls Tryd.prog 82 #[.pointer (some ⟨g, 0, none⟩), .int .i64 most, .int .i64 least] w fun r w' => r = .returned (.int .i64 (rc xs p most least).1) ∧ RS w' g a len cap xs (rc xs p most least).2.2 (rc xs p most least).2.1 ∧ w.grownBy w' (some g) := by
  have he : rc xs p most least = (0, p, 1) := by rw [rc, if_pos hm]
  rw [he]
  have HR : Hid (RS w g a len cap xs 0 p) := h
  clear h he
  by_cases h0 : 0 ≤ most
  · have hd : decide (0 ≤ least) = false := by simp; omega
    clear hm
    go_enter Tryd.func82, Tryd.ntmps82
    go_wp2_with fail
    refine (ready_c g 0 _ _ w HR.out.rdr).mono ?_
    rintro r w1 ⟨rfl, rfl⟩
    go_wp2_with fail
    refine (rmust_ok g a len cap xs p 1 _ rfl HR.out).mono ?_
    rintro r w2 ⟨rfl, h1, h2⟩
    have H1 : Hid (RS w2 g a len cap xs 1 p ∧ w1.grownBy w2 (some g)) := ⟨h1, h2⟩
    clear h1 h2
    go_wp2
    go_ret
    exact ⟨rfl, H1.out.1, H1.out.2⟩
  · have hd : decide (0 ≤ most) = false := by simp; omega
    clear hm h0
    go_enter Tryd.func82, Tryd.ntmps82
    go_wp2_with fail
    refine (ready_c g 0 _ _ w HR.out.rdr).mono ?_
    rintro r w1 ⟨rfl, rfl⟩
    go_wp2_with fail
    refine (rmust_ok g a len cap xs p 1 _ rfl HR.out).mono ?_
    rintro r w2 ⟨rfl, h1, h2⟩
    have H1 : Hid (RS w2 g a len cap xs 1 p ∧ w1.grownBy w2 (some g)) := ⟨h1, h2⟩
    clear h1 h2
    go_wp2
    go_ret
    exact ⟨rfl, H1.out.1, H1.out.2⟩

set_option maxRecDepth 20000 in
set_option maxHeartbeats 1000000 in
theorem count_pos (g : Nat) (a : Option Addr) (len cap : Nat) (xs : List Int) (p : Nat) (most least : Int) (w : World) (h : RS w g a len cap xs 0 p) (hm : 0 ≤ most) (hm2 : most ≤ 9223372036854775807) (hl : 0 < least) (hl2 : least ≤ 9223372036854775807) :
    Calls Tryd.prog 82 #[.pointer (some ⟨g, 0, none⟩), .int .i64 most, .int .i64 least] w fun r w' => r = .returned (.int .i64 (rc xs p most least).1) ∧ RS w' g a len cap xs (rc xs p most least).2.2 (rc xs p most least).2.1 ∧ w.grownBy w' (some g) := by
  have HR : Hid (RS w g a len cap xs 0 p) := h
  have HI : Hid (Calls Tryd.prog 81 #[.pointer (some ⟨g, 0, none⟩), .int .i64 most] w fun r w' => r = .returned (.int .i64 (ri xs p most).1) ∧ RS w' g a len cap xs (ri xs p most).2.2 (ri xs p most).2.1 ∧ w.grownBy w' (some g)) := int_ok g a len cap xs p most w h hm2
  have hbd := ri_bd h.bytes p (by rw [h.seg.1]; exact h.le) most
  have HC : Hid (rc xs p most least = if (ri xs p most).2.2 ≠ 0 then (0, p, (ri xs p most).2.2)
      else if ((len - (ri xs p most).2.1 : Nat) : Int) / least < (ri xs p most).1 then (0, p, 30)
      else ((ri xs p most).1, (ri xs p most).2.1, 0)) := by
    show _ = _
    rw [rc, h.seg.1, if_neg (by omega)]
    simp [hl]
  rw [h.seg.1] at hbd
  obtain ⟨V, q, E, hri⟩ : ∃ V q E, ri xs p most = (V, q, E) := ⟨_, _, _, rfl⟩
  rw [hri] at hbd HI HC
  simp only at hbd HI HC
  have h3 := h.rdr.c3
  have hple := h.le
  have hlm := h.lm
  obtain ⟨R, hR⟩ : ∃ R, R = rc xs p most least := ⟨_, rfl⟩
  rw [← hR] at HC ⊢
  clear h hri hR
  obtain ⟨L, hL⟩ : ∃ L, L = len - q := ⟨_, rfl⟩
  have HL : Hid (∀ w, RS w g a len cap xs E q → Calls Tryd.prog 108 #[.pointer (some ⟨g, 0, none⟩)] w fun r w' => r = .returned (.int .i64 (L : Int)) ∧ RS w' g a len cap xs E q ∧ w.grownBy w' (some g)) := by rw [hL]; exact fun w h => left_r g a len cap xs E q w h
  rw [← hL] at HC
  have hLm : L ≤ 140737488355328 := by omega
  have HLL : Hid (L = len - q) := hL
  clear hL
  have hne : (least == 0) = false := by simp; omega
  have hl0 : 0 ≤ least := by omega
  have hn0 : least ≠ 0 := by omega
  have hDb : 0 ≤ (L : Int) / least ∧ (L : Int) / least ≤ L := ⟨Int.ediv_nonneg (by omega) hl0, Int.ediv_le_self _ (by omega)⟩
  have htd : (L : Int).tdiv least = (L : Int) / least := Int.tdiv_eq_ediv_of_nonneg (by omega)
  obtain ⟨D, hD⟩ : ∃ D, D = (L : Int) / least := ⟨_, rfl⟩
  rw [← hD] at HC hDb htd
  have hw1 : wrap64 ((L : Int) / least) = D := by rw [← hD]; exact IntWalk.wrap64_in _ ⟨by omega, by omega⟩
  have hw2 : IntKind.i64.wrap ((L : Int).tdiv least) = D := by rw [htd, IntKind.wrap_i64]; omega
  have hw3 : IntKind.i64.wrap ((L : Int) / least) = D := by rw [← hD, IntKind.wrap_i64]; omega
  have hw4 : IntKind.i64.wrap D = D := by rw [IntKind.wrap_i64]; omega
  clear hD hDb
  by_cases hE : E = 0
  · subst hE
    rw [if_neg (by simp)] at HC
    by_cases hv : V ≤ D
    · rw [if_neg (by omega)] at HC
      have hd : decide (V ≤ D) = true := by simp; omega
      clear hv hbd
      go_enter Tryd.func82, Tryd.ntmps82
      go_wp2_with fail
      refine (ready_c g 0 _ _ w HR.out.rdr).mono ?_
      rintro r w1 ⟨rfl, rfl⟩
      go_wp2_with fail
      refine (must_so g 0 1 _ HR.out.rdr.c0).mono ?_
      rintro r w2 ⟨rfl, rfl⟩
      go_wp2_with fail
      refine HI.out.mono ?_
      rintro r w3 ⟨rfl, h1, h2⟩
      have H1 : Hid (RS w3.drew g a len cap xs 0 q ∧ w2.grownBy w3.drew (some g)) := ⟨h1.drewN 1, gb_drewN h2 1⟩
      clear h1 h2
      go_wp2
      go_region_held3 (fun _ => True) (trivial) (first
        | (go_at_call 108; refine (HL.out _ H1.out.1).mono ?_; rintro r w4 ⟨rfl, h1, h2⟩; have H2 : Hid (RS w4 g a len cap xs 0 q ∧ w2.grownBy w4 (some g)) := ⟨h1, gb_trans H1.out.2 h2⟩; clear h1 h2)
        | (go_at_call 72; go_must (refine (must_r g a len cap xs 0 q 30 _ H2.out.1).mono ?_); rintro r w5 ⟨rfl, h1, h2⟩; have H3 : Hid (RS w5 g a len cap xs 0 q ∧ w2.grownBy w5 (some g)) := ⟨h1, gb_trans H2.out.2 h2⟩; clear h1 h2))
      go_wp2
      go_ret
      rw [HC.out]
      exact ⟨rfl, H3.out.1, H3.out.2⟩
    · rw [if_pos (by omega)] at HC
      have hd : decide (V ≤ D) = false := by simp; omega
      clear hv hbd
      go_enter Tryd.func82, Tryd.ntmps82
      go_wp2_with fail
      refine (ready_c g 0 _ _ w HR.out.rdr).mono ?_
      rintro r w1 ⟨rfl, rfl⟩
      go_wp2_with fail
      refine (must_so g 0 1 _ HR.out.rdr.c0).mono ?_
      rintro r w2 ⟨rfl, rfl⟩
      go_wp2_with fail
      refine HI.out.mono ?_
      rintro r w3 ⟨rfl, h1, h2⟩
      have H1 : Hid (RS w3.drew g a len cap xs 0 q ∧ w2.grownBy w3.drew (some g)) := ⟨h1.drewN 1, gb_drewN h2 1⟩
      clear h1 h2
      go_wp2
      go_region_held3 (fun _ => True) (trivial) (first
        | (go_at_call 108; refine (HL.out _ H1.out.1).mono ?_; rintro r w4 ⟨rfl, h1, h2⟩; have H2 : Hid (RS w4 g a len cap xs 0 q ∧ w2.grownBy w4 (some g)) := ⟨h1, gb_trans H1.out.2 h2⟩; clear h1 h2)
        | (go_at_call 72; go_must (refine (rmust_ok g a len cap xs q 30 _ rfl H2.out.1).mono ?_); rintro r w5 ⟨rfl, h1, h2⟩; have H3 : Hid (RS w5 g a len cap xs 30 q ∧ w2.grownBy w5 (some g)) := ⟨h1, gb_trans H2.out.2 h2⟩; clear h1 h2))
      have c3 := H3.out.1.rdr.c3
      have f3 := H3.out.1.rdr.free 3
      go_wp2
      go_ret
      obtain ⟨m1, m2⟩ := H3.out.1.moves p hple
      rw [HC.out]
      exact ⟨rfl, m1, gb_trans H3.out.2 m2⟩
  · have hb : (E == 0) = false := by simp [hE]
    obtain ⟨rfl, rfl⟩ := hbd.2.2.2.2 hE
    rw [if_pos hE] at HC
    clear hE hbd
    go_enter Tryd.func82, Tryd.ntmps82
    go_wp2_with fail
    refine (ready_c g 0 _ _ w HR.out.rdr).mono ?_
    rintro r w1 ⟨rfl, rfl⟩
    go_wp2_with fail
    refine (must_so g 0 1 _ HR.out.rdr.c0).mono ?_
    rintro r w2 ⟨rfl, rfl⟩
    go_wp2_with fail
    refine HI.out.mono ?_
    rintro r w3 ⟨rfl, h1, h2⟩
    have H1 : Hid (RS w3.drew g a len cap xs E q ∧ w2.grownBy w3.drew (some g)) := ⟨h1.drewN 1, gb_drewN h2 1⟩
    clear h1 h2
    go_wp2
    go_region_held3 (fun _ => True) (trivial) (first
      | (go_at_call 108; refine (HL.out _ H1.out.1).mono ?_; rintro r w4 ⟨rfl, h1, h2⟩; have H2 : Hid (RS w4 g a len cap xs E q ∧ w2.grownBy w4 (some g)) := ⟨h1, gb_trans H1.out.2 h2⟩; clear h1 h2)
      | (go_at_call 72; go_must (refine (must_n g a len cap xs E q _ _ H2.out.1 hb _).mono ?_); rintro r w5 ⟨rfl, h1, h2⟩; have H3 : Hid (RS w5 g a len cap xs E q ∧ w2.grownBy w5 (some g)) := ⟨h1, gb_trans H2.out.2 h2⟩; clear h1 h2))
    have c3 := H3.out.1.rdr.c3
    have f3 := H3.out.1.rdr.free 3
    go_wp2
    go_ret
    obtain ⟨m1, m2⟩ := H3.out.1.moves q hple
    rw [HC.out]
    exact ⟨rfl, m1, gb_trans H3.out.2 m2⟩

set_option maxRecDepth 20000 in
set_option maxHeartbeats 1000000 in
theorem count_zero (g : Nat) (a : Option Addr) (len cap : Nat) (xs : List Int) (p : Nat) (most : Int) (w : World) (h : RS w g a len cap xs 0 p) (hm : 0 ≤ most) (hm2 : most ≤ 9223372036854775807) :
    Calls Tryd.prog 82 #[.pointer (some ⟨g, 0, none⟩), .int .i64 most, .int .i64 0] w fun r w' => r = .returned (.int .i64 (rc xs p most 0).1) ∧ RS w' g a len cap xs (rc xs p most 0).2.2 (rc xs p most 0).2.1 ∧ w.grownBy w' (some g) := by
  have HR : Hid (RS w g a len cap xs 0 p) := h
  have HI : Hid (Calls Tryd.prog 81 #[.pointer (some ⟨g, 0, none⟩), .int .i64 most] w fun r w' => r = .returned (.int .i64 (ri xs p most).1) ∧ RS w' g a len cap xs (ri xs p most).2.2 (ri xs p most).2.1 ∧ w.grownBy w' (some g)) := int_ok g a len cap xs p most w h hm2
  have hbd := ri_bd h.bytes p (by rw [h.seg.1]; exact h.le) most
  have HC : Hid (rc xs p most 0 = if (ri xs p most).2.2 ≠ 0 then (0, p, (ri xs p most).2.2)
      else ((ri xs p most).1, (ri xs p most).2.1, 0)) := by
    show _ = _
    rw [rc, if_neg (by omega)]
    simp
  rw [h.seg.1] at hbd
  obtain ⟨V, q, E, hri⟩ : ∃ V q E, ri xs p most = (V, q, E) := ⟨_, _, _, rfl⟩
  rw [hri] at hbd HI HC
  simp only at hbd HI HC
  have h3 := h.rdr.c3
  have hple := h.le
  obtain ⟨R, hR⟩ : ∃ R, R = rc xs p most 0 := ⟨_, rfl⟩
  rw [← hR] at HC ⊢
  clear h hri hR
  by_cases hE : E = 0
  · subst hE
    rw [if_neg (by simp)] at HC
    clear hbd
    go_enter Tryd.func82, Tryd.ntmps82
    go_wp2_with fail
    refine (ready_c g 0 _ _ w HR.out.rdr).mono ?_
    rintro r w1 ⟨rfl, rfl⟩
    go_wp2_with fail
    refine (must_so g 0 1 _ HR.out.rdr.c0).mono ?_
    rintro r w2 ⟨rfl, rfl⟩
    go_wp2_with fail
    refine HI.out.mono ?_
    rintro r w3 ⟨rfl, h1, h2⟩
    have H1 : Hid (RS w3 g a len cap xs 0 q ∧ w2.grownBy w3 (some g)) := ⟨h1, h2⟩
    have HQ : Hid (∀ n, Calls Tryd.prog 72 #[.pointer (some ⟨g, 0, none⟩), .bool true, .int .i64 30] (w3.drewN n) fun r w' => r = .returned (.bool true) ∧ w' = w3.drewN n) := by
      intro n
      have := must_so g 0 30 (w3.drewN n) (h1.drewN n).rdr.c0
      exact this
    clear h1 h2
    go_wp2
    go_quiet ((go_at_call 72; go_must (refine Calls.quiet_of_same (HQ.out _))))
    obtain ⟨w4, hw4⟩ : ∃ w4, w4 = w3.drewN nq := ⟨_, rfl⟩
    rw [← hw4]
    have H4 : Hid (RS w4 g a len cap xs 0 q ∧ w2.grownBy w4 (some g)) := by rw [hw4]; exact ⟨H1.out.1.drewN _, gb_drewN H1.out.2 _⟩
    clear hw4
    go_wp2
    go_ret
    rw [HC.out]
    exact ⟨rfl, H4.out.1, H4.out.2⟩
  · have hb : (E == 0) = false := by simp [hE]
    obtain ⟨rfl, rfl⟩ := hbd.2.2.2.2 hE
    rw [if_pos hE] at HC
    clear hE hbd
    go_enter Tryd.func82, Tryd.ntmps82
    go_wp2_with fail
    refine (ready_c g 0 _ _ w HR.out.rdr).mono ?_
    rintro r w1 ⟨rfl, rfl⟩
    go_wp2_with fail
    refine (must_so g 0 1 _ HR.out.rdr.c0).mono ?_
    rintro r w2 ⟨rfl, rfl⟩
    go_wp2_with fail
    refine HI.out.mono ?_
    rintro r w3 ⟨rfl, h1, h2⟩
    have H1 : Hid (RS w3 g a len cap xs E q ∧ w2.grownBy w3 (some g)) := ⟨h1, h2⟩
    have HQ : Hid (∀ n, Calls Tryd.prog 72 #[.pointer (some ⟨g, 0, none⟩), .bool true, .int .i64 30] (w3.drewN n) fun r w' => r = .returned (.bool false) ∧ w' = w3.drewN n) := by
      intro n
      have := must_so g E 30 (w3.drewN n) (h1.drewN n).rdr.c0
      rw [hb] at this; exact this
    clear h1 h2
    go_wp2
    go_quiet ((go_at_call 72; go_must (refine Calls.quiet_of_same (HQ.out _))))
    obtain ⟨w4, hw4⟩ : ∃ w4, w4 = w3.drewN nq := ⟨_, rfl⟩
    rw [← hw4]
    have H4 : Hid (RS w4 g a len cap xs E q ∧ w2.grownBy w4 (some g)) := by rw [hw4]; exact ⟨H1.out.1.drewN _, gb_drewN H1.out.2 _⟩
    clear hw4
    have c3 := H4.out.1.rdr.c3
    have f3 := H4.out.1.rdr.free 3
    go_wp2
    go_ret
    obtain ⟨m1, m2⟩ := H4.out.1.moves q hple
    rw [HC.out]
    exact ⟨rfl, m1, gb_trans H4.out.2 m2⟩

theorem count_ok (g : Nat) (a : Option Addr) (len cap : Nat) (xs : List Int) (p : Nat) (most least : Int) (w : World) (h : RS w g a len cap xs 0 p) (hm2 : most ≤ 9223372036854775807) (hl2 : least ≤ 9223372036854775807) :
    Calls Tryd.prog 82 #[.pointer (some ⟨g, 0, none⟩), .int .i64 most, .int .i64 least] w fun r w' => r = .returned (.int .i64 (rc xs p most least).1) ∧ RS w' g a len cap xs (rc xs p most least).2.2 (rc xs p most least).2.1 ∧ w.grownBy w' (some g) := by
  by_cases hm : most < 0 ∨ least < 0
  · exact count_neg g a len cap xs p most least w h hm
  · by_cases hl : least = 0
    · subst hl; exact count_zero g a len cap xs p most w h (by omega) hm2
    · exact count_pos g a len cap xs p most least w h (by omega) hm2 (by omega) hl2
end Go.Proofs.YtlmjgjimmbadeaaDoor
