/-
  What the document's Reader's Flag and Count answer: what the plain functions rf and rc give. Condition: its bytes can be read, and their length is one that a machine has.
-/
import Derived.Test.YtdedmmodlbnnfaaXRs
namespace Go.Proofs.Ytdedmmodlbnnfaa
open Go.RowKit
set_option linter.unusedVariables false

set_option maxRecDepth 20000 in
theorem xflag_ok (g : Nat) (a : Option Addr) (len cap : Nat) (xs : List Int) (p : Nat) (w : World) (h : XS w g a len cap xs 0 p) :
    Calls Try.prog 41 #[.pointer (some ⟨g, 0, none⟩)] w fun r w' => r = .returned (.bool (rf xs p).1) ∧ XS w' g a len cap xs (rf xs p).2.2 (rf xs p).2.1 ∧ w.grownBy w' (some g) := by
  have HR : Hid (XS w g a len cap xs 0 p) := h
  have HF : Hid (rf xs p = if len ≤ p then (false, p, 30) else if 1 < xs[p]?.getD 0 then (false, p, 32) else (xs[p]?.getD 0 == 1, p + 1, 0)) := by show _ = _; rw [rf, h.seg.1]
  obtain ⟨R, hR⟩ : ∃ R, R = rf xs p := ⟨_, rfl⟩
  rw [← hR] at HF ⊢
  clear hR
  have hple := h.le
  have hlm := h.lm
  have c0 := h.rdr.c0
  have c1 := h.rdr.c1
  have c2 := h.rdr.c2
  by_cases hp : len ≤ p
  · rw [if_pos hp] at HF
    obtain rfl : p = len := by omega
    clear h hple hp
    go_enter Try.func41, Try.ntmps41
    go_wp2
    go_quiet (fail)
    obtain ⟨w2, hw2⟩ : ∃ w2, w2 = w.drewN nq := ⟨_, rfl⟩
    rw [← hw2]
    have H2 : Hid (XS w2 g a p cap xs 0 p ∧ w.grownBy w2 (some g)) := by rw [hw2]; exact ⟨HR.out.drewN _, gb_drewN (World.grownBy.refl _ _) _⟩
    clear hw2 c0 c1 c2
    go_wp2_with fail
    refine (xfail_c g a p cap xs 0 30 p w2 H2.out.1).mono ?_
    rintro r w3 ⟨rfl, h1, h2⟩
    have H3 : Hid (XS w3 g a p cap xs 30 p ∧ w.grownBy w3 (some g)) := ⟨h1, gb_trans H2.out.2 h2⟩
    clear h1 h2
    go_wp2
    go_ret
    rw [HF.out]
    exact ⟨rfl, H3.out.1, H3.out.2⟩
  · rw [if_neg hp] at HF
    have HX : Hid (0 ≤ xs[p]?.getD 0 ∧ xs[p]?.getD 0 < 256) := h.bytes p (by rw [h.seg.1]; omega)
    rcases h.seg.2 with h0 | ⟨b, off, rfl, hb, hcl⟩
    · omega
    · clear h hcl hb
      have hlt : p < len := by omega
      have hne : ((p : Int) == (len : Int)) = false := by simp; omega
      have hne2 : (p == len) = false := by simp; omega
      obtain ⟨C, hC⟩ : ∃ C, C = xs[p]?.getD 0 := ⟨_, rfl⟩
      have HCL : Hid (∀ (w : World) (e : Int) (q : Nat), XS w g (some ⟨b, off, none⟩) len cap xs e q → w.cell? ⟨b, off + p, none⟩ = some (.int .u8 C)) := by
        intro w e q h
        rcases h.seg.2 with h0 | ⟨b', off', he, hb, hcl⟩
        · omega
        · cases he
          rw [hC]; exact hcl p hlt
      rw [← hC] at HF HX
      have hx := HX.out
      clear hC HX hp
      have cx := HCL.out w 0 p HR.out
      have hd1 : decide (p < len) = true := by simp; omega
      go_enter Try.func41, Try.ntmps41
      go_wp2
      go_quiet (fail)
      have H0 : Hid (XS w g (some ⟨b, off, none⟩) len cap xs 0 p ∧ w.grownBy w (some g)) := ⟨HR.out, World.grownBy.refl _ _⟩
      obtain ⟨w1, hw1⟩ : ∃ w1, w1 = w.drewN nq := ⟨_, rfl⟩
      rw [← hw1]
      have Hw1 : Hid (XS w1 g (some ⟨b, off, none⟩) len cap xs 0 p ∧ w.grownBy w1 (some g)) := by rw [hw1]; exact ⟨H0.out.1.drewN _, gb_drewN H0.out.2 _⟩
      clear hw1 c0 c1 c2 cx
      have c0 := Hw1.out.1.rdr.c0
      have c1 := Hw1.out.1.rdr.c1
      have c2 := Hw1.out.1.rdr.c2
      have cx := HCL.out w1 0 p Hw1.out.1
      clear H0 HR
      go_wp2
      go_quiet (fail)
      obtain ⟨w2, hw2⟩ : ∃ w2, w2 = w1.drewN nq := ⟨_, rfl⟩
      rw [← hw2]
      have Hw2 : Hid (XS w2 g (some ⟨b, off, none⟩) len cap xs 0 p ∧ w.grownBy w2 (some g)) := by rw [hw2]; exact ⟨Hw1.out.1.drewN _, gb_drewN Hw1.out.2 _⟩
      clear hw2 c0 c1 c2 cx
      have c0 := Hw2.out.1.rdr.c0
      have c1 := Hw2.out.1.rdr.c1
      have c2 := Hw2.out.1.rdr.c2
      have cx := HCL.out w2 0 p Hw2.out.1
      clear Hw1
      by_cases hC1 : 1 < C
      · rw [if_pos hC1] at HF
        go_wp2_with fail
        refine (xfail_c g (some ⟨b, off, none⟩) len cap xs 0 32 p w2 Hw2.out.1).mono ?_
        rintro r w3 ⟨rfl, h1, h2⟩
        have H3 : Hid (XS w3 g (some ⟨b, off, none⟩) len cap xs 32 p ∧ w.grownBy w3 (some g)) := ⟨h1, gb_trans Hw2.out.2 h2⟩
        clear h1 h2
        go_wp2
        go_ret
        rw [HF.out]
        exact ⟨rfl, H3.out.1, H3.out.2⟩
      · rw [if_neg hC1] at HF
        have hd2 : decide (1 < C) = false := by simp; omega
        have f1 := Hw2.out.1.rdr.free 1
        have e2 : (p : Int) + 1 = ((p + 1 : Nat) : Int) := by omega
        obtain ⟨m1, m2⟩ := Hw2.out.1.moves (p + 1) (by omega)
        rw [← e2] at m1 m2
        obtain ⟨w3, hw3⟩ : ∃ w3, (w2.setCell ⟨g, 1, none⟩ (.int .i64 ((p : Int) + 1))) = w3 := ⟨_, rfl⟩
        rw [hw3] at m1 m2
        have H3 : Hid (XS w3 g (some ⟨b, off, none⟩) len cap xs 0 (p + 1) ∧ w.grownBy w3 (some g)) := ⟨m1, gb_trans Hw2.out.2 m2⟩
        have d0 := m1.rdr.c0
        have d1 := m1.rdr.c1
        have dx := HCL.out w3 0 (p + 1) m1
        rw [← e2] at d1
        clear m1 m2 e2
        go_wp2
        go_quiet (fail)
        go_wp2
        go_ret
        rw [HF.out]
        exact ⟨rfl, H3.out.1.drewN _, gb_drewN H3.out.2 _⟩

set_option maxRecDepth 20000 in
set_option maxHeartbeats 1000000 in
theorem xcount_ok (g : Nat) (a : Option Addr) (len cap : Nat) (xs : List Int) (p : Nat) (most least : Int) (w : World) (h : XS w g a len cap xs 0 p) (hm2 : most ≤ 9223372036854775807) (hl2 : least ≤ 9223372036854775807) :
    Calls Try.prog 47 #[.pointer (some ⟨g, 0, none⟩), .int .i64 most, .int .i64 least] w fun r w' => r = .returned (.int .i64 (rc xs p most least).1) ∧ XS w' g a len cap xs (rc xs p most least).2.2 (rc xs p most least).2.1 ∧ w.grownBy w' (some g) := by
  have HR : Hid (XS w g a len cap xs 0 p) := h
  have c0 := h.rdr.c0
  have c1 := h.rdr.c1
  have c2 := h.rdr.c2
  by_cases hm : most < 0 ∨ least < 0
  · have he : rc xs p most least = (0, p, 1) := by rw [rc, if_pos hm]
    rw [he]
    clear h he
    by_cases h0 : most < 0
    · clear hm
      go_enter Try.func47, Try.ntmps47
      go_wp2_with fail
      refine (xfail_c g a len cap xs 0 1 p w HR.out).mono ?_
      rintro r w3 ⟨rfl, h1, h2⟩
      have H3 : Hid (XS w3 g a len cap xs 1 p ∧ w.grownBy w3 (some g)) := ⟨h1, h2⟩
      clear h1 h2
      go_wp2
      go_ret
      exact ⟨rfl, H3.out.1, H3.out.2⟩
    · have hl : least < 0 := by omega
      have hm0 : 0 ≤ most := by omega
      clear hm h0
      go_enter Try.func47, Try.ntmps47
      go_wp2_with fail
      refine (xfail_c g a len cap xs 0 1 p w HR.out).mono ?_
      rintro r w3 ⟨rfl, h1, h2⟩
      have H3 : Hid (XS w3 g a len cap xs 1 p ∧ w.grownBy w3 (some g)) := ⟨h1, h2⟩
      clear h1 h2
      go_wp2
      go_ret
      exact ⟨rfl, H3.out.1, H3.out.2⟩
  · have HN : Hid (∀ n, Calls Try.prog 68 #[.slice a len cap, .int .i64 (p : Int), .int .i64 most] (w.drewN n) fun r w' => r = .returned (.tuple #[.int .i64 (ri xs p most).1, .int .i64 (pl (ri xs p most).2.1 (ri xs p most).2.2 : Nat), .int .i64 (ri xs p most).2.2]) ∧ w' = w.drewN n) :=
      fun n => upto_c a len cap xs p most (w.drewN n) (h.drewN n).seg h.bytes h.le h.lc h.lm h.cm hm2
    have hbd := ri_bd h.bytes p (by rw [h.seg.1]; exact h.le) most
    have HC : Hid (rc xs p most least = if (ri xs p most).2.2 ≠ 0 then (0, p, (ri xs p most).2.2)
        else if 0 < least ∧ ((len - (ri xs p most).2.1 : Nat) : Int) / least < (ri xs p most).1 then (0, p, 30)
        else ((ri xs p most).1, (ri xs p most).2.1, 0)) := by
      show _ = _
      rw [rc, h.seg.1, if_neg hm]
    rw [h.seg.1] at hbd
    obtain ⟨V, q, E, hri⟩ : ∃ V q E, ri xs p most = (V, q, E) := ⟨_, _, _, rfl⟩
    rw [hri] at hbd HN HC
    simp only at hbd HN HC
    obtain ⟨R, hR⟩ : ∃ R, R = rc xs p most least := ⟨_, rfl⟩
    rw [← hR] at HC ⊢
    have hm0 : 0 ≤ most := by omega
    have hl0 : 0 ≤ least := by omega
    have hple := h.le
    have hlm := h.lm
    clear h hri hR hm
    have hV0 : 0 ≤ V := hbd.1
    have hql : q ≤ len := hbd.2.2.2.1
    by_cases hE : E = 0
    · subst hE
      rw [show pl q 0 = q from rfl] at HN
      rw [if_neg (by simp)] at HC
      by_cases hv : 0 < V ∧ 0 < least
      · obtain ⟨hv1, hv2⟩ := hv
        have hn0 : least ≠ 0 := by omega
        have hne : (least == 0) = false := by simp; omega
        have e1 : ((len - q : Nat) : Int) = (len : Int) - (q : Int) := by omega
        rw [e1] at HC
        have hX : 0 ≤ (len : Int) - (q : Int) := by omega
        have hDb : 0 ≤ ((len : Int) - (q : Int)) / least ∧ ((len : Int) - (q : Int)) / least ≤ (len : Int) - (q : Int) := ⟨Int.ediv_nonneg hX hl0, Int.ediv_le_self _ hX⟩
        have htd : ((len : Int) - (q : Int)).tdiv least = ((len : Int) - (q : Int)) / least := Int.tdiv_eq_ediv_of_nonneg hX
        obtain ⟨D, hD⟩ : ∃ D, D = ((len : Int) - (q : Int)) / least := ⟨_, rfl⟩
        rw [← hD] at HC hDb htd
        have hw1 : wrap64 (((len : Int) - (q : Int)) / least) = D := by rw [← hD]; exact IntWalk.wrap64_in _ ⟨by omega, by omega⟩
        have hw4 : wrap64 D = D := IntWalk.wrap64_in _ ⟨by omega, by omega⟩
        clear hD hDb e1 hX hV0 hbd
        by_cases hDV : D < V
        · rw [if_pos ⟨hv2, hDV⟩] at HC
          go_enter Try.func47, Try.ntmps47
          go_wp2
          go_quiet ((go_at_call 68; go_must (refine Calls.quiet_of_same (HN.out _))))
          obtain ⟨w2, hw2⟩ : ∃ w2, w2 = w.drewN nq := ⟨_, rfl⟩
          rw [← hw2]
          have H2 : Hid (XS w2 g a len cap xs 0 p ∧ w.grownBy w2 (some g)) := by rw [hw2]; exact ⟨HR.out.drewN _, gb_drewN (World.grownBy.refl _ _) _⟩
          clear hw2 c0 c1 c2
          have c0 := H2.out.1.rdr.c0
          go_wp2_with fail
          refine (done_c g a len cap xs p q 30 w2 H2.out.1 (hql)).mono ?_
          rintro r w3 ⟨rfl, h1, h2⟩
          have H3 : Hid (XS w3 g a len cap xs 30 p ∧ w.grownBy w3 (some g)) := ⟨by simpa using h1, gb_trans H2.out.2 h2⟩
          clear h1 h2
          go_wp2
          go_ret
          rw [HC.out]
          exact ⟨rfl, H3.out.1, H3.out.2⟩
        · rw [if_neg (by omega)] at HC
          have hd : decide (D < V) = false := by simp; omega
          go_enter Try.func47, Try.ntmps47
          go_wp2
          go_quiet ((go_at_call 68; go_must (refine Calls.quiet_of_same (HN.out _))))
          obtain ⟨w2, hw2⟩ : ∃ w2, w2 = w.drewN nq := ⟨_, rfl⟩
          rw [← hw2]
          have H2 : Hid (XS w2 g a len cap xs 0 p ∧ w.grownBy w2 (some g)) := by rw [hw2]; exact ⟨HR.out.drewN _, gb_drewN (World.grownBy.refl _ _) _⟩
          clear hw2 c0 c1 c2
          have c0 := H2.out.1.rdr.c0
          go_wp2_with fail
          refine (done_c g a len cap xs p q 0 w2 H2.out.1 (hql)).mono ?_
          rintro r w3 ⟨rfl, h1, h2⟩
          have H3 : Hid (XS w3 g a len cap xs 0 q ∧ w.grownBy w3 (some g)) := ⟨by simpa using h1, gb_trans H2.out.2 h2⟩
          clear h1 h2
          go_wp2
          go_ret
          rw [HC.out]
          exact ⟨rfl, H3.out.1, H3.out.2⟩
      · have hcn : ¬ (0 < least ∧ ((len - q : Nat) : Int) / least < V) := by
          rintro ⟨h1, h2⟩
          have : 0 ≤ ((len - q : Nat) : Int) / least := Int.ediv_nonneg (by omega) hl0
          omega
        rw [if_neg hcn] at HC
        clear hcn hbd
        by_cases hv1 : 0 < V
        · obtain rfl : least = 0 := by omega
          clear hv
          go_enter Try.func47, Try.ntmps47
          go_wp2
          go_quiet ((go_at_call 68; go_must (refine Calls.quiet_of_same (HN.out _))))
          obtain ⟨w2, hw2⟩ : ∃ w2, w2 = w.drewN nq := ⟨_, rfl⟩
          rw [← hw2]
          have H2 : Hid (XS w2 g a len cap xs 0 p ∧ w.grownBy w2 (some g)) := by rw [hw2]; exact ⟨HR.out.drewN _, gb_drewN (World.grownBy.refl _ _) _⟩
          clear hw2 c0 c1 c2
          have c0 := H2.out.1.rdr.c0
          go_wp2_with fail
          refine (done_c g a len cap xs p q 0 w2 H2.out.1 (hql)).mono ?_
          rintro r w3 ⟨rfl, h1, h2⟩
          have H3 : Hid (XS w3 g a len cap xs 0 q ∧ w.grownBy w3 (some g)) := ⟨by simpa using h1, gb_trans H2.out.2 h2⟩
          clear h1 h2
          go_wp2
          go_ret
          rw [HC.out]
          exact ⟨rfl, H3.out.1, H3.out.2⟩
        · obtain rfl : V = 0 := by omega
          clear hv hv1 hV0
          go_enter Try.func47, Try.ntmps47
          go_wp2
          go_quiet ((go_at_call 68; go_must (refine Calls.quiet_of_same (HN.out _))))
          obtain ⟨w2, hw2⟩ : ∃ w2, w2 = w.drewN nq := ⟨_, rfl⟩
          rw [← hw2]
          have H2 : Hid (XS w2 g a len cap xs 0 p ∧ w.grownBy w2 (some g)) := by rw [hw2]; exact ⟨HR.out.drewN _, gb_drewN (World.grownBy.refl _ _) _⟩
          clear hw2 c0 c1 c2
          have c0 := H2.out.1.rdr.c0
          go_wp2_with fail
          refine (done_c g a len cap xs p q 0 w2 H2.out.1 (hql)).mono ?_
          rintro r w3 ⟨rfl, h1, h2⟩
          have H3 : Hid (XS w3 g a len cap xs 0 q ∧ w.grownBy w3 (some g)) := ⟨by simpa using h1, gb_trans H2.out.2 h2⟩
          clear h1 h2
          go_wp2
          go_ret
          rw [HC.out]
          exact ⟨rfl, H3.out.1, H3.out.2⟩
    · have hb : (E == 0) = false := by simp [hE]
      obtain ⟨rfl, rfl⟩ := hbd.2.2.2.2 hE
      rw [if_pos hE] at HC
      rw [show pl q E = 0 from by simp [pl, hE]] at HN
      have HE : Hid (E ≠ 0) := hE
      clear hE hbd hV0
      go_enter Try.func47, Try.ntmps47
      go_wp2
      go_quiet ((go_at_call 68; go_must (refine Calls.quiet_of_same (HN.out _))))
      obtain ⟨w2, hw2⟩ : ∃ w2, w2 = w.drewN nq := ⟨_, rfl⟩
      rw [← hw2]
      have H2 : Hid (XS w2 g a len cap xs 0 q ∧ w.grownBy w2 (some g)) := by rw [hw2]; exact ⟨HR.out.drewN _, gb_drewN (World.grownBy.refl _ _) _⟩
      clear hw2 c0 c1 c2
      have c0 := H2.out.1.rdr.c0
      go_wp2_with fail
      refine (done_c g a len cap xs q 0 E w2 H2.out.1 (Nat.zero_le _)).mono ?_
      rintro r w3 ⟨rfl, h1, h2⟩
      have H3 : Hid (XS w3 g a len cap xs E q ∧ w.grownBy w3 (some g)) := ⟨by have := h1; rw [if_neg HE.out] at this; exact this, gb_trans H2.out.2 h2⟩
      clear h1 h2
      go_wp2
      go_ret
      rw [HC.out]
      exact ⟨rfl, H3.out.1, H3.out.2⟩
end Go.Proofs.Ytdedmmodlbnnfaa
