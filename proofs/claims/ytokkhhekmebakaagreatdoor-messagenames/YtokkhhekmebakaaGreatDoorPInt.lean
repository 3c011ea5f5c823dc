/-
  What a pack Reader's Uint (behind an error), Left, At, End and Int answer: what the plain functions give. Condition: the Reader's bytes can be read, and their length is one that a machine has.
-/
import Derived.Test.YtokkhhekmebakaaGreatDoorPUi
namespace Go.Proofs.YtokkhhekmebakaaGreatDoor
open Go.RowKit
set_option linter.unusedVariables false

theorem uint_no (g : Nat) (e : Int) (v : Value) (p : Int) (w : World) (h : Rdr w g e v p) (he : (e == 0) = false) :
    Calls Tryz.prog 181 #[.pointer (some ⟨g, 0, none⟩)] w fun r w' => r = .returned (.int .u64 0) ∧ w' = w := by
  go_enter Tryz.func181, Tryz.ntmps181
  go_wp2_with fail
  refine (ready_c g e v p w h).mono ?_
  rintro r w1 ⟨rfl, rfl⟩
  go_wp2
  go_ret
  exact ⟨rfl, rfl⟩

theorem left_c (g : Nat) (e : Int) (a : Option Addr) (len cap p : Nat) (w : World) (h : Rdr w g e (.slice a len cap) p) (hp : p ≤ len) (hl : len ≤ 140737488355328) :
    Calls Tryz.prog 112 #[.pointer (some ⟨g, 0, none⟩)] w fun r w' => r = .returned (.int .i64 ((len - p : Nat) : Int)) ∧ ∃ n, w' = w.drewN n := by
  have h2 := h.c2
  have h3 := h.c3
  clear h
  go_enter Tryz.func112, Tryz.ntmps112
  go_wp2
  go_quiet (fail)
  go_wp2
  go_ret
  exact ⟨ret_int (by omega), _, rfl⟩

/-- What End answers. -/
def rend (len : Nat) (e : Int) (p : Nat) : Int := if e = 0 then (if p < len then 34 else 0) else e
theorem end_c (g : Nat) (e : Int) (a : Option Addr) (len cap p : Nat) (w : World) (h : Rdr w g e (.slice a len cap) p) (hp : p ≤ len) (hl : len ≤ 140737488355328) :
    Calls Tryz.prog 74 #[.pointer (some ⟨g, 0, none⟩)] w fun r w' => r = .returned (.int .i64 (rend len e p)) ∧ ∃ n, w' = w.drewN n := by
  by_cases he : e = 0
  · subst he
    have HH : Hid (Rdr w g 0 (.slice a len cap) p) := h
    clear h
    have HE : Hid (rend len 0 p = if p < len then 34 else 0) := by show _ = _; simp [rend]
    by_cases hlt : p < len
    · have hd : Hid ((0 : Int) < ((len - p : Nat) : Int)) := by show _ < _; omega
      rw [if_pos hlt] at HE
      clear hlt
      obtain ⟨L, hL⟩ : ∃ L, L = len - p := ⟨_, rfl⟩
      have HC : Hid (Calls Tryz.prog 112 #[.pointer (some ⟨g, 0, none⟩)] w fun r w' => r = .returned (.int .i64 (L : Int)) ∧ ∃ n, w' = w.drewN n) := by rw [hL]; exact left_c g 0 a len cap p w HH.out hp hl
      rw [← hL] at hd
      have hd2 := hd.out
      clear hL hd
      go_enter Tryz.func74, Tryz.ntmps74
      go_wp2_with fail
      refine (err_c g 0 _ _ w HH.out).mono ?_
      rintro r w1 ⟨rfl, rfl⟩
      go_wp2_with fail
      refine HC.out.mono ?_
      rintro r w2 ⟨rfl, n, rfl⟩
      go_wp2
      go_ret
      exact ⟨ret_int HE.out.symm, _, rfl⟩
    · rw [if_neg hlt] at HE
      obtain ⟨L, hL⟩ : ∃ L, L = len - p := ⟨_, rfl⟩
      have HC : Hid (Calls Tryz.prog 112 #[.pointer (some ⟨g, 0, none⟩)] w fun r w' => r = .returned (.int .i64 (L : Int)) ∧ ∃ n, w' = w.drewN n) := by rw [hL]; exact left_c g 0 a len cap p w HH.out hp hl
      have hd2 : L = 0 := by omega
      subst hd2
      clear hL hlt
      go_enter Tryz.func74, Tryz.ntmps74
      go_wp2_with fail
      refine (err_c g 0 _ _ w HH.out).mono ?_
      rintro r w1 ⟨rfl, rfl⟩
      go_wp2_with fail
      refine HC.out.mono ?_
      rintro r w2 ⟨rfl, n, rfl⟩
      go_wp2
      go_ret
      exact ⟨ret_int HE.out.symm, _, rfl⟩
  · have hb : (e != 0) = true := by simp [he]
    have HE : Hid (rend len e p = e) := by show _ = _; simp [rend, he]
    clear he
    go_enter Tryz.func74, Tryz.ntmps74
    go_wp2_with fail
    refine (err_c g e _ _ w h).mono ?_
    rintro r w1 ⟨rfl, rfl⟩
    go_wp2
    go_ret
    exact ⟨ret_int HE.out.symm, 0, rfl⟩

/-- What Int takes up: the number, the place behind it, the error. -/
def ri (xs : List Int) (p : Nat) (most : Int) : Int × Nat × Int :=
  if most < 0 then (0, p, 1) else if (ru xs p).2.2 ≠ 0 then (0, p, (ru xs p).2.2) else if most < (ru xs p).1 then (0, p, 31) else ((ru xs p).1, p + (ru xs p).2.1, 0)

theorem int_no (g : Nat) (e : Int) (v : Value) (p : Int) (most : Int) (w : World) (h : Rdr w g e v p) (he : (e == 0) = false) :
    Calls Tryz.prog 160 #[.pointer (some ⟨g, 0, none⟩), .int .i64 most] w fun r w' => r = .returned (.int .i64 0) ∧ w' = w := by
  go_enter Tryz.func160, Tryz.ntmps160
  go_wp2_with fail
  refine (ready_c g e v p w h).mono ?_
  rintro r w1 ⟨rfl, rfl⟩
  go_wp2
  go_ret
  exact ⟨rfl, rfl⟩

theorem nm_zero {e : Int} (h0 : 0 ≤ e) : nm e = 0 ↔ e = 0 := by
  unfold nm
  split
  · omega
  · split
    · omega
    · split <;> omega
theorem ru_err {xs : List Int} (hx : Bytes xs) (p : Nat) (h : (ru xs p).2.2 ≠ 0) : (ru xs p).1 = 0 ∧ (ru xs p).2.1 = 0 := by
  have hb := (rd_bd _ (bytes_drop hx p)).2.2.1
  have h2 : (rd (xs.drop p)).2.2 ≠ 0 := fun e => h ((nm_zero hb).2 e)
  simp only [ru]
  generalize xs.drop p = ys at h2 ⊢
  unfold rd at h2 ⊢
  split
  · simp
  · split
    · simp
    · split
      · simp
      · rename_i a b c
        rw [if_neg a, if_neg b, if_neg c] at h2
        simp at h2
theorem ru_bd {xs : List Int} (hx : Bytes xs) (p : Nat) : 0 ≤ (ru xs p).1 ∧ (ru xs p).1 < 18446744073709551616 := (rd_bd _ (bytes_drop hx p)).1

set_option maxRecDepth 20000 in
theorem int_neg (g : Nat) (a : Option Addr) (len cap : Nat) (xs : List Int) (p : Nat) (most : Int) (w : World) (h : RS w g a len cap xs 0 p) (hm : most < 0) :
    Calls Tryz.prog 160 #[.pointer (some ⟨g, 0, none⟩), .int .i64 most] w fun r w' => r = .returned (.int .i64 (ri xs p most).1) ∧ RS w' g a len cap xs (ri xs p most).2.2 (ri xs p most).2.1 ∧ w.grownBy w' (some g) := by
  have he : ri xs p most = (0, p, 1) := by simp [ri, hm]
  have hd : decide (0 ≤ most) = false := by simp; omega
  rw [he]
  have HR : Hid (RS w g a len cap xs 0 p) := h
  clear h he hm
  go_enter Tryz.func160, Tryz.ntmps160
  go_wp2_with fail
  refine (ready_c g 0 _ _ w HR.out.rdr).mono ?_
  rintro r w1 ⟨rfl, rfl⟩
  go_wp2_with fail
  refine (rmust_ok g a len cap xs p 1 _ rfl HR.out).mono ?_
  rintro r w2 ⟨rfl, h1, h2⟩
  have H1 : Hid (RS w2 g a len cap xs 1 p ∧ w1.grownBy w2 (some g)) := ⟨h1, h2⟩
  clear h1 h2
  go_wp2
  go_ret
  exact ⟨rfl, H1.out.1, H1.out.2⟩

set_option maxRecDepth 20000 in
theorem int_pos (g : Nat) (a : Option Addr) (len cap : Nat) (xs : List Int) (p : Nat) (most : Int) (w : World) (h : RS w g a len cap xs 0 p) (hm : 0 ≤ most) (hm2 : most ≤ 9223372036854775807) :
    Calls Tryz.prog 160 #[.pointer (some ⟨g, 0, none⟩), .int .i64 most] w fun r w' => r = .returned (.int .i64 (ri xs p most).1) ∧ RS w' g a len cap xs (ri xs p most).2.2 (ri xs p most).2.1 ∧ w.grownBy w' (some g) := by
  have HR : Hid (RS w g a len cap xs 0 p) := h
  have hbd := ru_bd h.bytes p
  have HRR : Hid ((ru xs p).2.2 ≠ 0 → (ru xs p).1 = 0 ∧ (ru xs p).2.1 = 0) := ru_err h.bytes p
  have HU : Hid (∀ w, RS w g a len cap xs 0 p → Calls Tryz.prog 181 #[.pointer (some ⟨g, 0, none⟩)] w fun r w' => r = .returned (.int .u64 (ru xs p).1) ∧ RS w' g a len cap xs (ru xs p).2.2 (p + (ru xs p).2.1) ∧ w.grownBy w' (some g)) := fun w h => uint_ok g a len cap xs p w h
  have HI : Hid (ri xs p most = if (ru xs p).2.2 ≠ 0 then (0, p, (ru xs p).2.2) else if most < (ru xs p).1 then (0, p, 31) else ((ru xs p).1, p + (ru xs p).2.1, 0)) := by
    show _ = _
    rw [ri, if_neg (by omega)]
  obtain ⟨V, c, E, hru⟩ : ∃ V c E, ru xs p = (V, c, E) := ⟨_, _, _, rfl⟩
  rw [hru] at hbd HRR HU HI
  simp only at hbd HRR HU HI
  have h3 := h.rdr.c3
  have hple := h.le
  clear h hru
  obtain ⟨R, hR⟩ : ∃ R, R = ri xs p most := ⟨_, rfl⟩
  rw [← hR] at HI ⊢
  clear hR
  by_cases hE : E = 0
  · subst hE
    rw [if_neg (by simp)] at HI
    by_cases hv : V ≤ most
    · rw [if_neg (by omega)] at HI
      rw [HI.out]
      clear HI HRR
      go_enter Tryz.func160, Tryz.ntmps160
      go_wp2_with fail
      refine (ready_c g 0 _ _ w HR.out.rdr).mono ?_
      rintro r w1 ⟨rfl, rfl⟩
      go_wp2_with fail
      refine (must_so g 0 1 _ HR.out.rdr.c0).mono ?_
      rintro r w2 ⟨rfl, rfl⟩
      go_wp2_with fail
      refine (HU.out _ HR.out).mono ?_
      rintro r w3 ⟨rfl, h1, h2⟩
      have H1 : Hid (RS w3 g a len cap xs 0 (p + c) ∧ w2.grownBy w3 (some g)) := ⟨h1, h2⟩
      clear h1 h2
      go_wp2_with fail
      refine (must_so g 0 31 _ H1.out.1.rdr.c0).mono ?_
      rintro r w4 ⟨rfl, rfl⟩
      go_wp2
      go_ret
      exact ⟨ret_int (by omega), H1.out.1, H1.out.2⟩
    · rw [if_pos (by omega)] at HI
      rw [HI.out]
      have hd : decide (V ≤ most) = false := by simp; omega
      clear HI HRR hv
      go_enter Tryz.func160, Tryz.ntmps160
      go_wp2_with fail
      refine (ready_c g 0 _ _ w HR.out.rdr).mono ?_
      rintro r w1 ⟨rfl, rfl⟩
      go_wp2_with fail
      refine (must_so g 0 1 _ HR.out.rdr.c0).mono ?_
      rintro r w2 ⟨rfl, rfl⟩
      go_wp2_with fail
      refine (HU.out _ HR.out).mono ?_
      rintro r w3 ⟨rfl, h1, h2⟩
      have H1 : Hid (RS w3 g a len cap xs 0 (p + c) ∧ w2.grownBy w3 (some g)) := ⟨h1, h2⟩
      clear h1 h2
      go_wp2_with fail
      refine (rmust_ok g a len cap xs (p + c) 31 _ rfl H1.out.1).mono ?_
      rintro r w4 ⟨rfl, h1, h2⟩
      have H2 : Hid (RS w4 g a len cap xs 31 (p + c) ∧ w2.grownBy w4 (some g)) := ⟨h1, gb_trans H1.out.2 h2⟩
      have c3 := h1.rdr.c3
      have f3 := h1.rdr.free 3
      clear h1 h2
      go_wp2
      go_ret
      obtain ⟨m1, m2⟩ := H2.out.1.moves p hple
      exact ⟨rfl, m1, gb_trans H2.out.2 m2⟩
  · have hb : (E == 0) = false := by simp [hE]
    obtain ⟨rfl, rfl⟩ := HRR.out hE
    rw [if_pos hE] at HI
    rw [HI.out]
    clear HI HRR hE hbd
    go_enter Tryz.func160, Tryz.ntmps160
    go_wp2_with fail
    refine (ready_c g 0 _ _ w HR.out.rdr).mono ?_
    rintro r w1 ⟨rfl, rfl⟩
    go_wp2_with fail
    refine (must_so g 0 1 _ HR.out.rdr.c0).mono ?_
    rintro r w2 ⟨rfl, rfl⟩
    go_wp2_with fail
    refine (HU.out _ HR.out).mono ?_
    rintro r w3 ⟨rfl, h1, h2⟩
    have H1 : Hid (RS w3 g a len cap xs E p ∧ w2.grownBy w3 (some g)) := ⟨h1, h2⟩
    have c3 := h1.rdr.c3
    have f3 := h1.rdr.free 3
    clear h1 h2
    go_wp2_with fail
    refine (must_so g E 31 _ H1.out.1.rdr.c0).mono ?_
    rintro r w4 ⟨rfl, rfl⟩
    go_wp2
    go_ret
    obtain ⟨m1, m2⟩ := H1.out.1.moves p hple
    exact ⟨rfl, m1, gb_trans H1.out.2 m2⟩

theorem int_ok (g : Nat) (a : Option Addr) (len cap : Nat) (xs : List Int) (p : Nat) (most : Int) (w : World) (h : RS w g a len cap xs 0 p) (hm2 : most ≤ 9223372036854775807) :
    Calls Tryz.prog 160 #[.pointer (some ⟨g, 0, none⟩), .int .i64 most] w fun r w' => r = .returned (.int .i64 (ri xs p most).1) ∧ RS w' g a len cap xs (ri xs p most).2.2 (ri xs p most).2.1 ∧ w.grownBy w' (some g) := by
  by_cases hm : most < 0
  · exact int_neg g a len cap xs p most w h hm
  · exact int_pos g a len cap xs p most w h (by omega) hm2
theorem ri_bd {xs : List Int} (hx : Bytes xs) (p : Nat) (hp : p ≤ xs.length) (most : Int) : 0 ≤ (ri xs p most).1 ∧ ((ri xs p most).1 ≤ most ∨ (ri xs p most).1 = 0) ∧ p ≤ (ri xs p most).2.1 ∧ (ri xs p most).2.1 ≤ xs.length ∧ ((ri xs p most).2.2 ≠ 0 → (ri xs p most).1 = 0 ∧ (ri xs p most).2.1 = p) := by
  have h1 := ru_bd hx p
  have h2 := ru_le hx p hp
  unfold ri
  split
  · simp; omega
  · split
    · simp; omega
    · split
      · simp; omega
      · simp only; refine ⟨h1.1, .inl (by omega), by omega, h2, fun h => absurd rfl h⟩
end Go.Proofs.YtokkhhekmebakaaGreatDoor
