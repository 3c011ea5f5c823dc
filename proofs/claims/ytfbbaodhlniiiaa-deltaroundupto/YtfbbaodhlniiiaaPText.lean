/-
  What a pack Reader's Text answers: what the plain function rt gives. Condition: the Reader's bytes can be read, and their length is one that a machine has.
-/
import Derived.Test.YtfbbaodhlniiiaaPTx
namespace Go.Proofs.Ytfbbaodhlniiiaa
open Go.RowKit
set_option linter.unusedVariables false

/-- What Text takes up: the text's bytes, the place behind it, the error. -/
def rt (xs : List Int) (p : Nat) (most : Int) : List Int × Nat × Int :=
  if (ri xs p most).2.2 ≠ 0 then ([], p, (ri xs p most).2.2)
  else if ((xs.length - (ri xs p most).2.1 : Nat) : Int) < (ri xs p most).1 then ([], p, 30)
  else ((xs.drop (ri xs p most).2.1).take (ri xs p most).1.toNat, (ri xs p most).2.1 + (ri xs p most).1.toNat, 0)

theorem text_no (g : Nat) (e : Int) (v : Value) (p : Int) (most : Int) (w : World) (h : Rdr w g e v p) (he : (e == 0) = false) :
    Calls Try.prog 40 #[.pointer (some ⟨g, 0, none⟩), .int .i64 most] w fun r w' => r = .returned (.string (strOfNums [])) ∧ w' = w := by
  go_enter Try.func40, Try.ntmps40
  go_wp2_with fail
  refine (ready_c g e v p w h).mono ?_
  rintro r w1 ⟨rfl, rfl⟩
  go_wp2
  go_ret
  exact ⟨rfl, rfl⟩

theorem well_r (g : Nat) (a : Option Addr) (len cap : Nat) (xs : List Int) (e : Int) (p : Nat) (w : World) (h : RS w g a len cap xs e p) :
    Calls Try.prog 63 #[.pointer (some ⟨g, 0, none⟩)] w fun r w' => r = .returned (.bool (e == 0)) ∧ w' = w := well_c g e w h.rdr.c0

set_option maxRecDepth 20000 in
theorem text_ok (g : Nat) (a : Option Addr) (len cap : Nat) (xs : List Int) (p : Nat) (most : Int) (w : World) (h : RS w g a len cap xs 0 p) (hm2 : most ≤ 9223372036854775807) :
    Calls Try.prog 40 #[.pointer (some ⟨g, 0, none⟩), .int .i64 most] w fun r w' => r = .returned (.string (strOfNums (rt xs p most).1)) ∧ RS w' g a len cap xs (rt xs p most).2.2 (rt xs p most).2.1 ∧ w.grownBy w' (some g) := by
  have HR : Hid (RS w g a len cap xs 0 p) := h
  have HI : Hid (Calls Try.prog 71 #[.pointer (some ⟨g, 0, none⟩), .int .i64 most] w fun r w' => r = .returned (.int .i64 (ri xs p most).1) ∧ RS w' g a len cap xs (ri xs p most).2.2 (ri xs p most).2.1 ∧ w.grownBy w' (some g)) := int_ok g a len cap xs p most w h hm2
  have hbd := ri_bd h.bytes p (by rw [h.seg.1]; exact h.le) most
  have HT : Hid (rt xs p most = if (ri xs p most).2.2 ≠ 0 then ([], p, (ri xs p most).2.2)
      else if ((len - (ri xs p most).2.1 : Nat) : Int) < (ri xs p most).1 then ([], p, 30)
      else ((xs.drop (ri xs p most).2.1).take (ri xs p most).1.toNat, (ri xs p most).2.1 + (ri xs p most).1.toNat, 0)) := by
    show _ = _
    rw [rt, h.seg.1]
  rw [h.seg.1] at hbd
  obtain ⟨V, q, E, hri⟩ : ∃ V q E, ri xs p most = (V, q, E) := ⟨_, _, _, rfl⟩
  rw [hri] at hbd HI HT
  simp only at hbd HI HT
  have h3 := h.rdr.c3
  have hple := h.le
  obtain ⟨R, hR⟩ : ∃ R, R = rt xs p most := ⟨_, rfl⟩
  rw [← hR] at HT ⊢
  clear h hri hR
  obtain ⟨N, rfl⟩ : ∃ N : Nat, V = N := ⟨V.toNat, by omega⟩
  have hnil := fun w => seg_string (P := Try.prog) (w := w) (a := none) (len := 0) (xs := []) 28 9 5 0 ⟨rfl, .inl rfl⟩ Try.underlying28 Try.underlying5 Try.underlying9
  by_cases hE : E = 0
  · subst hE
    rw [if_neg (by simp)] at HT
    by_cases hs : ((len - q : Nat) : Int) < N
    · rw [if_pos hs] at HT
      rw [HT.out]
      have HS : Hid (((len - q : Nat) : Int) < N) := hs
      clear hs HT hbd
      go_enter Try.func40, Try.ntmps40
      go_wp2_with fail
      refine (ready_c g 0 _ _ w HR.out.rdr).mono ?_
      rintro r w1 ⟨rfl, rfl⟩
      go_wp2_with fail
      refine HI.out.mono ?_
      rintro r w2 ⟨rfl, h1, h2⟩
      have H1 : Hid (RS w2 g a len cap xs 0 q ∧ w1.grownBy w2 (some g)) := ⟨h1, h2⟩
      clear h1 h2
      go_wp2_with fail
      refine (take_short g a len cap xs q _ _ H1.out.1 HS.out).mono ?_
      rintro r w3 ⟨rfl, h1, h2⟩
      have H2 : Hid (RS w3 g a len cap xs 30 q ∧ w1.grownBy w3 (some g)) := ⟨h1, gb_trans H1.out.2 h2⟩
      have c3 := h1.rdr.c3
      have f3 := h1.rdr.free 3
      clear h1 h2
      go_wp2_with fail
      refine (well_r g a len cap xs 30 q _ H2.out.1).mono ?_
      rintro r w4 ⟨rfl, rfl⟩
      go_wp2
      go_ret
      obtain ⟨m1, m2⟩ := H2.out.1.moves p hple
      exact ⟨rfl, m1, gb_trans H2.out.2 m2⟩
    · rw [if_neg hs, Int.toNat_natCast] at HT
      rw [HT.out]
      have HS : Hid (N ≤ len - q) := by show _ ≤ _; omega
      clear hs HT hbd
      go_enter Try.func40, Try.ntmps40
      go_wp2_with fail
      refine (ready_c g 0 _ _ w HR.out.rdr).mono ?_
      rintro r w1 ⟨rfl, rfl⟩
      go_wp2_with fail
      refine HI.out.mono ?_
      rintro r w2 ⟨rfl, h1, h2⟩
      have H1 : Hid (RS w2 g a len cap xs 0 q ∧ w1.grownBy w2 (some g)) := ⟨h1, h2⟩
      clear h1 h2
      go_wp2_with fail
      refine (take_ok g a len cap xs q N _ H1.out.1 HS.out).mono ?_
      rintro r w3 ⟨a1, c1, rfl, hsg, _, h1, h2⟩
      have H2 : Hid (RS w3 g a len cap xs 0 (q + N) ∧ w1.grownBy w3 (some g)) := ⟨h1, gb_trans H1.out.2 h2⟩
      have hcv := seg_string (P := Try.prog) 28 9 5 c1 hsg Try.underlying28 Try.underlying5 Try.underlying9
      clear h1 h2 hsg
      go_wp2_with fail
      refine (well_r g a len cap xs 0 (q + N) _ H2.out.1).mono ?_
      rintro r w4 ⟨rfl, rfl⟩
      go_wp2
      go_ret
      exact ⟨rfl, H2.out.1, H2.out.2⟩
  · have hb : (E == 0) = false := by simp [hE]
    obtain ⟨hN, rfl⟩ := hbd.2.2.2.2 hE
    obtain rfl : N = 0 := by omega
    rw [if_pos hE] at HT
    rw [HT.out]
    clear HT hE hbd hN
    go_enter Try.func40, Try.ntmps40
    go_wp2_with fail
    refine (ready_c g 0 _ _ w HR.out.rdr).mono ?_
    rintro r w1 ⟨rfl, rfl⟩
    go_wp2_with fail
    refine HI.out.mono ?_
    rintro r w2 ⟨rfl, h1, h2⟩
    have H1 : Hid (RS w2 g a len cap xs E q ∧ w1.grownBy w2 (some g)) := ⟨h1, h2⟩
    clear h1 h2
    go_wp2_with fail
    refine (take_no g a len cap xs E q _ _ H1.out.1 hb).mono ?_
    rintro r w3 ⟨rfl, h1, h2⟩
    have H2 : Hid (RS w3 g a len cap xs E q ∧ w1.grownBy w3 (some g)) := ⟨h1, gb_trans H1.out.2 h2⟩
    have c3 := h1.rdr.c3
    have f3 := h1.rdr.free 3
    clear h1 h2
    go_wp2_with fail
    refine (well_r g a len cap xs E q _ H2.out.1).mono ?_
    rintro r w4 ⟨rfl, rfl⟩
    go_wp2
    go_ret
    obtain ⟨m1, m2⟩ := H2.out.1.moves q hple
    exact ⟨rfl, m1, gb_trans H2.out.2 m2⟩
theorem rt_bd {xs : List Int} (hx : Bytes xs) (p : Nat) (hp : p ≤ xs.length) (most : Int) : (rt xs p most).2.1 ≤ xs.length ∧ p ≤ (rt xs p most).2.1 ∧ (rt xs p most).1.length ≤ xs.length ∧ ((rt xs p most).2.2 ≠ 0 → (rt xs p most).1 = [] ∧ (rt xs p most).2.1 = p) ∧ Bytes (rt xs p most).1 := by
  have h1 := ri_bd hx p hp most
  unfold rt
  split
  · exact ⟨hp, Nat.le_refl _, Nat.zero_le _, fun _ => ⟨rfl, rfl⟩, fun i hi => by simp at hi⟩
  · split
    · exact ⟨hp, Nat.le_refl _, Nat.zero_le _, fun _ => ⟨rfl, rfl⟩, fun i hi => by simp at hi⟩
    · refine ⟨by simp only; omega, by simp only; omega, by simp; omega, fun h => absurd rfl h, bytes_take (bytes_drop hx _) _⟩
end Go.Proofs.Ytfbbaodhlniiiaa
