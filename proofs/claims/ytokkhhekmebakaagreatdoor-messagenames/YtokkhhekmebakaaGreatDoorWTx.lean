/-
  What the Writer's Text answers. Condition: what is laid down takes at most 2^47 bytes.
-/
import Derived.Test.YtokkhhekmebakaaGreatDoorWInt
import Derived.Test.YtokkhhekmebakaaGreatDoorPSb
namespace Go.Proofs.YtokkhhekmebakaaGreatDoor
open Go.RowKit
set_option linter.unusedVariables false

/-- The three ways of must, of a Writer. -/
theorem wmust_no (g : Nat) (ys : List Int) (fs : List Nat) (w : World) (h : WS w g ys 0 fs) (x : Int) (b : Bool) (hx : (x == 0) = false) (hb : b = false) :
    Calls Tryz.prog 180 #[.pointer (some ⟨g, 0, none⟩), .bool b, .int .i64 x] w fun r w' => r = .returned (.bool false) ∧ w'.cell? ⟨g, 0, none⟩ = some (.int .i64 x) ∧ WGoes w g fs w' ys x := by
  subst hb
  refine (must_ok g x w h.c0 (h.free 0) hx).mono ?_
  rintro r w' ⟨rfl, rfl⟩
  exact ⟨rfl, (h.setE x).c0, WGoes.err h x⟩
theorem wmust_so (g : Nat) (ys : List Int) (fs : List Nat) (w : World) (h : WS w g ys 0 fs) (x : Int) (b : Bool) (hb : b = true) :
    Calls Tryz.prog 180 #[.pointer (some ⟨g, 0, none⟩), .bool b, .int .i64 x] w fun r w' => r = .returned (.bool true) ∧ w' = w := by
  subst hb; exact must_so g 0 x w h.c0
theorem wmust_late (g : Nat) (w : World) (e x : Int) (b : Bool) (he : (e == 0) = false) (h : w.cell? ⟨g, 0, none⟩ = some (.int .i64 e)) :
    Calls Tryz.prog 180 #[.pointer (some ⟨g, 0, none⟩), .bool b, .int .i64 x] w fun r w' => r = .returned (.bool false) ∧ w' = w := by
  cases b with
  | true => have := must_so g e x w h; rw [he] at this; exact this
  | false => exact must_no g e x w h he

set_option maxRecDepth 20000 in
set_option maxHeartbeats 800000 in
theorem wtext_c (g : Nat) (ys : List Int) (e : Int) (s : ByteArray) (most : Int) (fs : List Nat) (w : World) (h : WS w g ys e fs) (hs : s.size ≤ 1125899906842) (hb : ys.length + s.size + 10 ≤ 140737488355328) :
    Calls Tryz.prog 190 #[.pointer (some ⟨g, 0, none⟩), .string s, .int .i64 most] w fun r w' => r = .returned (.tuple #[]) ∧ WGoes w g fs w' (wadd (ferr e (wte s.size most)) ys (enc s.size ++ sb s)) (ferr e (wte s.size most)) := by
  have HW : Hid (WS w g ys e fs) := h
  have HR : Hid (Calls Tryz.prog 182 #[.pointer (some ⟨g, 0, none⟩)] w fun r w' => r = .returned (.bool (e == 0)) ∧ w' = w) := wready_c g e w h.c0
  obtain ⟨S, hS⟩ : ∃ S, S = s.size := ⟨_, rfl⟩
  have hsS : s.size = S := hS.symm
  rw [hsS] at hs hb ⊢
  clear hS
  by_cases he : e = 0
  · subst he
    have HM1 : Hid (∀ (x : Int) (b : Bool), (x == 0) = false → b = false → Calls Tryz.prog 180 #[.pointer (some ⟨g, 0, none⟩), .bool b, .int .i64 x] w fun r w' => r = .returned (.bool false) ∧ w'.cell? ⟨g, 0, none⟩ = some (.int .i64 x) ∧ WGoes w g fs w' ys x) := wmust_no g ys fs w h
    have HM2 : Hid (∀ (x : Int) (b : Bool), b = true → Calls Tryz.prog 180 #[.pointer (some ⟨g, 0, none⟩), .bool b, .int .i64 x] w fun r w' => r = .returned (.bool true) ∧ w' = w) := wmust_so g ys fs w h
    by_cases h0 : most < 0
    · rw [show ferr 0 (wte S most) = 1 from by rw [ferr, if_pos rfl, wte, if_pos h0], wadd_err (by decide)]
      clear h hb
      go_enter Tryz.func190, Tryz.ntmps190
      go_wp2_with fail
      refine Calls.mono HR.out ?_
      rintro r w1 ⟨rfl, rfl⟩
      go_wp2_with fail
      refine (HM1.out 1 _ (by decide) ?_).mono ?_
      · first | rfl | (simp; omega)
      rintro _ w2 ⟨rfl, hc2, h2⟩
      replace hc2 : Hid _ := hc2
      replace h2 : Hid _ := h2
      go_wp2_with fail
      refine (wmust_late g w2 1 31 _ (by decide) hc2.out).mono ?_
      rintro _ w3 ⟨rfl, rfl⟩
      go_wp2
      go_end0
      exact ⟨rfl, h2.out⟩
    · by_cases h2 : (S : Int) ≤ most
      · rw [show ferr 0 (wte S most) = 0 from by rw [ferr, if_pos rfl, wte, if_neg h0, if_neg (by omega)]]
        rw [show wadd 0 ys (enc S ++ sb s) = ys ++ enc S ++ sb s from (List.append_assoc _ _ _).symm]
        have HEL : Hid ((enc S).length ≤ 10) := by
          show _ ≤ _
          rw [enc_length _ (by omega)]
          exact (sz_bd _).2
        have HU : Hid (∀ z : Int, z = (S : Int) → Calls Tryz.prog 183 #[.pointer (some ⟨g, 0, none⟩), .int .u64 z] w fun r w' => r = .returned (.tuple #[]) ∧ WGoes w g fs w' (ys ++ enc S) 0) := fun z hz => by
          have := wuint_c g ys 0 (S : Int) fs w h (by omega) (by omega) (by omega)
          rw [Int.toNat_natCast] at this
          rw [hz]; exact this
        have HL : Hid (∀ w n a cap fs, WS w g (ys ++ enc S) 0 fs → Seg .u8 w (some ⟨a, 0, none⟩) n (sb s) → a ≠ g → Calls Tryz.prog 206 #[.pointer (some ⟨g, 0, none⟩), .slice (some ⟨a, 0, none⟩) n cap] w fun r w' => r = .returned (.tuple #[]) ∧ WGoes w g fs w' (ys ++ enc S ++ sb s) 0) := fun w n a cap fs h hsg hn => lay_c g _ _ 0 fs _ n cap w h hsg (fun b o s e => by cases e; exact hn) (fun h => by cases h) (sb_bytes s) (by
          have := hsg.1
          rw [sb_length, hsS] at this
          have := HEL.out
          rw [List.length_append]; omega)
        obtain ⟨Y1, hY1⟩ : ∃ Y1, Y1 = ys ++ enc S := ⟨_, rfl⟩
        obtain ⟨Y2, hY2⟩ : ∃ Y2, Y2 = ys ++ enc S ++ sb s := ⟨_, rfl⟩
        rw [← hY2] at HL ⊢
        rw [← hY1] at HU HL
        clear h hb hY1 hY2
        go_enter Tryz.func190, Tryz.ntmps190
        go_wp2_with fail
        refine Calls.mono HR.out ?_
        rintro r w1 ⟨rfl, rfl⟩
        go_wp2_with fail
        refine (HM2.out 1 _ ?_).mono ?_
        · first | rfl | (simp; omega)
        rintro _ w2 ⟨rfl, rfl⟩
        go_wp2_with fail
        refine (HM2.out 31 _ ?_).mono ?_
        · first | rfl | (simp; omega)
        rintro _ w3 ⟨rfl, rfl⟩
        go_wp2_with fail
        refine (HU.out _ ?_).mono ?_
        · first | rfl | (rw [IntKind.wrap_u64]; omega)
        rintro _ w4 ⟨rfl, h4⟩
        obtain ⟨W5, C, hcv, hM5, hB5⟩ := str_bytes s w4 (by rw [hsS]; omega)
        rw [hsS] at hcv hM5
        have H4 : Hid (WGoes w3 g fs w4 Y1 0) := h4
        have H5 : Hid (Mine W5 w4.heap.size w4.heap.size S C (sb s) ∧ Below w4.heap.size w4 W5) := ⟨hM5, hB5⟩
        clear hM5 hB5 h4
        go_wp2_with fail
        obtain ⟨f4, hw4, hg4, hl4⟩ := H4.out
        have hgb := grownBy_below H5.out.2 none
        refine (HL.out _ _ _ _ f4 (hw4.new hgb) H5.out.1.seg (fun e => by have := hw4.lt; omega)).mono ?_
        rintro _ w6 ⟨rfl, h6⟩
        have H6 : Hid (WGoes w3 g fs w6 Y2 0) := by
          obtain ⟨f6, a6, b6, c6⟩ := h6.pre hgb
          refine ⟨f6, a6, hg4.trans b6, fun j hj => ?_⟩
          rcases c6 j hj with h | h
          · exact hl4 j h
          · exact .inr (Nat.le_trans hg4.size h)
        clear h6 hw4 hg4 hl4 hgb
        go_wp2
        go_end0
        exact ⟨rfl, H6.out⟩
      · rw [show ferr 0 (wte S most) = 31 from by rw [ferr, if_pos rfl, wte, if_neg h0, if_pos (by omega)], wadd_err (by decide)]
        clear h hb
        go_enter Tryz.func190, Tryz.ntmps190
        go_wp2_with fail
        refine Calls.mono HR.out ?_
        rintro r w1 ⟨rfl, rfl⟩
        go_wp2_with fail
        refine (HM2.out 1 _ ?_).mono ?_
        · first | rfl | (simp; omega)
        rintro _ w2 ⟨rfl, rfl⟩
        go_wp2_with fail
        refine (HM1.out 31 _ (by decide) ?_).mono ?_
        · first | rfl | (simp; omega)
        rintro _ w3 ⟨rfl, _, h3⟩
        replace h3 : Hid _ := h3
        go_wp2
        go_end0
        exact ⟨rfl, h3.out⟩
  · have hbq : (e == 0) = false := by simp [he]
    have HE : Hid (ferr e (wte S most) = e) := by show _ = _; rw [ferr, if_neg he]
    rw [HE.out, wadd_err he]
    rw [hbq] at HR
    clear he HE h hb
    go_enter Tryz.func190, Tryz.ntmps190
    go_wp2_with fail
    refine Calls.mono HR.out ?_
    rintro r w1 ⟨rfl, rfl⟩
    go_wp2
    first | go_end0 | (simp only [Exit.inBlock, Exit.then]; refine bodyPost_ret (results_none rfl _ _ _) rfl ?_) | refine bodyPost_ret (results_none rfl _ _ _) rfl ?_
    exact ⟨rfl, HW.out.stay⟩
end Go.Proofs.YtokkhhekmebakaaGreatDoor
