/-
  What the Writer's Int answers. Condition: what is laid down takes at most 2^47 bytes.
-/
import Derived.Test.YtekefbbjocekiaaWUi
namespace Go.Proofs.Ytekefbbjocekiaa
open Go.RowKit
set_option linter.unusedVariables false

set_option maxRecDepth 20000 in
set_option maxHeartbeats 800000 in
theorem wint_c (g : Nat) (ys : List Int) (e x most : Int) (fs : List Nat) (w : World) (h : WS w g ys e fs) (hx : x ≤ 9223372036854775807) (hb : ys.length + 10 ≤ 140737488355328) :
    Calls Try.prog 44 #[.pointer (some ⟨g, 0, none⟩), .int .i64 x, .int .i64 most] w fun r w' => r = .returned (.tuple #[]) ∧ WGoes w g fs w' (wadd (ferr e (wie x most)) ys (enc x.toNat)) (ferr e (wie x most)) := by
  have HW : Hid (WS w g ys e fs) := h
  have HR : Hid (Calls Try.prog 49 #[.pointer (some ⟨g, 0, none⟩)] w fun r w' => r = .returned (.bool (e == 0)) ∧ w' = w) := wready_c g e w h.c0
  by_cases he : e = 0
  · subst he
    have c0 := h.c0
    have f0 := h.free 0
    have HM1 : Hid (∀ (x : Int) (b : Bool), (x == 0) = false → b = false → Calls Try.prog 50 #[.pointer (some ⟨g, 0, none⟩), .bool b, .int .i64 x] w fun r w' => r = .returned (.bool false) ∧ w'.cell? ⟨g, 0, none⟩ = some (.int .i64 x) ∧ WGoes w g fs w' ys x) := fun x b hx hb => by
      subst hb
      refine (must_ok g x w c0 f0 hx).mono ?_
      rintro r w' ⟨rfl, rfl⟩
      exact ⟨rfl, (h.setE x).c0, WGoes.err h x⟩
    have HM2 : Hid (∀ (x : Int) (b : Bool), b = true → Calls Try.prog 50 #[.pointer (some ⟨g, 0, none⟩), .bool b, .int .i64 x] w fun r w' => r = .returned (.bool true) ∧ w' = w) := fun x b hb => by subst hb; exact must_so g 0 x w c0
    have HM3 : Hid (∀ (w : World) (b : Bool), w.cell? ⟨g, 0, none⟩ = some (.int .i64 1) → Calls Try.prog 50 #[.pointer (some ⟨g, 0, none⟩), .bool b, .int .i64 31] w fun r w' => r = .returned (.bool false) ∧ w' = w) := fun w b h => by
      cases b with
      | true => exact must_so g 1 31 w h
      | false => exact must_no g 1 31 w h (by decide)
    clear c0 f0
    by_cases h0 : x < 0 ∨ most < 0
    · rw [show ferr 0 (wie x most) = 1 from by rw [ferr, if_pos rfl, wie, if_pos h0], wadd_err (by decide)]
      clear h hb
      by_cases h1 : x < 0
      · have hn : ¬ (0 ≤ x) := by omega
        clear h0 h1
        go_enter Try.func44, Try.ntmps44
        go_wp2_with fail
        refine Calls.mono HR.out ?_
        rintro r w1 ⟨rfl, rfl⟩
        go_wp2_with fail
        refine (HM1.out 1 _ (by decide) ?_).mono ?_
        · first | rfl | (simp; omega)
        rintro _ w2 ⟨rfl, hc2, h2⟩
        replace hc2 : Hid _ := hc2
        replace h2 : Hid _ := h2
        go_wp2_with fail
        refine (HM3.out w2 _ hc2.out).mono ?_
        rintro _ w3 ⟨rfl, rfl⟩
        go_wp2
        go_end0
        exact ⟨rfl, h2.out⟩
      · have hp : 0 ≤ x := by omega
        have hn : ¬ (0 ≤ most) := by omega
        clear h0 h1
        go_enter Try.func44, Try.ntmps44
        go_wp2_with fail
        refine Calls.mono HR.out ?_
        rintro r w1 ⟨rfl, rfl⟩
        go_wp2_with fail
        refine (HM1.out 1 _ (by decide) ?_).mono ?_
        · first | rfl | (simp; omega)
        rintro _ w2 ⟨rfl, hc2, h2⟩
        replace hc2 : Hid _ := hc2
        replace h2 : Hid _ := h2
        go_wp2_with fail
        refine (HM3.out w2 _ hc2.out).mono ?_
        rintro _ w3 ⟨rfl, rfl⟩
        go_wp2
        go_end0
        exact ⟨rfl, h2.out⟩
    · have hp : 0 ≤ x := by omega
      have hq : 0 ≤ most := by omega
      by_cases h2 : x ≤ most
      · rw [show ferr 0 (wie x most) = 0 from by rw [ferr, if_pos rfl, wie, if_neg h0, if_neg (by omega)]]
        have HU : Hid (∀ z, z = x → Calls Try.prog 51 #[.pointer (some ⟨g, 0, none⟩), .int .u64 z] w fun r w' => r = .returned (.tuple #[]) ∧ WGoes w g fs w' (wadd 0 ys (enc x.toNat)) 0) := fun z hz => by rw [hz]; exact wuint_c g ys 0 x fs w h hp (by omega) hb
        obtain ⟨Y, hY⟩ : ∃ Y, Y = wadd 0 ys (enc x.toNat) := ⟨_, rfl⟩
        rw [← hY] at HU ⊢
        clear h hb h0 hY
        go_enter Try.func44, Try.ntmps44
        go_wp2_with fail
        refine Calls.mono HR.out ?_
        rintro r w1 ⟨rfl, rfl⟩
        go_wp2_with fail
        refine (HM2.out 1 _ ?_).mono ?_
        · first | rfl | (simp; omega)
        rintro _ w2 ⟨rfl, rfl⟩
        go_wp2_with fail
        refine (HM2.out 31 _ ?_).mono ?_
        · first | rfl | (simp; omega)
        rintro _ w3 ⟨rfl, rfl⟩
        go_wp2_with fail
        refine (HU.out _ ?_).mono ?_
        · first | rfl | (rw [IntKind.wrap_u64]; omega)
        rintro _ w4 ⟨rfl, h4⟩
        replace h4 : Hid _ := h4
        go_wp2
        go_end0
        exact ⟨rfl, h4.out⟩
      · rw [show ferr 0 (wie x most) = 31 from by rw [ferr, if_pos rfl, wie, if_neg h0, if_pos (by omega)], wadd_err (by decide)]
        clear h hb h0
        go_enter Try.func44, Try.ntmps44
        go_wp2_with fail
        refine Calls.mono HR.out ?_
        rintro r w1 ⟨rfl, rfl⟩
        go_wp2_with fail
        refine (HM2.out 1 _ ?_).mono ?_
        · first | rfl | (simp; omega)
        rintro _ w2 ⟨rfl, rfl⟩
        go_wp2_with fail
        refine (HM1.out 31 _ (by decide) ?_).mono ?_
        · first | rfl | (simp; omega)
        rintro _ w3 ⟨rfl, _, h3⟩
        replace h3 : Hid _ := h3
        go_wp2
        go_end0
        exact ⟨rfl, h3.out⟩
  · have hbq : (e == 0) = false := by simp [he]
    have HE : Hid (ferr e (wie x most) = e) := by show _ = _; rw [ferr, if_neg he]
    rw [HE.out, wadd_err he]
    rw [hbq] at HR
    clear he HE h hb
    go_enter Try.func44, Try.ntmps44
    go_wp2_with fail
    refine Calls.mono HR.out ?_
    rintro r w1 ⟨rfl, rfl⟩
    go_wp2
    first | go_end0 | (simp only [Exit.inBlock, Exit.then]; refine bodyPost_ret (results_none rfl _ _ _) rfl ?_) | refine bodyPost_ret (results_none rfl _ _ _) rfl ?_
    exact ⟨rfl, HW.out.stay⟩
end Go.Proofs.Ytekefbbjocekiaa
