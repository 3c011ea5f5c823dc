/-
  What the document's Writer's Int, Flag, Text and Bytes answer. Condition: what is laid down takes at most 2^47 bytes.
-/
import Derived.Test.YtdedmmodlbnnfaaXWr
import Derived.Test.YtdedmmodlbnnfaaBrow
namespace Go.Proofs.Ytdedmmodlbnnfaa
open Go.RowKit
set_option linter.unusedVariables false

set_option maxRecDepth 20000 in
theorem xwint_c (B g : Nat) (v : Value) (ys : List Int) (e x most : Int) (F : Option Nat) (w : World) (h : XW B w g v ys e F) (hx : x ≤ 9223372036854775807) (hx0 : -9223372036854775808 ≤ x) (hb : ys.length + 10 ≤ 140737488355328) :
    Calls Try.prog 22 #[.pointer (some ⟨g, 0, none⟩), .int .i64 x, .int .i64 most] w fun r w' => r = .returned (.tuple #[]) ∧ XGoes B w g F w' (wadd (ferr e (wie x most)) ys (enc x.toNat)) (ferr e (wie x most)) := by
  have HW : Hid (XW B w g v ys e F) := h
  obtain ⟨E, hE⟩ : ∃ E, E = wie x most := ⟨_, rfl⟩
  rw [← hE]
  have HU : Hid (∀ (v : Value) (F : Option Nat) (V : Int) (w : World), XW B w g v ys (ferr e E) F → 0 ≤ V → V < 18446744073709551616 → (E = 0 → V = x) → Calls Try.prog 20 #[.pointer (some ⟨g, 0, none⟩), .int .u64 V] w fun r w' => r = .returned (.tuple #[]) ∧ XGoes B w g F w' (wadd (ferr e E) ys (enc x.toNat)) (ferr e E)) := by
    intro v F V w h h0 h1 hV
    refine (xwuint_c B g v ys (ferr e E) V F w h h0 h1 hb).mono (fun _ _ ⟨a, b⟩ => ⟨a, ?_⟩)
    by_cases h2 : ferr e E = 0
    · have : E = 0 := by
        unfold ferr at h2
        split at h2
        · exact h2
        · contradiction
      rw [hV this] at b; exact b
    · rw [wadd_err h2] at b ⊢; exact b
  have HF : Hid (∀ w v F, XW B w g v ys e F → Calls Try.prog 32 #[.pointer (some ⟨g, 0, none⟩), .int .i64 E] w fun r w' => r = .returned (.tuple #[]) ∧ XGoes B w g F w' ys (ferr e E)) := fun w v F h => xwfail_c B g v ys e E F w h
  obtain ⟨E1, hE1⟩ : ∃ E1, E1 = ferr e E := ⟨_, rfl⟩
  obtain ⟨Y1, hY1⟩ : ∃ Y1, Y1 = wadd (ferr e E) ys (enc x.toNat) := ⟨_, rfl⟩
  rw [← hY1, ← hE1] at HU ⊢
  rw [← hE1] at HF
  have HE0 : Hid (E = 0 → E1 = e) := fun h => by rw [hE1, h, ferr_zero]
  clear h hb hE1 hY1
  by_cases h0 : x < 0 ∨ most < 0
  · obtain rfl : E = 1 := by rw [hE, wie, if_pos h0]
    clear hE HE0
    by_cases h1 : x < 0
    · clear h0
      go_enter Try.func22, Try.ntmps22
      go_wp2_with fail
      refine (HF.out w v F HW.out).mono ?_
      rintro r w1 ⟨rfl, v1, F1, hw1⟩
      have H1 : Hid (XStep B w g F w1 v1 ys E1 F1) := hw1
      clear hw1
      go_wp2_with fail
      refine (HU.out v1 F1 _ w1 H1.out.1 ?_ ?_ (fun h => by cases h)).mono ?_
      · exact (wrap_u64_bd x).1
      · exact (wrap_u64_bd x).2
      · rintro r w2 ⟨rfl, h2⟩
        have H2 : Hid (XGoes B w g F w2 Y1 E1) := H1.out.seq h2
        clear h2
        go_wp2
        go_end0
        exact ⟨rfl, H2.out⟩
    · have hx1 : 0 ≤ x := by omega
      have hm1 : most < 0 := by omega
      clear h0 h1
      go_enter Try.func22, Try.ntmps22
      go_wp2_with fail
      refine (HF.out w v F HW.out).mono ?_
      rintro r w1 ⟨rfl, v1, F1, hw1⟩
      have H1 : Hid (XStep B w g F w1 v1 ys E1 F1) := hw1
      clear hw1
      go_wp2_with fail
      refine (HU.out v1 F1 _ w1 H1.out.1 ?_ ?_ (fun h => by cases h)).mono ?_
      · omega
      · omega
      · rintro r w2 ⟨rfl, h2⟩
        have H2 : Hid (XGoes B w g F w2 Y1 E1) := H1.out.seq h2
        clear h2
        go_wp2
        go_end0
        exact ⟨rfl, H2.out⟩
  · have hx1 : 0 ≤ x := by omega
    have hm1 : 0 ≤ most := by omega
    by_cases h2 : most < x
    · obtain rfl : E = 31 := by rw [hE, wie, if_neg h0, if_pos h2]
      clear hE HE0 h0
      go_enter Try.func22, Try.ntmps22
      go_wp2_with fail
      refine (HF.out w v F HW.out).mono ?_
      rintro r w1 ⟨rfl, v1, F1, hw1⟩
      have H1 : Hid (XStep B w g F w1 v1 ys E1 F1) := hw1
      clear hw1
      go_wp2_with fail
      refine (HU.out v1 F1 _ w1 H1.out.1 ?_ ?_ (fun h => by cases h)).mono ?_
      · omega
      · omega
      · rintro r w2 ⟨rfl, h2⟩
        have H2 : Hid (XGoes B w g F w2 Y1 E1) := H1.out.seq h2
        clear h2
        go_wp2
        go_end0
        exact ⟨rfl, H2.out⟩
    · obtain rfl : E = 0 := by rw [hE, wie, if_neg h0, if_neg h2]
      obtain rfl := HE0.out rfl
      have hd : decide (most < x) = false := by simp; omega
      clear hE HE0 h0
      go_enter Try.func22, Try.ntmps22
      go_wp2_with fail
      refine (HU.out v F _ w HW.out ?_ ?_ (fun _ => ?_)).mono ?_
      · omega
      · omega
      · omega
      · rintro r w2 ⟨rfl, h2⟩
        have H2 : Hid (XGoes B w g F w2 Y1 E1) := h2
        clear h2
        go_wp2
        go_end0
        exact ⟨rfl, H2.out⟩

set_option maxRecDepth 20000 in
theorem xwflag_c (B g : Nat) (v : Value) (ys : List Int) (e : Int) (f : Bool) (F : Option Nat) (w : World) (h : XW B w g v ys e F) (hb : ys.length + 10 ≤ 140737488355328) :
    Calls Try.prog 26 #[.pointer (some ⟨g, 0, none⟩), .bool f] w fun r w' => r = .returned (.tuple #[]) ∧ XGoes B w g F w' (wadd e ys [fb f]) e := by
  have HW : Hid (XW B w g v ys e F) := h
  have HB : Hid (ys.length + 1 ≤ 140737488355328) := by show _ ≤ _; omega
  clear h hb
  cases f with
  | true =>
    go_enter Try.func26, Try.ntmps26
    go_wp2_with fail
    refine (xlay_c B g v ys e F _ 1 1 [1] _ (HW.out.new (World.grownBy_alloc _ _ _)) ?_ ?_ (fun h => by cases h) HB.out).mono ?_
    · exact seg_new _ _ _ _ _ _ rfl rfl
    · intro i hi; simp at hi; subst hi; decide
    · rintro r w2 ⟨rfl, h2⟩
      have H2 : Hid (XGoes B w g F w2 (wadd e ys [1]) e) := XGoes.pre (World.grownBy_alloc _ _ _) h2
      clear h2
      go_wp2
      go_end0
      exact ⟨rfl, H2.out⟩
  | false =>
    go_enter Try.func26, Try.ntmps26
    go_wp2_with fail
    refine (xlay_c B g v ys e F _ 1 1 [0] _ (HW.out.new (World.grownBy_alloc _ _ _)) ?_ ?_ (fun h => by cases h) HB.out).mono ?_
    · exact seg_new _ _ _ _ _ _ rfl rfl
    · intro i hi; simp at hi; subst hi; decide
    · rintro r w2 ⟨rfl, h2⟩
      have H2 : Hid (XGoes B w g F w2 (wadd e ys [0]) e) := XGoes.pre (World.grownBy_alloc _ _ _) h2
      clear h2
      go_wp2
      go_end0
      exact ⟨rfl, H2.out⟩
end Go.Proofs.Ytdedmmodlbnnfaa
