/-
  What a pack Reader's take and Text answer: what the plain functions give. Condition: the Reader's bytes can be read, and their length is one that a machine has.
-/
import Derived.Test.YtokkhhekmebakaaGreatDoorPInt
import Derived.Test.YtokkhhekmebakaaGreatDoorStr
namespace Go.Proofs.YtokkhhekmebakaaGreatDoor
open Go.RowKit
set_option linter.unusedVariables false

theorem left_r (g : Nat) (a : Option Addr) (len cap : Nat) (xs : List Int) (e : Int) (p : Nat) (w : World) (h : RS w g a len cap xs e p) :
    Calls Tryz.prog 112 #[.pointer (some ⟨g, 0, none⟩)] w fun r w' => r = .returned (.int .i64 ((len - p : Nat) : Int)) ∧ RS w' g a len cap xs e p ∧ w.grownBy w' (some g) :=
  (left_c g e a len cap p w h.rdr h.le h.lm).mono (fun _ _ ⟨h1, n, h2⟩ => ⟨h1, by rw [h2]; exact ⟨h.drewN n, gb_drewN (World.grownBy.refl _ _) n⟩⟩)
theorem must_r (g : Nat) (a : Option Addr) (len cap : Nat) (xs : List Int) (e : Int) (p : Nat) (x : Int) (w : World) (h : RS w g a len cap xs e p) :
    Calls Tryz.prog 180 #[.pointer (some ⟨g, 0, none⟩), .bool true, .int .i64 x] w fun r w' => r = .returned (.bool (e == 0)) ∧ RS w' g a len cap xs e p ∧ w.grownBy w' (some g) :=
  (must_so g e x w h.rdr.c0).mono (fun _ _ ⟨h1, h2⟩ => ⟨h1, by rw [h2]; exact ⟨h, World.grownBy.refl _ _⟩⟩)
theorem must_n (g : Nat) (a : Option Addr) (len cap : Nat) (xs : List Int) (e : Int) (p : Nat) (x : Int) (w : World) (h : RS w g a len cap xs e p) (he : (e == 0) = false) (b : Bool) :
    Calls Tryz.prog 180 #[.pointer (some ⟨g, 0, none⟩), .bool b, .int .i64 x] w fun r w' => r = .returned (.bool false) ∧ RS w' g a len cap xs e p ∧ w.grownBy w' (some g) := by
  cases b with
  | false => exact (must_no g e x w h.rdr.c0 he).mono (fun _ _ ⟨h1, h2⟩ => ⟨h1, by rw [h2]; exact ⟨h, World.grownBy.refl _ _⟩⟩)
  | true => exact (must_so g e x w h.rdr.c0).mono (fun _ _ ⟨h1, h2⟩ => ⟨by rw [h1, he], by rw [h2]; exact ⟨h, World.grownBy.refl _ _⟩⟩)

set_option maxRecDepth 20000 in
theorem take_no (g : Nat) (a : Option Addr) (len cap : Nat) (xs : List Int) (e : Int) (p : Nat) (n : Int) (w : World) (h : RS w g a len cap xs e p) (he : (e == 0) = false) :
    Calls Tryz.prog 214 #[.pointer (some ⟨g, 0, none⟩), .int .i64 n] w fun r w' => r = .returned (.slice none 0 0) ∧ RS w' g a len cap xs e p ∧ w.grownBy w' (some g) := by
  have HR : Hid (RS w.drew g a len cap xs e p) := h.drewN 1
  have HG : Hid (w.grownBy w.drew (some g)) := gb_drewN (World.grownBy.refl _ _) 1
  obtain ⟨L, hL⟩ : ∃ L, L = len - p := ⟨_, rfl⟩
  have HL : Hid (∀ w, RS w g a len cap xs e p → Calls Tryz.prog 112 #[.pointer (some ⟨g, 0, none⟩)] w fun r w' => r = .returned (.int .i64 (L : Int)) ∧ RS w' g a len cap xs e p ∧ w.grownBy w' (some g)) := by rw [hL]; exact fun w h => left_r g a len cap xs e p w h
  have HE : Hid ((e == 0) = false) := he
  clear h hL he
  go_enter Tryz.func214, Tryz.ntmps214
  go_wp2
  go_region_held3 (fun _ => True) (trivial) (first
    | (go_at_call 112; refine (HL.out _ HR.out).mono ?_; rintro r w1 ⟨rfl, h1, h2⟩; have H1 : Hid (RS w1 g a len cap xs e p ∧ w.grownBy w1 (some g)) := ⟨h1, gb_trans HG.out h2⟩; clear h1 h2)
    | (go_at_call 180; refine (must_n g a len cap xs e p _ _ H1.out.1 HE.out _).mono ?_; rintro r w2 ⟨rfl, h1, h2⟩; have H2 : Hid (RS w2 g a len cap xs e p ∧ w.grownBy w2 (some g)) := ⟨h1, gb_trans H1.out.2 h2⟩; clear h1 h2))
  go_wp2
  go_ret
  exact ⟨rfl, H2.out.1, H2.out.2⟩

set_option maxRecDepth 20000 in
theorem take_short (g : Nat) (a : Option Addr) (len cap : Nat) (xs : List Int) (p : Nat) (n : Int) (w : World) (h : RS w g a len cap xs 0 p) (hn : ((len - p : Nat) : Int) < n) :
    Calls Tryz.prog 214 #[.pointer (some ⟨g, 0, none⟩), .int .i64 n] w fun r w' => r = .returned (.slice none 0 0) ∧ RS w' g a len cap xs 30 p ∧ w.grownBy w' (some g) := by
  have HR : Hid (RS w.drew g a len cap xs 0 p) := h.drewN 1
  have HG : Hid (w.grownBy w.drew (some g)) := gb_drewN (World.grownBy.refl _ _) 1
  obtain ⟨L, hL⟩ : ∃ L, L = len - p := ⟨_, rfl⟩
  have HL : Hid (∀ w, RS w g a len cap xs 0 p → Calls Tryz.prog 112 #[.pointer (some ⟨g, 0, none⟩)] w fun r w' => r = .returned (.int .i64 (L : Int)) ∧ RS w' g a len cap xs 0 p ∧ w.grownBy w' (some g)) := by rw [hL]; exact fun w h => left_r g a len cap xs 0 p w h
  rw [← hL] at hn
  have hd : decide (n ≤ (L : Int)) = false := by simp; omega
  clear h hL hn
  go_enter Tryz.func214, Tryz.ntmps214
  go_wp2
  go_region_held3 (fun _ => True) (trivial) (first
    | (go_at_call 112; refine (HL.out _ HR.out).mono ?_; rintro r w1 ⟨rfl, h1, h2⟩; have H1 : Hid (RS w1 g a len cap xs 0 p ∧ w.grownBy w1 (some g)) := ⟨h1, gb_trans HG.out h2⟩; clear h1 h2)
    | (go_at_call 180; refine (rmust_ok g a len cap xs p 30 _ rfl H1.out.1).mono ?_; rintro r w2 ⟨rfl, h1, h2⟩; have H2 : Hid (RS w2 g a len cap xs 30 p ∧ w.grownBy w2 (some g)) := ⟨h1, gb_trans H1.out.2 h2⟩; clear h1 h2))
  go_wp2
  go_ret
  exact ⟨rfl, H2.out.1, H2.out.2⟩

set_option maxRecDepth 20000 in
theorem take_ok (g : Nat) (a : Option Addr) (len cap : Nat) (xs : List Int) (p n : Nat) (w : World) (h : RS w g a len cap xs 0 p) (hn : n ≤ len - p) :
    Calls Tryz.prog 214 #[.pointer (some ⟨g, 0, none⟩), .int .i64 (n : Int)] w fun r w' => ∃ a1 c1, r = .returned (.slice a1 n c1) ∧ Seg .u8 w' a1 n ((xs.drop p).take n) ∧ (∀ b o s, a1 = some ⟨b, o, s⟩ → ∃ ad, a = some ad ∧ ad.block = b) ∧ RS w' g a len cap xs 0 (p + n) ∧ w.grownBy w' (some g) := by
  have HR : Hid (RS w.drew g a len cap xs 0 p) := h.drewN 1
  have HG : Hid (w.grownBy w.drew (some g)) := gb_drewN (World.grownBy.refl _ _) 1
  obtain ⟨L, hL⟩ : ∃ L, L = len - p := ⟨_, rfl⟩
  have HL : Hid (∀ w, RS w g a len cap xs 0 p → Calls Tryz.prog 112 #[.pointer (some ⟨g, 0, none⟩)] w fun r w' => r = .returned (.int .i64 (L : Int)) ∧ RS w' g a len cap xs 0 p ∧ w.grownBy w' (some g)) := by rw [hL]; exact fun w h => left_r g a len cap xs 0 p w h
  rw [← hL] at hn
  have hd : decide (n ≤ L) = true := by simp; omega
  have hle := h.le
  have hlc := h.lc
  have hlm := h.lm
  have hcm := h.cm
  have HP : Hid (p + n ≤ len) := by show _ ≤ _; omega
  have hpn := HP.out
  clear h hL hn
  cases a with
  | none =>
    go_enter Tryz.func214, Tryz.ntmps214
    go_wp2
    go_region_held3 (fun _ => True) (trivial) (first
      | (go_at_call 112; refine (HL.out _ HR.out).mono ?_; rintro r w1 ⟨rfl, h1, h2⟩; have H1 : Hid (RS w1 g none len cap xs 0 p ∧ w.grownBy w1 (some g)) := ⟨h1, gb_trans HG.out h2⟩; clear h1 h2)
      | (go_at_call 180; refine (must_r g none len cap xs 0 p 30 _ H1.out.1).mono ?_; rintro r w2 ⟨rfl, h1, h2⟩; have H2 : Hid (RS w2 g none len cap xs 0 p ∧ w.grownBy w2 (some g)) := ⟨h1, gb_trans H1.out.2 h2⟩; clear h1 h2))
    have c2 := H2.out.1.rdr.c2
    have c3 := H2.out.1.rdr.c3
    go_wp2
    go_quiet (fail)
    obtain ⟨w3, hw3⟩ : ∃ w3, w3 = w2.drewN nq := ⟨_, rfl⟩
    rw [← hw3]
    have H3 : Hid (RS w3 g none len cap xs 0 p ∧ w.grownBy w3 (some g)) := by rw [hw3]; exact ⟨H2.out.1.drewN _, gb_drewN H2.out.2 _⟩
    clear c2 c3 hw3
    have c3 := H3.out.1.rdr.c3
    have f3 := H3.out.1.rdr.free 3
    go_wp2
    go_ret
    have e1 : p + n - p = n := by omega
    have e2 : (p : Int) + (n : Int) = ((p + n : Nat) : Int) := by omega
    obtain ⟨m1, m2⟩ := H3.out.1.moves (p + n) hpn
    rw [← e2] at m1 m2
    simp only [e1]
    refine ⟨_, _, rfl, ?_, ?_, m1, gb_trans H3.out.2 m2⟩
    · have := m1.seg
      refine ⟨by simp [this.1]; omega, .inl ?_⟩
      rcases this.2 with h0 | ⟨_, _, h, _⟩
      · omega
      · cases h
    · intro b o s h; cases h
  | some ad =>
    obtain ⟨a1, ha1⟩ : ∃ a1, (if cap = p then some ad else some (ad.add p)) = a1 := ⟨_, rfl⟩
    have HA : Hid ((if cap = p then some ad else some (ad.add p)) = a1) := ha1
    go_enter Tryz.func214, Tryz.ntmps214
    go_wp2
    go_region_held3 (fun _ => True) (trivial) (first
      | (go_at_call 112; refine (HL.out _ HR.out).mono ?_; rintro r w1 ⟨rfl, h1, h2⟩; have H1 : Hid (RS w1 g (some ad) len cap xs 0 p ∧ w.grownBy w1 (some g)) := ⟨h1, gb_trans HG.out h2⟩; clear h1 h2)
      | (go_at_call 180; refine (must_r g (some ad) len cap xs 0 p 30 _ H1.out.1).mono ?_; rintro r w2 ⟨rfl, h1, h2⟩; have H2 : Hid (RS w2 g (some ad) len cap xs 0 p ∧ w.grownBy w2 (some g)) := ⟨h1, gb_trans H1.out.2 h2⟩; clear h1 h2))
    have c2 := H2.out.1.rdr.c2
    have c3 := H2.out.1.rdr.c3
    go_wp2
    go_quiet (fail)
    obtain ⟨w3, hw3⟩ : ∃ w3, w3 = w2.drewN nq := ⟨_, rfl⟩
    rw [← hw3]
    have H3 : Hid (RS w3 g (some ad) len cap xs 0 p ∧ w.grownBy w3 (some g)) := by rw [hw3]; exact ⟨H2.out.1.drewN _, gb_drewN H2.out.2 _⟩
    clear c2 c3 hw3
    have c3 := H3.out.1.rdr.c3
    have f3 := H3.out.1.rdr.free 3
    go_wp2
    go_ret
    have e1 : p + n - p = n := by omega
    have e2 : (p : Int) + (n : Int) = ((p + n : Nat) : Int) := by omega
    obtain ⟨m1, m2⟩ := H3.out.1.moves (p + n) hpn
    rw [← e2] at m1 m2
    simp only [e1]
    refine ⟨_, _, rfl, ?_, ?_, m1, gb_trans H3.out.2 m2⟩
    · have hs := m1.seg
      have hln : ((xs.drop p).take n).length = n := by simp [hs.1]; omega
      by_cases hc : cap = p
      · exact ⟨hln, .inl (by omega)⟩
      · have ha := HA.out
        rw [if_neg hc] at ha
        have h2 := seg_from hs p
        refine ⟨hln, ?_⟩
        rcases h2.2 with h0 | ⟨b, off, hb, hw, hcell⟩
        · exact .inl (by omega)
        · refine .inr ⟨b, off, by rw [← ha]; exact hb, hw, fun i hi => ?_⟩
          rw [hcell i (by omega), List.getElem?_take_of_lt hi]
    · intro b o s h
      have ha := HA.out
      rw [h] at ha
      by_cases hc : cap = p
      · rw [if_pos hc] at ha; exact ⟨_, rfl, by rw [Option.some.inj ha]⟩
      · rw [if_neg hc] at ha
        have hx := Option.some.inj ha
        refine ⟨_, rfl, ?_⟩
        have : (ad.add p).block = ad.block := by unfold Addr.add; split <;> rfl
        rw [← this, hx]
end Go.Proofs.YtokkhhekmebakaaGreatDoor
