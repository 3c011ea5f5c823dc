/-
  What a pack Reader's Uint answers: what the plain function rUint gives. Condition: the Reader's bytes can be read, and their length is one that a machine has.
-/
import Derived.Test.YtokkhhekmebakaaGreatDoorPRs
import Derived.Test.YtokkhhekmebakaaGreatDoorDec
import Derived.Deep.RegionHeld3
namespace Go.Proofs.YtokkhhekmebakaaGreatDoor
open Go.RowKit
set_option linter.unusedVariables false

/-- What Uint takes up of these bytes, from place p on: the number, how many bytes, the error. -/
def ru (xs : List Int) (p : Nat) : Int × Nat × Int := ((rd (xs.drop p)).1, (rd (xs.drop p)).2.1.toNat, nm (rd (xs.drop p)).2.2)
theorem ru_le {xs : List Int} (hx : Bytes xs) (p : Nat) (hp : p ≤ xs.length) : p + (ru xs p).2.1 ≤ xs.length := by
  have := (rd_bd _ (bytes_drop hx p)).2.1
  simp only [List.length_drop] at this
  simp only [ru]; omega

set_option maxRecDepth 20000 in
theorem uint_ok (g : Nat) (a : Option Addr) (len cap : Nat) (xs : List Int) (p : Nat) (w : World) (h : RS w g a len cap xs 0 p) :
    Calls Tryz.prog 181 #[.pointer (some ⟨g, 0, none⟩)] w fun r w' => r = .returned (.int .u64 (ru xs p).1) ∧ RS w' g a len cap xs (ru xs p).2.2 (p + (ru xs p).2.1) ∧ w.grownBy w' (some g) := by
  have HR : Hid (RS w g a len cap xs 0 p) := h
  have h2 := h.rdr.c2
  have h3 := h.rdr.c3
  have hle := h.le
  have hlc := h.lc
  have hcm := h.cm
  obtain ⟨V, m, E, hrd⟩ : ∃ V m E, rd (xs.drop p) = (V, m, E) := ⟨_, _, _, rfl⟩
  have HRD : Hid (rd (xs.drop p) = (V, m, E)) := hrd
  have HD : Hid (∀ (a' : Option Addr) (n : Nat), Seg .u8 w a' (len - p) (xs.drop p) → Calls Tryz.prog 204 #[.slice a' (len - p) (cap - p)] (w.drewN n) fun e w' => e = .returned (.tuple #[.int .u64 V, .int .i64 m, .int .i64 E]) ∧ w' = w.drewN n) := by
    intro a' n hs
    have := decode_c a' (len - p) (cap - p) (xs.drop p) (w.drewN n) (hs.below (below_drewN (Below.refl _ _) n)) (bytes_drop h.bytes p) (by omega) (by omega)
    rw [hrd] at this; exact this
  have HV : Hid (m = ((m.toNat : Nat) : Int) ∧ p + m.toNat ≤ len) := by
    have := (rd_bd _ (bytes_drop h.bytes p)).2.1
    rw [hrd, List.length_drop, h.seg.1] at this; simp only at this
    exact ⟨by omega, by omega⟩
  clear hrd
  cases a with
  | none =>
    have HS : Hid (Seg .u8 w none (len - p) (xs.drop p)) := seg_from h.seg p
    clear h
    go_enter Tryz.func181, Tryz.ntmps181
    go_wp2_with fail
    refine (ready_c g 0 _ _ w HR.out.rdr).mono ?_
    rintro r w1 ⟨rfl, rfl⟩
    go_wp2_with fail
    go_quiet ((go_at_call 204; go_must (refine Calls.quiet_of_same (HD.out _ _ HS.out))))
    go_wp2
    obtain ⟨w2, hw2⟩ : ∃ w2, w2 = w1.drewN nq := ⟨_, rfl⟩
    rw [← hw2]
    have HR2 : Hid (RS w2.drew g none len cap xs 0 p) := by rw [hw2]; exact (HR.out.drewN nq).drewN 1
    have HG2 : Hid (w1.grownBy w2.drew (some g)) := by rw [hw2]; exact gb_drewN (gb_drewN (World.grownBy.refl _ _) nq) 1
    clear hw2 h2 h3 HS HR HD
    go_region_held3 (fun _ => True) (trivial) (first
      | (go_at_call 205; refine (named_c _ _).mono ?_; rintro e w3 ⟨rfl, rfl⟩)
      | (go_at_call 203; refine (rfail_ok g _ _ _ _ _ _ _ HR2.out).mono ?_; rintro e w4 ⟨rfl, hr4, hg4⟩; have HR4 : Hid (RS w4 g none len cap xs (nm E) p) := hr4; have HG4 : Hid (w1.grownBy w4 (some g)) := gb_trans HG2.out hg4; clear hr4 hg4))
    have c3 := HR4.out.rdr.c3
    have f3 := HR4.out.rdr.free 3
    go_wp2
    go_ret
    obtain ⟨hm, hpm⟩ := HV.out
    have hw : wrap64 ((p : Int) + m) = ((p + m.toNat : Nat) : Int) := by rw [IntWalk.wrap64_in _ ⟨by omega, by omega⟩]; omega
    have he : ru xs p = (V, m.toNat, nm E) := by simp [ru, HRD.out]
    rw [he, hw]
    obtain ⟨m1, m2⟩ := HR4.out.moves (p + m.toNat) hpm
    exact ⟨rfl, m1, gb_trans HG4.out m2⟩
  | some ad =>
    have HS : Hid (Seg .u8 w (if cap = p then some ad else some (ad.add p)) (len - p) (xs.drop p)) := by
      by_cases hc : cap = p
      · rw [if_pos hc]; exact ⟨by simp [h.seg.1], .inl (by omega)⟩
      · rw [if_neg hc]; exact seg_from h.seg p
    obtain ⟨a1, ha1⟩ : ∃ a1, (if cap = p then some ad else some (ad.add p)) = a1 := ⟨_, rfl⟩
    rw [ha1] at HS
    clear h
    go_enter Tryz.func181, Tryz.ntmps181
    go_wp2_with fail
    refine (ready_c g 0 _ _ w HR.out.rdr).mono ?_
    rintro r w1 ⟨rfl, rfl⟩
    go_wp2_with fail
    go_quiet ((go_at_call 204; go_must (refine Calls.quiet_of_same (HD.out _ _ HS.out))))
    go_wp2
    obtain ⟨w2, hw2⟩ : ∃ w2, w2 = w1.drewN nq := ⟨_, rfl⟩
    rw [← hw2]
    have HR2 : Hid (RS w2.drew g (some ad) len cap xs 0 p) := by rw [hw2]; exact (HR.out.drewN nq).drewN 1
    have HG2 : Hid (w1.grownBy w2.drew (some g)) := by rw [hw2]; exact gb_drewN (gb_drewN (World.grownBy.refl _ _) nq) 1
    clear hw2 h2 h3 HS HR HD ha1
    go_region_held3 (fun _ => True) (trivial) (first
      | (go_at_call 205; refine (named_c _ _).mono ?_; rintro e w3 ⟨rfl, rfl⟩)
      | (go_at_call 203; refine (rfail_ok g _ _ _ _ _ _ _ HR2.out).mono ?_; rintro e w4 ⟨rfl, hr4, hg4⟩; have HR4 : Hid (RS w4 g (some ad) len cap xs (nm E) p) := hr4; have HG4 : Hid (w1.grownBy w4 (some g)) := gb_trans HG2.out hg4; clear hr4 hg4))
    have c3 := HR4.out.rdr.c3
    have f3 := HR4.out.rdr.free 3
    go_wp2
    go_ret
    obtain ⟨hm, hpm⟩ := HV.out
    have hw : wrap64 ((p : Int) + m) = ((p + m.toNat : Nat) : Int) := by rw [IntWalk.wrap64_in _ ⟨by omega, by omega⟩]; omega
    have he : ru xs p = (V, m.toNat, nm E) := by simp [ru, HRD.out]
    rw [he, hw]
    obtain ⟨m1, m2⟩ := HR4.out.moves (p + m.toNat) hpm
    exact ⟨rfl, m1, gb_trans HG4.out m2⟩
end Go.Proofs.YtokkhhekmebakaaGreatDoor
