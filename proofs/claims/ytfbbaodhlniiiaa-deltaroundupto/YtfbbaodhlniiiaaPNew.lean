/-
  What bytes.Clone and pack.NewReader answer of whatever bytes: a copy in new memory, a Reader over one. Condition: the slice can be read, and its length is one that a machine has.
-/
import Derived.Test.YtfbbaodhlniiiaaFa
import Derived.Test.YtfbbaodhlniiiaaApp
namespace Go.Proofs.Ytfbbaodhlniiiaa
open Go.RowKit
set_option linter.unusedVariables false

theorem mine_none (w : World) : Mine (w.alloc (.cells #[] 5)) w.heap.size w.heap.size 0 0 [] :=
  ⟨rfl, Nat.le_refl _, Nat.zero_le _, Nat.le_refl _, by simp, fun i hi => by omega, fun i hi => by omega, fun i hi => by omega⟩

set_option maxRecDepth 20000 in
theorem clone_c (a : Option Addr) (len cap : Nat) (xs : List Int) (w : World) (h : Seg .u8 w a len xs) (hl : len ≤ 140737488355328) (hnz : a = none → cap = 0) :
    Calls Try.prog 68 #[.slice a len cap] w fun r w' => ∃ a' cap', r = .returned (.slice a' len cap') ∧ Seg .u8 w' a' len xs ∧ len ≤ cap' ∧ cap' ≤ 9223372036854775807 ∧ (a' = none → cap' = 0) ∧
      (∀ b o s, a' = some ⟨b, o, s⟩ → w.heap.size ≤ b ∧ b < w'.heap.size) ∧ w.grownBy w' none := by
  obtain ⟨i0, hi, hz0, hz1, hz2⟩ := info_parts Try.infoU8
  cases a with
  | none =>
    have hm0 : len = 0 := by
      rcases h.2 with h0 | ⟨_, _, h, _⟩
      · exact h0
      · cases h
    subst hm0
    obtain rfl := hnz rfl
    have HS : Hid (Seg .u8 w none 0 xs) := h
    have hq := fun w => Lib.run_eql_slice_nil (P := Try.prog) w 28 5 none 0 0 0 0 Try.underlying28
    simp only [Option.isNone] at hq
    clear h hi hz0 hz1 hz2 i0
    go_enter Try.func68, Try.ntmps68
    go_wp2
    go_ret
    exact ⟨none, 0, rfl, HS.out, by omega, fun _ => rfl, (fun _ _ _ h => by cases h), World.grownBy.refl _ _⟩
  | some ad =>
    have HS : Hid (Seg .u8 w (some ad) len xs) := h
    have hq := fun w => Lib.run_eql_slice_nil (P := Try.prog) w 28 5 (some ad) len cap 0 0 Try.underlying28
    simp only [Option.isNone] at hq
    clear h
    go_enter Try.func68, Try.ntmps68
    go_wp2_with (at_builtin; go_must (refine wpList_append_mine _ rfl (.tmp 5) (.tmp 6) 28 rfl 5 i0 Try.underlying28 hi hz0 hz1 hz2 w.heap.size w.heap.size 0 0 [] rfl (mine_none w) (some ad) len cap xs rfl (fun h => by cases h) (HS.out.below ((Below.refl _ _).alloc (Nat.le_refl _) _)) (by omega) ?_); intro b' cap' w1 hm hb)
    rw [Nat.zero_add, List.nil_append] at hm
    have HM : Hid (Mine w1 w.heap.size b' len cap' xs) := hm
    have HB : Hid (Below w.heap.size _ w1) := hb
    clear hm hb
    go_ret
    have hm := HM.out
    exact ⟨_, cap', rfl, hm.seg, hm.le, by have := hm.max; unfold maxLen at this; omega, (fun h => by cases h), (fun b o s h => by cases h; exact ⟨hm.lo, hm.lt⟩), grownBy_below (((Below.refl _ _).alloc (Nat.le_refl _) _).trans HB.out) _⟩

set_option maxRecDepth 20000 in
theorem new_c (a : Option Addr) (len cap : Nat) (xs : List Int) (w : World) (h : Seg .u8 w a len xs) (hx : Bytes xs) (hl : len ≤ 140737488355328) (hnz : a = none → cap = 0) :
    Calls Try.prog 38 #[.slice a len cap] w fun r w' => ∃ g a' cap', r = .returned (.pointer (some ⟨g, 0, none⟩)) ∧ RS w' g a' len cap' xs 0 0 ∧ w.heap.size ≤ g ∧ (∀ b o s, a' = some ⟨b, o, s⟩ → w.heap.size ≤ b) ∧ w.grownBy w' none := by
  go_enter Try.func38, Try.ntmps38
  go_wp2_with fail
  refine (clone_c a len cap xs w h hl hnz).mono ?_
  rintro r w1 ⟨a1, cap1, rfl, hs, h1, h2, h3, h4, h5⟩
  have HS : Hid (Seg .u8 w1 a1 len xs) := hs
  have H4 : Hid (∀ b o s, a1 = some ⟨b, o, s⟩ → w.heap.size ≤ b ∧ b < w1.heap.size) := h4
  have H5 : Hid (w.grownBy w1 none) := h5
  have HX : Hid (Bytes xs) := hx
  have H3 : Hid (a1 = none → cap1 = 0) := h3
  clear hs h4 h5 h hx h3 hnz
  go_wp2_with fail
  refine (over_c a1 len cap1 w1).mono ?_
  rintro r w2 ⟨rfl, hr, hg⟩
  have HR : Hid (Rdr w2 w1.heap.size 0 (.slice a1 len cap1) 0) := hr
  have HG : Hid (w1.grownBy w2 none) := hg
  clear hr hg
  go_wp2
  go_ret
  exact ⟨_, a1, cap1, rfl, ⟨HR.out, HS.out.grew HG.out (by simp), HX.out, (fun b o s h => by have := H4.out b o s h; omega), Nat.zero_le _, h1, hl, h2, H3.out⟩, H5.out.size, fun b o s h => (H4.out b o s h).1, gb_trans H5.out HG.out⟩

set_option maxRecDepth 20000 in
theorem new_c2 (a : Option Addr) (len cap : Nat) (xs : List Int) (w : World) (h : Seg .u8 w a len xs) (hx : Bytes xs) (hl : len ≤ 140737488355328) (hnz : a = none → cap = 0) :
    Calls Try.prog 38 #[.slice a len cap] w fun r w' => ∃ g a' cap', r = .returned (.pointer (some ⟨g, 0, none⟩)) ∧ RS w' g a' len cap' xs 0 0 ∧ w.heap.size ≤ g ∧ (∀ b o s, a' = some ⟨b, o, s⟩ → w.heap.size ≤ b ∧ b < w'.heap.size) ∧ w.grownBy w' none := by
  go_enter Try.func38, Try.ntmps38
  go_wp2_with fail
  refine (clone_c a len cap xs w h hl hnz).mono ?_
  rintro r w1 ⟨a1, cap1, rfl, hs, h1, h2, h3, h4, h5⟩
  have HS : Hid (Seg .u8 w1 a1 len xs) := hs
  have H4 : Hid (∀ b o s, a1 = some ⟨b, o, s⟩ → w.heap.size ≤ b ∧ b < w1.heap.size) := h4
  have H5 : Hid (w.grownBy w1 none) := h5
  have HX : Hid (Bytes xs) := hx
  have H3 : Hid (a1 = none → cap1 = 0) := h3
  clear hs h4 h5 h hx h3 hnz
  go_wp2_with fail
  refine (over_c a1 len cap1 w1).mono ?_
  rintro r w2 ⟨rfl, hr, hg⟩
  have HR : Hid (Rdr w2 w1.heap.size 0 (.slice a1 len cap1) 0) := hr
  have HG : Hid (w1.grownBy w2 none) := hg
  clear hr hg
  go_wp2
  go_ret
  exact ⟨_, a1, cap1, rfl, ⟨HR.out, HS.out.grew HG.out (by simp), HX.out, (fun b o s h => by have := H4.out b o s h; omega), Nat.zero_le _, h1, hl, h2, H3.out⟩, H5.out.size, (fun b o s h => ⟨(H4.out b o s h).1, Nat.lt_of_lt_of_le (H4.out b o s h).2 HG.out.size⟩), gb_trans H5.out HG.out⟩
end Go.Proofs.Ytfbbaodhlniiiaa
