/-
  What leb.All answers of whatever bytes that are not nil: an iterator over a copy of them. Condition: the slice can be read, and its length is one that a machine has.
-/
import Derived.Test.YtoihckfmppcbdaaIter
import Derived.Test.YtoihckfmppcbdaaApp
namespace Go.Proofs.Ytoihckfmppcbdaa
open Go.RowKit Go.Shelf
set_option linter.unusedVariables false
attribute [local go_sem] Oper.semAt_some

theorem mine_none (w : World) (B : Nat) (hB : B ≤ w.heap.size) : Mine (w.alloc (.cells #[] 5)) B w.heap.size 0 0 [] :=
  ⟨rfl, Nat.le_refl _, by unfold maxLen; omega, hB, by simp, fun i hi => by omega, fun i hi => by omega, fun i hi => by omega⟩

set_option maxHeartbeats 400000 in
theorem clone_c (b off len cap : Nat) (xs : List Int) (w : World) (h : Seg .u8 w (some ⟨b, off, none⟩) len xs) (hl : len ≤ 140737488355328) :
    Calls Try.prog 21 #[.slice (some ⟨b, off, none⟩) len cap] w fun e w' => ∃ g c, e = .returned (.slice (some ⟨g, 0, none⟩) len c) ∧ Mine w' w.heap.size g len c xs ∧ Below w.heap.size w w' := by
  obtain ⟨i0, hi, hz0, hz1, hz2⟩ := info_parts Try.infoU8
  have HS : Hid (Seg .u8 w (some ⟨b, off, none⟩) len xs) := h
  clear h
  go_enter Try.func21, Try.ntmps21
  have hq := Lib.run_eql_slice_nil (P := Try.prog) w 22 5 (some ⟨b, off, none⟩) len cap 0 0 Try.underlying22
  simp only [Option.isNone_some] at hq
  have HM : Hid (Mine (w.alloc (.cells #[] 5)) w.heap.size w.heap.size 0 0 []) := mine_none w _ (Nat.le_refl _)
  have HS2 : Hid (Seg .u8 (w.alloc (.cells #[] 5)) (some ⟨b, off, none⟩) len xs) := HS.out.below ((Below.refl _ _).alloc (Nat.le_refl _) _)
  go_wp2_with (at_builtin; go_must (refine wpList_append_mine _ rfl _ _ 22 rfl 5 i0 Try.underlying22 hi hz0 hz1 hz2 w.heap.size w.heap.size 0 0 [] rfl HM.out (some ⟨b, off, none⟩) len cap xs rfl (fun h => by cases h) HS2.out (by omega) ?_); intro g4 c4 w4 hm4 hb4)
  have HM4 : Hid (Mine w4 w.heap.size g4 len c4 xs) := by simp at hm4; exact hm4
  have HB4 : Hid (Below w.heap.size w w4) := ((Below.refl _ w).alloc (Nat.le_refl _) _).trans hb4
  clear hm4 hb4
  go_wp2
  go_ret
  exact ⟨g4, c4, by simp, HM4.out, HB4.out⟩

set_option maxHeartbeats 400000 in
theorem all_in (n : Nat) (b off len cap : Nat) (xs : List Int) (w : World) (h : Seg .u8 w (some ⟨b, off, none⟩) len xs) (hl : len ≤ 140737488355328) :
    CallsIn Fence.wide n Try.prog 17 #[.slice (some ⟨b, off, none⟩) len cap] w fun e w' => ∃ B ao c, e = .returned (.func (.func 22) #[] #[.pointer (some ⟨B, 0, none⟩)]) ∧ w.heap.size ≤ B ∧ B < w'.heap.size ∧ len ≤ c ∧ c ≤ maxLen ∧ w'.heap[B]? = some (.cells #[.slice ao len c] 22 (0, 0)) ∧ Seg .u8 w' ao len xs ∧ Below w.heap.size w w' := by
  refine callsIn_wide.2 ?_
  have HC : Hid (Calls Try.prog 21 #[.slice (some ⟨b, off, none⟩) len cap] w fun e w' => ∃ g c, e = .returned (.slice (some ⟨g, 0, none⟩) len c) ∧ Mine w' w.heap.size g len c xs ∧ Below w.heap.size w w') := clone_c b off len cap xs w h hl
  clear h
  go_enter Try.func17, Try.ntmps17
  go_wp2_with fail
  refine (HC.out).mono ?_
  rintro e w1 ⟨g, c, rfl, hm, hb⟩
  go_wp2_with fail
  refine (callsIn_wide.1 (walk_in 3 _ _ _ _)).mono ?_
  rintro e w2 ⟨rfl, rfl⟩
  have HM : Hid (Mine w1 w.heap.size g len c xs) := hm
  have HB : Hid (Below w.heap.size w w1) := hb
  clear hm hb
  go_wp2
  go_ret
  have hz := HB.out.size
  refine ⟨w1.heap.size, some ⟨g, 0, none⟩, c, rfl, hz, by simp, HM.out.le, HM.out.max, heap_alloc_new w1 _, HM.out.seg.below ((Below.refl _ _).alloc (Nat.le_refl _) _), HB.out.alloc hz _⟩

set_option maxHeartbeats 400000 in
/-- The same, and that the bytes lie in memory of their own. -/
theorem all_fresh (n : Nat) (b off len cap : Nat) (xs : List Int) (w : World) (h : Seg .u8 w (some ⟨b, off, none⟩) len xs) (hl : len ≤ 140737488355328) :
    CallsIn Fence.wide n Try.prog 17 #[.slice (some ⟨b, off, none⟩) len cap] w fun e w' => ∃ B g c, e = .returned (.func (.func 22) #[] #[.pointer (some ⟨B, 0, none⟩)]) ∧ w.heap.size ≤ B ∧ B < w'.heap.size ∧ len ≤ c ∧ c ≤ maxLen ∧ w'.heap[B]? = some (.cells #[.slice (some ⟨g, 0, none⟩) len c] 22 (0, 0)) ∧ Seg .u8 w' (some ⟨g, 0, none⟩) len xs ∧ w.heap.size ≤ g ∧ Below w.heap.size w w' := by
  refine callsIn_wide.2 ?_
  have HC : Hid (Calls Try.prog 21 #[.slice (some ⟨b, off, none⟩) len cap] w fun e w' => ∃ g c, e = .returned (.slice (some ⟨g, 0, none⟩) len c) ∧ Mine w' w.heap.size g len c xs ∧ Below w.heap.size w w') := clone_c b off len cap xs w h hl
  clear h
  go_enter Try.func17, Try.ntmps17
  go_wp2_with fail
  refine (HC.out).mono ?_
  rintro e w1 ⟨g, c, rfl, hm, hb⟩
  go_wp2_with fail
  refine (callsIn_wide.1 (walk_in 3 _ _ _ _)).mono ?_
  rintro e w2 ⟨rfl, rfl⟩
  have HM : Hid (Mine w1 w.heap.size g len c xs) := hm
  have HB : Hid (Below w.heap.size w w1) := hb
  clear hm hb
  go_wp2
  go_ret
  have hz := HB.out.size
  refine ⟨w1.heap.size, g, c, rfl, hz, by simp, HM.out.le, HM.out.max, heap_alloc_new w1 _, HM.out.seg.below ((Below.refl _ _).alloc (Nat.le_refl _) _), HM.out.lo, HB.out.alloc hz _⟩
end Go.Proofs.Ytoihckfmppcbdaa
