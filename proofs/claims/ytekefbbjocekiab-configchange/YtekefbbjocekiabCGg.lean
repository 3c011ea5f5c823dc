/-
  What slices.Grow (of nil) and slices.Concat (of two lists of whole numbers) answer: the one and then the other, in memory of their own. Condition: together at most 2^44 numbers.
-/
import Derived.Test.YtekefbbjocekiabCGn
import Derived.Lib.AppendZeros
namespace Go.Proofs.Ytekefbbjocekiab
open Go.RowKit
set_option linter.unusedVariables false

set_option maxRecDepth 20000 in
theorem growI_c (n : Nat) (w : World) (hl : n ≤ 17592186044416) :
    Calls Try.prog 67 #[.slice none 0 0, .int .i64 (n : Int)] w fun r w' => ∃ v, r = .returned v ∧ OwI w.heap.size w' v 0 [] ∧ Below w.heap.size w w' := by
  obtain ⟨i0, hi, hz0, hz1, hz2⟩ := info_parts Try.infoI64
  by_cases h0 : n = 0
  · subst h0
    clear hi hz0 hz1 hz2 i0
    go_enter Try.func67, Try.ntmps67
    go_wp2
    go_ret
    exact ⟨_, rfl, owI_nil _ _, Below.refl _ _⟩
  · have hn : 1 ≤ n := by omega
    have happ := Lib.run_append_nil_zeros (P := Try.prog) w 23 3 23 3 i0 (.int .i64 0) .i64 .i64 Try.underlying23 Try.underlying3 hi hz0 n (by omega) (by omega) (by omega) (by rw [hz2]; omega)
    generalize hcap : grownCap w n 0 3 = cap2 at happ
    have hcapge : n ≤ cap2 := by rw [← hcap]; exact grownCap_ge w _ 0 3
    have hcaple : cap2 ≤ maxLen := by rw [← hcap]; exact grownCap_le_maxLen w _ 0 3 (by unfold maxLen; omega)
    generalize hZ : (Builtin.zeroCells (Value.int .i64 0).cells n ++ Builtin.zeroCells (Value.int .i64 0).cells (cap2 - n)) = Z at happ
    have hZs : Z.size = cap2 := by rw [← hZ]; simp [size_zeroCells, Value.cells]; omega
    have HZ : Hid (Z.size = cap2 ∧ n ≤ cap2 ∧ cap2 ≤ maxLen) := ⟨hZs, hcapge, hcaple⟩
    have hnp : (0 : Int) < (n : Int) := by omega
    clear hcap hZ hZs hcaple hi hz0 hz1 hz2
    go_enter Try.func67, Try.ntmps67
    go_wp2_with (at_builtin; refine Lib.wpList_append_run _ rfl _ _ _ _ rfl _ _ rfl rfl _ _ happ ?_)
    go_ret
    obtain ⟨e1, e2, e3⟩ := HZ
    refine ⟨_, rfl, ⟨rfl, .inr ⟨w.heap.size, cap2, Z, rfl, Nat.le_refl _, ?_, Nat.zero_le _, e3, by simpa using e1, by simp⟩⟩, ?_⟩
    · show (w.heap.push _)[w.heap.size]? = _
      simp
    · exact ((Below.refl _ _).alloc (Nat.le_refl _) _).drew

set_option maxRecDepth 20000 in
set_option maxHeartbeats 2000000 in
theorem catI_c (c n1 c1 n2 c2 : Nat) (a1 a2 : Option Addr) (xs ys : List Int) (w : World) (hc0 : w.cell? ⟨c, 0, none⟩ = some (.slice a1 n1 c1)) (hc1 : w.cell? ⟨c, 1, none⟩ = some (.slice a2 n2 c2)) (hcw : c < w.heap.size)
    (hn1 : a1 = none → c1 = 0) (hn2 : a2 = none → c2 = 0) (hs1 : Seg .i64 w a1 n1 xs) (hs2 : Seg .i64 w a2 n2 ys) (hl : n1 + n2 ≤ 17592186044416) :
    Calls Try.prog 59 #[.slice (some ⟨c, 0, none⟩) 2 2] w fun r w' => ∃ v, r = .returned v ∧ OwI w.heap.size w' v (n1 + n2) (xs ++ ys) ∧ Below w.heap.size w w' := by
  have HG : Calls Try.prog 67 #[.slice none 0 0, .int .i64 ((n1 : Int) + (n2 : Int))] w fun r w' => ∃ v, r = .returned v ∧ OwI w.heap.size w' v 0 [] ∧ Below w.heap.size w w' := by
    have := growI_c (n1 + n2) w hl
    rwa [Int.natCast_add] at this
  replace HG : Hid _ := HG
  have HS1 : Hid (Seg .i64 w a1 n1 xs) := hs1
  have HS2 : Hid (Seg .i64 w a2 n2 ys) := hs2
  have HN1 : Hid (a1 = none → c1 = 0) := hn1
  have HN2 : Hid (a2 = none → c2 = 0) := hn2
  clear hn1 hn2 hs1 hs2
  go_enter Try.func59, Try.ntmps59
  go_wp2
  refine wp_loop_rounds 3 ?_
  rw [rounds_succ]
  go_wp2
  rw [rounds_succ]
  go_wp2
  rw [rounds_succ]
  go_wp2_with fail
  refine (Calls.mono HG.out ?_)
  rintro _ w1 ⟨v1, rfl, ho1, hb1⟩
  have hd0 : w1.cell? ⟨c, 0, none⟩ = some (.slice a1 n1 c1) := (hb1.cell (p := ⟨c, 0, none⟩) hcw).trans hc0
  have hd1 : w1.cell? ⟨c, 1, none⟩ = some (.slice a2 n2 c2) := (hb1.cell (p := ⟨c, 1, none⟩) hcw).trans hc1
  have hs1 : Hid (Seg .i64 w1 a1 n1 xs) := HS1.out.below hb1
  replace ho1 : Hid _ := ho1
  replace hb1 : Hid _ := hb1
  go_wp2
  refine wp_loop_rounds 3 ?_
  rw [rounds_succ]
  go_wp2_with (at_builtin; go_must (refine wpList_append_growI _ rfl _ _ rfl w.heap.size 0 _ [] rfl ho1.out a1 n1 c1 xs rfl HN1.out hs1.out (by omega) hb1.out.size ?_); intro v2 w2 ho2 hb2; rw [Nat.zero_add, List.nil_append] at ho2; replace hb2 := hb1.out.trans hb2; replace ho2 : Hid _ := ho2; replace hb2 : Hid _ := hb2)
  have he1 : w2.cell? ⟨c, 1, none⟩ = some (.slice a2 n2 c2) := (hb2.out.cell (p := ⟨c, 1, none⟩) hcw).trans hc1
  have hs2 : Hid (Seg .i64 w2 a2 n2 ys) := HS2.out.below hb2.out
  clear hd0 hd1 hc0 hc1 hs1 ho1
  rw [rounds_succ]
  go_wp2_with (at_builtin; go_must (refine wpList_append_growI _ rfl _ _ rfl w.heap.size n1 _ xs rfl ho2.out a2 n2 c2 ys rfl HN2.out hs2.out hl hb2.out.size ?_); intro v3 w3 ho3 hb3; replace hb3 := hb2.out.trans hb3; replace ho3 : Hid _ := ho3; replace hb3 : Hid _ := hb3)
  rw [rounds_succ]
  go_wp2
  go_ret
  exact ⟨_, rfl, ho3.out, hb3.out⟩
end Go.Proofs.Ytekefbbjocekiab
