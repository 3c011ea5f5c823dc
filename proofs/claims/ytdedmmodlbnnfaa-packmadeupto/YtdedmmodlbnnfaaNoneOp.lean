/-
  What the law's none answers of a pack Reader that no call made, whatever the call: true. No condition.
-/
import Derived.Test.YtdedmmodlbnnfaaNilR
import Derived.Test.YtdedmmodlbnnfaaWSt
namespace Go.Proofs.Ytdedmmodlbnnfaa
open Go.RowKit
set_option linter.unusedVariables false

set_option maxRecDepth 20000 in
set_option maxHeartbeats 4000000 in
theorem none_op (p : Value) (o : OpD) (O : Array Value) (w : World) (h : Un w p) (hO : O = o.cells.toArray) :
    Calls Try.prog 14 #[p, .agg O] w fun r w' => r = .returned (.bool true) ∧ w.grownBy w' none := by
  have HU : Hid (Un w p) := h
  obtain ⟨N, hN⟩ : ∃ N, N = w.heap.size := ⟨_, rfl⟩
  have HBB : Bk 39 (w.alloc (.cells O 39)) w.heap.size o.cells.toArray := by rw [hO]; exact heap_new w _
  obtain ⟨b0, b1, b2, b3, b4, b5⟩ := HBB.opcell
  clear h hO b1 b4 b5 HBB
  by_cases h6 : o.call = 6
  · rw [h6] at b0
    go_enter Try.func14, Try.ntmps14
    go_wp2_with fail
    rw [← hN]
    generalize hW1 : World.alloc w _ = W1
    have H1 : Hid (Un W1 p ∧ w.grownBy W1 none) := by rw [← hW1]; exact ⟨HU.out.new (World.grownBy_alloc _ _ _), World.grownBy_alloc _ _ _⟩
    clear hW1 hN b0 b2 b3
    refine (ufail_c p o.n W1 H1.out.1).mono ?_
    rintro r w2 ⟨rfl, rfl⟩
    have HX := H1
    go_wp2_with fail
    refine (uat_c p _ HX.out.1).mono ?_
    rintro r w3 ⟨rfl, rfl⟩
    go_wp2_with fail
    refine (uleft_c p _ HX.out.1).mono ?_
    rintro r w4 ⟨rfl, n4, hw4⟩
    have H4 : Hid (Un w4 p ∧ w.grownBy w4 none) := by rw [hw4]; exact ⟨HX.out.1.drewN _, gb_drewN HX.out.2 _⟩
    clear hw4
    go_wp2_with fail
    refine (uerr_c p _ H4.out.1).mono ?_
    rintro r w5 ⟨rfl, rfl⟩
    go_wp2_with fail
    refine (uend_c p _ H4.out.1).mono ?_
    rintro r w6 ⟨rfl, rfl⟩
    go_wp2
    go_ret
    exact ⟨rfl, H4.out.2⟩
  by_cases h0 : o.call = 0
  · rw [h0] at b0
    go_enter Try.func14, Try.ntmps14
    go_wp2_with fail
    rw [← hN]
    generalize hW1 : World.alloc w _ = W1
    have H1 : Hid (Un W1 p ∧ w.grownBy W1 none) := by rw [← hW1]; exact ⟨HU.out.new (World.grownBy_alloc _ _ _), World.grownBy_alloc _ _ _⟩
    clear hW1 hN b0 b2 b3
    refine (uuint_c p W1 H1.out.1).mono ?_
    rintro r w2 ⟨rfl, rfl⟩
    have H2 : Hid (w.grownBy w2 none) := H1.out.2
    go_wp2
    go_ret
    exact ⟨rfl, H2.out⟩
  by_cases h1 : o.call = 1
  · rw [h1] at b0
    go_enter Try.func14, Try.ntmps14
    go_wp2_with fail
    rw [← hN]
    generalize hW1 : World.alloc w _ = W1
    have H1 : Hid (Un W1 p ∧ w.grownBy W1 none) := by rw [← hW1]; exact ⟨HU.out.new (World.grownBy_alloc _ _ _), World.grownBy_alloc _ _ _⟩
    clear hW1 hN b0 b2 b3
    refine (uint_u p o.most W1 H1.out.1).mono ?_
    rintro r w2 ⟨rfl, rfl⟩
    have H2 : Hid (w.grownBy w2 none) := H1.out.2
    go_wp2
    go_ret
    exact ⟨rfl, H2.out⟩
  by_cases h2 : o.call = 2
  · rw [h2] at b0
    go_enter Try.func14, Try.ntmps14
    go_wp2_with fail
    rw [← hN]
    generalize hW1 : World.alloc w _ = W1
    have H1 : Hid (Un W1 p ∧ w.grownBy W1 none) := by rw [← hW1]; exact ⟨HU.out.new (World.grownBy_alloc _ _ _), World.grownBy_alloc _ _ _⟩
    clear hW1 hN b0 b2 b3
    refine (utext_c p o.most W1 H1.out.1).mono ?_
    rintro r w2 ⟨rfl, rfl⟩
    have H2 : Hid (w.grownBy w2 none) := H1.out.2
    go_wp2
    go_ret
    exact ⟨rfl, H2.out⟩
  by_cases h3 : o.call = 3
  · rw [h3] at b0
    go_enter Try.func14, Try.ntmps14
    go_wp2_with fail
    rw [← hN]
    generalize hW1 : World.alloc w _ = W1
    have H1 : Hid (Un W1 p ∧ w.grownBy W1 none) := by rw [← hW1]; exact ⟨HU.out.new (World.grownBy_alloc _ _ _), World.grownBy_alloc _ _ _⟩
    clear hW1 hN b0 b2 b3
    refine (uflag_c p W1 H1.out.1).mono ?_
    rintro r w2 ⟨rfl, n, hw2⟩
    have H2 : Hid (w.grownBy w2 none) := by rw [hw2]; exact gb_drewN H1.out.2 n
    clear hw2
    go_wp2
    go_ret
    exact ⟨rfl, H2.out⟩
  by_cases h4 : o.call = 4
  · rw [h4] at b0
    obtain ⟨Z, hZ⟩ : ∃ Z : List Int, Z = List.replicate 32 0 := ⟨_, rfl⟩
    have heq : ∀ w, (Op.equalIn 10000 69 (.agg (u8s Z)) (.agg #[.int .u8 0, .int .u8 0, .int .u8 0, .int .u8 0, .int .u8 0, .int .u8 0, .int .u8 0, .int .u8 0, .int .u8 0, .int .u8 0, .int .u8 0, .int .u8 0, .int .u8 0, .int .u8 0, .int .u8 0, .int .u8 0, .int .u8 0, .int .u8 0, .int .u8 0, .int .u8 0, .int .u8 0, .int .u8 0, .int .u8 0, .int .u8 0, .int .u8 0, .int .u8 0, .int .u8 0, .int .u8 0, .int .u8 0, .int .u8 0, .int .u8 0, .int .u8 0])).run Try.prog w = .ok true w := fun w => by rw [hZ]; exact eqZ w
    have HDG : Hid (∀ w, Un w p → Calls Try.prog 42 #[p] w fun r w' => r = .returned (.agg (u8s Z)) ∧ w.grownBy w' none) := fun w h => by rw [hZ]; exact udigest_c p w h
    clear hZ
    go_enter Try.func14, Try.ntmps14
    go_wp2_with fail
    rw [← hN]
    generalize hW1 : World.alloc w _ = W1
    have H1 : Hid (Un W1 p ∧ w.grownBy W1 none) := by rw [← hW1]; exact ⟨HU.out.new (World.grownBy_alloc _ _ _), World.grownBy_alloc _ _ _⟩
    clear hW1 hN b0 b2 b3
    refine (HDG.out W1 H1.out.1).mono ?_
    rintro r w2 ⟨rfl, hg2⟩
    have H2 : Hid (w.grownBy w2 none) := gb_trans H1.out.2 hg2
    clear hg2
    go_wp2
    go_ret
    exact ⟨rfl, H2.out⟩
  by_cases h5 : o.call = 5
  · rw [h5] at b0
    have heq := eqNo
    go_enter Try.func14, Try.ntmps14
    go_wp2_with fail
    rw [← hN]
    generalize hW1 : World.alloc w _ = W1
    have H1 : Hid (Un W1 p ∧ w.grownBy W1 none) := by rw [← hW1]; exact ⟨HU.out.new (World.grownBy_alloc _ _ _), World.grownBy_alloc _ _ _⟩
    clear hW1 hN b0 b2 b3
    refine (urow_c p W1 H1.out.1).mono ?_
    rintro r w2 ⟨rfl, hg2⟩
    have H2 : Hid (w.grownBy w2 none) := gb_trans H1.out.2 hg2
    clear hg2
    go_wp2
    go_ret
    exact ⟨rfl, H2.out⟩
  by_cases h8 : o.call = 8
  · rw [h8] at b0
    go_enter Try.func14, Try.ntmps14
    go_wp2_with fail
    rw [← hN]
    generalize hW1 : World.alloc w _ = W1
    have H1 : Hid (Un W1 p ∧ w.grownBy W1 none) := by rw [← hW1]; exact ⟨HU.out.new (World.grownBy_alloc _ _ _), World.grownBy_alloc _ _ _⟩
    clear hW1 hN b0 b2 b3
    refine (ucount_c p o.most o.n W1 H1.out.1).mono ?_
    rintro r w2 ⟨rfl, rfl⟩
    have H2 : Hid (w.grownBy w2 none) := H1.out.2
    go_wp2
    go_ret
    exact ⟨rfl, H2.out⟩
  have q0 : (o.call == 0) = false := by simp [h0]
  have q1 : (o.call == 1) = false := by simp [h1]
  have q2 : (o.call == 2) = false := by simp [h2]
  have q3 : (o.call == 3) = false := by simp [h3]
  have q4 : (o.call == 4) = false := by simp [h4]
  have q5 : (o.call == 5) = false := by simp [h5]
  have q6 : (o.call == 6) = false := by simp [h6]
  have q8 : (o.call == 8) = false := by simp [h8]
  clear h0 h1 h2 h3 h4 h5 h6 h8
  go_enter Try.func14, Try.ntmps14
  go_wp2_with fail
  rw [← hN]
  generalize hW1 : World.alloc w _ = W1
  have H1 : Hid (Un W1 p ∧ w.grownBy W1 none) := by rw [← hW1]; exact ⟨HU.out.new (World.grownBy_alloc _ _ _), World.grownBy_alloc _ _ _⟩
  clear hW1 hN b0 b2 b3
  have HX := H1
  refine (uat_c p _ HX.out.1).mono ?_
  rintro r w3 ⟨rfl, rfl⟩
  go_wp2_with fail
  refine (uleft_c p _ HX.out.1).mono ?_
  rintro r w4 ⟨rfl, n4, hw4⟩
  have H4 : Hid (Un w4 p ∧ w.grownBy w4 none) := by rw [hw4]; exact ⟨HX.out.1.drewN _, gb_drewN HX.out.2 _⟩
  clear hw4
  go_wp2_with fail
  refine (uerr_c p _ H4.out.1).mono ?_
  rintro r w5 ⟨rfl, rfl⟩
  go_wp2_with fail
  refine (uend_c p _ H4.out.1).mono ?_
  rintro r w6 ⟨rfl, rfl⟩
  go_wp2
  go_ret
  exact ⟨rfl, H4.out.2⟩
end Go.Proofs.Ytdedmmodlbnnfaa
