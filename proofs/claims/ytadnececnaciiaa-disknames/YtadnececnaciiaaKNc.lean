/-
  What disk's Create answers on a new disk of three bytes, and Free. No condition.
-/
import Derived.Test.YtadnececnaciiaaKNb
namespace Go.Proofs.Ytadnececnaciiaa
open Go.RowKit
set_option linter.unusedVariables false

theorem mp0_g {w w' : World} {b g : Nat} (h : Mp0 w b) (hg : w.grownBy w' (some g)) (hn : b ≠ g) : Mp0 w' b := by
  obtain ⟨c, h⟩ := h
  exact ⟨c, (hg.block b (lt_of_block h) (fun e => hn (Option.some.inj e))).trans h⟩
set_option maxRecDepth 20000 in
set_option maxHeartbeats 1000000 in
theorem create_c (B g b l : Nat) (w : World) (h : Bk 52 w g (dcells 3 3 (some b) (some l) (.slice none 0 0) 0 0 0 false)) (hm : Mp0 w b) (hn : b ≠ g) (hB : B ≤ g ∧ B ≤ b ∧ B ≤ w.heap.size) :
    Calls Try.prog 11 #[.pointer (some ⟨g, 0, none⟩), .string sA] w fun r w' => r = .returned (.int .i64 0) ∧ Below B w w' ∧ ∃ st, Bk 52 w' g (dcells 3 2 (some b) (some l) st 1 1 0 false) := by
  obtain ⟨W1, hW1⟩ : ∃ W1, W1 = w.alloc (.cells #[.string sA] 9) := ⟨_, rfl⟩
  have g1 : w.grownBy W1 none := by rw [hW1]; exact World.grownBy_alloc _ _ _
  have hb1 : W1.cell? ⟨w.heap.size, 0, none⟩ = some (.string sA) := by rw [hW1]; exact Bk.cell (blk_new w 9 #[.string sA]).1 0
  have HR : Hid (Calls Try.prog 39 #[.pointer (some ⟨g, 0, none⟩), .slice (some ⟨w.heap.size, 0, none⟩) 1 1] W1 fun r w' => r = .returned (.int .i64 0) ∧ Below W1.heap.size W1 w') := ready_so g w.heap.size 3 3 b l _ 0 0 0 W1 (h.grew g1 (by simp)) hb1
  have HD : Hid (∀ W, W1.grownBy W none → Bk 52 W g (dcells 3 3 (some b) (some l) (.slice none 0 0) 0 0 0 false) ∧ Mp0 W b) := fun W hg => ⟨(h.grew g1 (by simp)).grew hg (by simp), (hm.grew g1).grew hg⟩
  have HN : Hid (b ≠ g) := hn
  have HB : Hid (B ≤ g ∧ B ≤ b ∧ B ≤ w.heap.size ∧ w.grownBy W1 none) := ⟨hB.1, hB.2.1, hB.2.2, g1⟩
  clear h hm hn g1 hb1 hB
  rw [hW1] at HR
  unfold sA at hW1 HR ⊢
  go_enter Try.func11, Try.ntmps11
  go_wp2_with (first
    | ((fail_if_success (have z := H1)); go_at_call 39; go_must (refine (Calls.mono HR.out ?_)); rintro r x1 ⟨rfl, k1⟩; rw [← hW1] at k1; have H1 : Hid (Bk 52 x1 g (dcells 3 3 (some b) (some l) (.slice none 0 0) 0 0 0 false) ∧ Mp0 x1 b) := HD.out x1 (below_gbK k1); have c2 : x1.cell? ⟨g, 2, none⟩ = some (.map (some b)) := Bk.cell H1.out.1 2; have B1 : Hid (Below B w x1 ∧ B ≤ x1.heap.size) := ⟨((Below.refl B w).grown HB.out.2.2.2 HB.out.2.2.1 (fun k e => by cases e)).grown (below_gbK k1) (Nat.le_trans HB.out.2.2.1 HB.out.2.2.2.size) (fun k e => by cases e), Nat.le_trans HB.out.2.2.1 (Nat.le_trans HB.out.2.2.2.size k1.size)⟩; clear k1)
    | (have zz := H1; clear zz; go_at_call 35; go_must (refine (Calls.mono (have0_c b _ _ H1.out.2) ?_)); rintro r wq ⟨rfl, hq⟩; obtain rfl := hq.symm; clear hq)
    | ((fail_if_success (have z := H2)); have zz := H1; clear zz; go_at_call 40; go_must (refine (Calls.mono (begin0_c g 3 3 1 (some b) (some l) _ 0 0 _ H1.out.1 (by decide) (by decide) (by decide)) ?_)); rintro r x2 ⟨rfl, k1, k2⟩; have H2 : Hid (Bk 52 x2 g (dcells 3 3 (some b) (some l) (.slice none 0 0) 0 1 0 false) ∧ Mp0 x2 b) := ⟨k1, mp0_g H1.out.2 k2 HN.out⟩; have B2 : Hid (Below B w x2 ∧ B ≤ x2.heap.size) := ⟨B1.out.1.grown k2 B1.out.2 (fun k e => by cases e; exact HB.out.1), Nat.le_trans B1.out.2 k2.size⟩; clear k1 k2)
    | (have zz := H2; clear zz; go_at_call 41; go_must (refine (Calls.mono (do_c B g b l _ 3 3 1 0 1 _ H2.out.1 H2.out.2 HN.out (by decide) (by decide) ⟨HB.out.1, HB.out.2.1, B2.out.2⟩) ?_)); rintro r x3 ⟨rfl, k0, k1⟩; have H3 : Hid (Below B w x3 ∧ ∃ st, Bk 52 x3 g (dcells 3 2 (some b) (some l) st 1 1 0 false)) := ⟨B2.out.1.trans k0, k1⟩; clear k0 k1))
  go_ret
  exact ⟨rfl, H3.out⟩
theorem free_c (g : Nat) (room free : Int) (s l : Nat) (st : Value) (pend acts fail : Int) (down : Bool) (w : World) (h : Bk 52 w g (dcells room free (some s) (some l) st pend acts fail down)) : Calls Try.prog 12 #[.pointer (some ⟨g, 0, none⟩)] w fun r w' => r = .returned (.int .i64 free) ∧ w' = w := by
  have HM : Hid _ := made_so g room free s l st pend acts fail down w h
  have c1 : w.cell? ⟨g, 1, none⟩ = some (.int .i64 free) := Bk.cell h 1
  clear h
  go_enter Try.func12, Try.ntmps12
  go_wp2_with (go_at_call 42; go_must (refine (Calls.mono HM.out ?_)); rintro r wq ⟨rfl, hq⟩; obtain rfl := hq.symm; clear hq)
  go_ret
  exact ⟨rfl, rfl⟩
end Go.Proofs.Ytadnececnaciiaa
