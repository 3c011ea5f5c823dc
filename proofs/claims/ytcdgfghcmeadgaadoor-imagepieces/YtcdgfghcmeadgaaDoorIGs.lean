/-
  What the document's Same answers of two lists of the same rows, and the law's same of two states: true. Condition: at most 2^47 rows.
-/
import Derived.Test.YtcdgfghcmeadgaaDoorFc
import Derived.BigQuiet
import Derived.Laws.StructEq
namespace Go.Proofs.YtcdgfghcmeadgaaDoor
open Go.RowKit
set_option linter.unusedVariables false

theorem gb_dr {a b : World} (h : a.grownBy b none) (n : Nat) : a.grownBy (b.drewN n) none := gb_trans h ⟨rfl, rfl, rfl, Nat.le_refl _, fun _ _ _ => rfl⟩
set_option maxRecDepth 20000 in
set_option maxHeartbeats 1000000 in
theorem ysame_c (a1 a2 : Option Addr) (c1 c2 n : Nat) (X : List Rwi) (w : World) (h1 : Rws w a1 n X) (h2 : Rws w a2 n X) (hn : n ≤ 9223372036854775806) :
    Calls Tryd.prog 26 #[.slice a1 n c1, .slice a2 n c2] w fun r w' => r = .returned (.bool true) ∧ w.grownBy w' none := by
  have HS : Hid (Rws w a1 n X ∧ Rws w a2 n X) := ⟨h1, h2⟩
  clear h1 h2
  go_enter Tryd.func26, Tryd.ntmps26
  go_wp2
  go_loopw [13] (fun i wr => ∃ k : Nat, k ≤ n ∧ i = .int .i64 k ∧ Hid (w.grownBy wr none)) (fun i _ => n - (intOf i).toNat)
  case atStart => exact ⟨0, Nat.zero_le _, rfl, World.grownBy.refl _ _⟩
  case round =>
    obtain ⟨k, hk, rfl, hr⟩ := hrel
    by_cases hlt : k < n
    · have hi1 : (k : Int) < n := by omega
      have hi0 : (0 : Int) ≤ k := by omega
      obtain ⟨b1, o1, rfl, hb1, hc1⟩ := (HS.out.1.below (gbb hr.out)).2.resolve_left (by omega)
      obtain ⟨b2, o2, rfl, hb2, hc2⟩ := (HS.out.2.below (gbb hr.out)).2.resolve_left (by omega)
      have f1 := hc1 k hlt
      have f2 := hc2 k hlt
      clear hc1 hc2
      generalize rAt X k = r at f1 f2
      obtain ⟨kk, vv, nn⟩ := r
      have d0 : wr.cell? ⟨b1, o1 + k * 3, none⟩ = some (.string kk) := f1 0 _ rfl
      have d1 : wr.cell? ⟨b1, o1 + k * 3 + 1, none⟩ = some (.string vv) := f1 1 _ rfl
      have d2 : wr.cell? ⟨b1, o1 + k * 3 + 2, none⟩ = some (.int .i64 nn) := f1 2 _ rfl
      have e0 : wr.cell? ⟨b2, o2 + k * 3, none⟩ = some (.string kk) := f2 0 _ rfl
      have e1 : wr.cell? ⟨b2, o2 + k * 3 + 1, none⟩ = some (.string vv) := f2 1 _ rfl
      have e2 : wr.cell? ⟨b2, o2 + k * 3 + 2, none⟩ = some (.int .i64 nn) := f2 2 _ rfl
      clear f1 f2
      go_wp2
      go_quiet (fail)
      generalize hW5 : World.drewN wr _ = W5
      have H5 : Hid (w.grownBy W5 none) := by rw [← hW5]; exact gb_dr hr.out _
      clear hW5
      go_wp2
      go_roundw
      case rel => exact ⟨k + 1, by omega, by go_num, H5⟩
      case measure => simp [intOf]; omega
    · obtain rfl : k = n := by omega
      go_wp2
      go_ret
      exact ⟨rfl, hr.out⟩
set_option maxRecDepth 20000 in
set_option maxHeartbeats 1000000 in
theorem lsame_c (seq : Int) (a1 a2 : Option Addr) (c1 c2 n : Nat) (X : List Rwi) (w : World) (h1 : Rws w a1 n X) (h2 : Rws w a2 n X) (hn : n ≤ 9223372036854775806) :
    Calls Tryd.prog 21 #[.agg #[.int .i64 seq, .slice a1 n c1], .agg #[.int .i64 seq, .slice a2 n c2]] w fun r w' => r = .returned (.bool true) ∧ w.grownBy w' none := by
  obtain ⟨W0, hW0⟩ : ∃ W0, W0 = (w.alloc (.cells #[.int .i64 seq, .slice a1 n c1] 24)).alloc (.cells #[.int .i64 seq, .slice a2 n c2] 24) := ⟨_, rfl⟩
  have hg : w.grownBy W0 none := by rw [hW0]; exact gb_trans (gal _ _) (gal _ _)
  have HS : Hid (Calls Tryd.prog 26 #[.slice a1 n c1, .slice a2 n c2] W0 fun r w' => r = .returned (.bool true) ∧ w.grownBy w' none) := (ysame_c a1 a2 c1 c2 n X W0 (h1.below (gbb hg)) (h2.below (gbb hg)) hn).mono fun r w' ⟨q1, q2⟩ => ⟨q1, gb_trans hg q2⟩
  rw [hW0] at HS
  clear h1 h2 hg hW0
  go_enter Tryd.func21, Tryd.ntmps21
  go_wp2_with (go_at_call 26; go_must (refine (Calls.mono HS.out ?_)); rintro r w1 ⟨rfl, h⟩; have H1 : Hid (w.grownBy w1 none) := h; clear h)
  go_ret
  exact ⟨rfl, H1.out⟩
end Go.Proofs.YtcdgfghcmeadgaaDoor
