/-
  What Decode reads is what Encode writes; what image's Check answers. Condition: none but that rows can be read.
-/
import Derived.Test.YtcdgfghcmeadgaaDoorIBp
namespace Go.Proofs.YtcdgfghcmeadgaaDoor
open Go.RowKit
set_option linter.unusedVariables false

theorem take4_mk {xs : List Int} (h : mk4 xs = true) : xs.take 4 = mark4 := by
  unfold mk4 at h
  simp only [Bool.and_eq_true, decide_eq_true_eq] at h
  exact h.2
/-- The bytes of an image are those that Encode answers. -/
theorem dok_is {xs : List Int} {seq : Int} {X : List Rwi} (h : DOk xs seq X) : sE seq X.length X = 0 ∧ iB seq X.length X = xs ∧ X.length ≤ xs.length / 4 := by
  obtain ⟨h1, h2, h3, h4, h5, h6, h7, h8, h9⟩ := h
  have hb : bodyTo seq X.length X X.length = xs.take (xs.length - 4) := by
    unfold bodyTo
    rw [← h9]
    conv => rhs; rw [← List.take_append_drop 4 (xs.take (xs.length - 4))]
    rw [List.take_take, Nat.min_eq_left (by omega), take4_mk h3]
    rfl
  have hh : xs.drop (xs.length - 4) = Cr.by4 (Cr.sum (xs.take (xs.length - 4))) := by
    unfold Cr.holds at h4
    simp only [decide_eq_true_eq] at h4
    exact h4.2
  have hi : img seq X.length X = xs := by
    unfold img
    rw [hb, ← hh, List.take_append_drop]
  have ht : tz seq X.length X X.length = xs.length := by rw [← img_len, hi]
  have hs : sE seq X.length X = 0 := by
    unfold sE
    rw [if_neg (by omega), if_neg (by omega), if_neg (by rw [h8]; decide), if_neg (by rw [ht]; omega)]
  refine ⟨hs, by unfold iB; rw [if_pos hs, hi], ?_⟩
  have hg := rows_ge X seq X.length h8
  unfold tz at ht
  omega
theorem dno_not {xs : List Int} {e : Int} (h : DNo xs e) : (e != 0) = true ∧ ∀ s X, ¬ DOk xs s X := by
  rcases h with ⟨h1, rfl⟩ | ⟨h1, h2, rfl⟩ | ⟨h1, h2, h3, h4, rfl⟩ | ⟨h1, h2, h3, h4, h5, rfl⟩
  · exact ⟨by decide, fun s X q => by have := q.1; omega⟩
  · refine ⟨by decide, fun s X q => ?_⟩
    rcases h2 with z | z
    · have := q.2.1; omega
    · rw [q.2.2.1] at z; cases z
  · exact ⟨by decide, fun s X q => by rw [q.2.2.2.1] at h4; cases h4⟩
  · exact ⟨by decide, fun s X q => h5 s X q.2.2.2.2⟩
theorem icheck_c (seq : Int) (a : Option Addr) (n cap : Nat) (X : List Rwi) (w : World) (h : Rws w a n X) :
    Calls Tryd.prog 13 #[.agg #[.int .i64 seq, .slice a n cap]] w fun r w' => r = .returned (.int .i64 (sE seq n X)) ∧ w.grownBy w' none := by
  have HC : Hid (Calls Tryd.prog 12 #[.agg #[.int .i64 seq, .slice a n cap]] (w.alloc (.cells #[.int .i64 seq, .slice a n cap] 24)) fun r w' => r = .returned (.tuple #[.int .i64 (sN seq n X), .int .i64 (sE seq n X)]) ∧ w.grownBy w' none) := by
    have hb := blk_new w 24 #[.int .i64 seq, .slice a n cap]
    exact (isize_c seq a n cap X _ (h.below (gbb hb.2))).mono fun r w' ⟨h1, h2⟩ => ⟨h1, gb_trans hb.2 h2⟩
  clear h
  generalize sN seq n X = A at HC
  generalize sE seq n X = B at HC ⊢
  go_enter Tryd.func13, Tryd.ntmps13
  go_wp2_with (go_at_call 12; go_must (refine (Calls.mono HC.out ?_)); rintro r w1 ⟨rfl, h1⟩; have H1 : Hid (w.grownBy w1 none) := h1; clear h1)
  go_ret
  exact ⟨rfl, H1.out⟩
end Go.Proofs.YtcdgfghcmeadgaaDoor
