/-
  What the law's kept answers of what lend made: true. Condition: the rows can be read, and take at most 2^47 - 4096 bytes.
-/
import Derived.Test.YtlmjgjimmbadeaaDoorIEl
namespace Go.Proofs.YtlmjgjimmbadeaaDoor
open Go.RowKit
set_option linter.unusedVariables false

theorem own_rws2 {B : Nat} {w : World} {g m c : Nat} {Y : List Rwi} (h : w.ownsRow B 48 3 (.slice (some ⟨g, 0, none⟩) m c) m (flI Y)) (hm : Y.length = m) : Rws w (some ⟨g, 0, none⟩) m Y := by
  subst hm
  obtain ⟨a', c', e, h2, _⟩ := own_rwsI h
  cases e
  exact h2
/-- The first of some rows. -/
theorem rws_firstI {w : World} {g : Nat} {X Y : List Rwi} {n m : Nat} (h : Rws w (some ⟨g, 0, none⟩) m (X ++ Y)) (hn : X.length = n) : Rws w (some ⟨g, 0, none⟩) n X := by
  refine ⟨hn, ?_⟩
  rcases h.2 with z | ⟨b, off, e, hb, hc⟩
  · have := h.1; rw [List.length_append] at this; exact .inl (by omega)
  · refine .inr ⟨b, off, e, hb, fun i hi => ?_⟩
    have q := hc i (by have := h.1; rw [List.length_append] at this; omega)
    have e2 : rAt (X ++ Y) i = rAt X i := rAt_app (by omega)
    rw [e2] at q
    exact q
theorem LD.whole {w W : World} {g cp n : Nat} {X : List Rwi} (h : LD w W g cp X) (hn : X.length = n) : Rws W (some ⟨g, 0, none⟩) (n + 2) (X ++ [rSp, rRo]) := by
  have q := h.1
  rw [hn] at q
  exact own_rws2 q (by rw [List.length_append, hn]; rfl)
set_option maxRecDepth 20000 in
set_option maxHeartbeats 2000000 in
theorem keptS_c (seq : Int) (a : Option Addr) (n cap : Nat) (X : List Rwi) (g cp : Nat) (w : World) (h : Rws w a n X) (hnz : a = none → cap = 0) (hlc : n ≤ cap) (hcb : cap * 40 ≤ 140737488351232) (hw : Rws w (some ⟨g, 0, none⟩) (n + 2) (X ++ [rSp, rRo])) :
    Calls Tryd.prog 15 #[.slice (some ⟨g, 0, none⟩) (n + 2) cp, .agg #[.int .i64 seq, .slice a n cap]] w fun r w' => r = .returned (.bool true) ∧ w.grownBy w' none := by
  have HB : Hid (Bk 24 (w.alloc (.cells #[.int .i64 seq, .slice a n cap] 24)) w.heap.size #[.int .i64 seq, .slice a n cap] ∧ w.grownBy (w.alloc (.cells #[.int .i64 seq, .slice a n cap] 24)) none) := blk_new w _ _
  have HLE : Hid (Calls Tryd.prog 9 #[.agg #[.int .i64 seq, .slice a n cap]] (w.alloc (.cells #[.int .i64 seq, .slice a n cap] 24)) fun r w' => ∃ g2 cp2, r = .returned (.tuple #[.slice (some ⟨g2, 0, none⟩) (n + 2) cp2, .agg #[.int .i64 seq, .slice (some ⟨g2, 0, none⟩) n cp2]]) ∧ Rws w' (some ⟨g2, 0, none⟩) (n + 2) (X ++ [rSp, rRo]) ∧ w.grownBy w' none) := by
    refine (lendS_c seq a n cap X _ (h.below (gbb HB.out.2)) hnz hlc hcb).mono ?_
    rintro r w' ⟨g2, cp2, rfl, _, q⟩
    exact ⟨g2, cp2, rfl, q.whole h.1, gb_trans HB.out.2 q.2⟩
  have HSA : Hid (∀ g2 cp2 W, w.grownBy W none → Rws W (some ⟨g2, 0, none⟩) (n + 2) (X ++ [rSp, rRo]) → Calls Tryd.prog 26 #[.slice (some ⟨g, 0, none⟩) (n + 2) cp, .slice (some ⟨g2, 0, none⟩) (n + 2) cp2] W fun r w' => r = .returned (.bool true) ∧ W.grownBy w' none) := fun g2 cp2 W hg h2 => ysame_c _ _ cp cp2 (n + 2) (X ++ [rSp, rRo]) W (hw.below (gbb hg)) h2 (by omega)
  clear h hw
  go_enter Tryd.func15, Tryd.ntmps15
  go_wp2_with (first
    | ((fail_if_success (have z := H1)); refine wpList_load_bk 24 rfl (.tmp 3) rfl Tryd.underlying24 rfl infoState w.heap.size _ rfl HB.out.1 rfl ?_)
    | (go_at_call 9; go_must (refine (Calls.mono HLE.out ?_)); rintro r w1 ⟨g2, cp2, rfl, q1, q2⟩; have hb := gal w1 (.cells #[.int .i64 seq, .slice (some ⟨g2, 0, none⟩) n cp2] 24); have H1 : Hid (w.grownBy (w1.alloc (.cells #[.int .i64 seq, .slice (some ⟨g2, 0, none⟩) n cp2] 24)) none ∧ Rws (w1.alloc (.cells #[.int .i64 seq, .slice (some ⟨g2, 0, none⟩) n cp2] 24)) (some ⟨g2, 0, none⟩) (n + 2) (X ++ [rSp, rRo])) := ⟨gb_trans q2 hb, q1.below (gbb hb)⟩; clear q1 q2 hb)
    | (go_at_call 26; go_must (refine (Calls.mono (HSA.out _ _ _ H1.out.1 H1.out.2) ?_)); rintro r w2 ⟨rfl, q⟩; have H2 : Hid (w.grownBy w2 none) := gb_trans H1.out.1 q; clear q))
  go_ret
  exact ⟨rfl, H2.out⟩
end Go.Proofs.YtlmjgjimmbadeaaDoor
