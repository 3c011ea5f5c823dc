/-
  A book over a store that is new: what New, Seq, Applied, Committed, Commit, Clean answer of it, and of what no call made. No condition.
-/
import Derived.Test.YtalfoenoekcdaaaKMp
import Derived.Deep.RegionHeld3
import Derived.BigQuiet
import Derived.Laws.Cover3
namespace Go.Proofs.Ytalfoenoekcdaaa
open Go.RowKit
set_option linter.unusedVariables false

theorem v_gbB {a b : World} (h : a.grownBy b none) : Below a.heap.size a b := (Below.refl _ _).grown h (Nat.le_refl _) (fun k hk => by cases hk)
/-- A store that has applied nothing. -/
def StN (w : World) (s : Nat) : Prop := ∃ T, w.cell? ⟨s, 0, none⟩ = some (.pointer (some ⟨T, 0, none⟩)) ∧ w.cell? ⟨s, 1, none⟩ = some (.int .i64 0) ∧ s < w.heap.size
theorem StN.below {w w' : World} {s : Nat} (h : StN w s) (hb : Below w.heap.size w w') : StN w' s := by
  obtain ⟨T, h1, h2, h3⟩ := h
  exact ⟨T, (hb.cell (p := ⟨s, 0, none⟩) h3).trans h1, (hb.cell (p := ⟨s, 1, none⟩) h3).trans h2, Nat.lt_of_lt_of_le h3 hb.size⟩
theorem num_c (e : Int) (w : World) : Calls Try.prog 8 #[.int .i64 e] w fun r w' => r = .returned (.int .i64 e) ∧ w' = w := by
  go_enter Try.func8, Try.ntmps8
  go_wp2
  go_ret
  exact ⟨rfl, rfl⟩
theorem tnew_c (w : World) : Calls Try.prog 24 #[] w fun r w' => r = .returned (.pointer (some ⟨w.heap.size, 0, none⟩)) ∧ Below w.heap.size w w' := by
  go_enter Try.func24, Try.ntmps24
  go_wp2
  go_ret
  exact ⟨rfl, (Below.refl _ _).alloc (Nat.le_refl _) _⟩
theorem dnew_c (w : World) : Calls Try.prog 7 #[] w fun r w' => ∃ s, r = .returned (.pointer (some ⟨s, 0, none⟩)) ∧ StN w' s ∧ Below w.heap.size w w' := by
  have HT : Hid _ := tnew_c w
  obtain ⟨T, hT⟩ : ∃ T, T = w.heap.size := ⟨_, rfl⟩
  rw [← hT] at HT
  have HTT : Hid (T = w.heap.size) := hT
  clear hT
  go_enter Try.func7, Try.ntmps7
  go_wp2_with (go_at_call 24; go_must (refine (Calls.mono HT.out ?_)); rintro r w1 ⟨rfl, k1⟩; have H1 : Hid (Below T w w1) := k1; clear k1)
  go_ret
  have hb : Below w.heap.size w w1 := HTT.out ▸ H1.out
  have hn := heap_new w1 (.cells #[.pointer (some ⟨T, 0, none⟩), .int .i64 0] 68)
  refine ⟨w1.heap.size, rfl, ⟨T, ?_, ?_, by rw [World.size_alloc]; omega⟩, hb.alloc hb.size _⟩
  · exact (cell_of_row _ _ 0 _ _ _ hn).trans rfl
  · exact (cell_of_row _ _ 1 _ _ _ hn).trans rfl
theorem smade_c (s : Nat) (w : World) (h : StN w s) : Calls Try.prog 33 #[.pointer (some ⟨s, 0, none⟩)] w fun r w' => r = .returned (.bool true) ∧ w' = w := by
  obtain ⟨T, h1, h2, h3⟩ := h
  clear h2 h3
  go_enter Try.func33, Try.ntmps33
  go_wp2
  go_ret
  exact ⟨rfl, rfl⟩
theorem smade_no (w : World) : Calls Try.prog 33 #[.pointer none] w fun r w' => r = .returned (.bool false) ∧ w' = w := by
  go_enter Try.func33, Try.ntmps33
  go_wp2
  go_ret
  exact ⟨rfl, rfl⟩
theorem seq_c (s : Nat) (w : World) (h : StN w s) : Calls Try.prog 19 #[.pointer (some ⟨s, 0, none⟩)] w fun r w' => r = .returned (.int .i64 0) ∧ w' = w := by
  have HM : Hid _ := smade_c s w h
  obtain ⟨T, h1, h2, h3⟩ := h
  clear h1 h3
  go_enter Try.func19, Try.ntmps19
  go_wp2_with (go_at_call 33; go_must (refine (Calls.mono HM.out ?_)); rintro r wq ⟨rfl, hq⟩; obtain rfl := hq.symm; clear hq)
  go_ret
  exact ⟨rfl, rfl⟩
theorem seq_no (w : World) : Calls Try.prog 19 #[.pointer none] w fun r w' => r = .returned (.int .i64 0) ∧ w' = w := by
  have HM : Hid _ := smade_no w
  go_enter Try.func19, Try.ntmps19
  go_wp2_with (go_at_call 33; go_must (refine (Calls.mono HM.out ?_)); rintro r wq ⟨rfl, hq⟩; obtain rfl := hq.symm; clear hq)
  go_ret
  exact ⟨rfl, rfl⟩
theorem snap_no (w : World) : Calls Try.prog 22 #[.pointer none] w fun r w' => r = .returned (.pointer none) ∧ w' = w := by
  have HM : Hid _ := smade_no w
  go_enter Try.func22, Try.ntmps22
  go_wp2_with (go_at_call 33; go_must (refine (Calls.mono HM.out ?_)); rintro r wq ⟨rfl, hq⟩; obtain rfl := hq.symm; clear hq)
  go_ret
  exact ⟨rfl, rfl⟩
theorem infoSr : (Try.prog.info? 66).map (·.size) = some 1 := by kernel_rfl
set_option maxRecDepth 20000 in
theorem snap_c (s : Nat) (w : World) (h : StN w s) : Calls Try.prog 22 #[.pointer (some ⟨s, 0, none⟩)] w fun r w' => ∃ t, r = .returned (.pointer (some ⟨t, 0, none⟩)) ∧ StN w' t ∧ Below w.heap.size w w' := by
  have HM : Hid _ := smade_c s w h
  obtain ⟨T, h1, h2, h3⟩ := h
  have HKP : Hid (∀ W, Below w.heap.size w W → W.cell? ⟨s, 0, none⟩ = some (.pointer (some ⟨T, 0, none⟩)) ∧ W.cell? ⟨s, 1, none⟩ = some (.int .i64 0)) := fun W hW => ⟨(hW.cell (p := ⟨s, 0, none⟩) h3).trans h1, (hW.cell (p := ⟨s, 1, none⟩) h3).trans h2⟩
  have hSd := HKP.out w.drew (Below.refl _ _).drew
  clear h1 h2 h3
  go_enter Try.func22, Try.ntmps22
  go_wp2_with (go_at_call 33; go_must (refine (Calls.mono HM.out ?_)); rintro r wq ⟨rfl, hq⟩; obtain rfl := hq.symm; clear hq)
  go_region_held3 (fun W => W.cell? ⟨s, 0, none⟩ = some (.pointer (some ⟨T, 0, none⟩)) ∧ W.cell? ⟨s, 1, none⟩ = some (.int .i64 0)) (first | assumption | exact HKP.out _ (((Below.refl _ _).drew).alloc (Nat.le_refl _) _)) (fail)
  all_goals go_wp2
  all_goals go_ret
  all_goals
    have hn := heap_new w.drew (.cells #[.pointer (some ⟨T, 0, none⟩), .int .i64 0] 68)
    refine ⟨w.heap.size, rfl, ⟨T, ?_, ?_, ?_⟩, ((Below.refl _ _).drew).alloc (Nat.le_refl _) _⟩
    · exact (cell_of_row _ _ 0 _ _ _ hn).trans rfl
    · exact (cell_of_row _ _ 1 _ _ _ hn).trans rfl
    · exact (Array.getElem?_eq_some_iff.1 hn).1
/-- A book over such a store, in which nothing is open. -/
def BkN (w : World) (b : Nat) : Prop := ∃ k s t m, w.cell? ⟨b, 0, none⟩ = some (.pointer (some ⟨k, 0, none⟩)) ∧ w.cell? ⟨k, 0, none⟩ = some (.pointer (some ⟨s, 0, none⟩)) ∧ w.cell? ⟨k, 1, none⟩ = some (.pointer (some ⟨t, 0, none⟩)) ∧ w.cell? ⟨k, 3, none⟩ = some (.map (some m)) ∧ StN w s ∧ StN w t ∧ MpS w m (fun _ => none)
theorem vnew_c (s : Nat) (w : World) (h : StN w s) : Calls Try.prog 6 #[.pointer (some ⟨s, 0, none⟩)] w fun r w' => ∃ b, r = .returned (.pointer (some ⟨b, 0, none⟩)) ∧ BkN w' b ∧ Below w.heap.size w w' := by
  have HS : Hid _ := snap_c s w h
  have HO : Hid (∀ W t, StN W t → Calls Try.prog 23 #[.pointer (some ⟨t, 0, none⟩)] W fun r w' => ∃ k m, r = .returned (.pointer (some ⟨k, 0, none⟩)) ∧ w'.cell? ⟨k, 0, none⟩ = some (.pointer (some ⟨t, 0, none⟩)) ∧ w'.cell? ⟨k, 1, none⟩ = some (.pointer (some ⟨t, 0, none⟩)) ∧ w'.cell? ⟨k, 3, none⟩ = some (.map (some m)) ∧ StN w' t ∧ MpS w' m (fun _ => none) ∧ k < w'.heap.size ∧ Below W.heap.size W w') := by
    show ∀ W t, _
    intro W t ht
    have HT : Hid (StN W t) := ht
    have hmk := @run_makeMap Try.prog
    clear ht HS h
    go_enter Try.func23, Try.ntmps23
    go_wp2
    go_ret
    have b1 : Below W.heap.size W (W.alloc (.map #[] 0)) := (Below.refl _ _).alloc (Nat.le_refl _) _
    have hn := heap_new (W.alloc (.map #[] 0)) (.cells #[.pointer (some ⟨t, 0, none⟩), .pointer (some ⟨t, 0, none⟩), .slice none 0 0, .map (some W.heap.size)] 75)
    rw [World.size_alloc] at hn
    have b2 : Below W.heap.size W ((W.alloc (.map #[] 0)).alloc (.cells #[.pointer (some ⟨t, 0, none⟩), .pointer (some ⟨t, 0, none⟩), .slice none 0 0, .map (some W.heap.size)] 75)) := b1.alloc b1.size _
    refine ⟨_, W.heap.size, rfl, (cell_of_row _ _ 0 _ _ _ hn).trans rfl, (cell_of_row _ _ 1 _ _ _ hn).trans rfl, (cell_of_row _ _ 3 _ _ _ hn).trans rfl, HT.out.below b2, ?_, (Array.getElem?_eq_some_iff.1 hn).1, b2⟩
    exact (mps_new W).gr ((Gr.refl (fun _ => False) _).alloc _) (fun z => z)
  clear h
  go_enter Try.func6, Try.ntmps6
  go_wp2_with (first
    | (go_at_call 22; go_must (refine (Calls.mono HS.out ?_)); rintro r w1 ⟨t, rfl, k1, k2⟩; have H1 : Hid (StN w1 t ∧ Below w.heap.size w w1) := ⟨k1, k2⟩; clear k1 k2)
    | (go_at_call 23; go_must (refine (Calls.mono (HO.out w1 t H1.out.1) ?_)); rintro r w2 ⟨k, m, rfl, k1⟩; have H2 : Hid (_) := k1; clear k1))
  go_ret
  obtain ⟨q1, q2, q3, q4, q5, q6, q7⟩ := H2.out
  have b2 : Below w.heap.size w w2 := H1.out.2.trans (q7.mono H1.out.2.size)
  have b3 : Below w2.heap.size w2 (w2.alloc (.cells #[.pointer (some ⟨k, 0, none⟩)] 37)) := (Below.refl _ _).alloc (Nat.le_refl _) _
  have hn := heap_new w2 (.cells #[.pointer (some ⟨k, 0, none⟩)] 37)
  exact ⟨_, rfl, ⟨k, t, t, m, (cell_of_row _ _ 0 _ _ _ hn).trans rfl, (b3.cell (p := ⟨k, 0, none⟩) q6).trans q1, (b3.cell (p := ⟨k, 1, none⟩) q6).trans q2, (b3.cell (p := ⟨k, 3, none⟩) q6).trans q3, q4.below b3, q4.below b3, q5.gr (Gr.ofB (G := fun _ => False) b3) (fun z => z)⟩, b2.alloc b2.size _⟩
theorem vnew_no (w : World) : Calls Try.prog 6 #[.pointer none] w fun r w' => r = .returned (.pointer none) ∧ w' = w := by
  have HS : Hid _ := snap_no w
  go_enter Try.func6, Try.ntmps6
  go_wp2_with (go_at_call 22; go_must (refine (Calls.mono HS.out ?_)); rintro r wq ⟨rfl, hq⟩; obtain rfl := hq.symm; clear hq)
  go_ret
  exact ⟨rfl, rfl⟩
theorem bmade_c (b : Nat) (w : World) (h : BkN w b) : Calls Try.prog 25 #[.pointer (some ⟨b, 0, none⟩)] w fun r w' => r = .returned (.bool true) ∧ w' = w := by
  obtain ⟨k, s, t, m, h1, _⟩ := h
  go_enter Try.func25, Try.ntmps25
  go_wp2
  go_ret
  exact ⟨rfl, rfl⟩
theorem applied_c (b : Nat) (w : World) (h : BkN w b) : Calls Try.prog 16 #[.pointer (some ⟨b, 0, none⟩)] w fun r w' => r = .returned (.int .i64 0) ∧ w' = w := by
  have HM : Hid _ := bmade_c b w h
  obtain ⟨k, s, t, m, h1, h2, h3, h4, h5, h6, h7⟩ := h
  have HS : Hid _ := seq_c s w h5
  clear h3 h4 h5 h6 h7
  go_enter Try.func16, Try.ntmps16
  go_wp2_with (first
    | (go_at_call 25; go_must (refine (Calls.mono HM.out ?_)); rintro r wq ⟨rfl, hq⟩; obtain rfl := hq.symm; clear hq)
    | (go_at_call 19; go_must (refine (Calls.mono HS.out ?_)); rintro r wq ⟨rfl, hq⟩; obtain rfl := hq.symm; clear hq))
  go_ret
  exact ⟨rfl, rfl⟩
theorem committed_c (b : Nat) (w : World) (h : BkN w b) : Calls Try.prog 17 #[.pointer (some ⟨b, 0, none⟩)] w fun r w' => r = .returned (.int .i64 0) ∧ w' = w := by
  have HM : Hid _ := bmade_c b w h
  obtain ⟨k, s, t, m, h1, h2, h3, h4, h5, h6, h7⟩ := h
  have HS : Hid _ := seq_c t w h6
  clear h2 h4 h5 h6 h7
  go_enter Try.func17, Try.ntmps17
  go_wp2_with (first
    | (go_at_call 25; go_must (refine (Calls.mono HM.out ?_)); rintro r wq ⟨rfl, hq⟩; obtain rfl := hq.symm; clear hq)
    | (go_at_call 19; go_must (refine (Calls.mono HS.out ?_)); rintro r wq ⟨rfl, hq⟩; obtain rfl := hq.symm; clear hq))
  go_ret
  exact ⟨rfl, rfl⟩
theorem commit_up (b : Nat) (w : World) (h : BkN w b) : Calls Try.prog 9 #[.pointer (some ⟨b, 0, none⟩), .int .i64 1] w fun r w' => r = .returned (.int .i64 140) ∧ w' = w := by
  have HM : Hid _ := bmade_c b w h
  have HA : Hid _ := applied_c b w h
  clear h
  go_enter Try.func9, Try.ntmps9
  go_wp2_with (first
    | (go_at_call 25; go_must (refine (Calls.mono HM.out ?_)); rintro r wq ⟨rfl, hq⟩; obtain rfl := hq.symm; clear hq)
    | (go_at_call 16; go_must (refine (Calls.mono HA.out ?_)); rintro r wq ⟨rfl, hq⟩; obtain rfl := hq.symm; clear hq))
  go_ret
  exact ⟨rfl, rfl⟩
theorem commit_down (b : Nat) (w : World) (h : BkN w b) : Calls Try.prog 9 #[.pointer (some ⟨b, 0, none⟩), .int .i64 (-1)] w fun r w' => r = .returned (.int .i64 141) ∧ w' = w := by
  have HM : Hid _ := bmade_c b w h
  have HA : Hid _ := applied_c b w h
  have HC : Hid _ := committed_c b w h
  clear h
  go_enter Try.func9, Try.ntmps9
  go_wp2_with (first
    | (go_at_call 25; go_must (refine (Calls.mono HM.out ?_)); rintro r wq ⟨rfl, hq⟩; obtain rfl := hq.symm; clear hq)
    | (go_at_call 17; go_must (refine (Calls.mono HC.out ?_)); rintro r wq ⟨rfl, hq⟩; obtain rfl := hq.symm; clear hq)
    | (go_at_call 16; go_must (refine (Calls.mono HA.out ?_)); rintro r wq ⟨rfl, hq⟩; obtain rfl := hq.symm; clear hq))
  go_ret
  exact ⟨rfl, rfl⟩
theorem clean_c (b : Nat) (key : ByteArray) (w : World) (h : BkN w b) : Calls Try.prog 15 #[.pointer (some ⟨b, 0, none⟩), .string key] w fun r w' => r = .returned (.bool true) ∧ w' = w := by
  have HM : Hid _ := bmade_c b w h
  obtain ⟨k, s, t, m, h1, h2, h3, h4, h5, h6, h7⟩ := h
  have hlk := mps_look (P := Try.prog) Try.underlying73 Try.underlying9 h7 (.int .i64 0) (by kernel_rfl) key false
  rw [if_neg (by simp), Option.getD_none] at hlk
  clear h2 h3 h5 h6 h7
  go_enter Try.func15, Try.ntmps15
  go_wp2_with (go_at_call 25; go_must (refine (Calls.mono HM.out ?_)); rintro r wq ⟨rfl, hq⟩; obtain rfl := hq.symm; clear hq)
  go_ret
  exact ⟨rfl, rfl⟩
end Go.Proofs.Ytalfoenoekcdaaa
