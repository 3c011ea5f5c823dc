/-
  Proved: for each thing that is done hawserlaw12.DiskNone answers true: a disk that no call made answers ErrMade, and tells nothing. No condition but the form's own reach.
-/
import Derived.Test.YtadnececnaciiaaRows
import Derived.Test.YtadnececnaciiaaKAc
import Derived.Test.YtadnececnaciiaaKOp
import Derived.WalkKit
import Derived.ProofKit
import Derived.OpenShut
import Derived.ShutString
import Derived.ChangeOld
import Derived.Below
import Derived.Lib.SmallJoins
import Derived.JoinedCond
import Derived.SizedLaws
namespace Go.Proofs.Ytadnececnaciiaa.diskNone
open Go.ChangeShapes Go.WideShapes Go.ChangeAt Go.RowKit
set_option linter.unusedVariables false

theorem own : ownKnob Try.prog.godebug = none := by kernel_rfl
theorem laidOut : laidOutB Try.prog = true := by kernel_rfl

theorem below_drewN (w : World) (n : Nat) : Below w.heap.size w (w.drewN n) := ⟨rfl, rfl, rfl, Nat.le_refl _, fun _ _ => rfl⟩
theorem infoAct5 : (Try.prog.info? 41).map (·.size) = some 5 := by kernel_rfl
/-- What stays from round to round. -/
structure ST (B S : Nat) (o : Dop) (w wr : World) : Prop where
  o : Bk 43 wr B o.cells.toArray
  z : Und wr (.pointer (some ⟨B + 1, 0, none⟩))
  s : ∃ T, wr.heap[S]? = some (.cells #[.pointer none, .pointer (some ⟨B + 1, 0, none⟩)] T)
  b : Below B w wr
theorem ST.below {B S : Nat} {o : Dop} {w wr w' : World} (h : ST B S o w wr) (hb : Below wr.heap.size wr w') (hB : B ≤ wr.heap.size) : ST B S o w w' := by
  obtain ⟨T, hs⟩ := h.s
  exact ⟨h.o.below hb (lt_of_block h.o), h.z.below hb, ⟨T, (hb.block S (lt_of_block hs)).trans hs⟩, h.b.trans (hb.mono hB)⟩
theorem ST.at_ {B S k : Nat} {o : Dop} {w wr : World} (h : ST B S o w wr) (hk : k < 2) : ∃ q, wr.cell? ⟨S, k, none⟩ = some (.pointer q) ∧ Und wr (.pointer q) := by
  obtain ⟨T, hs⟩ := h.s
  match k, hk with
  | 0, _ => exact ⟨none, by rw [cell_of_row wr S 0 _ _ _ hs]; rfl, .inl rfl⟩
  | 1, _ => exact ⟨_, by rw [cell_of_row wr S 1 _ _ _ hs]; rfl, h.z⟩
set_option maxRecDepth 20000 in
set_option maxHeartbeats 4000000 in
theorem walk (o : Dop) (w : World) (hok : o.ok) (hl : o.d.size ≤ 140737488351232) :
    Calls Try.prog 6 #[.agg o.cells.toArray] w fun e w' => e = .returned (.bool true) ∧ Below w.heap.size w w' := by
  obtain ⟨k, s, t, d, z, kd, n⟩ := o
  have HL : Hid (d.size ≤ 140737488351232) := hl
  clear hl hok
  unfold Dop.cells
  have HN : Hid (∀ W, Calls Try.prog 10 #[.int .i64 1, .slice none 0 0] W fun r w' => ∃ g, r = .returned (.tuple #[.pointer (some ⟨g, 0, none⟩), .int .i64 0]) ∧ Below W.heap.size W w') := fun W => (new0_c 1 W (by decide) (by decide)).mono fun r w' ⟨g, s, l, h1, h2, h3, h4, h5, h6, h7, h8, h9⟩ => ⟨g, h1, gbK_below h9⟩
  go_enter Try.func6, Try.ntmps6
  go_wp2_with fail
  generalize hW1 : World.alloc (World.alloc w _) _ = W1
  have H1 : Hid (Bk 43 W1 w.heap.size (Dop.cells ⟨k, s, t, d, z, kd, n⟩).toArray ∧ Und W1 (.pointer (some ⟨w.heap.size + 1, 0, none⟩)) ∧ Below w.heap.size w W1 ∧ w.heap.size + 2 ≤ W1.heap.size) := by
    rw [← hW1]
    have b1 := blk_new w 43 (Dop.cells ⟨k, s, t, d, z, kd, n⟩).toArray
    refine ⟨b1.1.grew (World.grownBy_alloc _ _ none) (by simp), .inr ⟨_, rfl, ?_⟩, ((Below.refl _ _).alloc (Nat.le_refl _) _).alloc (by simp) _, by simp⟩
    rw [show w.heap.size + 1 = (w.alloc (.cells (Dop.cells ⟨k, s, t, d, z, kd, n⟩).toArray 43)).heap.size from (World.size_alloc _ _).symm]
    exact World.cell?_alloc_new _ _ _ _
  clear hW1
  go_wp2_with (go_at_call 10; go_must (refine (Calls.mono (HN.out _) ?_)); rintro r w2 ⟨g, rfl, k1⟩; have H2 : Hid (Below W1.heap.size W1 w2) := k1; clear k1)
  have H3 : Hid (ST w.heap.size w2.heap.size ⟨k, s, t, d, z, kd, n⟩ w (w2.alloc (.cells #[.pointer none, .pointer (some ⟨w.heap.size + 1, 0, none⟩)] 24)) ∧ w.heap.size ≤ (w2.alloc (.cells #[.pointer none, .pointer (some ⟨w.heap.size + 1, 0, none⟩)] 24)).heap.size) := by
    have hs := H2.out.size
    have h2 := H1.out.2.2.2
    refine ⟨⟨?_, ?_, ⟨_, heap_alloc_new _ _⟩, ?_⟩, by rw [World.size_alloc]; omega⟩
    · exact (H1.out.1.below H2.out (lt_of_block H1.out.1)).grew (World.grownBy_alloc _ _ none) (by simp)
    · exact (H1.out.2.1.below H2.out).below ((Below.refl _ _).alloc (Nat.le_refl _) _)
    · exact (H1.out.2.2.1.trans (H2.out.mono (by omega))).alloc (by omega) _
  generalize hW3 : w2.alloc _ = W3 at H3 ⊢
  generalize w2.heap.size = S at H3 ⊢
  clear hW3 H2 H1 HN
  have HA : Hid (∀ W q, Und W (.pointer q) → Calls Try.prog 16 #[.pointer q, .agg #[.int .i64 k, .string s, .string t, .string d, .int .i64 z]] W fun r w' => r = .returned (.tuple #[.int .i64 2, .bool true]) ∧ Below W.heap.size W w') := fun W q h => act_no _ k s t d z W h HL.out
  go_loopw [22] (fun i wr => ∃ j : Nat, j ≤ 2 ∧ i = .int .i64 j ∧ Hid (ST w.heap.size S ⟨k, s, t, d, z, kd, n⟩ w wr ∧ w.heap.size ≤ wr.heap.size)) (fun i _ => 2 - (intOf i).toNat)
  case atStart => exact ⟨0, Nat.zero_le _, rfl, ⟨H3.out.1, H3.out.2⟩⟩
  case round =>
    obtain ⟨j, hj, rfl, HI⟩ := hrel
    clear H3
    by_cases hlt : j < 2
    · obtain ⟨q, hcq, huq⟩ := HI.out.1.at_ hlt
      have HQ : Hid (Und wr (.pointer q)) := huq
      have hj1 : (j : Int) < 2 := by omega
      have c0 : wr.cell? ⟨w.heap.size, 0, none⟩ = some (.int .i64 k) := Bk.cell HI.out.1.o 0
      have c1 : wr.cell? ⟨w.heap.size, 1, none⟩ = some (.string s) := Bk.cell HI.out.1.o 1
      have c6 : wr.cell? ⟨w.heap.size, 6, none⟩ = some (.int .i64 n) := Bk.cell HI.out.1.o 6
      clear huq
      by_cases hk : 1 ≤ k ∧ k ≤ 6
      · obtain ⟨hk1, hk2⟩ := hk
        have hrg : Hid (wr.rangeAt w.heap.size 0 [.int .i64 k, .string s, .string t, .string d, .int .i64 z]) := fun i v hv => by
          have := Bk.cell HI.out.1.o i
          rw [Nat.zero_add]
          rw [this]
          match i, hv with
          | 0, hv => exact hv
          | 1, hv => exact hv
          | 2, hv => exact hv
          | 3, hv => exact hv
          | 4, hv => exact hv
        have d1 : (1 : Int) ≤ k := hk1
        have d2 : k ≤ 6 := hk2
        go_wp2_with (first
          | ((fail_if_success (have z := H5)); go_at_call 16; go_must (refine (Calls.mono (HA.out _ _ HQ.out) ?_)); rintro r w5 ⟨rfl, k1⟩; have H5 : Hid (Und w5 (.pointer q) ∧ ST w.heap.size S ⟨k, s, t, d, z, kd, n⟩ w w5 ∧ w.heap.size ≤ w5.heap.size) := ⟨HQ.out.below k1, HI.out.1.below k1 HI.out.2, Nat.le_trans HI.out.2 k1.size⟩; have e1 : w5.cell? ⟨w.heap.size, 1, none⟩ = some (.string s) := Bk.cell H5.out.2.1.o 1; have e6 : w5.cell? ⟨w.heap.size, 6, none⟩ = some (.int .i64 n) := Bk.cell H5.out.2.1.o 6; clear k1)
          | (refine wpList_load_mid rfl 41 (.tmp 38) rfl w.heap.size 0 rfl _ _ hrg.out Try.underlying41 rfl infoAct5 ?_)
          | ((fail_if_success (have z := H6)); have zz := H5; clear zz; go_at_call 17; go_must (refine (Calls.mono (dfail_no _ n _ H5.out.1) ?_)); rintro r wq ⟨rfl, hq⟩; obtain rfl := hq.symm; clear hq)
          | ((fail_if_success (have z := H6)); have zz := H5; clear zz; go_at_call 18; go_must (refine (Calls.mono (crash_no _ n _ H5.out.1) ?_)); rintro r wq ⟨rfl, hq⟩; obtain rfl := hq.symm; clear hq)
          | ((fail_if_success (have z := H6)); have zz := H5; clear zz; go_at_call 19; go_must (refine (Calls.mono (start_no _ _ H5.out.1) ?_)); rintro r wq ⟨rfl, hq⟩; obtain rfl := hq.symm; clear hq)
          | ((fail_if_success (have z := H6)); have zz := H5; clear zz; go_at_call 20; go_must (refine (Calls.mono (read_no _ s _ H5.out.1) ?_)); rintro r w6 ⟨rfl, k1⟩; have H6 : Hid (Und w6 (.pointer q) ∧ ST w.heap.size S ⟨k, s, t, d, z, kd, n⟩ w w6 ∧ w.heap.size ≤ w6.heap.size) := ⟨H5.out.1.below k1, H5.out.2.1.below k1 H5.out.2.2, Nat.le_trans H5.out.2.2 k1.size⟩; have f1 : w6.cell? ⟨w.heap.size, 1, none⟩ = some (.string s) := Bk.cell H6.out.2.1.o 1; clear k1)
          | ((fail_if_success (have z := H7)); have zz := H6; clear zz; go_at_call 21; go_must (refine (Calls.mono (size_no _ s _ H6.out.1) ?_)); rintro r w7 ⟨rfl, k1⟩; have H7 : Hid (Und w7 (.pointer q) ∧ ST w.heap.size S ⟨k, s, t, d, z, kd, n⟩ w w7 ∧ w.heap.size ≤ w7.heap.size) := ⟨H6.out.1.below k1, H6.out.2.1.below k1 H6.out.2.2, Nat.le_trans H6.out.2.2 k1.size⟩; have g6 : w7.cell? ⟨w.heap.size, 6, none⟩ = some (.int .i64 n) := Bk.cell H7.out.2.1.o 6; clear k1)
          | (go_at_call 9; go_must (refine (Calls.mono (num_c _ _) ?_)); rintro r wq ⟨rfl, hq⟩; obtain rfl := hq.symm; clear hq)
          | (have zz := H7; clear zz; go_at_call 22; go_must (refine (Calls.mono (down_no _ _ H7.out.1) ?_)); rintro r wq ⟨rfl, hq⟩; obtain rfl := hq.symm; clear hq))
        go_quiet (first | (go_at_call 23; refine Calls.quiet_of_same (names_no _ _ (H7.out.1.below (below_drewN _ _)))) | (go_at_call 24; refine Calls.quiet_of_same (files_no _ _ (H7.out.1.below (below_drewN _ _)))) | (go_at_call 25; refine Calls.quiet_of_same (left_no _ n _ (H7.out.1.below (below_drewN _ _)))) | (go_at_call 12; refine Calls.quiet_of_same (free_no _ _ (H7.out.1.below (below_drewN _ _)))) | (go_at_call 26; refine Calls.quiet_of_same (acts_no _ _ (H7.out.1.below (below_drewN _ _)))) | (go_at_call 27; refine Calls.quiet_of_same (pending_no _ _ (H7.out.1.below (below_drewN _ _)))))
        go_wp2
        go_roundw
        case rel => exact ⟨j + 1, by omega, by go_num, ⟨H7.out.2.1.below (below_drewN _ _) H7.out.2.2, H7.out.2.2⟩⟩
        case measure => simp [intOf]; omega
      · rcases Int.lt_or_le k 1 with hk1 | hk1
        · have d1 : ¬ (1 : Int) ≤ k := by omega
          have H5 : Hid (Und wr (.pointer q) ∧ ST w.heap.size S ⟨k, s, t, d, z, kd, n⟩ w wr ∧ w.heap.size ≤ wr.heap.size) := ⟨HQ.out, HI.out.1, HI.out.2⟩
          go_wp2_with (first
            | ((fail_if_success (have z := H6)); have zz := H5; clear zz; go_at_call 17; go_must (refine (Calls.mono (dfail_no _ n _ H5.out.1) ?_)); rintro r wq ⟨rfl, hq⟩; obtain rfl := hq.symm; clear hq)
            | ((fail_if_success (have z := H6)); have zz := H5; clear zz; go_at_call 18; go_must (refine (Calls.mono (crash_no _ n _ H5.out.1) ?_)); rintro r wq ⟨rfl, hq⟩; obtain rfl := hq.symm; clear hq)
            | ((fail_if_success (have z := H6)); have zz := H5; clear zz; go_at_call 19; go_must (refine (Calls.mono (start_no _ _ H5.out.1) ?_)); rintro r wq ⟨rfl, hq⟩; obtain rfl := hq.symm; clear hq)
            | ((fail_if_success (have z := H6)); have zz := H5; clear zz; go_at_call 20; go_must (refine (Calls.mono (read_no _ s _ H5.out.1) ?_)); rintro r w6 ⟨rfl, k1⟩; have H6 : Hid (Und w6 (.pointer q) ∧ ST w.heap.size S ⟨k, s, t, d, z, kd, n⟩ w w6 ∧ w.heap.size ≤ w6.heap.size) := ⟨H5.out.1.below k1, H5.out.2.1.below k1 H5.out.2.2, Nat.le_trans H5.out.2.2 k1.size⟩; have f1 : w6.cell? ⟨w.heap.size, 1, none⟩ = some (.string s) := Bk.cell H6.out.2.1.o 1; clear k1)
            | ((fail_if_success (have z := H7)); have zz := H6; clear zz; go_at_call 21; go_must (refine (Calls.mono (size_no _ s _ H6.out.1) ?_)); rintro r w7 ⟨rfl, k1⟩; have H7 : Hid (Und w7 (.pointer q) ∧ ST w.heap.size S ⟨k, s, t, d, z, kd, n⟩ w w7 ∧ w.heap.size ≤ w7.heap.size) := ⟨H6.out.1.below k1, H6.out.2.1.below k1 H6.out.2.2, Nat.le_trans H6.out.2.2 k1.size⟩; have g6 : w7.cell? ⟨w.heap.size, 6, none⟩ = some (.int .i64 n) := Bk.cell H7.out.2.1.o 6; clear k1)
            | (go_at_call 9; go_must (refine (Calls.mono (num_c _ _) ?_)); rintro r wq ⟨rfl, hq⟩; obtain rfl := hq.symm; clear hq)
            | (have zz := H7; clear zz; go_at_call 22; go_must (refine (Calls.mono (down_no _ _ H7.out.1) ?_)); rintro r wq ⟨rfl, hq⟩; obtain rfl := hq.symm; clear hq))
          go_quiet (first | (go_at_call 23; refine Calls.quiet_of_same (names_no _ _ (H7.out.1.below (below_drewN _ _)))) | (go_at_call 24; refine Calls.quiet_of_same (files_no _ _ (H7.out.1.below (below_drewN _ _)))) | (go_at_call 25; refine Calls.quiet_of_same (left_no _ n _ (H7.out.1.below (below_drewN _ _)))) | (go_at_call 12; refine Calls.quiet_of_same (free_no _ _ (H7.out.1.below (below_drewN _ _)))) | (go_at_call 26; refine Calls.quiet_of_same (acts_no _ _ (H7.out.1.below (below_drewN _ _)))) | (go_at_call 27; refine Calls.quiet_of_same (pending_no _ _ (H7.out.1.below (below_drewN _ _)))))
          go_wp2
          go_roundw
          case rel => exact ⟨j + 1, by omega, by go_num, ⟨H7.out.2.1.below (below_drewN _ _) H7.out.2.2, H7.out.2.2⟩⟩
          case measure => simp [intOf]; omega
        · have d1 : (1 : Int) ≤ k := hk1
          have d2 : ¬ k ≤ 6 := by omega
          have H5 : Hid (Und wr (.pointer q) ∧ ST w.heap.size S ⟨k, s, t, d, z, kd, n⟩ w wr ∧ w.heap.size ≤ wr.heap.size) := ⟨HQ.out, HI.out.1, HI.out.2⟩
          go_wp2_with (first
            | ((fail_if_success (have z := H6)); have zz := H5; clear zz; go_at_call 17; go_must (refine (Calls.mono (dfail_no _ n _ H5.out.1) ?_)); rintro r wq ⟨rfl, hq⟩; obtain rfl := hq.symm; clear hq)
            | ((fail_if_success (have z := H6)); have zz := H5; clear zz; go_at_call 18; go_must (refine (Calls.mono (crash_no _ n _ H5.out.1) ?_)); rintro r wq ⟨rfl, hq⟩; obtain rfl := hq.symm; clear hq)
            | ((fail_if_success (have z := H6)); have zz := H5; clear zz; go_at_call 19; go_must (refine (Calls.mono (start_no _ _ H5.out.1) ?_)); rintro r wq ⟨rfl, hq⟩; obtain rfl := hq.symm; clear hq)
            | ((fail_if_success (have z := H6)); have zz := H5; clear zz; go_at_call 20; go_must (refine (Calls.mono (read_no _ s _ H5.out.1) ?_)); rintro r w6 ⟨rfl, k1⟩; have H6 : Hid (Und w6 (.pointer q) ∧ ST w.heap.size S ⟨k, s, t, d, z, kd, n⟩ w w6 ∧ w.heap.size ≤ w6.heap.size) := ⟨H5.out.1.below k1, H5.out.2.1.below k1 H5.out.2.2, Nat.le_trans H5.out.2.2 k1.size⟩; have f1 : w6.cell? ⟨w.heap.size, 1, none⟩ = some (.string s) := Bk.cell H6.out.2.1.o 1; clear k1)
            | ((fail_if_success (have z := H7)); have zz := H6; clear zz; go_at_call 21; go_must (refine (Calls.mono (size_no _ s _ H6.out.1) ?_)); rintro r w7 ⟨rfl, k1⟩; have H7 : Hid (Und w7 (.pointer q) ∧ ST w.heap.size S ⟨k, s, t, d, z, kd, n⟩ w w7 ∧ w.heap.size ≤ w7.heap.size) := ⟨H6.out.1.below k1, H6.out.2.1.below k1 H6.out.2.2, Nat.le_trans H6.out.2.2 k1.size⟩; have g6 : w7.cell? ⟨w.heap.size, 6, none⟩ = some (.int .i64 n) := Bk.cell H7.out.2.1.o 6; clear k1)
            | (go_at_call 9; go_must (refine (Calls.mono (num_c _ _) ?_)); rintro r wq ⟨rfl, hq⟩; obtain rfl := hq.symm; clear hq)
            | (have zz := H7; clear zz; go_at_call 22; go_must (refine (Calls.mono (down_no _ _ H7.out.1) ?_)); rintro r wq ⟨rfl, hq⟩; obtain rfl := hq.symm; clear hq))
          go_quiet (first | (go_at_call 23; refine Calls.quiet_of_same (names_no _ _ (H7.out.1.below (below_drewN _ _)))) | (go_at_call 24; refine Calls.quiet_of_same (files_no _ _ (H7.out.1.below (below_drewN _ _)))) | (go_at_call 25; refine Calls.quiet_of_same (left_no _ n _ (H7.out.1.below (below_drewN _ _)))) | (go_at_call 12; refine Calls.quiet_of_same (free_no _ _ (H7.out.1.below (below_drewN _ _)))) | (go_at_call 26; refine Calls.quiet_of_same (acts_no _ _ (H7.out.1.below (below_drewN _ _)))) | (go_at_call 27; refine Calls.quiet_of_same (pending_no _ _ (H7.out.1.below (below_drewN _ _)))))
          go_wp2
          go_roundw
          case rel => exact ⟨j + 1, by omega, by go_num, ⟨H7.out.2.1.below (below_drewN _ _) H7.out.2.2, H7.out.2.2⟩⟩
          case measure => simp [intOf]; omega
    · obtain rfl : j = 2 := by omega
      go_wp2_with (go_at_call 9; go_must (refine (Calls.mono (num_c _ _) ?_)); rintro r wq ⟨rfl, hq⟩; obtain rfl := hq.symm; clear hq)
      go_ret
      exact ⟨rfl, HI.out.1.b⟩

set_option maxRecDepth 100000 in
theorem lifted (os : Os) (started : os.Started) (H : Type) (enc : TypeId × Value → H) :
    ReturnsInHanded {} Try.checked os 6 .any (Rows.diskNoneSpec.pre6 enc Try.prog Try.f6 Rows.diskNoneRow.domain false) (Rows.diskNoneSpec.post enc Try.prog Try.f6 false true false false) := by
  refine returnsInHanded_of_change_sized (C := Try.checked) own started (by kernel_rfl) Try.func6
    (ChangeSpec.witness6 (enc := enc) (C := Try.checked) false ⟨#[], #[.agg #[.int .i64 0, .string .empty, .string .empty, .string .empty, .int .i64 0, .int .i64 0, .int .i64 0]], []⟩ 8 (by kernel_rfl) (by kernel_rfl) (by kernel_rfl) (by kernel_rfl)) ?_
  intro W base args ds gs before hval0 hW hcnd hsz0 _
  have hsz : (DataW.weightsEach Try.prog (Try.f6.params.toList ++ Rows.diskNoneSpec.plain.varTypes Try.prog) (ds ++ gs)).all (· ≤ reachBytes) = true := hsz0
  have hval : ∀ (j : Nat) t v, Try.f6.params[j]? = some t → args[j]? = some v → Value.okWide Try.prog W .any base t v := hval0
  have hW' := hW
  obtain ⟨p, q, hA0, hV, rfl, hfz, hnd⟩ := hW
  have hA : DataW.TrodAll enc Try.prog W 0 (fun _ => true) true Try.f6.params.toList args.toList ds p := hA0
  rw [Try.params6] at hA hval hsz
  obtain ⟨v0, vs0, d0, ds0, p0, q0, hargs, rfl, rfl, h0, r0⟩ := trodAll_cons hA
  obtain ⟨rfl, rfl, rfl⟩ := trodAll_nil r0
  obtain rfl : args = #[v0] := by cases args; simp_all
  obtain ⟨rfl, rfl⟩ := trodVars_none hV
  have k0 := h0
  have lt0 : ∀ x ∈ p0, x.block < W.heap.size := by obtain ⟨m, hm⟩ := k0; exact DataW.trod_lt m _ _ _ hm
  obtain ⟨o0, rfl, ok0, a00, a10, a20, a40, b10, b20, hd0⟩ := dop_came (hval 0 43 v0 rfl rfl) h0
  have y0 : o0.d.size ≤ 140737488351232 := by
    have hb := List.all_eq_true.1 hsz _ (DataW.weights_mem_each (j := 0) (t := 43) (ts := Try.f6.params.toList ++ Rows.diskNoneSpec.plain.varTypes Try.prog) rfl rfl o0.d.data.toList.length (by rw [hd0]; simp [DataW.weights, DataW.weightsEach, Try.underlying43, Try.underlying41]))
    have hb2 : o0.d.data.toList.length ≤ reachBytes := of_decide_eq_true hb
    simpa [reachBytes] using hb2
  clear hA0 hval0
  refine (walk o0 W ok0 y0).mono fun e W' ⟨he, bel⟩ => ?_
  subst he
  exact ⟨_, rfl, _, _, _, [], _, [], hW', trodAll_mk1 (shut_bool Try.underlying4 _), (trodAll_cons_mk (Below.trod laidOut (by kernel_rfl) (of_decide_eq_true (by kernel_rfl)) k0 bel lt0) trodAll_mk0), rfl, bel.frame _, fun h => by cases h⟩

theorem over : Rows.diskNoneRow.holds Try.pinned (OpenSpec.ofChange Rows.diskNoneSpec) :=
  OpenClaim.holds_of_wide 6 Try.f6 rfl rfl rfl rfl rfl rfl rfl ⟨rfl, rfl, rfl, rfl, rfl⟩ rfl rfl rfl rfl rfl (by kernel_rfl) Try.func6 (by kernel_rfl)
    (of_decide_eq_true (by kernel_rfl)) (by unfold Func.isWrapper; first | (rw [if_pos (by decide +kernel)]; kernel_rfl) | (rw [if_neg (by decide +kernel)]; exact ⟨rfl, rfl⟩))
    (fun os started H enc _ => lifted os started H enc)

end Go.Proofs.Ytadnececnaciiaa.diskNone
namespace Go.Proofs.Ytadnececnaciiaa
theorem diskNone_holds : Rows.DiskNoneSaid := diskNone.over
#print axioms diskNone_holds
end Go.Proofs.Ytadnececnaciiaa
