/-
  Proved: for every list of bytes and every two numbers hawserlaw03.PackRoom answers true: no text is longer than the bytes that were there, and no count more than these account for. No condition but the form's own reach.
-/
import Derived.Test.YtjanndpcpdbcbabRows
import Derived.Test.YtjanndpcpdbcbabPNew
import Derived.Test.YtjanndpcpdbcbabPText
import Derived.Test.YtjanndpcpdbcbabPFl
import Derived.WalkKit
import Derived.ProofKit
import Derived.OpenShut
import Derived.ShutString
import Derived.ChangeOld
import Derived.Below
import Derived.Lib.SmallJoins
import Derived.JoinedCond
import Derived.SizedLaws
namespace Go.Proofs.Ytjanndpcpdbcbab.packRoom
open Go.ChangeShapes Go.WideShapes Go.ChangeAt Go.RowKit
set_option linter.unusedVariables false

theorem own : ownKnob Try.prog.godebug = none := by kernel_rfl
theorem laidOut : laidOutB Try.prog = true := by kernel_rfl

/-- What the walk is told of a slice of integers that came in. -/
def IsRow (k : IntKind) (R : Nat) (w : World) (a : Option Addr) (len cap : Nat) (zs : List Int) : Prop :=
  (a = none ∧ len = 0 ∧ cap = 0 ∧ zs = []) ∨
  ∃ x, a = some x ∧ len ≤ cap ∧ cap ≤ R ∧ zs.length = cap ∧ (∀ i, i < zs.length → w.cell? (x.add i) = some (.int k (zs.getD i 0))) ∧ ∀ n ∈ zs, (Lit.int k n).wf = true

theorem rc_lit : rc [2, 1, 2, 3, 4, 5, 6, 7, 8] 0 100 4 = (2, 1, 0) := by decide +kernel
theorem rc_lit2 : (rc [2, 1, 2, 3, 4, 5, 6, 7] 0 100 4).1 = 0 := by decide +kernel
theorem bytes9 : Bytes [2, 1, 2, 3, 4, 5, 6, 7, 8] := by
  have : ∀ i, i < 9 → 0 ≤ ([2, 1, 2, 3, 4, 5, 6, 7, 8] : List Int)[i]?.getD 0 ∧ ([2, 1, 2, 3, 4, 5, 6, 7, 8] : List Int)[i]?.getD 0 < 256 := by decide
  exact this
theorem bytes8 : Bytes [2, 1, 2, 3, 4, 5, 6, 7] := by
  have : ∀ i, i < 8 → 0 ≤ ([2, 1, 2, 3, 4, 5, 6, 7] : List Int)[i]?.getD 0 ∧ ([2, 1, 2, 3, 4, 5, 6, 7] : List Int)[i]?.getD 0 < 256 := by decide
  exact this

theorem rc_bd {xs : List Int} (hx : Bytes xs) (p : Nat) (hp : p ≤ xs.length) (most least : Int) : 0 ≤ (rc xs p most least).1 ∧ (rc xs p most least).2.1 ≤ xs.length ∧
    (0 < (rc xs p most least).1 → (rc xs p most least).1 ≤ most ∧ 0 ≤ least ∧ (0 < least → (rc xs p most least).1 ≤ ((xs.length - (rc xs p most least).2.1 : Nat) : Int) / least)) := by
  have h1 := ri_bd hx p hp most
  unfold rc
  split
  · exact ⟨Int.le_refl _, hp, fun h => absurd h (by simp)⟩
  · split
    · exact ⟨Int.le_refl _, hp, fun h => absurd h (by simp)⟩
    · split
      · exact ⟨Int.le_refl _, hp, fun h => absurd h (by simp)⟩
      · refine ⟨h1.1, h1.2.2.2.1, fun h => ⟨by simp only at h ⊢; omega, by omega, fun hl => ?_⟩⟩
        simp only at h ⊢
        omega

set_option maxRecDepth 20000 in
set_option maxHeartbeats 1000000 in
theorem walk (a0 : Option Addr) (len0 cap0 : Nat) (z0 : List Int) (most least : Int) (w : World) (w0 : IsRow .u8 140737488351232 w a0 len0 cap0 z0) (wm : (Lit.int .i64 most).wf = true) (wl : (Lit.int .i64 least).wf = true) :
    Calls Try.prog 7 #[.slice a0 len0 cap0, .int .i64 most, .int .i64 least] w fun e w' => e = .returned (.bool true) ∧ Below w.heap.size w w' := by
  obtain ⟨hs, hlc, hR, hwf⟩ := seg_of_row w0
  have hnz : a0 = none → cap0 = 0 := by
    intro h
    rcases w0 with ⟨_, _, h, _⟩ | ⟨x, hx, _⟩
    · exact h
    · rw [h] at hx; cases hx
  have b1 := bounds_i64 wm
  have b2 := bounds_i64 wl
  obtain ⟨xs, hxs⟩ : ∃ xs, xs = z0.take len0 := ⟨_, rfl⟩
  rw [← hxs] at hs hwf
  have hx : Bytes xs := fun i hi => wf_u8 (hwf i hi)
  have HX : Hid (Bytes xs) := hx
  have HS : Hid (Seg .u8 w a0 len0 xs) := hs
  have HN : Hid (a0 = none → cap0 = 0) := hnz
  have HL : Hid (len0 ≤ 140737488355328) := by show _ ≤ _; omega
  have HB1 : Hid (most ≤ 9223372036854775807) := by show _ ≤ _; omega
  have HB2 : Hid (least ≤ 9223372036854775807) := by show _ ≤ _; omega
  clear hxs hwf w0 hx hs hnz wm wl b1 b2 hlc hR
  go_enter Try.func7, Try.ntmps7
  go_wp2_with fail
  refine (new_c a0 len0 cap0 xs w HS.out HX.out HL.out HN.out).mono ?_
  rintro e w1 ⟨g1, a1, c1, rfl, hr1, hg1, ha1, hgr1⟩
  have H1 : Hid (RS w1 g1 a1 len0 c1 xs 0 0 ∧ w.heap.size ≤ g1 ∧ Below w.heap.size w w1) := ⟨hr1, hg1, (Below.refl _ _).grown hgr1 (Nat.le_refl _) (fun k hk => by cases hk)⟩
  have HS1 : Hid (Seg .u8 w1 a0 len0 xs) := HS.out.below H1.out.2.2
  clear hr1 hg1 hgr1 ha1
  go_wp2_with fail
  refine (new_c a0 len0 cap0 xs w1 HS1.out HX.out HL.out HN.out).mono ?_
  rintro e w2 ⟨g2, a2, c2, rfl, hr2, hg2, ha2, hgr2⟩
  have H2 : Hid (RS w2 g1 a1 len0 c1 xs 0 0 ∧ RS w2 g2 a2 len0 c2 xs 0 0 ∧ w.heap.size ≤ g1 ∧ w.heap.size ≤ g2 ∧ g1 ≠ g2 ∧ Off a2 g1 ∧ Below w.heap.size w w2) :=
    ⟨H1.out.1.new hgr2, hr2, H1.out.2.1, Nat.le_trans H1.out.2.2.size hg2, (by have := lt_of_block H1.out.1.rdr; omega), (fun b o s h => by have := lt_of_block H1.out.1.rdr; have := ha2 b o s h; omega), H1.out.2.2.grown hgr2 H1.out.2.2.size (fun k hk => by cases hk)⟩
  clear hr2 hg2 hgr2 ha2
  have HTL : Hid ((rt xs 0 most).1.length ≤ len0) := by
    have := (rt_bd HX.out 0 (Nat.zero_le _) most).2.2.1
    rw [HS.out.1] at this; exact this
  obtain ⟨T, hT⟩ : ∃ T, T = (rt xs 0 most).1 := ⟨_, rfl⟩
  have HTT : Hid (T.length ≤ len0) := by rw [hT]; exact HTL.out
  have HTX : Hid (Calls Try.prog 25 #[.pointer (some ⟨g1, 0, none⟩), .int .i64 most] w2 fun r w' => r = .returned (.string (strOfNums T)) ∧ w2.grownBy w' (some g1)) := by
    rw [hT]
    exact (text_ok g1 a1 len0 c1 xs 0 most w2 H2.out.1 HB1.out).mono (fun _ _ ⟨h1, _, h3⟩ => ⟨h1, h3⟩)
  clear hT HTL
  have hsz := strOfNums_size T
  have hd1 : decide (len0 < T.length) = false := by have := HTT.out; simp; omega
  have hd2 : ¬ ((len0 : Int) < (T.length : Int)) := by have := HTT.out; omega
  go_wp2_with fail
  refine HTX.out.mono ?_
  rintro e w3 ⟨rfl, hgr3⟩
  have H3 : Hid (RS w3 g2 a2 len0 c2 xs 0 0 ∧ w.heap.size ≤ g2 ∧ Below w.heap.size w w3) :=
    ⟨H2.out.2.1.other hgr3 (by intro h; exact H2.out.2.2.2.2.1 (Option.some.inj h)) (fun k hk => by cases hk; exact H2.out.2.2.2.2.2.1), H2.out.2.2.2.1, H2.out.2.2.2.2.2.2.grown hgr3 H2.out.2.2.2.2.2.2.size (fun k hk => by cases hk; exact H2.out.2.2.1)⟩
  clear hgr3
  have hrc := rc_bd HX.out 0 (Nat.zero_le _) most least
  rw [HS.out.1] at hrc
  have HCC : Hid (Calls Try.prog 26 #[.pointer (some ⟨g2, 0, none⟩), .int .i64 most, .int .i64 least] w3 fun r w' => r = .returned (.int .i64 (rc xs 0 most least).1) ∧ RS w' g2 a2 len0 c2 xs (rc xs 0 most least).2.2 (rc xs 0 most least).2.1 ∧ w3.grownBy w' (some g2)) := count_ok g2 a2 len0 c2 xs 0 most least w3 H3.out.1 HB1.out HB2.out
  obtain ⟨V, q, E, hV⟩ : ∃ V q E, rc xs 0 most least = (V, q, E) := ⟨_, _, _, rfl⟩
  rw [hV] at hrc HCC
  simp only at hrc HCC
  clear hV
  go_wp2_with fail
  refine HCC.out.mono ?_
  rintro e w4 ⟨rfl, hr4, hgr4⟩
  have H4 : Hid (RS w4 g2 a2 len0 c2 xs E q ∧ w.heap.size ≤ g2 ∧ Below w.heap.size w w4) :=
    ⟨hr4, H3.out.2.1, H3.out.2.2.grown hgr4 H3.out.2.2.size (fun k hk => by cases hk; exact H3.out.2.1)⟩
  clear hr4 hgr4 HCC HTX hsz hd1 hd2
  obtain ⟨hV0, hq, hrest⟩ := hrc
  by_cases hV1 : 0 < V
  · obtain ⟨hm, hl, hdv⟩ := hrest hV1
    by_cases hl0 : 0 < least
    · have hdv := hdv hl0
      obtain ⟨L, hL⟩ : ∃ L, L = len0 - q := ⟨_, rfl⟩
      rw [← hL] at hdv
      have HLL : Hid (∀ w, RS w g2 a2 len0 c2 xs E q → Calls Try.prog 27 #[.pointer (some ⟨g2, 0, none⟩)] w fun r w' => r = .returned (.int .i64 (L : Int)) ∧ RS w' g2 a2 len0 c2 xs E q ∧ w.grownBy w' (some g2)) := by rw [hL]; exact fun w h => left_r g2 a2 len0 c2 xs E q w h
      have hLm : L ≤ 140737488355328 := by have := HL.out; omega
      clear hL hq hrest
      have hDb : 0 ≤ (L : Int) / least ∧ (L : Int) / least ≤ L := ⟨Int.ediv_nonneg (by omega) hl, Int.ediv_le_self _ (by omega)⟩
      have htd : (L : Int).tdiv least = (L : Int) / least := Int.tdiv_eq_ediv_of_nonneg (by omega)
      obtain ⟨D, hD⟩ : ∃ D, D = (L : Int) / least := ⟨_, rfl⟩
      rw [← hD] at hdv hDb htd
      have hw1 : wrap64 ((L : Int) / least) = D := by rw [← hD]; exact IntWalk.wrap64_in _ ⟨by omega, by omega⟩
      have hw4 : IntKind.i64.wrap D = D := by rw [IntKind.wrap_i64]; omega
      have hne : (least == 0) = false := by simp; omega
      have hn0 : least ≠ 0 := by omega
      have hd3 : decide (V < 0) = false := by simp; omega
      have hd4 : decide (most < V) = false := by simp; omega
      have hd5 : decide (least < 0) = false := by simp; omega
      have hd6 : decide (D < V) = false := by simp; omega
      clear hD hDb hV0 hm hdv
      go_wp2_with fail
      refine (HLL.out _ H4.out.1).mono ?_
      rintro e w5 ⟨rfl, _, hgr5⟩
      have HBW : Hid (Below w.heap.size w w5) := H4.out.2.2.grown hgr5 H4.out.2.2.size (fun k hk => by cases hk; exact H4.out.2.1)
      clear hgr5 HLL
      go_wp2_with fail
      refine (new_c _ 9 9 [2, 1, 2, 3, 4, 5, 6, 7, 8] _ ?_ bytes9 (by omega) (fun h => by cases h)).mono ?_
      · exact seg_new _ _ _ _ _ _ rfl rfl
      · rintro e w6 ⟨g3, a3, c3, rfl, hr, hg, _, hgr⟩
        have HB6 : Hid (RS w6 g3 a3 9 c3 [2, 1, 2, 3, 4, 5, 6, 7, 8] 0 0 ∧ w.heap.size ≤ g3 ∧ Below w.heap.size w w6) :=
          ⟨hr, Nat.le_trans HBW.out.size (Nat.le_trans (by simp) hg), (HBW.out.alloc HBW.out.size _).grown hgr (Nat.le_trans HBW.out.size (by simp)) (fun k hk => by cases hk)⟩
        clear hr hg hgr
        go_wp2_with fail
        refine (count_ok g3 a3 9 c3 _ 0 100 4 _ HB6.out.1 (by omega) (by omega)).mono ?_
        rw [rc_lit]
        rintro e w7 ⟨rfl, hr, hgr⟩
        have HB7 : Hid (RS w7 g3 a3 9 c3 [2, 1, 2, 3, 4, 5, 6, 7, 8] 0 1 ∧ Below w.heap.size w w7) :=
          ⟨hr, HB6.out.2.2.grown hgr HB6.out.2.2.size (fun k hk => by cases hk; exact HB6.out.2.1)⟩
        clear hr hgr
        go_wp2_with fail
        refine (at_c g3 0 _ _ _ HB7.out.1.rdr).mono ?_
        rintro e w8 ⟨rfl, rfl⟩
        go_wp2_with fail
        refine (new_c _ 8 8 [2, 1, 2, 3, 4, 5, 6, 7] _ ?_ bytes8 (by omega) (fun h => by cases h)).mono ?_
        · exact seg_new _ _ _ _ _ _ rfl rfl
        · rintro e w9 ⟨g4, a4, c4, rfl, hr, hg, _, hgr⟩
          have HB9 : Hid (RS w9 g4 a4 8 c4 [2, 1, 2, 3, 4, 5, 6, 7] 0 0 ∧ w.heap.size ≤ g4 ∧ Below w.heap.size w w9) :=
            ⟨hr, Nat.le_trans HB7.out.2.size (Nat.le_trans (by simp) hg), (HB7.out.2.alloc HB7.out.2.size _).grown hgr (Nat.le_trans HB7.out.2.size (by simp)) (fun k hk => by cases hk)⟩
          clear hr hg hgr
          go_wp2_with fail
          refine (count_ok g4 a4 8 c4 _ 0 100 4 _ HB9.out.1 (by omega) (by omega)).mono ?_
          rw [rc_lit2]
          rintro e w10 ⟨rfl, _, hgr⟩
          have HB10 : Hid (Below w.heap.size w w10) := HB9.out.2.2.grown hgr HB9.out.2.2.size (fun k hk => by cases hk; exact HB9.out.2.1)
          clear hgr
          go_wp2
          go_ret
          exact ⟨rfl, HB10.out⟩
    · obtain rfl : least = 0 := by omega
      have HBW : Hid (Below w.heap.size w w4) := H4.out.2.2
      have hd3 : decide (V < 0) = false := by simp; omega
      have hd4 : decide (most < V) = false := by simp; omega
      clear hV0 hm hdv hrest hl0 hq hl
      go_wp2_with fail
      refine (new_c _ 9 9 [2, 1, 2, 3, 4, 5, 6, 7, 8] _ ?_ bytes9 (by omega) (fun h => by cases h)).mono ?_
      · exact seg_new _ _ _ _ _ _ rfl rfl
      · rintro e w6 ⟨g3, a3, c3, rfl, hr, hg, _, hgr⟩
        have HB6 : Hid (RS w6 g3 a3 9 c3 [2, 1, 2, 3, 4, 5, 6, 7, 8] 0 0 ∧ w.heap.size ≤ g3 ∧ Below w.heap.size w w6) :=
          ⟨hr, Nat.le_trans HBW.out.size (Nat.le_trans (by simp) hg), (HBW.out.alloc HBW.out.size _).grown hgr (Nat.le_trans HBW.out.size (by simp)) (fun k hk => by cases hk)⟩
        clear hr hg hgr
        go_wp2_with fail
        refine (count_ok g3 a3 9 c3 _ 0 100 4 _ HB6.out.1 (by omega) (by omega)).mono ?_
        rw [rc_lit]
        rintro e w7 ⟨rfl, hr, hgr⟩
        have HB7 : Hid (RS w7 g3 a3 9 c3 [2, 1, 2, 3, 4, 5, 6, 7, 8] 0 1 ∧ Below w.heap.size w w7) :=
          ⟨hr, HB6.out.2.2.grown hgr HB6.out.2.2.size (fun k hk => by cases hk; exact HB6.out.2.1)⟩
        clear hr hgr
        go_wp2_with fail
        refine (at_c g3 0 _ _ _ HB7.out.1.rdr).mono ?_
        rintro e w8 ⟨rfl, rfl⟩
        go_wp2_with fail
        refine (new_c _ 8 8 [2, 1, 2, 3, 4, 5, 6, 7] _ ?_ bytes8 (by omega) (fun h => by cases h)).mono ?_
        · exact seg_new _ _ _ _ _ _ rfl rfl
        · rintro e w9 ⟨g4, a4, c4, rfl, hr, hg, _, hgr⟩
          have HB9 : Hid (RS w9 g4 a4 8 c4 [2, 1, 2, 3, 4, 5, 6, 7] 0 0 ∧ w.heap.size ≤ g4 ∧ Below w.heap.size w w9) :=
            ⟨hr, Nat.le_trans HB7.out.2.size (Nat.le_trans (by simp) hg), (HB7.out.2.alloc HB7.out.2.size _).grown hgr (Nat.le_trans HB7.out.2.size (by simp)) (fun k hk => by cases hk)⟩
          clear hr hg hgr
          go_wp2_with fail
          refine (count_ok g4 a4 8 c4 _ 0 100 4 _ HB9.out.1 (by omega) (by omega)).mono ?_
          rw [rc_lit2]
          rintro e w10 ⟨rfl, _, hgr⟩
          have HB10 : Hid (Below w.heap.size w w10) := HB9.out.2.2.grown hgr HB9.out.2.2.size (fun k hk => by cases hk; exact HB9.out.2.1)
          clear hgr
          go_wp2
          go_ret
          exact ⟨rfl, HB10.out⟩
  · obtain rfl : V = 0 := by omega
    have HBW : Hid (Below w.heap.size w w4) := H4.out.2.2
    clear hV0 hrest hV1 hq
    go_wp2_with fail
    refine (new_c _ 9 9 [2, 1, 2, 3, 4, 5, 6, 7, 8] _ ?_ bytes9 (by omega) (fun h => by cases h)).mono ?_
    · exact seg_new _ _ _ _ _ _ rfl rfl
    · rintro e w6 ⟨g3, a3, c3, rfl, hr, hg, _, hgr⟩
      have HB6 : Hid (RS w6 g3 a3 9 c3 [2, 1, 2, 3, 4, 5, 6, 7, 8] 0 0 ∧ w.heap.size ≤ g3 ∧ Below w.heap.size w w6) :=
        ⟨hr, Nat.le_trans HBW.out.size (Nat.le_trans (by simp) hg), (HBW.out.alloc HBW.out.size _).grown hgr (Nat.le_trans HBW.out.size (by simp)) (fun k hk => by cases hk)⟩
      clear hr hg hgr
      go_wp2_with fail
      refine (count_ok g3 a3 9 c3 _ 0 100 4 _ HB6.out.1 (by omega) (by omega)).mono ?_
      rw [rc_lit]
      rintro e w7 ⟨rfl, hr, hgr⟩
      have HB7 : Hid (RS w7 g3 a3 9 c3 [2, 1, 2, 3, 4, 5, 6, 7, 8] 0 1 ∧ Below w.heap.size w w7) :=
        ⟨hr, HB6.out.2.2.grown hgr HB6.out.2.2.size (fun k hk => by cases hk; exact HB6.out.2.1)⟩
      clear hr hgr
      go_wp2_with fail
      refine (at_c g3 0 _ _ _ HB7.out.1.rdr).mono ?_
      rintro e w8 ⟨rfl, rfl⟩
      go_wp2_with fail
      refine (new_c _ 8 8 [2, 1, 2, 3, 4, 5, 6, 7] _ ?_ bytes8 (by omega) (fun h => by cases h)).mono ?_
      · exact seg_new _ _ _ _ _ _ rfl rfl
      · rintro e w9 ⟨g4, a4, c4, rfl, hr, hg, _, hgr⟩
        have HB9 : Hid (RS w9 g4 a4 8 c4 [2, 1, 2, 3, 4, 5, 6, 7] 0 0 ∧ w.heap.size ≤ g4 ∧ Below w.heap.size w w9) :=
          ⟨hr, Nat.le_trans HB7.out.2.size (Nat.le_trans (by simp) hg), (HB7.out.2.alloc HB7.out.2.size _).grown hgr (Nat.le_trans HB7.out.2.size (by simp)) (fun k hk => by cases hk)⟩
        clear hr hg hgr
        go_wp2_with fail
        refine (count_ok g4 a4 8 c4 _ 0 100 4 _ HB9.out.1 (by omega) (by omega)).mono ?_
        rw [rc_lit2]
        rintro e w10 ⟨rfl, _, hgr⟩
        have HB10 : Hid (Below w.heap.size w w10) := HB9.out.2.2.grown hgr HB9.out.2.2.size (fun k hk => by cases hk; exact HB9.out.2.1)
        clear hgr
        go_wp2
        go_ret
        exact ⟨rfl, HB10.out⟩

set_option maxRecDepth 100000 in
theorem lifted (os : Os) (started : os.Started) (H : Type) (enc : TypeId × Value → H) :
    ReturnsInHanded {} Try.checked os 7 .any (Rows.packRoomSpec.pre6 enc Try.prog Try.f7 Rows.packRoomRow.domain false) (Rows.packRoomSpec.post enc Try.prog Try.f7 false true false false) := by
  refine returnsInHanded_of_change_sized (C := Try.checked) own started (by kernel_rfl) Try.func7
    (ChangeSpec.witness6 (enc := enc) (C := Try.checked) false ⟨#[], #[.slice none 0 0, .int .i64 0, .int .i64 0], []⟩ 8 (by kernel_rfl) (by kernel_rfl) (by kernel_rfl) (by kernel_rfl)) ?_
  intro W base args ds gs before hval0 hW hcnd hsz0 _
  have hsz : (DataW.weightsEach Try.prog (Try.f7.params.toList ++ Rows.packRoomSpec.plain.varTypes Try.prog) (ds ++ gs)).all (· ≤ reachBytes) = true := hsz0
  have hval : ∀ (j : Nat) t v, Try.f7.params[j]? = some t → args[j]? = some v → Value.okWide Try.prog W .any base t v := hval0
  have hW' := hW
  obtain ⟨p, q, hA0, hV, rfl, hfz, hnd⟩ := hW
  have hA : DataW.TrodAll enc Try.prog W 0 (fun _ => true) true Try.f7.params.toList args.toList ds p := hA0
  rw [Try.params7] at hA hval hsz
  obtain ⟨v0, vs0, d0, ds0, p0, q0, hargs, rfl, rfl, h0, r0⟩ := trodAll_cons hA
  obtain ⟨v1, vs1, d1, ds1, p1, q1, rfl, rfl, rfl, h1, r1⟩ := trodAll_cons r0
  obtain ⟨v2, vs2, d2, ds2, p2, q2, rfl, rfl, rfl, h2, r2⟩ := trodAll_cons r1
  obtain ⟨rfl, rfl, rfl⟩ := trodAll_nil r2
  obtain rfl : args = #[v0, v1, v2] := by cases args; simp_all
  obtain ⟨rfl, rfl⟩ := trodVars_none hV
  have k0 := h0
  have lt0 : ∀ x ∈ p0, x.block < W.heap.size := by obtain ⟨m, hm⟩ := k0; exact DataW.trod_lt m _ _ _ hm
  obtain ⟨a0, len0, cap0, z0, rfl, x0⟩ : ∃ a len cap zs, v0 = .slice a len cap ∧ IsRow .u8 140737488351232 W a len cap zs := by
    obtain ⟨sa, sl, sc, rfl⟩ := okWide_slice Try.underlying22 (hval 0 22 v0 rfl rfl)
    obtain ⟨fuel, hf⟩ := h0
    rcases open_ints Try.underlying22 Try.underlying5 (by kernel_rfl) hf with ⟨hcs, _⟩ | ⟨x, l, c, zs, hcs, _, hl, hm, hz, hx, hcell, hwz⟩
    · simp [Value.cells] at hcs; obtain ⟨rfl, rfl, rfl⟩ := hcs
      exact ⟨none, 0, 0, [], rfl, .inl ⟨rfl, rfl, rfl, rfl⟩⟩
    · simp [Value.cells] at hcs; obtain ⟨rfl, rfl, rfl⟩ := hcs
      have hz' : zs.length = sc := by simpa using hz
      have hd : d0 = _ := congrArg Prod.fst hx
      have hb := sized_slice hsz (j := 0) (t := 22) (e := 5) rfl (congrArg some hd) Try.underlying22
      rw [show Try.prog.bytesOf 5 = 1 from by kernel_rfl] at hb
      simp only [lits, List.length_map, List.length_take, List.length_drop, reachBytes] at hb
      exact ⟨some x, sl, sc, zs, rfl, .inr ⟨_, rfl, hl, by omega, hz', hcell, hwz⟩⟩
  obtain ⟨a1, rfl, rfl, rfl, w1⟩ := open_int Try.underlying3 (hval 1 3 v1 rfl rfl) h1
  obtain ⟨a2, rfl, rfl, rfl, w2⟩ := open_int Try.underlying3 (hval 2 3 v2 rfl rfl) h2
  clear hA0 hval0
  refine (walk a0 len0 cap0 z0 a1 a2 W x0 w1 w2).mono fun e W' ⟨he, bel⟩ => ?_
  subst he
  exact ⟨_, rfl, _, _, _, [], _, [], hW', trodAll_mk1 (shut_bool Try.underlying4 _), (trodAll_cons_mk (Below.trod laidOut (by kernel_rfl) (of_decide_eq_true (by kernel_rfl)) k0 bel lt0) (trodAll_cons_mk (shut_int Try.underlying3 w1) (trodAll_cons_mk (shut_int Try.underlying3 w2) trodAll_mk0))), rfl, bel.frame _, fun h => by cases h⟩

theorem over : Rows.packRoomRow.holds Try.pinned (OpenSpec.ofChange Rows.packRoomSpec) :=
  OpenClaim.holds_of_wide 7 Try.f7 rfl rfl rfl rfl rfl rfl rfl ⟨rfl, rfl, rfl, rfl, rfl⟩ rfl rfl rfl rfl rfl (by kernel_rfl) Try.func7 (by kernel_rfl)
    (of_decide_eq_true (by kernel_rfl)) (by unfold Func.isWrapper; first | (rw [if_pos (by decide +kernel)]; kernel_rfl) | (rw [if_neg (by decide +kernel)]; exact ⟨rfl, rfl⟩))
    (fun os started H enc _ => lifted os started H enc)

end Go.Proofs.Ytjanndpcpdbcbab.packRoom
namespace Go.Proofs.Ytjanndpcpdbcbab
theorem packRoom_holds : Rows.PackRoomSaid := packRoom.over
#print axioms packRoom_holds
end Go.Proofs.Ytjanndpcpdbcbab
