/-
  Proved, in its second form: for texts and bytes that hold together at most 2^20 values, hawserlaw03.PackLists answers true: texts that rise come back, and bytes that are read are those that would be written. Condition: the second form's own.
-/
import Derived.Test.YtfnfkcafjfhnlaaRows
import Derived.Test.YtfnfkcafjfhnlaaOpB
import Derived.Test.YtfnfkcafjfhnlaaFb
import Derived.WalkKit
import Derived.ProofKit
import Derived.OpenShut
import Derived.ShutString
import Derived.ChangeOld
import Derived.Below
import Derived.Lib.SmallJoins
import Derived.JoinedCond
namespace Go.Proofs.Ytfnfkcafjfhnlaa.packLists
open Go.ChangeShapes Go.WideShapes Go.ChangeAt Go.RowKit
set_option linter.unusedVariables false

theorem own : ownKnob Try.prog.godebug = none := by kernel_rfl
theorem laidOut : laidOutB Try.prog = true := by kernel_rfl

/-- What the walk is told of a slice of integers that came in. -/
def IsRow (k : IntKind) (R : Nat) (w : World) (a : Option Addr) (len cap : Nat) (zs : List Int) : Prop :=
  (a = none ∧ len = 0 ∧ cap = 0 ∧ zs = []) ∨
  ∃ x, a = some x ∧ len ≤ cap ∧ cap ≤ R ∧ zs.length = cap ∧ (∀ i, i < zs.length → w.cell? (x.add i) = some (.int k (zs.getD i 0))) ∧ ∀ n ∈ zs, (Lit.int k n).wf = true

theorem same_t (a b : Option Addr) (la ca lb cb : Nat) (xs : List Int) (w : World) (h1 : Seg .u8 w a la xs) (h2 : Seg .u8 w b lb xs) (hx : Bytes xs) :
    Calls Try.prog 31 #[.slice a la ca, .slice b lb cb] w fun e w' => e = .returned (.bool true) ∧ w' = w := by
  have := same_c a b la ca lb cb xs xs w h1 h2 hx hx
  rw [decide_eq_true rfl] at this
  exact this
theorem terr_next {X : List ByteArray} {k : Nat} (h : terr X k = 0) : (terr X (k + 1) == 0) = (decide ((at' X k).size ≤ 65536) && (decide (k = 0) || Op.bytesLess (prev X k).toList (at' X k).toList)) := by
  have e : terr X (k + 1) = serr X k := by show (if terr X k ≠ 0 then terr X k else serr X k) = _; rw [h]; simp
  rw [e, lt_gt, ← rises_gt]
  unfold serr
  by_cases h1 : 65536 < (at' X k).size
  · rw [if_pos h1, decide_eq_false (by omega)]; rfl
  · rw [if_neg h1, decide_eq_true (by omega)]
    cases rises X k <;> rfl
theorem terr_late {X : List ByteArray} {k : Nat} (h : terr X k ≠ 0) : (terr X (k + 1) == 0) = false := by
  have e : terr X (k + 1) = terr X k := by show (if terr X k ≠ 0 then terr X k else serr X k) = _; rw [if_pos h]
  rw [e]; simpa using h
theorem own_lt {B : Nat} {W : World} {v : Value} {n : Nat} {xs : List Int} (h : Own B W v n xs) (hn : 0 < n) : ∃ g c, v = .slice (some ⟨g, 0, none⟩) n c ∧ g < W.heap.size ∧ n ≤ c ∧ Seg .u8 W (some ⟨g, 0, none⟩) n xs ∧ c ≤ maxLen := by
  obtain ⟨a, c, e, hs, h4, h5⟩ := h.seg
  rcases h.2 with ⟨e2, q⟩ | ⟨g, cap, cur, e2, hB, hg, hc, hm, _⟩
  · omega
  · rw [e] at e2
    cases e2
    exact ⟨g, c, e, lt_of_block hg, h5, hs, hm⟩
theorem open_of {X0 : List ByteArray} {k : Nat} (hl : X0.length = k) (hk : k ≤ 1048576) (q : terr X0 k = 0) (hz0 : ∀ k, tsz X0 k ≤ 1048576) {va : Option Addr} {vc B : Nat} {W : World} (ho : Own B W (.slice va (tz k X0).length vc) (tz k X0).length (tz k X0)) :
    Calls Try.prog 37 #[.slice va (tz k X0).length vc] W fun r w' => ∃ v2 c2, r = .returned (.tuple #[.slice v2 k c2, .int .i64 0]) ∧ StrS w' v2 k X0 ∧ Below W.heap.size W w' := by
  have hz1 : ∀ k, tsz X0 k ≤ 268435456 := fun k => Nat.le_trans (hz0 k) (by omega)
  have hz : tz k X0 = enc k ++ tbt X0 k := by unfold tz; rw [if_pos q]
  have h2 := open_there X0 k hl hk q hz1
  have hpos : 0 < (tz k X0).length := by rw [hz, List.length_append]; have := enc_pos k; omega
  have hlen := tz_len (X := X0) hk hz1
  obtain ⟨g, c, e, hg, hc, hs, hcm⟩ := own_lt ho hpos
  cases e
  have h := open_a (some ⟨g, 0, none⟩) (tz k X0).length vc (tz k X0) W hs (tz_bytes k X0) hc (by omega) (by unfold maxLen at hcm; omega) (fun q => by cases q) (off_lt rfl hg)
  unfold OA at h
  have e1 : oans (tz k X0) = 0 := by rw [hz]; exact h2.1
  have e2 : oL (tz k X0) = X0 := by rw [hz]; exact h2.2
  rw [e1, e2, hl] at h
  refine h.mono ?_
  rintro r w' ⟨v2, c2, h1, h2, _, h3⟩
  exact ⟨v2, c2, h1, h2, h3⟩
set_option maxRecDepth 20000 in
set_option maxHeartbeats 4000000 in
theorem walk (a0 : Option Addr) (n0 cap0 : Nat) (X0 : List ByteArray) (a1 : Option Addr) (len1 cap1 : Nat) (z1 : List Int) (w : World) (x0 : StrS w a0 n0 X0) (lc0 : n0 ≤ cap0) (cm0 : cap0 ≤ maxLen) (nz0 : a0 = none → cap0 = 0) (y0 : ∀ k, tsz X0 k + n0 ≤ 1048576)
    (w1 : IsRow .u8 1048576 w a1 len1 cap1 z1) (lb1 : ∀ x, a1 = some x → x.block < w.heap.size) :
    Calls Try.prog 8 #[.slice a0 n0 cap0, .slice a1 len1 cap1] w fun e w' => e = .returned (.bool true) ∧ Below w.heap.size w w' := by
  obtain ⟨hs, hlc, hR, hwf⟩ := seg_of_row w1
  obtain ⟨xs, hxs⟩ : ∃ xs, xs = z1.take len1 := ⟨_, rfl⟩
  rw [← hxs] at hs hwf
  have HX : Hid (StrS w a0 n0 X0 ∧ Seg .u8 w a1 len1 xs ∧ Bytes xs) := ⟨x0, hs, fun i hi => wf_u8 (hwf i hi)⟩
  have hnz1 : a1 = none → cap1 = 0 := by
    intro q
    rcases w1 with ⟨_, _, q2, _⟩ | ⟨x, q2, _⟩
    · exact q2
    · rw [q] at q2; cases q2
  have HL : Hid (n0 ≤ 1048576 ∧ (∀ k, tsz X0 k ≤ 1048576) ∧ len1 ≤ cap1 ∧ len1 ≤ 1048576 ∧ cap1 ≤ 1048576 ∧ (a1 = none → cap1 = 0) ∧ (∀ g, w.heap.size ≤ g → Off a1 g)) := by
    refine ⟨by have := y0 0; omega, fun k => by have := y0 k; omega, hlc, by omega, by omega, hnz1, fun g hg b o sp e => ?_⟩
    have := lb1 _ e
    show b ≠ g
    intro q
    subst q
    exact absurd this (by show ¬ b < _; omega)
  have hn0 : n0 ≤ 1048576 := HL.out.1
  clear x0 lc0 cm0 nz0 y0 w1 lb1 hs hlc hR hwf hxs hnz1
  go_enter Try.func8, Try.ntmps8
  go_wp2
  go_loopw [5, 6, 21] (fun b t i wr => ∃ k : Nat, k ≤ n0 ∧ i = .int .i64 k ∧ b = .bool (terr X0 k == 0) ∧ t = .int .i64 (tsz X0 k : Int) ∧ Hid (Below w.heap.size w wr)) (fun _ _ i _ => n0 - (intOf i).toNat)
  case atStart => exact ⟨0, Nat.zero_le _, rfl, by simp [terr]; omega, rfl, Below.refl _ _⟩
  case round =>
    obtain ⟨k, hk, rfl, rfl, rfl, hr⟩ := hrel
    by_cases hlt : k < n0
    · have hi1 : (k : Int) < n0 := by omega
      rcases HX.out.1.2 with h0 | ⟨b, off, rfl, hbl, hcl⟩
      · omega
      obtain ⟨T, hT⟩ : ∃ T, T = tsz X0 k := ⟨_, rfl⟩
      obtain ⟨s, hs⟩ : ∃ s, s = at' X0 k := ⟨_, rfl⟩
      have hc : wr.cell? ⟨b, off + k, none⟩ = some (.string s) := by rw [hs]; exact (hr.out.cell (p := ⟨b, off + k, none⟩) hbl).trans (hcl k hlt)
      have hTs : (T : Int) + (s.size : Int) ≤ 1048576 := by have := HL.out.2.1 (k + 1); have e : tsz X0 (k + 1) = tsz X0 k + (at' X0 k).size := rfl; rw [hT, hs]; omega
      have HTS : Hid (tsz X0 (k + 1) = T + s.size) := by show _ = _; rw [hT, hs]; rfl
      rw [← hT]
      by_cases he : terr X0 k = 0
      · have HN : Hid ((terr X0 (k + 1) == 0) = (decide (s.size ≤ 65536) && (decide (k = 0) || Op.bytesLess (prev X0 k).toList s.toList))) := by rw [hs]; exact terr_next he
        rw [show (terr X0 k == 0) = true from by rw [he]; rfl]
        clear hT hs he
        by_cases hk0 : k = 0
        · have hkb : ((k : Int) == 0) = true := by simp [hk0]
          rw [decide_eq_true hk0, Bool.true_or, Bool.and_true] at HN
          clear hcl
          by_cases h1 : s.size ≤ 65536
          · rw [decide_eq_true h1] at HN
            have hd : decide ((s.size : Int) ≤ 65536) = true := decide_eq_true (by omega)
            clear hk0 h1
            go_wp2
            go_quiet (fail)
            go_wp2
            go_roundw
            case rel => exact ⟨k + 1, by omega, by go_num, by rw [HN.out], by rw [HTS.out]; go_num, below_dN hr.out _⟩
            case measure => simp [intOf]; omega
          · rw [decide_eq_false h1] at HN
            have hd : decide ((s.size : Int) ≤ 65536) = false := decide_eq_false (by omega)
            clear hk0 h1
            go_wp2
            go_quiet (fail)
            go_wp2
            go_roundw
            case rel => exact ⟨k + 1, by omega, by go_num, by rw [HN.out], by rw [HTS.out]; go_num, below_dN hr.out _⟩
            case measure => simp [intOf]; omega
        · obtain ⟨j, hkk⟩ : ∃ j, k = j + 1 := ⟨k - 1, by omega⟩
          have hpr : prev X0 k = at' X0 j := by rw [hkk, prev_succ]
          rw [decide_eq_false hk0, Bool.false_or, hpr] at HN
          obtain ⟨u, hu⟩ : ∃ u, u = at' X0 j := ⟨_, rfl⟩
          have hc2 : wr.cell? ⟨b, off + j, none⟩ = some (.string u) := by rw [hu]; exact (hr.out.cell (p := ⟨b, off + j, none⟩) hbl).trans (hcl j (by omega))
          rw [← hu] at HN
          have hkb : ((k : Int) == 0) = false := by simp; omega
          have hk1 : (k : Int) - 1 = (j : Int) := by omega
          obtain ⟨bb, hbb⟩ : ∃ bb, Op.bytesLess u.toList s.toList = bb := ⟨_, rfl⟩
          have hlss : ∀ W, (binOp .lss 9 (.string u) (.string s)).run Try.prog W = .ok (.bool bb) W := fun W => by subst hbb; rfl
          rw [hbb] at HN
          have HBB : Hid (Op.bytesLess u.toList s.toList = bb) := hbb
          clear hcl hu hbb hpr hlss
          have hj0 : (0 : Int) ≤ (j : Int) := by omega
          have hj1 : (j : Int) < n0 := by omega
          by_cases h1 : s.size ≤ 65536
          · rw [decide_eq_true h1, Bool.true_and] at HN
            have hd : decide ((s.size : Int) ≤ 65536) = true := decide_eq_true (by omega)
            clear hk0 h1 hkk
            go_wp2
            go_quiet (fail)
            go_wp2
            go_roundw
            case rel => exact ⟨k + 1, by omega, by go_num, by rw [HN.out, HBB.out], by rw [HTS.out]; go_num, below_dN hr.out _⟩
            case measure => simp [intOf]; omega
          · rw [decide_eq_false h1, Bool.false_and] at HN
            have hd : decide ((s.size : Int) ≤ 65536) = false := decide_eq_false (by omega)
            clear hk0 h1 hkk
            go_wp2
            go_quiet (fail)
            go_wp2
            go_roundw
            case rel => exact ⟨k + 1, by omega, by go_num, by rw [HN.out], by rw [HTS.out]; go_num, below_dN hr.out _⟩
            case measure => simp [intOf]; omega
      · have HN : Hid ((terr X0 (k + 1) == 0) = false) := terr_late he
        rw [show (terr X0 k == 0) = false from by simpa using he]
        clear hT hs he hcl
        go_wp2
        go_quiet (fail)
        go_wp2
        go_roundw
        case rel => exact ⟨k + 1, by omega, by go_num, by rw [HN.out], by rw [HTS.out]; go_num, below_dN hr.out _⟩
        case measure => simp [intOf]; omega
    · obtain rfl : k = n0 := by omega
      have hge : ¬ (k : Int) < k := by omega
      obtain ⟨E, hE⟩ : ∃ E, E = terr X0 k := ⟨_, rfl⟩
      obtain ⟨T, hT⟩ : ∃ T, T = tsz X0 k := ⟨_, rfl⟩
      have hTb : (T : Int) ≤ 268435456 := by have := HL.out.2.1 k; omega
      obtain ⟨F, hF⟩ : ∃ F, F = oans xs := ⟨_, rfl⟩
      obtain ⟨m, hm⟩ : ∃ m, m = (oL xs).length := ⟨_, rfl⟩
      have HTX : Hid (Calls Try.prog 33 #[.slice a0 k cap0] wr fun r w' => ∃ va vc, r = .returned (.tuple #[.slice va (tz k X0).length vc, .int .i64 E]) ∧ Own wr.heap.size w' (.slice va (tz k X0).length vc) (tz k X0).length (tz k X0) ∧ Below wr.heap.size wr w') := by
        have := texts_a a0 k cap0 X0 wr (HX.out.1.below hr.out) HL.out.1 (fun k => Nat.le_trans (HL.out.2.1 k) (by omega))
        unfold TA at this
        rw [← hE] at this
        exact this
      have HOB : Hid (∀ W, Below w.heap.size w W → Calls Try.prog 37 #[.slice a1 len1 cap1] W fun r w' => ∃ va vc, r = .returned (.tuple #[.slice va m vc, .int .i64 F]) ∧ StrS w' va m (oL xs) ∧ Below W.heap.size W w') := fun W hb => by
        have := open_a a1 len1 cap1 xs W (HX.out.2.1.below hb) HX.out.2.2 HL.out.2.2.1 (by have := HL.out.2.2.2.1; omega) (by have := HL.out.2.2.2.2.1; omega) HL.out.2.2.2.2.2.1 (fun g hg => HL.out.2.2.2.2.2.2 g (by have := hb.size; omega))
        unfold OA at this
        rw [← hF, ← hm] at this
        refine this.mono ?_
        rintro r w' ⟨va, vc, h1, h2, _, h3⟩
        exact ⟨va, vc, h1, h2, h3⟩
      have HFZ : Hid (F ≠ 0 → m = 0) := fun q => by
        rw [hm]
        unfold oL
        rw [if_neg (by rw [← hF]; exact q)]
        rfl
      have HFB : Hid (F = 0 → ∀ (va : Option Addr) (vc : Nat) (W : World), StrS W va m (oL xs) → Calls Try.prog 33 #[.slice va m vc] W fun r w' => ∃ v2 c2, r = .returned (.tuple #[.slice v2 len1 c2, .int .i64 0]) ∧ Seg .u8 w' v2 len1 xs ∧ Below W.heap.size W w') := fun q va vc W hs => by
        obtain ⟨b1, b2, b3⟩ := open_back HX.out.2.2 (hF ▸ q)
        rw [← hm] at b1 b2
        have hz : tz m (oL xs) = xs := by unfold tz; rw [if_pos b1]; exact b2
        have := texts_a va m vc (oL xs) W hs (by rw [hm]; exact oL_len HX.out.2.2) b3
        unfold TA at this
        rw [b1, hz, HX.out.2.1.1] at this
        refine this.mono ?_
        rintro r w' ⟨v2, c2, h1, h2, h3⟩
        obtain ⟨a, c, e, hs2, _, _⟩ := h2.seg
        cases e
        exact ⟨v2, c2, h1, hs2, h3⟩
      have HOA : Hid (E = 0 → ∀ (va : Option Addr) (vc : Nat) (B : Nat) (W : World), Own B W (.slice va (tz k X0).length vc) (tz k X0).length (tz k X0) → Calls Try.prog 37 #[.slice va (tz k X0).length vc] W fun r w' => ∃ v2 c2, r = .returned (.tuple #[.slice v2 k c2, .int .i64 0]) ∧ StrS w' v2 k X0 ∧ Below W.heap.size W w') := fun q va vc B W ho => open_of HX.out.1.1 HL.out.1 (hE ▸ q) HL.out.2.1 ho
      obtain ⟨Lz, hLz⟩ : ∃ L, L = (tz k X0).length := ⟨_, rfl⟩
      rw [← hLz] at HTX HOA
      rw [← hE, ← hT]
      clear hE hT hF hm hLz
      by_cases hE0 : E = 0
      · subst hE0
        have HOA2 : Hid _ := HOA.out rfl
        clear HOA
        by_cases hF0 : F = 0
        · subst hF0
          have HFB2 : Hid _ := HFB.out rfl
          clear HFB HFZ
          go_wp2_with (first
            | ((fail_if_success (have z := H2)); go_at_call 33; go_must (refine (Calls.mono HTX.out ?_)); rintro r w2 ⟨va, vc, rfl, h1, h2⟩; have H2 : Hid (Own wr.heap.size w2 (.slice va Lz vc) Lz (tz k X0) ∧ Below w.heap.size w w2) := ⟨h1, hr.out.trans (h2.mono hr.out.size)⟩; clear h1 h2)
            | (have z := H2; clear z; (fail_if_success (have z := H3)); go_at_call 37; go_must (refine (Calls.mono (HOA2.out va vc _ _ H2.out.1) ?_)); rintro r w3 ⟨v3, c3, rfl, h1, h2⟩; have H3 : Hid (StrS w3 v3 k X0 ∧ Below w.heap.size w w3) := ⟨h1, H2.out.2.trans (h2.mono H2.out.2.size)⟩; clear h1 h2)
            | (have z := H3; clear z; (fail_if_success (have z := H4)); go_at_call 35; go_must (refine (Calls.mono (sameS_c v3 a0 k c3 cap0 X0 _ H3.out.1 (HX.out.1.below H3.out.2) (by omega)) ?_)); rintro r w4 ⟨rfl, h2⟩; have H4 : Hid (Below w.heap.size w w4) := H3.out.2.trans (h2.mono H3.out.2.size); clear h2)
            | (have z := H4; clear z; (fail_if_success (have z := H5)); go_at_call 37; go_must (refine (Calls.mono (HOB.out _ H4.out) ?_)); rintro r w5 ⟨v5, c5, rfl, h1, h2⟩; have H5 : Hid (StrS w5 v5 _ (oL xs) ∧ Below w.heap.size w w5) := ⟨h1, H4.out.trans (h2.mono H4.out.size)⟩; clear h1 h2)
            | (have z := H5; clear z; (fail_if_success (have z := H6)); go_at_call 33; go_must (refine (Calls.mono (HFB2.out v5 c5 _ H5.out.1) ?_)); rintro r w6 ⟨v6, c6, rfl, h1, h2⟩; have H6 : Hid (Seg .u8 w6 v6 len1 xs ∧ Below w.heap.size w w6) := ⟨h1, H5.out.2.trans (h2.mono H5.out.2.size)⟩; clear h1 h2)
            | (have z := H6; clear z; go_at_call 31; go_must (refine (Calls.mono (same_t v6 a1 len1 c6 len1 cap1 xs _ H6.out.1 (HX.out.2.1.below H6.out.2) HX.out.2.2) ?_)); rintro r w7 ⟨rfl, h7⟩; have H7 : Hid (Below w.heap.size w w7) := (by rw [h7]; exact H6.out.2); clear h7))
          go_ret
          exact ⟨rfl, H7.out⟩
        · have hFb : (F != 0) = true := by simp [hF0]
          have hm0 := HFZ.out hF0
          subst hm0
          clear hF0
          go_wp2_with (first
            | ((fail_if_success (have z := H2)); go_at_call 33; go_must (refine (Calls.mono HTX.out ?_)); rintro r w2 ⟨va, vc, rfl, h1, h2⟩; have H2 : Hid (Own wr.heap.size w2 (.slice va Lz vc) Lz (tz k X0) ∧ Below w.heap.size w w2) := ⟨h1, hr.out.trans (h2.mono hr.out.size)⟩; clear h1 h2)
            | (have z := H2; clear z; (fail_if_success (have z := H3)); go_at_call 37; go_must (refine (Calls.mono (HOA2.out va vc _ _ H2.out.1) ?_)); rintro r w3 ⟨v3, c3, rfl, h1, h2⟩; have H3 : Hid (StrS w3 v3 k X0 ∧ Below w.heap.size w w3) := ⟨h1, H2.out.2.trans (h2.mono H2.out.2.size)⟩; clear h1 h2)
            | (have z := H3; clear z; (fail_if_success (have z := H4)); go_at_call 35; go_must (refine (Calls.mono (sameS_c v3 a0 k c3 cap0 X0 _ H3.out.1 (HX.out.1.below H3.out.2) (by omega)) ?_)); rintro r w4 ⟨rfl, h2⟩; have H4 : Hid (Below w.heap.size w w4) := H3.out.2.trans (h2.mono H3.out.2.size); clear h2)
            | (have z := H4; clear z; (fail_if_success (have z := H5)); go_at_call 37; go_must (refine (Calls.mono (HOB.out _ H4.out) ?_)); rintro r w5 ⟨v5, c5, rfl, h1, h2⟩; have H5 : Hid (StrS w5 v5 _ (oL xs) ∧ Below w.heap.size w w5) := ⟨h1, H4.out.trans (h2.mono H4.out.size)⟩; clear h1 h2))
          go_ret
          exact ⟨rfl, H5.out.2⟩
      · have hEb : (E == 0) = false := by simpa using hE0
        clear hE0
        by_cases hF0 : F = 0
        · subst hF0
          have HFB2 : Hid _ := HFB.out rfl
          clear HFB HFZ
          go_wp2_with (first
            | ((fail_if_success (have z := H2)); go_at_call 33; go_must (refine (Calls.mono HTX.out ?_)); rintro r w2 ⟨va, vc, rfl, h1, h2⟩; have H2 : Hid (Own wr.heap.size w2 (.slice va Lz vc) Lz (tz k X0) ∧ Below w.heap.size w w2) := ⟨h1, hr.out.trans (h2.mono hr.out.size)⟩; clear h1 h2)
            | (have z := H2; clear z; (fail_if_success (have z := H5)); go_at_call 37; go_must (refine (Calls.mono (HOB.out _ H2.out.2) ?_)); rintro r w5 ⟨v5, c5, rfl, h1, h2⟩; have H5 : Hid (StrS w5 v5 _ (oL xs) ∧ Below w.heap.size w w5) := ⟨h1, H2.out.2.trans (h2.mono H2.out.2.size)⟩; clear h1 h2)
            | (have z := H5; clear z; (fail_if_success (have z := H6)); go_at_call 33; go_must (refine (Calls.mono (HFB2.out v5 c5 _ H5.out.1) ?_)); rintro r w6 ⟨v6, c6, rfl, h1, h2⟩; have H6 : Hid (Seg .u8 w6 v6 len1 xs ∧ Below w.heap.size w w6) := ⟨h1, H5.out.2.trans (h2.mono H5.out.2.size)⟩; clear h1 h2)
            | (have z := H6; clear z; go_at_call 31; go_must (refine (Calls.mono (same_t v6 a1 len1 c6 len1 cap1 xs _ H6.out.1 (HX.out.2.1.below H6.out.2) HX.out.2.2) ?_)); rintro r w7 ⟨rfl, h7⟩; have H7 : Hid (Below w.heap.size w w7) := (by rw [h7]; exact H6.out.2); clear h7))
          go_ret
          exact ⟨rfl, H7.out⟩
        · have hFb : (F != 0) = true := by simp [hF0]
          have hm0 := HFZ.out hF0
          subst hm0
          clear hF0
          go_wp2_with (first
            | ((fail_if_success (have z := H2)); go_at_call 33; go_must (refine (Calls.mono HTX.out ?_)); rintro r w2 ⟨va, vc, rfl, h1, h2⟩; have H2 : Hid (Own wr.heap.size w2 (.slice va Lz vc) Lz (tz k X0) ∧ Below w.heap.size w w2) := ⟨h1, hr.out.trans (h2.mono hr.out.size)⟩; clear h1 h2)
            | (have z := H2; clear z; (fail_if_success (have z := H5)); go_at_call 37; go_must (refine (Calls.mono (HOB.out _ H2.out.2) ?_)); rintro r w5 ⟨v5, c5, rfl, h1, h2⟩; have H5 : Hid (StrS w5 v5 _ (oL xs) ∧ Below w.heap.size w w5) := ⟨h1, H2.out.2.trans (h2.mono H2.out.2.size)⟩; clear h1 h2))
          go_ret
          exact ⟨rfl, H5.out.2⟩

theorem bulk_len {H : Type} (l : List (DataW H)) : l.length ≤ Rows.uptoBulkAll l := by
  induction l with
  | nil => simp
  | cons d r ih =>
    have : 1 ≤ Rows.uptoBulk d := by
      cases d with
      | lit x => cases x <;> simp [Rows.uptoBulk]
      | _ => simp [Rows.uptoBulk]
    simp only [Rows.uptoBulkAll, List.length_cons]; omega
theorem bulk_mem {H : Type} {d : DataW H} {l : List (DataW H)} (h : d ∈ l) : Rows.uptoBulk d ≤ Rows.uptoBulkAll l := by
  induction l with
  | nil => cases h
  | cons x r ih =>
    simp only [Rows.uptoBulkAll]
    rcases List.mem_cons.1 h with rfl | h
    · omega
    · have := ih h; omega
theorem bulk_slice {H : Type} {ds : List (DataW H)} {d : DataW H} {l r : List (DataW H)} (hk : Rows.uptoSmall H ds = true) (hd : d ∈ ds) (e : d = .slice l r) : l.length + r.length ≤ 1048576 := by
  have h0 : Rows.uptoBulkAll ds ≤ 1048576 := of_decide_eq_true hk
  have h1 := bulk_mem hd
  have h3 := bulk_len l
  have h4 := bulk_len r
  rw [e] at h1
  simp only [Rows.uptoBulk] at h1
  omega

set_option maxRecDepth 100000 in
theorem lifted (os : Os) (started : os.Started) (H : Type) (enc : TypeId × Value → H) (F : Stop.Interp) :
    ReturnsInHanded {} Try.checked os 8 .any ((Rows.OpenSpec.upto Rows.packListsSpec).pre6 enc Try.prog Try.f8 Rows.packListsUptoRow.domain false) (((Rows.OpenSpec.upto Rows.packListsSpec).at F).post enc Try.prog Try.f8 false true false false) := by
  refine returnsInHanded_of_cond (C := Try.checked) (s := Rows.OpenSpec.upto Rows.packListsSpec) (k := Rows.uptoSmall) rfl own started (by kernel_rfl) Try.func8
    (OpenSpec.witness (enc := enc) (C := Try.checked) (s := Rows.OpenSpec.upto Rows.packListsSpec) (k := Rows.uptoSmall) rfl false ⟨#[], #[.slice none 0 0, .slice none 0 0], []⟩ 8 (by kernel_rfl) (by kernel_rfl) (by kernel_rfl)
      (x := ([.nil, .nil], [], [])) (by kernel_rfl) rfl (by kernel_rfl)) ?_
  intro W base args ds gs before hval0 hW hcnd hk _
  have hval : ∀ (j : Nat) t v, Try.f8.params[j]? = some t → args[j]? = some v → Value.okWide Try.prog W .any base t v := hval0
  have hW' := hW
  obtain ⟨p, q, hA0, hV, rfl, hfz, hnd⟩ := hW
  have hA : DataW.TrodAll enc Try.prog W 0 (fun _ => true) true Try.f8.params.toList args.toList ds p := hA0
  rw [Try.params8] at hA hval
  obtain ⟨v0, vs0, d0, ds0, p0, q0, hargs, rfl, rfl, h0, r0⟩ := trodAll_cons hA
  obtain ⟨v1, vs1, d1, ds1, p1, q1, rfl, rfl, rfl, h1, r1⟩ := trodAll_cons r0
  obtain ⟨rfl, rfl, rfl⟩ := trodAll_nil r1
  obtain rfl : args = #[v0, v1] := by cases args; simp_all
  obtain ⟨rfl, rfl⟩ := trodVars_none hV
  have k0 := h0
  have lt0 : ∀ x ∈ p0, x.block < W.heap.size := by obtain ⟨m, hm⟩ := k0; exact DataW.trod_lt m _ _ _ hm
  obtain ⟨a0, n0, cap0, X0, rfl, x0, lc0, cm0, nz0, y0⟩ : ∃ a n cap X, v0 = .slice a n cap ∧ StrS W a n X ∧ n ≤ cap ∧ cap ≤ maxLen ∧ (a = none → cap = 0) ∧ ∀ k, tsz X k + n ≤ 1048576 := by
    obtain ⟨sa, sl, sc, hv⟩ := okWide_slice Try.underlying68 (hval 0 68 v0 rfl rfl)
    obtain ⟨a, n, cap, X, h1, h2, h3, h4, h5, h6⟩ := texts_open sa sl sc hv h0
    have hAll : Rows.uptoBulkAll _ ≤ 1048576 := of_decide_eq_true hk
    exact ⟨a, n, cap, X, h1, h2, h3, h4, h5, fun k => Nat.le_trans (h6 k) (Nat.le_trans (bulk_mem (show d0 ∈ _ by simp)) hAll)⟩
  have k1 := h1
  have lt1 : ∀ x ∈ p1, x.block < W.heap.size := by obtain ⟨m, hm⟩ := k1; exact DataW.trod_lt m _ _ _ hm
  obtain ⟨a1, len1, cap1, z1, rfl, x1⟩ : ∃ a len cap zs, v1 = .slice a len cap ∧ IsRow .u8 1048576 W a len cap zs := by
    obtain ⟨sa, sl, sc, rfl⟩ := okWide_slice Try.underlying22 (hval 1 22 v1 rfl rfl)
    obtain ⟨fuel, hf⟩ := h1
    rcases open_ints Try.underlying22 Try.underlying5 (by kernel_rfl) hf with ⟨hcs, _⟩ | ⟨x, l, c, zs, hcs, _, hl, hm, hz, hx, hcell, hwz⟩
    · simp [Value.cells] at hcs; obtain ⟨rfl, rfl, rfl⟩ := hcs
      exact ⟨none, 0, 0, [], rfl, .inl ⟨rfl, rfl, rfl, rfl⟩⟩
    · simp [Value.cells] at hcs; obtain ⟨rfl, rfl, rfl⟩ := hcs
      have hz' : zs.length = sc := by simpa using hz
      have hd : d1 = _ := congrArg Prod.fst hx
      have hb := bulk_slice hk (show d1 ∈ _ by simp) hd
      simp only [lits, List.length_map, List.length_take, List.length_drop] at hb
      exact ⟨some x, sl, sc, zs, rfl, .inr ⟨_, rfl, hl, by omega, hz', hcell, hwz⟩⟩
  have lb1 : ∀ x, a1 = some x → x.block < W.heap.size := fun x hx => by subst hx; exact slice_in Try.underlying22 (hval 1 22 _ rfl rfl)
  clear hA0 hval0
  refine (walk a0 n0 cap0 X0 a1 len1 cap1 z1 W x0 lc0 cm0 nz0 y0 x1 lb1).mono fun e W' ⟨he, bel⟩ => ?_
  subst he
  exact ⟨_, rfl, _, _, _, [], _, [], hW', trodAll_mk1 (shut_bool Try.underlying4 _), (trodAll_cons_mk (Below.trod laidOut (by kernel_rfl) (of_decide_eq_true (by kernel_rfl)) k0 bel lt0) (trodAll_cons_mk (Below.trod laidOut (by kernel_rfl) (of_decide_eq_true (by kernel_rfl)) k1 bel lt1) trodAll_mk0)), rfl, bel.frame _, fun h => by cases h⟩

theorem over : Rows.packListsUptoRow.holds Try.pinned (Rows.OpenSpec.upto Rows.packListsSpec) :=
  OpenClaim.holds_of_cond 8 Try.f8 rfl rfl rfl rfl rfl rfl rfl ⟨rfl, rfl, rfl, rfl, rfl⟩ rfl rfl rfl rfl rfl (by kernel_rfl) Try.func8 (by kernel_rfl)
    (of_decide_eq_true (by kernel_rfl)) (by unfold Func.isWrapper; first | (rw [if_pos (by decide +kernel)]; kernel_rfl) | (rw [if_neg (by decide +kernel)]; exact ⟨rfl, rfl⟩))
    (fun os started H enc _ F => lifted os started H enc F)

end Go.Proofs.Ytfnfkcafjfhnlaa.packLists
namespace Go.Proofs.Ytfnfkcafjfhnlaa
theorem packLists_holds : Rows.PackListsUptoSaid := packLists.over
#print axioms packLists_holds
end Go.Proofs.Ytfnfkcafjfhnlaa
