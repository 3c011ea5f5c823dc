/-
  The law ImagePieces, walked: an Opener tells what Decode tells, in whatever pieces. Condition: bytes and cuts that can be read; the table of crc lies in memory.
-/
import Derived.Test.YtcdgfghcmeadgaaDoorIPb
import Derived.Test.YtcdgfghcmeadgaaDoorFd
import Derived.Test.YtcdgfghcmeadgaaDoorIDk
namespace Go.Proofs.YtcdgfghcmeadgaaDoor
open Go.RowKit
set_option linter.unusedVariables false

/-- What Decode answers, in one form. -/
def DR (xs : List Int) (w1 : World) (s1 : Int) (da : Option Addr) (dn : Nat) (e1 : Int) : Prop := (e1 = 0 ∧ ∃ Y, DOk xs s1 Y ∧ Rws w1 da dn Y) ∨ ((e1 != 0) = true ∧ ∀ s Y, ¬ DOk xs s Y)
theorem idec_r (a : Option Addr) (len cap : Nat) (xs : List Int) (w : World) (h : Seg .u8 w a len xs) (hx : Bytes xs) (hl : len ≤ 140737488355328) (hlc : len ≤ cap) (hnz : a = none → cap = 0) (ht : Cr.Tab w) :
    Calls Tryd.prog 19 #[.slice a len cap] w fun r w' => ∃ s1 da dn e1, r = .returned (.tuple #[.agg #[.int .i64 s1, .slice da dn dn], .int .i64 e1]) ∧ w.grownBy w' none ∧ DR xs w' s1 da dn e1 := by
  refine (idec_c a len cap xs w h hx hl hlc hnz ht).mono ?_
  rintro r w' ⟨⟨b, n, seq, X, rfl, k1, k2, _⟩ | ⟨e, rfl, k1⟩, k⟩
  · exact ⟨seq, _, n, 0, rfl, below_gbI k, .inl ⟨rfl, X, k1, k2⟩⟩
  · exact ⟨0, none, 0, e, rfl, below_gbI k, .inr (dno_not k1)⟩
/-- What stays from Decode on. -/
structure PD (xs : List Int) (w : World) (a0 : Option Addr) (len0 : Nat) (a1 : Option Addr) (len1 : Nat) (cs : List Int) (Q : Nat) (s1 : Int) (da : Option Addr) (dn : Nat) (e1 : Int) (W : World) : Prop where
  gb : w.grownBy W none
  s0 : Seg .u8 W a0 len0 xs
  c0 : Seg .i64 W a1 len1 cs
  tb : Cr.Tab W
  st : Bk 24 W Q #[.int .i64 s1, .slice da dn dn]
  dr : DR xs W s1 da dn e1
theorem PD.more {xs : List Int} {w : World} {a0 : Option Addr} {len0 : Nat} {a1 : Option Addr} {len1 : Nat} {cs : List Int} {Q : Nat} {s1 : Int} {da : Option Addr} {dn : Nat} {e1 : Int} {W W' : World} (h : PD xs w a0 len0 a1 len1 cs Q s1 da dn e1 W) (hg : W.grownBy W' none) : PD xs w a0 len0 a1 len1 cs Q s1 da dn e1 W' :=
  ⟨gb_trans h.gb hg, h.s0.below (gbb hg), h.c0.below (gbb hg), h.tb.below (gbb hg), h.st.grew hg (by simp), h.dr.imp (fun ⟨q1, Y, q2, q3⟩ => ⟨q1, Y, q2, q3.below (gbb hg)⟩) id⟩
set_option maxRecDepth 20000 in
set_option maxHeartbeats 4000000 in
theorem ipieces_w (a0 : Option Addr) (len0 cap0 : Nat) (xs : List Int) (a1 : Option Addr) (len1 cap1 : Nat) (cs : List Int) (w : World) (s0 : Seg .u8 w a0 len0 xs) (hx : Bytes xs) (lc0 : len0 ≤ cap0) (nz0 : a0 = none → cap0 = 0) (lb0 : ∀ x, a0 = some x → x.block < w.heap.size) (hl0 : len0 ≤ 140737488355328) (s1 : Seg .i64 w a1 len1 cs) (hl1 : len1 ≤ 140737488355328) (hcs : ∀ i : Nat, -9223372036854775808 ≤ cs[i]?.getD 0 ∧ cs[i]?.getD 0 ≤ 9223372036854775807) (ht : Cr.Tab w) :
    Calls Tryd.prog 8 #[.slice a0 len0 cap0, .slice a1 len1 cap1] w fun e w' => e = .returned (.bool true) ∧ Below w.heap.size w w' := by
  have HDE : Hid (Calls Tryd.prog 19 #[.slice a0 len0 cap0] w fun r w' => ∃ s1 da dn e1, r = .returned (.tuple #[.agg #[.int .i64 s1, .slice da dn dn], .int .i64 e1]) ∧ w.grownBy w' none ∧ DR xs w' s1 da dn e1) := idec_r a0 len0 cap0 xs w s0 hx (by omega) lc0 nz0 ht
  have HX : Hid (Seg .u8 w a0 len0 xs ∧ Seg .i64 w a1 len1 cs ∧ Cr.Tab w ∧ Bytes xs ∧ (a0 = none → cap0 = 0) ∧ (∀ x, a0 = some x → x.block < w.heap.size) ∧ xs.length = len0) := ⟨s0, s1, ht, hx, nz0, lb0, s0.1⟩
  have HCS : Hid (∀ i : Nat, -9223372036854775808 ≤ cs[i]?.getD 0 ∧ cs[i]?.getD 0 ≤ 9223372036854775807) := hcs
  clear s0 s1 ht hx nz0 lb0 hcs
  go_enter Tryd.func8, Tryd.ntmps8
  go_wp2_with (first
    | ((fail_if_success (have z := H1)); go_at_call 19; go_must (refine (Calls.mono HDE.out ?_)); rintro r w1 ⟨s1, da, dn, e1, rfl, q1, q2⟩; have hb := blk_new w1 24 #[.int .i64 s1, .slice da dn dn]; have H1 : Hid (∀ W, W = w1.alloc (.cells #[.int .i64 s1, .slice da dn dn] 24) → PD xs w a0 len0 a1 len1 cs w1.heap.size s1 da dn e1 W) := (fun W e => by subst e; exact ⟨gb_trans q1 hb.2, HX.out.1.below (gbb (gb_trans q1 hb.2)), HX.out.2.1.below (gbb (gb_trans q1 hb.2)), HX.out.2.2.1.below (gbb (gb_trans q1 hb.2)), hb.1, q2.imp (fun ⟨q1, Y, q2, q3⟩ => ⟨q1, Y, q2, q3.below (gbb hb.2)⟩) id⟩); clear q1 q2 hb)
    | ((fail_if_success (have z := H2)); have z := H1; clear z; go_at_call 23; go_must (refine (Calls.mono (inew_c _) ?_)); rintro r w2 ⟨g, rfl, q1, q2, q3⟩; have H2 : Hid ((∀ W, w2.grownBy W (some g) → PD xs w a0 len0 a1 len1 cs w1.heap.size s1 da dn e1 W) ∧ OpB w2 g o0 ∧ g < w2.heap.size ∧ w.heap.size ≤ g) := ⟨fun W hW => (H1.out _ rfl).more (gb_above' q3 hW q2), q1, lt_of_block q1, Nat.le_trans (H1.out _ rfl).gb.size q2⟩; clear q1 q2 q3 H1))
  go_loopw [8, 9, 10, 11] (fun u b m i wr => ∃ (v : Value) (bad : Bool) (at0 k : Nat), v = u ∧ b = .bool bad ∧ m = .int .i64 (at0 : Int) ∧ i = .int .i64 (k : Int) ∧ at0 ≤ len0 ∧ k ≤ len1 + 1 ∧ (k = len1 + 1 → at0 = len0) ∧ Hid (PI xs w2 wr g at0 v bad)) (fun _ _ _ i _ => len1 + 1 - (intOf i).toNat)
  case atStart => exact ⟨.slice none 0 0, false, 0, 0, rfl, rfl, rfl, rfl, Nat.zero_le _, Nat.zero_le _, fun z => by omega, pi_start H2.out.2.1⟩
  case round =>
    obtain ⟨v, bad, at0, k, rfl, rfl, rfl, rfl, ha, hk, hkl, hr⟩ := hrel
    by_cases hlt : k < len1 + 1
    · obtain ⟨R, hRd⟩ : ∃ R, R = len0 - at0 := ⟨_, rfl⟩
      have hR : (len0 : Int) - (at0 : Int) = (R : Int) := by omega
      clear hRd
      have HPC : Hid (∀ N mm, mm = at0 + N → mm ≤ len0 → Calls Tryd.prog 24 #[.pointer (some ⟨g, 0, none⟩), .slice (cutB a0 cap0 at0) (mm - at0) (cap0 - at0)] wr fun r w' => PW xs w2 g mm v bad r w') := fun N mm e hm => by
        subst e
        rw [Nat.add_sub_cancel_left]
        exact piece_c hr.out H2.out.2.2.1 (fun W hW => ⟨(H2.out.1 W hW).s0, (H2.out.1 W hW).tb⟩) HX.out.2.2.2.1 lc0 HX.out.2.2.2.2.1 (fun b o s e z => by have h1 := HX.out.2.2.2.2.2.1 _ e; have h2 := H2.out.2.2.2; subst z; exact absurd h1 (Nat.not_lt.2 h2)) N hm
      by_cases hlt2 : k < len1
      · obtain ⟨b1, o1, ha1, hb1, hcell⟩ := (H2.out.1 wr hr.out.1).c0.2.resolve_left (by omega)
        have hkc : wr.cell? ⟨b1, o1 + k, none⟩ = some (.int .i64 (cs[k]?.getD 0)) := hcell k hlt2
        have hcb := HCS.out k
        obtain ⟨c, hc⟩ : ∃ c, c = cs[k]?.getD 0 := ⟨_, rfl⟩
        rw [← hc] at hkc hcb
        have HPL : Hid (Calls Tryd.prog 33 #[.int .i64 c, .int .i64 ((R : Int) + 1)] wr fun r w' => ∃ F : Nat, F ≤ R ∧ r = .returned (.int .i64 (F : Int)) ∧ w' = wr) := by
          have h1 := place_c c (R + 1) wr hcb (by omega) (by omega)
          rw [show ((R + 1 : Nat) : Int) = (R : Int) + 1 from by omega] at h1
          exact h1.mono (fun r w' ⟨F, h1, h2, h3⟩ => ⟨F, by omega, h2, h3⟩)
        clear hc hcell hcb
        subst ha1
        cases bad
        · clear hr
          go_wp2_with (first
            | ((fail_if_success (have z := hMM)); go_at_call 33; go_must (refine (Calls.mono HPL.out ?_)); rintro r w3 ⟨F, hF, rfl, hq⟩; obtain rfl := hq.symm; clear hq; obtain ⟨mm, hmm⟩ : ∃ mm, mm = at0 + F := ⟨_, rfl⟩; have hmi : (at0 : Int) + (F : Int) = (mm : Int) := (by omega); have hml : mm ≤ len0 := (by omega); have hMM : Hid (mm = at0 + F ∧ mm ≤ len0) := ⟨hmm, hml⟩; have hs1 : ∀ W, (Instr.slice 27 (.slice a0 len0 cap0) (some (.int .i64 (at0 : Int))) (some (.int .i64 (mm : Int))) none).run Tryd.prog W = .ok (.slice (cutB a0 cap0 at0) (mm - at0) (cap0 - at0)) W := (fun W => slice_blh a0 len0 cap0 at0 mm (by omega) (by omega) W); clear hmm)
            | ((fail_if_success (have z := H4)); go_at_call 24; go_must (refine (Calls.mono (HPC.out _ _ hMM.out.1 hMM.out.2) ?_)); rintro r w4 ⟨m, ra, rc, e, X, D, rfl, q1, q2, q3, q4, q5, q6, q7⟩; have H4 : Hid (D.length = m ∧ (ra = none → rc = 0 ∧ D = []) ∧ (∀ ad, ra = some ad → ∀ j u, (flI D)[j]? = some u → w4.cell? (ad.add j) = some u) ∧ (X.length + D.length) * 40 ≤ 140737488355328 ∧ w4.ownsRow w2.heap.size 48 3 v X.length (flI X) ∧ w2.heap.size ≤ w4.heap.size ∧ ∀ v' w'', w''.ownsRow w2.heap.size 48 3 v' (X ++ D).length (flI (X ++ D)) → w4.grownBy w'' v.ownBlock → (v'.ownBlock = v.ownBlock ∨ v'.ownBlock = some w4.heap.size) → PI xs w2 w'' g mm v' (false || (e != 0))) := ⟨q1, q2, q3, q4, q5, q6, q7⟩; clear q1 q2 q3 q4 q5 q6 q7)
            | ((fail_if_success (have z := H5)); have z := H4; clear z; at_builtin; go_must (refine wpList_catAt rfl (.tmp 55) (.tmp 56) rfl w2.heap.size v X rfl H4.out.2.2.2.2.1 ra rc m D H4.out.1 rfl H4.out.2.1 H4.out.2.2.1 H4.out.2.2.2.1 H4.out.2.2.2.2.2.1 ?_); intro v5 w5 k1 k2 k3; have H5 : Hid (PI xs w2 w5 g mm v5 (false || (e != 0))) := H4.out.2.2.2.2.2.2 v5 w5 k1 k2 k3; clear k1 k2 k3))
          go_roundw
          case rel => exact ⟨v5, (false || (e != 0)), mm, k + 1, rfl, rfl, by first | rfl | exact congrArg (Value.int .i64) hmi, by go_num, by omega, by omega, fun z => by omega, H5⟩
          case measure => first | (simp [intOf]; done) | (simp [intOf]; omega)
        · clear hr
          go_wp2_with (first
            | ((fail_if_success (have z := hMM)); go_at_call 33; go_must (refine (Calls.mono HPL.out ?_)); rintro r w3 ⟨F, hF, rfl, hq⟩; obtain rfl := hq.symm; clear hq; obtain ⟨mm, hmm⟩ : ∃ mm, mm = at0 + F := ⟨_, rfl⟩; have hmi : (at0 : Int) + (F : Int) = (mm : Int) := (by omega); have hml : mm ≤ len0 := (by omega); have hMM : Hid (mm = at0 + F ∧ mm ≤ len0) := ⟨hmm, hml⟩; have hs1 : ∀ W, (Instr.slice 27 (.slice a0 len0 cap0) (some (.int .i64 (at0 : Int))) (some (.int .i64 (mm : Int))) none).run Tryd.prog W = .ok (.slice (cutB a0 cap0 at0) (mm - at0) (cap0 - at0)) W := (fun W => slice_blh a0 len0 cap0 at0 mm (by omega) (by omega) W); clear hmm)
            | ((fail_if_success (have z := H4)); go_at_call 24; go_must (refine (Calls.mono (HPC.out _ _ hMM.out.1 hMM.out.2) ?_)); rintro r w4 ⟨m, ra, rc, e, X, D, rfl, q1, q2, q3, q4, q5, q6, q7⟩; have H4 : Hid (D.length = m ∧ (ra = none → rc = 0 ∧ D = []) ∧ (∀ ad, ra = some ad → ∀ j u, (flI D)[j]? = some u → w4.cell? (ad.add j) = some u) ∧ (X.length + D.length) * 40 ≤ 140737488355328 ∧ w4.ownsRow w2.heap.size 48 3 v X.length (flI X) ∧ w2.heap.size ≤ w4.heap.size ∧ ∀ v' w'', w''.ownsRow w2.heap.size 48 3 v' (X ++ D).length (flI (X ++ D)) → w4.grownBy w'' v.ownBlock → (v'.ownBlock = v.ownBlock ∨ v'.ownBlock = some w4.heap.size) → PI xs w2 w'' g mm v' (true || (e != 0))) := ⟨q1, q2, q3, q4, q5, q6, q7⟩; clear q1 q2 q3 q4 q5 q6 q7)
            | ((fail_if_success (have z := H5)); have z := H4; clear z; at_builtin; go_must (refine wpList_catAt rfl (.tmp 55) (.tmp 56) rfl w2.heap.size v X rfl H4.out.2.2.2.2.1 ra rc m D H4.out.1 rfl H4.out.2.1 H4.out.2.2.1 H4.out.2.2.2.1 H4.out.2.2.2.2.2.1 ?_); intro v5 w5 k1 k2 k3; have H5 : Hid (PI xs w2 w5 g mm v5 (true || (e != 0))) := H4.out.2.2.2.2.2.2 v5 w5 k1 k2 k3; clear k1 k2 k3))
          go_roundw
          case rel => exact ⟨v5, (true || (e != 0)), mm, k + 1, rfl, rfl, by first | rfl | exact congrArg (Value.int .i64) hmi, by go_num, by omega, by omega, fun z => by omega, H5⟩
          case measure => first | (simp [intOf]; done) | (simp [intOf]; omega)
      · obtain rfl : k = len1 := by omega
        cases bad
        · clear hr
          have hMM : Hid (len0 = at0 + R ∧ len0 ≤ len0) := ⟨by omega, Nat.le_refl _⟩
          have hmi : (at0 : Int) + (R : Int) = (len0 : Int) := by omega
          have hs1 : ∀ W, (Instr.slice 27 (.slice a0 len0 cap0) (some (.int .i64 (at0 : Int))) (some (.int .i64 (len0 : Int))) none).run Tryd.prog W = .ok (.slice (cutB a0 cap0 at0) (len0 - at0) (cap0 - at0)) W := fun W => slice_blh a0 len0 cap0 at0 len0 (by omega) (by omega) W
          go_wp2_with (first
            | ((fail_if_success (have z := H4)); go_at_call 24; go_must (refine (Calls.mono (HPC.out _ _ hMM.out.1 hMM.out.2) ?_)); rintro r w4 ⟨m, ra, rc, e, X, D, rfl, q1, q2, q3, q4, q5, q6, q7⟩; have H4 : Hid (D.length = m ∧ (ra = none → rc = 0 ∧ D = []) ∧ (∀ ad, ra = some ad → ∀ j u, (flI D)[j]? = some u → w4.cell? (ad.add j) = some u) ∧ (X.length + D.length) * 40 ≤ 140737488355328 ∧ w4.ownsRow w2.heap.size 48 3 v X.length (flI X) ∧ w2.heap.size ≤ w4.heap.size ∧ ∀ v' w'', w''.ownsRow w2.heap.size 48 3 v' (X ++ D).length (flI (X ++ D)) → w4.grownBy w'' v.ownBlock → (v'.ownBlock = v.ownBlock ∨ v'.ownBlock = some w4.heap.size) → PI xs w2 w'' g len0 v' (false || (e != 0))) := ⟨q1, q2, q3, q4, q5, q6, q7⟩; clear q1 q2 q3 q4 q5 q6 q7)
            | ((fail_if_success (have z := H5)); have z := H4; clear z; at_builtin; go_must (refine wpList_catAt rfl (.tmp 55) (.tmp 56) rfl w2.heap.size v X rfl H4.out.2.2.2.2.1 ra rc m D H4.out.1 rfl H4.out.2.1 H4.out.2.2.1 H4.out.2.2.2.1 H4.out.2.2.2.2.2.1 ?_); intro v5 w5 k1 k2 k3; have H5 : Hid (PI xs w2 w5 g len0 v5 (false || (e != 0))) := H4.out.2.2.2.2.2.2 v5 w5 k1 k2 k3; clear k1 k2 k3))
          go_roundw
          case rel => exact ⟨v5, (false || (e != 0)), len0, k + 1, rfl, rfl, by first | rfl | exact congrArg (Value.int .i64) hmi, by go_num, by omega, by omega, fun z => by omega, H5⟩
          case measure => first | (simp [intOf]; done) | (simp [intOf]; omega)
        · clear hr
          have hMM : Hid (len0 = at0 + R ∧ len0 ≤ len0) := ⟨by omega, Nat.le_refl _⟩
          have hmi : (at0 : Int) + (R : Int) = (len0 : Int) := by omega
          have hs1 : ∀ W, (Instr.slice 27 (.slice a0 len0 cap0) (some (.int .i64 (at0 : Int))) (some (.int .i64 (len0 : Int))) none).run Tryd.prog W = .ok (.slice (cutB a0 cap0 at0) (len0 - at0) (cap0 - at0)) W := fun W => slice_blh a0 len0 cap0 at0 len0 (by omega) (by omega) W
          go_wp2_with (first
            | ((fail_if_success (have z := H4)); go_at_call 24; go_must (refine (Calls.mono (HPC.out _ _ hMM.out.1 hMM.out.2) ?_)); rintro r w4 ⟨m, ra, rc, e, X, D, rfl, q1, q2, q3, q4, q5, q6, q7⟩; have H4 : Hid (D.length = m ∧ (ra = none → rc = 0 ∧ D = []) ∧ (∀ ad, ra = some ad → ∀ j u, (flI D)[j]? = some u → w4.cell? (ad.add j) = some u) ∧ (X.length + D.length) * 40 ≤ 140737488355328 ∧ w4.ownsRow w2.heap.size 48 3 v X.length (flI X) ∧ w2.heap.size ≤ w4.heap.size ∧ ∀ v' w'', w''.ownsRow w2.heap.size 48 3 v' (X ++ D).length (flI (X ++ D)) → w4.grownBy w'' v.ownBlock → (v'.ownBlock = v.ownBlock ∨ v'.ownBlock = some w4.heap.size) → PI xs w2 w'' g len0 v' (true || (e != 0))) := ⟨q1, q2, q3, q4, q5, q6, q7⟩; clear q1 q2 q3 q4 q5 q6 q7)
            | ((fail_if_success (have z := H5)); have z := H4; clear z; at_builtin; go_must (refine wpList_catAt rfl (.tmp 55) (.tmp 56) rfl w2.heap.size v X rfl H4.out.2.2.2.2.1 ra rc m D H4.out.1 rfl H4.out.2.1 H4.out.2.2.1 H4.out.2.2.2.1 H4.out.2.2.2.2.2.1 ?_); intro v5 w5 k1 k2 k3; have H5 : Hid (PI xs w2 w5 g len0 v5 (true || (e != 0))) := H4.out.2.2.2.2.2.2 v5 w5 k1 k2 k3; clear k1 k2 k3))
          go_roundw
          case rel => exact ⟨v5, (true || (e != 0)), len0, k + 1, rfl, rfl, by first | rfl | exact congrArg (Value.int .i64) hmi, by go_num, by omega, by omega, fun z => by omega, H5⟩
          case measure => first | (simp [intOf]; done) | (simp [intOf]; omega)
    · obtain rfl : k = len1 + 1 := by omega
      have hat := hkl rfl
      subst hat
      have hxl := HX.out.2.2.2.2.2.2
      have hpi : PI xs w2 wr g xs.length v bad := by rw [hxl]; exact hr.out
      have hpd := H2.out.1 wr hr.out.1
      rcases hpd.dr with ⟨rfl, Y, hd, hR⟩ | ⟨he1, hno⟩
      · obtain ⟨hbf, va, vc, hvs, HE0⟩ := end_ok hpi H2.out.2.2.1 HX.out.2.2.2.1 hd
        have hYl : Y.length = dn := hR.1
        rw [hYl] at hvs HE0
        subst hbf
        subst hvs
        have HE : Hid (Calls Tryd.prog 27 #[.pointer (some ⟨g, 0, none⟩)] wr fun r w' => r = .returned (.tuple #[.int .i64 s1, .int .i64 0]) ∧ Rws w' va dn Y ∧ w2.grownBy w' (some g)) := HE0
        have HRW : Hid (∀ W, w2.grownBy W (some g) → Rws W da dn Y) := fun W hW => by
          rcases (H2.out.1 W hW).dr with ⟨_, Y', hd', hR'⟩ | ⟨z, _⟩
          · obtain ⟨_, rfl⟩ := dok_uniq HX.out.2.2.2.1 hd hd'
            exact hR'
          · cases z
        have HYB : Hid (dn ≤ 9223372036854775806) := by
          have h1 := (dok_form hd).2.2.2.1
          rw [hYl] at h1
          exact Nat.le_trans h1 (by decide)
        clear HE0 hpi hpd hd hR hr hxl
        go_wp2_with (first
          | ((fail_if_success (have z := H5)); go_at_call 27; go_must (refine (Calls.mono HE.out ?_)); rintro r w5 ⟨rfl, q1, q2⟩; have c0 : w5.cell? ⟨w1.heap.size, 0, none⟩ = some (.int .i64 s1) := (H2.out.1 w5 q2).st.cell 0; have c1 : w5.cell? ⟨w1.heap.size, 1, none⟩ = some (.slice da dn dn) := (H2.out.1 w5 q2).st.cell 1; have H5 : Hid (Rws w5 va dn Y ∧ w2.grownBy w5 (some g)) := ⟨q1, q2⟩; clear q1 q2)
          | ((fail_if_success (have z := H6)); have z := H5; clear z; go_at_call 26; go_must (refine (Calls.mono (ysame_c va da vc dn dn Y _ H5.out.1 (HRW.out _ H5.out.2) HYB.out) ?_)); rintro r w6 ⟨rfl, q1⟩; have H6 : Hid (w2.grownBy w6 (some g)) := gb_trans H5.out.2 (gb_wide q1 _); clear q1)
          | (have z := H6; clear z; go_at_call 17; go_must (refine (Calls.mono (lives_c _ (H2.out.1 _ H6.out).tb) ?_)); rintro r w7 ⟨rfl, q1⟩; have H7 : Hid (w2.grownBy w7 (some g)) := gb_trans H6.out (gb_wide q1 _); clear q1))
        go_ret
        exact ⟨rfl, gbb (H2.out.1 _ H7.out).gb⟩
      · have HE : Hid (Calls Tryd.prog 27 #[.pointer (some ⟨g, 0, none⟩)] wr fun r w' => ∃ f, r = .returned (.tuple #[.int .i64 0, .int .i64 f]) ∧ (f != 0) = true ∧ w2.grownBy w' (some g)) := end_no hpi HX.out.2.2.2.1 hno
        clear hpi hpd hno hr hxl
        cases bad
        · go_wp2_with (first
          | ((fail_if_success (have z := H5)); go_at_call 27; go_must (refine (Calls.mono HE.out ?_)); rintro r w5 ⟨f, rfl, hf, q2⟩; have H5 : Hid (w2.grownBy w5 (some g)) := q2; clear q2)
          | (have z := H5; clear z; go_at_call 17; go_must (refine (Calls.mono (lives_c _ (H2.out.1 _ H5.out).tb) ?_)); rintro r w7 ⟨rfl, q1⟩; have H7 : Hid (w2.grownBy w7 (some g)) := gb_trans H5.out (gb_wide q1 _); clear q1))
          go_ret
          exact ⟨rfl, gbb (H2.out.1 _ H7.out).gb⟩
        · go_wp2_with (first
          | ((fail_if_success (have z := H5)); go_at_call 27; go_must (refine (Calls.mono HE.out ?_)); rintro r w5 ⟨f, rfl, hf, q2⟩; have H5 : Hid (w2.grownBy w5 (some g)) := q2; clear q2)
          | (have z := H5; clear z; go_at_call 17; go_must (refine (Calls.mono (lives_c _ (H2.out.1 _ H5.out).tb) ?_)); rintro r w7 ⟨rfl, q1⟩; have H7 : Hid (w2.grownBy w7 (some g)) := gb_trans H5.out (gb_wide q1 _); clear q1))
          go_ret
          exact ⟨rfl, gbb (H2.out.1 _ H7.out).gb⟩
end Go.Proofs.YtcdgfghcmeadgaaDoor
