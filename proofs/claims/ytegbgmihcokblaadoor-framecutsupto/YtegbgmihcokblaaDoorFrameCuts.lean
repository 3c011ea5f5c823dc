/-
  Proved, in its second form: for every number and all pieces that hold together at most 2^20 values, hawserlaw04.FrameCuts answers true: what a Splitter finds, what waits, is junk and lost hangs on the stream alone, not on the pieces, and all bytes are accounted for (the card ties the table of package crc to the program's text).
-/
import Derived.Test.YtegbgmihcokblaaDoorRows
import Derived.Test.YtegbgmihcokblaaDoorCards
import Derived.Test.YtegbgmihcokblaaDoorTie
import Derived.Test.YtegbgmihcokblaaDoorFSq
import Derived.WalkKit
import Derived.ProofKit
import Derived.OpenShut
import Derived.ShutString
import Derived.ChangeOld
import Derived.Below
import Derived.Lib.SmallJoins
import Derived.JoinedCond
import Derived.Deep.DeepHandedRow
import Derived.Lib.LaidTab
import Derived.Sort.AtCall
namespace Go.Proofs.YtegbgmihcokblaaDoor.frameCuts
open Go.ChangeShapes Go.WideShapes Go.ChangeAt Go.RowKit
set_option linter.unusedVariables false

theorem own : ownKnob Tryd.prog.godebug = none := by kernel_rfl
theorem laidOut : laidOutB Tryd.prog = true := by kernel_rfl

def fsum (L : List FrM) : Nat := (L.map fun f => f.ys.length + 14).sum
theorem fsum_fr (L : List FrM) : fsum L = ((L.map FrM.fr).map fun f => f.2.length + 14).sum := by
  unfold fsum
  rw [List.map_map]
  rfl
theorem fsum_snoc (L : List FrM) (k : Nat) (f : FrM) (h : L[k]? = some f) : fsum (L.take (k + 1)) = fsum (L.take k) + (f.ys.length + 14) := by
  unfold fsum
  rw [List.take_add_one, h]
  simp [List.sum_append]
theorem fsum_le (L : List FrM) (k : Nat) : fsum (L.take k) ≤ fsum L := by
  conv => rhs; rw [← List.take_append_drop k L]
  unfold fsum
  rw [List.map_append, List.sum_append]
  omega
set_option maxRecDepth 20000 in
set_option maxHeartbeats 4000000 in
theorem walk (V : Int) (a : Option Addr) (n cap : Nat) (X : List (List Int)) (w : World) (wV : (Lit.int .i64 V).wf = true) (x1 : Pcs w a n X) (y1 : X.flatten.length + n ≤ 1048576) (ht : Tab w) :
    Calls Tryd.prog 4 #[.int .i64 V, .slice a n cap] w fun e w' => e = .returned (.bool true) ∧ Below w.heap.size w w' := by
  by_cases h1 : V < 0
  · clear x1 y1 ht wV
    go_enter Tryd.func4, Tryd.ntmps4
    go_wp2
    go_ret
    exact ⟨rfl, Below.refl _ _⟩
  by_cases h2 : 1048576 < V
  · clear x1 y1 ht wV
    go_enter Tryd.func4, Tryd.ntmps4
    go_wp2
    go_ret
    exact ⟨rfl, Below.refl _ _⟩
  obtain ⟨most, rfl⟩ : ∃ most : Nat, V = (most : Int) := ⟨V.toNat, by omega⟩
  have hm : most ≤ 1048576 := by omega
  have hnb : n ≤ 1048576 := by omega
  have HP : Hid (Pcs w a n X ∧ X.flatten.length + n ≤ 1048576 ∧ Tab w ∧ X.length = n) := ⟨x1, y1, ht, x1.1⟩
  have HXB : Hid (Bytes X.flatten) := bytes_of_mem (fun z hz => by
    obtain ⟨l, hl', hz'⟩ := List.mem_flatten.1 hz
    obtain ⟨i, hi, rfl⟩ := List.getElem_of_mem hl'
    obtain ⟨b, off, _, _, hc⟩ := x1.2.resolve_left (by have := x1.1; omega)
    obtain ⟨_, _, _, _, _, q3, _⟩ := hc i (by have := x1.1; omega)
    exact q3.mem z (by simpa [hi] using hz'))
  have HAL : Hid (∀ W, Below w.heap.size w W → Calls Tryd.prog 20 #[.int .i64 (most : Int), .slice a n cap] W fun r w' => ∃ S fa fc L Q F, r = .returned (.tuple #[.slice fa L.length fc, .pointer (some ⟨S, 0, none⟩), .bool true]) ∧ AllI most W S X.flatten w' (.slice fa L.length fc) L Q F) := fun W hb => all_c most a n cap X W (x1.below hb) (ht.below hb) hm (by omega) (by omega)
  clear x1 y1 ht wV
  go_enter Tryd.func4, Tryd.ntmps4
  go_wp2_with fail
  go_loopw [5, 6] (fun u i wr => ∃ k : Nat, k ≤ n ∧ i = .int .i64 (k : Int) ∧ Hid (Own w.heap.size wr u (X.take k).flatten.length (X.take k).flatten ∧ Below w.heap.size w wr)) (fun _ i _ => n - (intOf i).toNat)
  case atStart => exact ⟨0, Nat.zero_le _, rfl, own_nil _ _, Below.refl _ _⟩
  case round =>
    obtain ⟨k, hk, rfl, HO⟩ := hrel
    by_cases hlt : k < n
    · have hci : (k : Int) < (n : Int) := by omega
      obtain ⟨b, off, rfl, hbw, hc⟩ := HP.out.1.2.resolve_left (by omega)
      obtain ⟨pa, pl, pc, hcell, q2, q3, q4, q5⟩ := hc k hlt
      have hcw : wr.cell? ⟨b, off + k, none⟩ = some (.slice pa pl pc) := (HO.out.2.cell (p := ⟨b, off + k, none⟩) hbw).trans hcell
      have HQ : Hid (Seg .u8 wr pa pl (X[k]?.getD []) ∧ (pa = none → pc = 0)) := ⟨q2.below HO.out.2, q5⟩
      have HSN : Hid ((X.take (k + 1)).flatten = (X.take k).flatten ++ X[k]?.getD []) := flat_snoc X k (by have := HP.out; omega)
      have HLN : Hid ((X.take k).flatten.length + pl ≤ 1048576 ∧ k + 1 ≤ n ∧ (X[k]?.getD []).length = pl ∧ n ≤ 1048576) := by
        have z1 := flat_len X (k + 1)
        rw [HSN.out, List.length_append, q2.1] at z1
        have := HP.out.2.1
        exact ⟨by omega, hlt, q2.1, by omega⟩
      obtain ⟨f, hf⟩ : ∃ f, f = (X.take k).flatten := ⟨_, rfl⟩
      rw [← hf] at HO HSN HLN
      clear hcell q2 q3 q4 q5 hc hf
      go_wp2_with (at_builtin; go_must (refine wpList_append_grow _ rfl (.tmp 29) (.tmp 33) rfl w.heap.size f.length _ f rfl HO.out.1 pa pl pc _ rfl HQ.out.2 HQ.out.1 (by have := HLN.out; omega) HO.out.2.size ?_); intro v' w2 y1 y2; have H2 : Hid (Own w.heap.size w2 v' (f.length + pl) (f ++ X[k]?.getD []) ∧ Below w.heap.size w w2) := ⟨y1, HO.out.2.trans y2⟩; clear y1 y2)
      go_roundw
      case rel => exact ⟨k + 1, HLN.out.2.1, by have := HLN.out; go_num, by rw [HSN.out, List.length_append, HLN.out.2.2.1]; exact H2.out⟩
      case measure => have := HLN.out; simp [intOf]; omega
    · have hci : ¬ ((k : Int) < (n : Int)) := by omega
      have HK : Hid (X.take k = X) := List.take_of_length_le (by have := HP.out; omega)
      rw [HK.out] at HO
      clear HK
      obtain ⟨zs, hzs⟩ : ∃ zs, zs = X.flatten := ⟨_, rfl⟩
      have HZ : Hid (zs.length ≤ 1048576 ∧ Bytes zs ∧ Tab w) := by rw [hzs]; exact ⟨by have := HP.out; omega, HXB.out, HP.out.2.2.1⟩
      rw [← hzs] at HO HAL
      obtain ⟨va, vc, rfl, _, _, _⟩ := HO.out.1.seg
      obtain ⟨N, hN⟩ : ∃ N, N = zs.length := ⟨_, rfl⟩
      rw [← hN]
      have HN : Hid (N = zs.length) := hN
      clear hzs HP HXB hN
      have HB2 : Hid (∀ W, Below wr.heap.size wr W → Calls Tryd.prog 20 #[.int .i64 (most : Int), .slice (some ⟨W.heap.size, 0, none⟩) 1 1] (W.alloc (.cells #[.slice va N vc] 28)) fun r w' => ∃ S fa fc L Q F, r = .returned (.tuple #[.slice fa L.length fc, .pointer (some ⟨S, 0, none⟩), .bool true]) ∧ AllI most (W.alloc (.cells #[.slice va N vc] 28)) S zs w' (.slice fa L.length fc) L Q F) := fun W hb => by
        have ho := HO.out.1
        rw [← HN.out] at ho
        obtain ⟨za, zc, ez, zs1, zn, zl⟩ := (ho.below hb).seg
        cases ez
        have hba : Below W.heap.size W (W.alloc (.cells #[.slice va N vc] 28)) := (Below.refl _ _).alloc (Nat.le_refl _) _
        have hpc : Pcs (W.alloc (.cells #[.slice va N vc] 28)) (some ⟨W.heap.size, 0, none⟩) 1 [zs] := by
          refine ⟨rfl, .inr ⟨W.heap.size, 0, rfl, by simp, fun i hi => ?_⟩⟩
          obtain rfl : i = 0 := by omega
          exact ⟨va, N, vc, Bk.cell (T := 28) (heap_new W _) 0, zs1.below hba, HZ.out.2.1, zl, zn⟩
        have := all_c most (some ⟨W.heap.size, 0, none⟩) 1 1 [zs] (W.alloc (.cells #[.slice va N vc] 28)) hpc ((HZ.out.2.2.below HO.out.2 |>.below hb).below hba) hm (by simp; have := HZ.out.1; omega) (by decide)
        rw [show [zs].flatten = zs from by simp] at this
        exact this
      go_wp2_with (first
        | (go_at_call_has 20 (Value.slice a n cap); go_must (refine (Calls.mono (HAL.out _ HO.out.2) ?_)); rintro r w3 ⟨S, fa1, fc1, L1, Q1, F1, rfl, h3⟩; have HA1 : Hid (AllI most wr S zs w3 (.slice fa1 L1.length fc1) L1 Q1 F1) := h3; clear h3))
      refine (Calls.mono (HB2.out w3 HA1.out.2.2.2.2.2.2) ?_)
      rintro r w5 ⟨T, fa2, fc2, L2, Q2, F2, rfl, h3⟩
      have HT : Hid (Two wr w5 S T most 2097180 (fseen most false zs).rest (fseen most false zs).junk (fseen most false zs).lost (.slice fa1 L1.length fc1) (.slice fa2 L2.length fc2) L1 L2 Q1 Q2 F1 F2 ∧ L1.map FrM.fr = (fseen most false zs).frames ∧ L2.map FrM.fr = (fseen most false zs).frames) := ⟨two_of HA1.out (World.grownBy_alloc _ _ _) h3, HA1.out.1, h3.1⟩
      clear h3 HB2 HAL HA1
      have hall := fseen_all most false _ zs (Nat.le_refl _)
      rw [← HT.out.2.1, ← fsum_fr] at hall
      have hwt := fseen_waits most _ zs (Nat.le_refl _)
      have hlj := lost_le most false _ zs (Nat.le_refl _)
      obtain ⟨rest, hrest⟩ : ∃ rest, rest = (fseen most false zs).rest := ⟨_, rfl⟩
      obtain ⟨J, hJ⟩ : ∃ J, J = (fseen most false zs).junk := ⟨_, rfl⟩
      obtain ⟨Z, hZ⟩ : ∃ Z, Z = (fseen most false zs).lost := ⟨_, rfl⟩
      rw [← hrest, ← hJ] at hall
      rw [← hrest] at hwt
      rw [← hZ, ← hJ] at hlj
      rw [← hrest, ← hJ, ← hZ] at HT
      obtain ⟨R, hR⟩ : ∃ R, R = rest.length := ⟨_, rfl⟩
      obtain ⟨n1, hn1⟩ : ∃ n1, n1 = L1.length := ⟨_, rfl⟩
      have hn12 : L2.length = n1 := by have := congrArg List.length (HT.out.2.1.trans HT.out.2.2.symm); simp at this; omega
      have hfl := fi_len L1 HT.out.2.1
      rw [← hR] at hall hwt
      have HNN : Hid (fsum L1 + J + R = N ∧ R < most + 14 ∧ N ≤ 1048576 ∧ Z ≤ J ∧ n1 = L1.length ∧ R = rest.length ∧ Tab wr ∧ n1 ≤ 1048576) := ⟨by rw [HN.out]; exact hall, hwt, by rw [HN.out]; exact HZ.out.1, hlj, hn1, hR, HZ.out.2.2.below HO.out.2, by have := HZ.out.1; omega⟩
      have hRN : R ≤ 1048576 := by have := HNN.out; omega
      have hJN : J ≤ 1048576 := by have := HNN.out; omega
      have hZN : Z ≤ 1048576 := by have := HNN.out; omega
      have hRm : R < most + 14 := HNN.out.2.1
      have HC : Hid (∀ W, w5.grownBy W none → Calls Tryd.prog 17 #[.pointer (some ⟨S, 0, none⟩)] W (fun r w' => r = .returned (.int .i64 (R : Int)) ∧ W.grownBy w' none) ∧ Calls Tryd.prog 17 #[.pointer (some ⟨T, 0, none⟩)] W (fun r w' => r = .returned (.int .i64 (R : Int)) ∧ W.grownBy w' none) ∧ Calls Tryd.prog 18 #[.pointer (some ⟨S, 0, none⟩)] W (fun r w' => r = .returned (.int .i64 (J : Int)) ∧ W.grownBy w' none) ∧ Calls Tryd.prog 18 #[.pointer (some ⟨T, 0, none⟩)] W (fun r w' => r = .returned (.int .i64 (J : Int)) ∧ W.grownBy w' none) ∧ Calls Tryd.prog 19 #[.pointer (some ⟨S, 0, none⟩)] W (fun r w' => r = .returned (.int .i64 (Z : Int)) ∧ W.grownBy w' none) ∧ Calls Tryd.prog 19 #[.pointer (some ⟨T, 0, none⟩)] W (fun r w' => r = .returned (.int .i64 (Z : Int)) ∧ W.grownBy w' none) ∧ Calls Tryd.prog 21 #[.slice fa1 n1 fc1, .slice fa2 n1 fc2] W (fun r w' => r = .returned (.bool true) ∧ W.grownBy w' none)) := fun W hg => by
        have h := HT.out.1.gb hg
        have f1 := h.f1
        have f2 := h.f2
        rw [hR]
        refine ⟨ss_waits h.s1 (by decide), ss_waits h.s2 (by decide), ss_junk h.s1, ss_junk h.s2, ss_lost h.s1, ss_lost h.s2, ?_⟩
        have := alike_c F1 F2 W fa1 fa2 fc1 fc2 L1 L2 f1 f2 (HT.out.2.1.trans HT.out.2.2.symm) (by have := HNN.out; omega)
        rw [← hn1, hn12] at this
        exact this
      rw [← hn1, hn12]
      have HFR : Hid (∀ W, w5.grownBy W none → FrL F1 W (.slice fa1 n1 fc1) L1) := fun W hg => by rw [hn1]; exact (HT.out.1.gb hg).f1
      have HG : Hid (w5.grownBy w5 none) := World.grownBy.refl _ _
      have HBB : Hid (Below w.heap.size w wr) := HO.out.2
      have HEN : Hid (fseen most true rest = fseen most true rest) := rfl
      clear hall hwt hlj hrest hJ hZ hR hn1 hn12 hfl HN HZ HO
      go_wp2_with (first
        | (go_at_call_has 17 (Value.pointer (some ⟨S, 0, none⟩)); go_must (refine (Calls.mono (HC.out _ HG.out).1 ?_)); rintro r wq ⟨rfl, hq⟩; replace HG : Hid (w5.grownBy wq none) := gb_trans HG.out hq; clear hq)
        | (go_at_call_has 17 (Value.pointer (some ⟨T, 0, none⟩)); go_must (refine (Calls.mono (HC.out _ HG.out).2.1 ?_)); rintro r wq ⟨rfl, hq⟩; replace HG : Hid (w5.grownBy wq none) := gb_trans HG.out hq; clear hq)
        | (go_at_call_has 18 (Value.pointer (some ⟨S, 0, none⟩)); go_must (refine (Calls.mono (HC.out _ HG.out).2.2.1 ?_)); rintro r wq ⟨rfl, hq⟩; replace HG : Hid (w5.grownBy wq none) := gb_trans HG.out hq; clear hq)
        | (go_at_call_has 18 (Value.pointer (some ⟨T, 0, none⟩)); go_must (refine (Calls.mono (HC.out _ HG.out).2.2.2.1 ?_)); rintro r wq ⟨rfl, hq⟩; replace HG : Hid (w5.grownBy wq none) := gb_trans HG.out hq; clear hq)
        | (go_at_call_has 19 (Value.pointer (some ⟨S, 0, none⟩)); go_must (refine (Calls.mono (HC.out _ HG.out).2.2.2.2.1 ?_)); rintro r wq ⟨rfl, hq⟩; replace HG : Hid (w5.grownBy wq none) := gb_trans HG.out hq; clear hq)
        | (go_at_call_has 19 (Value.pointer (some ⟨T, 0, none⟩)); go_must (refine (Calls.mono (HC.out _ HG.out).2.2.2.2.2.1 ?_)); rintro r wq ⟨rfl, hq⟩; replace HG : Hid (w5.grownBy wq none) := gb_trans HG.out hq; clear hq)
        | (go_at_call 21; go_must (refine (Calls.mono (HC.out _ HG.out).2.2.2.2.2.2 ?_)); rintro r wq ⟨rfl, hq⟩; replace HG : Hid (w5.grownBy wq none) := gb_trans HG.out hq; clear hq))
      go_loopw [13, 14] (fun b i wq => ∃ k : Nat, k ≤ n1 ∧ i = .int .i64 (k : Int) ∧ b = .int .i64 ((R + J + fsum (L1.take k) : Nat) : Int) ∧ Hid (w5.grownBy wq none)) (fun _ i _ => n1 - (intOf i).toNat)
      case atStart => exact ⟨0, Nat.zero_le _, rfl, by congr 1, HG.out⟩
      case round =>
        clear HG
        obtain ⟨k2, hk2, rfl, rfl, HG⟩ := hrel
        obtain ⟨P, hP⟩ : ∃ P, P = R + J + fsum (L1.take k2) := ⟨_, rfl⟩
        rw [← hP]
        by_cases hlt2 : k2 < n1
        · have hci2 : (k2 : Int) < (n1 : Int) := by omega
          obtain ⟨f, hf⟩ : ∃ f, L1[k2]? = some f := ⟨_, List.getElem?_eq_getElem (show k2 < L1.length by have := HNN.out; omega)⟩
          obtain ⟨g, gc, ua, uc, e1, hu, hs, hr, hgl⟩ := (HFR.out wr HG.out).at k2 f hf
          have e3 : fa1 = some ⟨g, 0, none⟩ := by injection e1
          have e4 : fc1 = gc := by injection e1
          obtain ⟨m, hm'⟩ : ∃ m, m = f.ys.length := ⟨_, rfl⟩
          have hcb : wr.cell? ⟨g, k2 * 2 + 1, none⟩ = some (.slice ua m uc) := by rw [hm']; exact hr 1 _ rfl
          have hsn := fsum_snoc L1 k2 f hf
          have hle := fsum_le L1 (k2 + 1)
          rw [← hm'] at hsn
          have HV : Hid (P + m + 14 = R + J + fsum (L1.take (k2 + 1)) ∧ k2 + 1 ≤ n1) := ⟨by omega, hlt2⟩
          have hPm : P + m + 14 ≤ 1048576 := by have := HNN.out; have := HV.out; omega
          have hn1b : n1 ≤ 1048576 := HNN.out.2.2.2.2.2.2.2
          subst e3 e4
          clear hf e1 hu hs hr hgl hm' hsn hle hP HC HFR
          go_wp2_with fail
          go_roundw
          case rel => exact ⟨k2 + 1, HV.out.2, by go_num, congrArg (Value.int .i64) (show (P : Int) + (m : Int) + 14 = ((R + J + fsum (L1.take (k2 + 1)) : Nat) : Int) from by rw [← HV.out.1]; omega), HG.out⟩
          case measure => have := HV.out; simp [intOf]; omega
        · have hci2 : ¬ ((k2 : Int) < (n1 : Int)) := by omega
          have hPN : P = N := by
            rw [hP, List.take_of_length_le (by have := HNN.out; omega)]
            have := HNN.out
            omega
          subst hPN
          have hRm2 : ¬ ((most : Int) + 14 ≤ (R : Int)) := by omega
          have HE1 : Hid (∀ W, w5.grownBy W none → Calls Tryd.prog 11 #[.pointer (some ⟨S, 0, none⟩)] W fun r w' => ∃ fa fc L Q F, r = .returned (.slice fa L.length fc) ∧ (L.map FrM.fr = (fseen most true rest).frames ∧ SS Q w' S 0 [] most (J + (fseen most true rest).junk) (Z + (fseen most true rest).lost) (.slice none 0 0) [] ∧ FrL F w' (.slice fa L.length fc) L ∧ SS Q2 w' T 2097180 rest most J Z (.slice none 0 0) [] ∧ (∀ k, Q k → _ ∧ k < w'.heap.size ∧ ¬ Q2 k) ∧ (∀ k, F k → _ ∧ k < w'.heap.size ∧ ¬ Q2 k) ∧ (∀ k, F k → ¬ Q k) ∧ (∀ k, Q2 k → _ ∧ k < w'.heap.size) ∧ Below _ _ w')) := fun W hg => by
            refine (end_one (HT.out.1.gb hg) HNN.out.2.2.2.2.2.2.1 hm (by decide) (by omega) (by omega)).mono ?_
            rintro r w' ⟨fa, fc, L, Q, F, z1, z2⟩
            exact ⟨fa, fc, L, Q, F, z1, z2⟩
          clear hP HFR
          go_wp2_with (first
            | (have z9 := HG2; clear z9; go_at_call_has 17 (Value.pointer (some ⟨S, 0, none⟩)); go_must (refine (Calls.mono (HC2.out _ HG2.out).1 ?_)); rintro r wq ⟨rfl, hq⟩; replace HG2 : Hid (w7.grownBy wq none) := gb_trans HG2.out hq; clear hq)
            | (have z9 := HG2; clear z9; go_at_call_has 18 (Value.pointer (some ⟨S, 0, none⟩)); go_must (refine (Calls.mono (HC2.out _ HG2.out).2.1 ?_)); rintro r wq ⟨rfl, hq⟩; replace HG2 : Hid (w7.grownBy wq none) := gb_trans HG2.out hq; clear hq)
            | (have z9 := HG2; clear z9; go_at_call_has 18 (Value.pointer (some ⟨T, 0, none⟩)); go_must (refine (Calls.mono (HC2.out _ HG2.out).2.2.1 ?_)); rintro r wq ⟨rfl, hq⟩; replace HG2 : Hid (w7.grownBy wq none) := gb_trans HG2.out hq; clear hq)
            | (have z9 := HG2; clear z9; go_at_call_has 19 (Value.pointer (some ⟨S, 0, none⟩)); go_must (refine (Calls.mono (HC2.out _ HG2.out).2.2.2.1 ?_)); rintro r wq ⟨rfl, hq⟩; replace HG2 : Hid (w7.grownBy wq none) := gb_trans HG2.out hq; clear hq)
            | (have z9 := HG2; clear z9; go_at_call_has 19 (Value.pointer (some ⟨T, 0, none⟩)); go_must (refine (Calls.mono (HC2.out _ HG2.out).2.2.2.2.1 ?_)); rintro r wq ⟨rfl, hq⟩; replace HG2 : Hid (w7.grownBy wq none) := gb_trans HG2.out hq; clear hq)
            | (have z9 := HG2; clear z9; go_at_call 21; go_must (refine (Calls.mono (HC2.out _ HG2.out).2.2.2.2.2 ?_)); rintro r wq ⟨rfl, hq⟩; replace HG2 : Hid (w7.grownBy wq none) := gb_trans HG2.out hq; clear hq)
            | (go_at_call_has 17 (Value.pointer (some ⟨S, 0, none⟩)); go_must (refine (Calls.mono (HC.out _ HG.out).1 ?_)); rintro r wq ⟨rfl, hq⟩; replace HG : Hid (w5.grownBy wq none) := gb_trans HG.out hq; clear hq)
            | (go_at_call_has 11 (Value.pointer (some ⟨S, 0, none⟩)); go_must (refine (Calls.mono (HE1.out _ HG.out) ?_)); rintro r w6 ⟨fa3, fc3, L3, Q3, F3, rfl, z1, z2, z3, z4, z5, z6, z7, z8, z9⟩; have H6 : Hid (_ ∧ _ ∧ _ ∧ _ ∧ _ ∧ _ ∧ _ ∧ _ ∧ _) := ⟨z1, z2, z3, z4, z5, z6, z7, z8, z9⟩; clear z1 z2 z3 z4 z5 z6 z7 z8 z9)
            | (go_at_call 11; go_must (refine (Calls.mono (end_two H6.out.1 H6.out.2.1 H6.out.2.2.1 H6.out.2.2.2.1 H6.out.2.2.2.2.1 H6.out.2.2.2.2.2.1 H6.out.2.2.2.2.2.2.1 H6.out.2.2.2.2.2.2.2.1 H6.out.2.2.2.2.2.2.2.2 HNN.out.2.2.2.2.2.2.1 hm (by decide) (by omega) (by omega)) ?_)); rintro r w7 ⟨fa4, fc4, L4, Q4, F4, rfl, y1, y2⟩; have H7 : Hid (_ ∧ _ ∧ _) := ⟨y2, y1, H6.out.1⟩; have HG2 : Hid (w7.grownBy w7 none) := World.grownBy.refl _ _; have HC2 : Hid (∀ W, w7.grownBy W none → Calls Tryd.prog 17 #[.pointer (some ⟨S, 0, none⟩)] W (fun r w' => r = .returned (.int .i64 (0 : Int)) ∧ W.grownBy w' none) ∧ Calls Tryd.prog 18 #[.pointer (some ⟨S, 0, none⟩)] W (fun r w' => r = .returned (.int .i64 ((J + (fseen most true rest).junk : Nat) : Int)) ∧ W.grownBy w' none) ∧ Calls Tryd.prog 18 #[.pointer (some ⟨T, 0, none⟩)] W (fun r w' => r = .returned (.int .i64 ((J + (fseen most true rest).junk : Nat) : Int)) ∧ W.grownBy w' none) ∧ Calls Tryd.prog 19 #[.pointer (some ⟨S, 0, none⟩)] W (fun r w' => r = .returned (.int .i64 ((Z + (fseen most true rest).lost : Nat) : Int)) ∧ W.grownBy w' none) ∧ Calls Tryd.prog 19 #[.pointer (some ⟨T, 0, none⟩)] W (fun r w' => r = .returned (.int .i64 ((Z + (fseen most true rest).lost : Nat) : Int)) ∧ W.grownBy w' none) ∧ Calls Tryd.prog 21 #[.slice fa3 L3.length fc3, .slice fa4 L4.length fc4] W (fun r w' => r = .returned (.bool true) ∧ W.grownBy w' none)) := (fun W hg => by
              have h := y2.gb hg
              have hL3 : L3.length ≤ 1152921504606846976 := by
                have q1 := fseen_all most true _ rest (Nat.le_refl _)
                rw [← H6.out.1, ← fsum_fr] at q1
                have q2 : L3.length ≤ fsum L3 := by
                  clear q1 hg h y1 y2 H6 H7
                  induction L3 with
                  | nil => simp [fsum]
                  | cons f L ih => unfold fsum at ih ⊢; simp only [List.map_cons, List.sum_cons, List.length_cons]; omega
                have q3 := HNN.out
                omega
              refine ⟨by have := ss_waits h.s1 (by decide); simpa using this, ss_junk h.s1, ss_junk h.s2, ss_lost h.s1, ss_lost h.s2, ?_⟩
              exact alike_c F3 F4 W fa3 fa4 fc3 fc4 L3 L4 h.f1 h.f2 (H6.out.1.trans y1.symm) hL3); clear y1 y2))
          go_ret
          exact ⟨by simp, (HBB.out.trans (H7.out.1.be.mono HBB.out.size)).trans ((gb_below HG2.out).mono (Nat.le_trans HBB.out.size H7.out.1.be.size))⟩

theorem bulk_len {H : Type} (l : List (DataW H)) : l.length ≤ Rows.uptoBulkAll l := by
  induction l with
  | nil => simp
  | cons d r ih =>
    have : 1 ≤ Rows.uptoBulk d := by
      cases d with
      | lit x => cases x <;> simp [Rows.uptoBulk]
      | _ => simp [Rows.uptoBulk]
    simp only [Rows.uptoBulkAll, List.length_cons]; omega
theorem bulk_mem {H : Type} {d : DataW H} {l : List (DataW H)} (h : d ∈ l) : Rows.uptoBulk d ≤ Rows.uptoBulkAll l := by
  induction l with
  | nil => cases h
  | cons x r ih =>
    simp only [Rows.uptoBulkAll]
    rcases List.mem_cons.1 h with rfl | h
    · omega
    · have := ih h; omega
theorem bulk_slice {H : Type} {ds : List (DataW H)} {d : DataW H} {l r : List (DataW H)} (hk : Rows.uptoSmall H ds = true) (hd : d ∈ ds) (e : d = .slice l r) : l.length + r.length ≤ 1048576 := by
  have h0 : Rows.uptoBulkAll ds ≤ 1048576 := of_decide_eq_true hk
  have h1 := bulk_mem hd
  have h3 := bulk_len l
  have h4 := bulk_len r
  rw [e] at h1
  simp only [Rows.uptoBulk] at h1
  omega

theorem gTab : Tryd.prog.globalNamed "hawser/crc.halves" = some 0 := by kernel_rfl
theorem gTabType : (Tryd.prog.globals[0]?).map (·.type) = some 106 := by kernel_rfl
theorem cellsT : Tryd.prog.cellsOf 106 = 16 := by kernel_rfl
theorem cellsE : Tryd.prog.cellsOf 64 = 1 := by kernel_rfl
/-- What the row's list gives: the table's cells. -/
theorem table {W : World} (h : laidMetH Tryd.prog Rows.frameCutsUptoRow.laid W) : Lib.TabIs Tryd.prog W "hawser/crc.halves" .u32 tabl :=
  Lib.tabIs_of_head (rest := []) gTab gTabType Tryd.underlying106 Tryd.underlying64 cellsE cellsT h
theorem tab_of {W : World} (h : laidMetH Tryd.prog Rows.frameCutsUptoRow.laid W) : Tab W := fun i hi => (table h).cell gTab i (show i < tabl.length from hi)
theorem laid_met (os : Os) : laidMet Tryd.prog Rows.frameCutsUptoRow.laid (({ World.holding Tryd.prog os ⟨#[], #[], []⟩ with heap := (World.holding Tryd.prog os ⟨#[], #[], []⟩).heap.modify 0 fun | .cells _ t frozen => .cells (tabl.map fun z => Value.int .u32 z).toArray t frozen | o => o } : World).forCall (fun _ _ => 0) ⟨#[], #[.int .i64 0, .slice none 0 0], []⟩).memory :=
  laidMet_of_run' 8 (by kernel_rfl) (by kernel_rfl)
theorem reads (os : Os) {H : Type} (enc : TypeId × Value → H) : ∃ places, DataW.whole enc Tryd.prog (({ World.holding Tryd.prog os ⟨#[], #[], []⟩ with heap := (World.holding Tryd.prog os ⟨#[], #[], []⟩).heap.modify 0 fun | .cells _ t frozen => .cells (tabl.map fun z => Value.int .u32 z).toArray t frozen | o => o } : World).forCall (fun _ _ => 0) ⟨#[], #[.int .i64 0, .slice none 0 0], []⟩).memory Tryd.f4.params.toList Rows.frameCutsSpec.vars false (#[.int .i64 0, .slice none 0 0] : Array Value).toList 8 = some ([.lit (.int .i64 0), .nil], [], places) :=
  ⟨[], by kernel_rfl⟩

set_option maxRecDepth 100000 in
theorem lifted (os : Os) (started : os.Started) (H : Type) (enc : TypeId × Value → H) (F : Stop.Interp) :
    ReturnsInHanded {} Tryd.checked os 4 .any ((Rows.OpenSpec.upto Rows.frameCutsSpec).preRow enc Tryd.prog Tryd.f4 Rows.frameCutsUptoRow.domain false Rows.frameCutsUptoRow.laid) (((Rows.OpenSpec.upto Rows.frameCutsSpec).at F).post enc Tryd.prog Tryd.f4 false true false false) := by
  obtain ⟨places, hx⟩ := reads os enc
  refine returnsInHanded_of_row (C := Tryd.checked) (s := Rows.OpenSpec.upto Rows.frameCutsSpec) own started (by kernel_rfl) Tryd.func4
    (witness_row_at (enc := enc) (C := Tryd.checked) false ({ World.holding Tryd.prog os ⟨#[], #[], []⟩ with heap := (World.holding Tryd.prog os ⟨#[], #[], []⟩).heap.modify 0 fun | .cells _ t frozen => .cells (tabl.map fun z => Value.int .u32 z).toArray t frozen | o => o } : World) #[.int .i64 0, .slice none 0 0] rfl (by kernel_rfl) (by kernel_rfl) (by kernel_rfl)
      (OpenSpec.preRow_of_cond 8 hx (by kernel_rfl) (fun k hk => by cases hk; kernel_rfl) (by kernel_rfl) (laid_met os))) ?_
  intro W base args ds gs before hval0 hW _ hcond0 hsz0 hL _ _
  have hk : Rows.uptoSmall H (ds ++ gs) = true := hcond0 _ rfl
  have hval : ∀ (j : Nat) t v, Tryd.f4.params[j]? = some t → args[j]? = some v → Value.okWide Tryd.prog W .any base t v := hval0
  have hW' := hW
  obtain ⟨p, q, hA0, hV, rfl, hfz, hnd⟩ := hW
  have hA : DataW.TrodAll enc Tryd.prog W 0 (fun _ => true) true Tryd.f4.params.toList args.toList ds p := hA0
  rw [Tryd.params4] at hA hval
  obtain ⟨v0, vs0, d0, ds0, p0, q0, hargs, rfl, rfl, h0, r0⟩ := trodAll_cons hA
  obtain ⟨v1, vs1, d1, ds1, p1, q1, rfl, rfl, rfl, h1, r1⟩ := trodAll_cons r0
  obtain ⟨rfl, rfl, rfl⟩ := trodAll_nil r1
  obtain rfl : args = #[v0, v1] := by cases args; simp_all
  obtain ⟨rfl, rfl⟩ := trodVars_none hV
  obtain ⟨a0, rfl, rfl, rfl, w0⟩ := open_int Tryd.underlying3 (hval 0 3 v0 rfl rfl) h0
  have k1 := h1
  have lt1 : ∀ x ∈ p1, x.block < W.heap.size := by obtain ⟨m, hm⟩ := k1; exact DataW.trod_lt m _ _ _ hm
  obtain ⟨a1, n1, cap1, X1, rfl, x1, y1⟩ : ∃ a n cap X, v1 = .slice a n cap ∧ Pcs W a n X ∧ X.flatten.length + n ≤ 1048576 := by
    obtain ⟨sa, sl, sc, hv⟩ := okWide_slice Tryd.underlying46 (hval 1 46 v1 rfl rfl)
    have hAll : Rows.uptoBulkAll _ ≤ 1048576 := of_decide_eq_true hk
    exact pcs_open sa sl sc hv h1 (Nat.le_trans (bulk_mem (show d1 ∈ _ by simp)) hAll)
  clear hA0 hval0
  simp only [List.append_nil] at hW'
  refine (walk a0 a1 n1 cap1 X1 W w0 x1 y1 (tab_of hL)).mono fun e W' ⟨he, bel⟩ => ?_
  subst he
  exact ⟨_, rfl, _, _, _, [], _, [], hW', trodAll_mk1 (shut_bool Tryd.underlying4 _), (trodAll_cons_mk (shut_int Tryd.underlying3 w0) (trodAll_cons_mk (Below.trod laidOut (by kernel_rfl) (of_decide_eq_true (by kernel_rfl)) k1 bel lt1) trodAll_mk0)), rfl, bel.frame _, fun h => by cases h⟩

theorem over : Rows.frameCutsUptoRow.holds Tryd.pinned (Rows.OpenSpec.upto Rows.frameCutsSpec) :=
  OpenClaim.holds_of_cond 4 Tryd.f4 rfl rfl rfl rfl rfl rfl rfl ⟨rfl, rfl, rfl, rfl, rfl⟩ rfl rfl rfl rfl rfl (by kernel_rfl) Tryd.func4 (by kernel_rfl)
    (of_decide_eq_true (by kernel_rfl)) (by unfold Func.isWrapper; first | (rw [if_pos (by decide +kernel)]; kernel_rfl) | (rw [if_neg (by decide +kernel)]; exact ⟨rfl, rfl⟩))
    (fun os started H enc _ F => by rw [OpenClaim.pre_eq_preRow]; exact lifted os started H enc F)

/-- No parameter wants a stand-in; the program's own looks are off. -/
theorem plain (f : FuncId) (fn : Func) (hf : Tryd.pinned.checked.prog.funcNamed "hawser/hawserlaw04.FrameCuts" = some f) (hfn : Tryd.pinned.checked.prog.funcs[f]? = some fn) :
    false = Tryd.pinned.checked.prog.looks [] ∧ ∀ (j : Nat) t, fn.params[j]? = some t → Tryd.pinned.checked.prog.wantsStandIn t = false := by
  obtain rfl : f = 4 := Option.some.inj ((show Tryd.prog.funcNamed "hawser/hawserlaw04.FrameCuts" = some 4 by kernel_rfl).symm.trans hf) |>.symm
  obtain rfl : fn = Tryd.f4 := (Option.some.inj (Tryd.func4.symm.trans hfn)).symm
  refine ⟨by kernel_rfl, fun j t ht => ?_⟩
  rw [Tryd.params4] at ht
  have hm : t ∈ [3, 46] := by simpa using Array.mem_of_getElem? ht
  have hall : (([3, 46] : List TypeId).all fun u => !Tryd.prog.wantsStandIn u) = true := by kernel_rfl
  exact (show Tryd.prog.wantsStandIn t = false by simpa using List.all_eq_true.1 hall t hm)
theorem card : Rows.FrameCutsUptoCardSaid :=
  Claim7.holds_tied_plain_at .later [] _ _ _ _ over (fun _ h => by cases h) (by kernel_rfl) (fun _ h => by cases h) frameCutsUpto_row_tie rfl ⟨rfl, rfl⟩ (by kernel_rfl) rfl plain (by kernel_rfl)

end Go.Proofs.YtegbgmihcokblaaDoor.frameCuts
namespace Go.Proofs.YtegbgmihcokblaaDoor
theorem frameCuts_holds : Rows.FrameCutsUptoCardSaid := frameCuts.card
#print axioms frameCuts_holds
end Go.Proofs.YtegbgmihcokblaaDoor
