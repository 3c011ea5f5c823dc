/-
  Proved: for every chain and all nodes, hawserlaw16.ConfigChange answers true: what follows has the next epoch, shares a node and keeps the shared nodes' order; With and Without undo each other. Condition: the input is of bulk at most 1048576.
-/
import Derived.Test.YtekefbbjocekiabRows
import Derived.Test.YtekefbbjocekiabCHp
import Derived.WalkKit
import Derived.ProofKit
import Derived.OpenShut
import Derived.ShutString
import Derived.ChangeOld
import Derived.Below
import Derived.Lib.SmallJoins
import Derived.JoinedCond
namespace Go.Proofs.Ytekefbbjocekiab.configChange
open Go.ChangeShapes Go.WideShapes Go.ChangeAt Go.RowKit
set_option linter.unusedVariables false

theorem own : ownKnob Try.prog.godebug = none := by kernel_rfl
theorem laidOut : laidOutB Try.prog = true := by kernel_rfl

/-- What the walk is told of a slice of integers that came in. -/
def IsRow (k : IntKind) (R : Nat) (w : World) (a : Option Addr) (len cap : Nat) (zs : List Int) : Prop :=
  (a = none ∧ len = 0 ∧ cap = 0 ∧ zs = []) ∨
  ∃ x, a = some x ∧ len ≤ cap ∧ cap ≤ R ∧ zs.length = cap ∧ (∀ i, i < zs.length → w.cell? (x.add i) = some (.int k (zs.getD i 0))) ∧ ∀ n ∈ zs, (Lit.int k n).wf = true

set_option maxRecDepth 20000 in
set_option maxHeartbeats 8000000 in
theorem walk (a : Option Addr) (n c : Nat) (zs : List Int) (b : Option Addr) (m d : Nat) (zt : List Int) (w : World) (x0 : IsRow .i64 1048576 w a n c zs) (x1 : IsRow .i64 1048576 w b m d zt) :
    Calls Try.prog 6 #[.slice a n c, .slice b m d] w fun r w' => r = .returned (.bool true) ∧ Below w.heap.size w w' := by
  obtain ⟨hs, hlc, hcr, hwf⟩ := seg_of_row x0
  obtain ⟨hs2, hlc2, hcr2, hwf2⟩ := seg_of_row x1
  have HM : Hid _ := may_c a n c (zs.take n) w hs (by omega)
  have hm : m ≤ 1048576 := by omega
  obtain ⟨zn, hzn⟩ : ∃ zn, zn = zt.take m := ⟨_, rfl⟩
  rw [← hzn] at hs2
  have HN : Hid (Seg .i64 w b m zn) := hs2
  clear hs hlc hcr hwf hlc2 hcr2 hwf2 hzn hs2 x0 x1
  go_enter Try.func6, Try.ntmps6
  go_wp2_with (first
    | (go_at_call 16; go_must (refine (Calls.mono HM.out ?_)); rintro r w1 ⟨a1, c1, ys, rfl, hg, hl1, ho, hb⟩; have HC : Hid (chk 1 ys = 0) := chk_ok.2 ⟨by decide, ⟨hl1, hg.len⟩, hg⟩; have H1 : Hid (OwI w.heap.size w1 (.slice a1 ys.length c1) ys.length ys ∧ Below w.heap.size w w1) := ⟨ho, hb⟩; clear hg hl1 ho hb)
    | (go_at_call 15; go_must (refine (Calls.mono (first_ok a1 ys.length c1 ys w1 H1.out.1.segW.1 H1.out.1.segW.2.1 HC.out) ?_)); rintro r w2 ⟨a2, c2, rfl, ho, hb⟩; have H2 : Hid (OwI 0 w2 (.slice a2 ys.length c2) ys.length ys ∧ Below w.heap.size w w2) := ⟨ho.base (Nat.zero_le _), H1.out.2.trans (hb.mono H1.out.2.size)⟩; clear ho hb))
  have H3 : Hid (Kn [(w2.heap.size, 25, 1, .slice a2 ys.length c2)] w (w2.alloc (.cells #[.int .i64 1, .slice a2 ys.length c2] 25)) ∧ Seg .i64 (w2.alloc (.cells #[.int .i64 1, .slice a2 ys.length c2] 25)) a2 ys.length ys ∧ (a2 = none → c2 = 0) ∧ ys.length ≤ c2) := ⟨Kn.of (CfB.new _ _ _ _) (H2.out.2.trans ((alloc_b _ _).mono H2.out.2.size)), (H2.out.1.below (alloc_b _ _)).segW⟩
  have hZ0 : w.heap.size ≤ w2.heap.size := H2.out.2.size
  generalize World.alloc w2 _ = W3 at H3 ⊢
  generalize w2.heap.size = Z at H3 hZ0 ⊢
  have HZ0 : Hid (w.heap.size ≤ Z) := hZ0
  clear H1 H2 HM hZ0
  go_loopw [7] (fun i wr => ∃ (k : Nat) (e : Int) (a3 : Option Addr) (c3 : Nat) (xs : List Int), k ≤ m ∧ i = .int .i64 (k : Int) ∧ Hid ((chk e xs = 0 ∧ e ≤ (k : Int) + 1) ∧ Kn [(Z, 25, e, .slice a3 xs.length c3)] w wr ∧ Seg .i64 wr a3 xs.length xs ∧ (a3 = none → c3 = 0) ∧ xs.length ≤ c3)) (fun i _ => m - (intOf i).toNat)
  case atStart => exact ⟨0, 1, a2, c2, ys, Nat.zero_le _, rfl, ⟨HC.out, by omega⟩, H3.out⟩
  case round =>
    obtain ⟨k, e, a3, c3, xs, hk, rfl, hr⟩ := hrel
    have hw1 : wrap64 ((k : Int) + 1) = (k : Int) + 1 := IntWalk.wrap64_in _ ⟨by omega, by omega⟩
    have c0 := hr.out.2.1.c0 0 rfl
    have c1' := hr.out.2.1.c1 0 rfl
    by_cases hlt : k < m
    · obtain ⟨bn, on, x, rfl, hx, cn⟩ := seg_at1 (HN.out.below hr.out.2.1.2) hlt
      have hi1 : (k : Int) < (m : Int) := by omega
      have hch := chk_ok.1 hr.out.1.1
      have he : 1 ≤ e ∧ e ≤ 1048577 := by have := hr.out.1.2; omega
      have hln : xs.length ≤ 8 := hch.2.1.2
      have HCN : Hid (∀ W, Below wr.heap.size wr W → W.cell? ⟨bn, on + k, none⟩ = some (.int .i64 x)) := fun W hb => by
        obtain ⟨b', o', x', e1, e2, e3⟩ := seg_at1 ((HN.out.below hr.out.2.1.2).below hb) hlt
        cases e1
        obtain rfl : x' = x := Option.some.inj (e2.symm.trans hx)
        exact e3
      have HSB : Hid (∀ W, Below wr.heap.size wr W → ((W.cell? ⟨Z, 0, none⟩ = some (.int .i64 e) ∧ W.cell? ⟨Z, 1, none⟩ = some (.slice a3 xs.length c3) ∧ W.cell? ⟨bn, on + k, none⟩ = some (.int .i64 x)) ∧ Hid (Below wr.heap.size wr W))) := fun W hb => ⟨⟨(hr.out.2.1.below hb).c0 0 rfl, (hr.out.2.1.below hb).c1 0 rfl, HCN.out W hb⟩, hb⟩
      have HSA : Hid (∀ W o, ((W.cell? ⟨Z, 0, none⟩ = some (.int .i64 e) ∧ W.cell? ⟨Z, 1, none⟩ = some (.slice a3 xs.length c3) ∧ W.cell? ⟨bn, on + k, none⟩ = some (.int .i64 x)) ∧ Hid (Below wr.heap.size wr W)) → (((W.alloc o).cell? ⟨Z, 0, none⟩ = some (.int .i64 e) ∧ (W.alloc o).cell? ⟨Z, 1, none⟩ = some (.slice a3 xs.length c3) ∧ (W.alloc o).cell? ⟨bn, on + k, none⟩ = some (.int .i64 x)) ∧ Hid (Below wr.heap.size wr (W.alloc o)))) := fun W o h => HSB.out _ (h.2.out.trans ((alloc_b W o).mono h.2.out.size))
      have HSS : Hid (∀ W b u v, wr.heap.size ≤ b → ((W.cell? ⟨Z, 0, none⟩ = some (.int .i64 e) ∧ W.cell? ⟨Z, 1, none⟩ = some (.slice a3 xs.length c3) ∧ W.cell? ⟨bn, on + k, none⟩ = some (.int .i64 x)) ∧ Hid (Below wr.heap.size wr W)) → ((((W.setCell ⟨b, 0, none⟩ u).setCell ⟨b, 1, none⟩ v).cell? ⟨Z, 0, none⟩ = some (.int .i64 e) ∧ ((W.setCell ⟨b, 0, none⟩ u).setCell ⟨b, 1, none⟩ v).cell? ⟨Z, 1, none⟩ = some (.slice a3 xs.length c3) ∧ ((W.setCell ⟨b, 0, none⟩ u).setCell ⟨b, 1, none⟩ v).cell? ⟨bn, on + k, none⟩ = some (.int .i64 x)) ∧ Hid (Below wr.heap.size wr ((W.setCell ⟨b, 0, none⟩ u).setCell ⟨b, 1, none⟩ v)))) := fun W b u v hb h => HSB.out _ ((h.2.out.setCell (p := ⟨b, 0, none⟩) hb u).setCell (p := ⟨b, 1, none⟩) hb v)
      have HWO : Hid (∀ W, ((W.cell? ⟨Z, 0, none⟩ = some (.int .i64 e) ∧ W.cell? ⟨Z, 1, none⟩ = some (.slice a3 xs.length c3) ∧ W.cell? ⟨bn, on + k, none⟩ = some (.int .i64 x)) ∧ Hid (Below wr.heap.size wr W)) → Calls Try.prog 22 #[.agg #[.int .i64 e, .slice a3 xs.length c3], .int .i64 x] W (StA W (woP e xs x) (woE e xs x) (woX e xs x))) := fun W h => without_c e a3 xs.length c3 xs x W (hr.out.2.2.1.below h.2.out) hr.out.2.2.2.1 hr.out.2.2.2.2
      have HWI : Hid (∀ W, ((W.cell? ⟨Z, 0, none⟩ = some (.int .i64 e) ∧ W.cell? ⟨Z, 1, none⟩ = some (.slice a3 xs.length c3) ∧ W.cell? ⟨bn, on + k, none⟩ = some (.int .i64 x)) ∧ Hid (Below wr.heap.size wr W)) → Calls Try.prog 23 #[.agg #[.int .i64 e, .slice a3 xs.length c3], .int .i64 x] W (StA W (wiP e xs x) (wiE e xs x) (wiX e xs x))) := fun W h => with_c e a3 xs.length c3 xs x W (hr.out.2.2.1.below h.2.out) hr.out.2.2.2.1 hr.out.2.2.2.2
      have hS1 : (wr.cell? ⟨Z, 0, none⟩ = some (.int .i64 e) ∧ wr.cell? ⟨Z, 1, none⟩ = some (.slice a3 xs.length c3) ∧ wr.cell? ⟨bn, on + k, none⟩ = some (.int .i64 x)) ∧ Hid (Below wr.heap.size wr wr) := HSB.out _ (Below.refl _ _)
      have hSd : (wr.drew.cell? ⟨Z, 0, none⟩ = some (.int .i64 e) ∧ wr.drew.cell? ⟨Z, 1, none⟩ = some (.slice a3 xs.length c3) ∧ wr.drew.cell? ⟨bn, on + k, none⟩ = some (.int .i64 x)) ∧ Hid (Below wr.heap.size wr wr.drew) := HSB.out _ (Below.refl _ _).drew
      have HLR : Hid (Z < wr.heap.size) := hr.out.2.1.lt 0 rfl
      have hwe : wrap64 (e + 1) = e + 1 := by rw [IntWalk.wrap64_in _ ⟨by omega, by omega⟩]
      have hwf : IntKind.i64.wrap (e + 1) = e + 1 := by rw [IntWalk.i64_in _ ⟨by omega, by omega⟩]
      by_cases hwo : woE e xs x = 0
      · obtain ⟨hnx, hp, hll⟩ := next_wo hwo
        rw [hwo, hp] at HWO
        generalize woX e xs x = ys at HWO hnx hll
        have HX : Hid (NextC e xs ys) := hnx
        have hgt : ¬ (xs.length : Int) < (ys.length : Int) := by omega
        have hyl : ys.length ≤ 8 := by omega
        clear hnx hwo hp
        go_wp2_with fail
        go_region_held3 (fun W => (W.cell? ⟨Z, 0, none⟩ = some (.int .i64 e) ∧ W.cell? ⟨Z, 1, none⟩ = some (.slice a3 xs.length c3) ∧ W.cell? ⟨bn, on + k, none⟩ = some (.int .i64 x)) ∧ Hid (Below wr.heap.size wr W)) (first | assumption | exact HSA.out _ _ (by assumption) | exact HSS.out _ _ _ _ (by first | exact Nat.le_refl _ | exact HL5.out) (by first | assumption | exact HSA.out _ _ (by assumption))) (first
          | (go_at_call 22; refine (Calls.mono (HWO.out _ (by first | assumption | exact HSA.out _ _ (by assumption))) ?_); rintro r w5 ⟨a5, c5, rfl, ho, hb⟩; have HP5 : Hid (CfB 25 w5 wr.heap.size 0 (.slice none 0 0)) := CfB.below (CfB.new 25 wr.drew 0 (.slice none 0 0)) hb; have hS5 : (w5.cell? ⟨Z, 0, none⟩ = some (.int .i64 e) ∧ w5.cell? ⟨Z, 1, none⟩ = some (.slice a3 xs.length c3) ∧ w5.cell? ⟨bn, on + k, none⟩ = some (.int .i64 x)) ∧ Hid (Below wr.heap.size wr w5) := HSB.out _ ((HSA.out wr.drew (.cells #[.int .i64 0, .slice none 0 0] 25) hSd).2.out.trans (hb.mono (alloc_b wr.drew _).size)); have HL5 : Hid (wr.heap.size ≤ w5.heap.size) := hS5.2.out.size; have H5 : Hid (OwI (wr.heap.size + 1) w5 (.slice a5 ys.length c5) ys.length ys) := ho.base (by simp); have p0 := HP5.out.c0; have p1 := HP5.out.c1; have g0 := HP5.out.fz 0; have g1 := HP5.out.fz 1; clear ho hb)
          | (go_at_call 22; refine (Calls.mono (HWO.out _ (by first | assumption | exact HSA.out _ _ (by assumption))) ?_); rintro r w5 ⟨a5, c5, rfl, ho, hb⟩; have hS5 : (w5.cell? ⟨Z, 0, none⟩ = some (.int .i64 e) ∧ w5.cell? ⟨Z, 1, none⟩ = some (.slice a3 xs.length c3) ∧ w5.cell? ⟨bn, on + k, none⟩ = some (.int .i64 x)) ∧ Hid (Below wr.heap.size wr w5) := HSB.out _ ((Below.refl wr.heap.size wr).drew.trans hb); have HL5 : Hid (wr.heap.size ≤ w5.heap.size) := hS5.2.out.size; have H5 : Hid (OwI wr.heap.size w5 (.slice a5 ys.length c5) ys.length ys) := ho; clear ho hb))
        · have H7 : Hid (CfB 25 (w5.alloc (.cells #[.int .i64 (e + 1), .slice a5 (ys).length c5] 25)) w5.heap.size (e + 1) (.slice a5 (ys).length c5) ∧ OwI wr.heap.size (w5.alloc (.cells #[.int .i64 (e + 1), .slice a5 (ys).length c5] 25)) (.slice a5 (ys).length c5) (ys).length (ys) ∧ Below wr.heap.size wr (w5.alloc (.cells #[.int .i64 (e + 1), .slice a5 (ys).length c5] 25)) ∧ wr.heap.size ≤ w5.heap.size) := ⟨CfB.new _ _ _ _, H5.out.below (alloc_b _ _), hS5.2.out.trans ((alloc_b _ _).mono HL5.out), HL5.out⟩
          generalize World.alloc w5 _ = W7 at H7 ⊢
          generalize w5.heap.size = P at H7 ⊢
          clear hS5 HL5 H5
          have HS7 : Hid (Seg .i64 W7 a3 xs.length xs ∧ Kn [(P, 25, e + 1, .slice a5 ys.length c5), (Z, 25, e, .slice a3 xs.length c3)] w W7) := ⟨hr.out.2.2.1.below H7.out.2.2.1, fun y hy => by simp at hy; rcases hy with rfl | rfl; exact H7.out.1; exact (hr.out.2.1.below H7.out.2.2.1).get 0 rfl, (hr.out.2.1.below H7.out.2.2.1).2⟩
          have HF1 : Hid (∀ W, Below W7.heap.size W7 W → Calls Try.prog 24 #[.agg #[.int .i64 e, .slice a3 xs.length c3], .agg #[.int .i64 (e + 1), .slice a5 ys.length c5]] W fun r w' => r = .returned (.bool true) ∧ Below W.heap.size W w') := fun W h => by
            have := follows_c e (e + 1) a3 a5 xs.length c3 ys.length c5 xs ys W (HS7.out.1.below h) (H7.out.2.1.segW.1.below h) hr.out.2.2.2.1 hr.out.2.2.2.2 (by omega) (by omega)
            rwa [HX.out.fo] at this
          have HF2 : Hid (∀ W, Below W7.heap.size W7 W → Calls Try.prog 24 #[.agg #[.int .i64 (e + 1), .slice a5 ys.length c5], .agg #[.int .i64 e, .slice a3 xs.length c3]] W fun r w' => r = .returned (.bool false) ∧ Below W.heap.size W w') := fun W h => by
            have := follows_c (e + 1) e a5 a3 ys.length c5 xs.length c3 ys xs W (H7.out.2.1.segW.1.below h) (HS7.out.1.below h) H7.out.2.1.segW.2.1 H7.out.2.1.segW.2.2 (by omega) (by omega)
            rwa [HX.out.fb] at this
          have HOR : Hid (∀ W, Below W7.heap.size W7 W → Calls Try.prog 25 #[.slice a3 xs.length c3, .slice a5 ys.length c5] W fun r w' => r = .returned (.bool true) ∧ Below W.heap.size W w') := fun W h => ordered_c a3 a5 xs.length c3 ys.length c5 xs ys W (HS7.out.1.below h) (H7.out.2.1.segW.1.below h) (by omega) (by omega) HX.out.od
          have HTC : Hid (∀ W, Below W7.heap.size W7 W → W.cell? ⟨P, 0, none⟩ = some (.int .i64 (e + 1)) ∧ W.cell? ⟨P, 1, none⟩ = some (.slice a5 ys.length c5) ∧ W.cell? ⟨Z, 0, none⟩ = some (.int .i64 e) ∧ W.cell? ⟨Z, 1, none⟩ = some (.slice a3 xs.length c3) ∧ W.frozen? ⟨Z, 0, none⟩ = false ∧ W.frozen? ⟨Z, 1, none⟩ = false) := fun W h => by
            have z := HS7.out.2.below h
            exact ⟨z.c0 0 rfl, z.c1 0 rfl, z.c0 1 rfl, z.c1 1 rfl, (z.get 1 rfl).fz 0, (z.get 1 rfl).fz 1⟩
          have T7 : Hid (Below W7.heap.size W7 W7) := Below.refl _ _
          obtain ⟨aa0, aa1, aa2, aa3, aa4, aa5⟩ := HTC.out _ T7.out
          go_wp2_with (first
            | ((fail_if_success (have z := T8)); go_at_call 24; go_must (refine (Calls.mono (HF1.out _ T7.out) ?_)); rintro r w8 ⟨rfl, hb⟩; have T8 : Hid (Below W7.heap.size W7 w8) := hb; obtain ⟨ab0, ab1, ab2, ab3, ab4, ab5⟩ := HTC.out _ hb; clear hb)
            | (go_at_call 24; go_must (refine (Calls.mono (HF2.out _ T8.out) ?_)); rintro r w9 ⟨rfl, hb⟩; have T9 : Hid (Below W7.heap.size W7 w9) := T8.out.trans (hb.mono T8.out.size); obtain ⟨ac0, ac1, ac2, ac3, ac4, ac5⟩ := HTC.out _ T9.out; clear hb)
            | (go_at_call 25; go_must (refine (Calls.mono (HOR.out _ T9.out) ?_)); rintro r w10 ⟨rfl, hb⟩; have T10 : Hid (Below W7.heap.size W7 w10) := T9.out.trans (hb.mono T9.out.size); obtain ⟨ad0, ad1, ad2, ad3, ad4, ad5⟩ := HTC.out _ T10.out; clear hb))
          go_roundw
          case rel =>
            have hz := (H7.out.2.1.below T10.out)
            have hzo := (hz.other Z 0 HLR.out (.int .i64 (e + 1))).other Z 1 HLR.out (.slice a5 ys.length c5)
            have hkz : Kn [(Z, 25, e, .slice a3 xs.length c3)] w _ := (hr.out.2.1.below H7.out.2.2.1).below T10.out
            exact ⟨k + 1, e + 1, a5, c5, ys, hlt, by go_num, ⟨HX.out.ck, by have := hr.out.1.2; omega⟩, hkz.put HZ0.out (fun y hy => by cases hy) (e + 1) (.slice a5 ys.length c5), hzo.segW⟩
          case measure => simp [intOf]; omega
        · obtain ⟨P, hP⟩ : ∃ P, P = wr.heap.size := ⟨_, rfl⟩
          have H7 : Hid (CfB 25 ((w5.setCell ⟨wr.heap.size, 0, none⟩ (.int .i64 (e + 1))).setCell ⟨wr.heap.size, 1, none⟩ (.slice a5 (ys).length c5)) P (e + 1) (.slice a5 (ys).length c5) ∧ OwI wr.heap.size ((w5.setCell ⟨wr.heap.size, 0, none⟩ (.int .i64 (e + 1))).setCell ⟨wr.heap.size, 1, none⟩ (.slice a5 (ys).length c5)) (.slice a5 (ys).length c5) (ys).length (ys) ∧ Below wr.heap.size wr ((w5.setCell ⟨wr.heap.size, 0, none⟩ (.int .i64 (e + 1))).setCell ⟨wr.heap.size, 1, none⟩ (.slice a5 (ys).length c5)) ∧ wr.heap.size ≤ P) := ⟨by rw [hP]; exact cf_set HP5.out _ _, ((H5.out.other _ 0 (Nat.lt_succ_self _) _).other _ 1 (Nat.lt_succ_self _) _).base (Nat.le_succ _), (hS5.2.out.setCell (p := ⟨wr.heap.size, 0, none⟩) (Nat.le_refl _) _).setCell (p := ⟨wr.heap.size, 1, none⟩) (Nat.le_refl _) _, Nat.le_of_eq hP.symm⟩
          generalize World.setCell (World.setCell w5 _ _) _ _ = W7 at H7 ⊢
          rw [← hP]
          clear hP HP5 p0 p1 g0 g1
          clear hS5 HL5 H5
          have HS7 : Hid (Seg .i64 W7 a3 xs.length xs ∧ Kn [(P, 25, e + 1, .slice a5 ys.length c5), (Z, 25, e, .slice a3 xs.length c3)] w W7) := ⟨hr.out.2.2.1.below H7.out.2.2.1, fun y hy => by simp at hy; rcases hy with rfl | rfl; exact H7.out.1; exact (hr.out.2.1.below H7.out.2.2.1).get 0 rfl, (hr.out.2.1.below H7.out.2.2.1).2⟩
          have HF1 : Hid (∀ W, Below W7.heap.size W7 W → Calls Try.prog 24 #[.agg #[.int .i64 e, .slice a3 xs.length c3], .agg #[.int .i64 (e + 1), .slice a5 ys.length c5]] W fun r w' => r = .returned (.bool true) ∧ Below W.heap.size W w') := fun W h => by
            have := follows_c e (e + 1) a3 a5 xs.length c3 ys.length c5 xs ys W (HS7.out.1.below h) (H7.out.2.1.segW.1.below h) hr.out.2.2.2.1 hr.out.2.2.2.2 (by omega) (by omega)
            rwa [HX.out.fo] at this
          have HF2 : Hid (∀ W, Below W7.heap.size W7 W → Calls Try.prog 24 #[.agg #[.int .i64 (e + 1), .slice a5 ys.length c5], .agg #[.int .i64 e, .slice a3 xs.length c3]] W fun r w' => r = .returned (.bool false) ∧ Below W.heap.size W w') := fun W h => by
            have := follows_c (e + 1) e a5 a3 ys.length c5 xs.length c3 ys xs W (H7.out.2.1.segW.1.below h) (HS7.out.1.below h) H7.out.2.1.segW.2.1 H7.out.2.1.segW.2.2 (by omega) (by omega)
            rwa [HX.out.fb] at this
          have HOR : Hid (∀ W, Below W7.heap.size W7 W → Calls Try.prog 25 #[.slice a3 xs.length c3, .slice a5 ys.length c5] W fun r w' => r = .returned (.bool true) ∧ Below W.heap.size W w') := fun W h => ordered_c a3 a5 xs.length c3 ys.length c5 xs ys W (HS7.out.1.below h) (H7.out.2.1.segW.1.below h) (by omega) (by omega) HX.out.od
          have HTC : Hid (∀ W, Below W7.heap.size W7 W → W.cell? ⟨P, 0, none⟩ = some (.int .i64 (e + 1)) ∧ W.cell? ⟨P, 1, none⟩ = some (.slice a5 ys.length c5) ∧ W.cell? ⟨Z, 0, none⟩ = some (.int .i64 e) ∧ W.cell? ⟨Z, 1, none⟩ = some (.slice a3 xs.length c3) ∧ W.frozen? ⟨Z, 0, none⟩ = false ∧ W.frozen? ⟨Z, 1, none⟩ = false) := fun W h => by
            have z := HS7.out.2.below h
            exact ⟨z.c0 0 rfl, z.c1 0 rfl, z.c0 1 rfl, z.c1 1 rfl, (z.get 1 rfl).fz 0, (z.get 1 rfl).fz 1⟩
          have T7 : Hid (Below W7.heap.size W7 W7) := Below.refl _ _
          obtain ⟨aa0, aa1, aa2, aa3, aa4, aa5⟩ := HTC.out _ T7.out
          go_wp2_with (first
            | ((fail_if_success (have z := T8)); go_at_call 24; go_must (refine (Calls.mono (HF1.out _ T7.out) ?_)); rintro r w8 ⟨rfl, hb⟩; have T8 : Hid (Below W7.heap.size W7 w8) := hb; obtain ⟨ab0, ab1, ab2, ab3, ab4, ab5⟩ := HTC.out _ hb; clear hb)
            | (go_at_call 24; go_must (refine (Calls.mono (HF2.out _ T8.out) ?_)); rintro r w9 ⟨rfl, hb⟩; have T9 : Hid (Below W7.heap.size W7 w9) := T8.out.trans (hb.mono T8.out.size); obtain ⟨ac0, ac1, ac2, ac3, ac4, ac5⟩ := HTC.out _ T9.out; clear hb)
            | (go_at_call 25; go_must (refine (Calls.mono (HOR.out _ T9.out) ?_)); rintro r w10 ⟨rfl, hb⟩; have T10 : Hid (Below W7.heap.size W7 w10) := T9.out.trans (hb.mono T9.out.size); obtain ⟨ad0, ad1, ad2, ad3, ad4, ad5⟩ := HTC.out _ T10.out; clear hb))
          go_roundw
          case rel =>
            have hz := (H7.out.2.1.below T10.out)
            have hzo := (hz.other Z 0 HLR.out (.int .i64 (e + 1))).other Z 1 HLR.out (.slice a5 ys.length c5)
            have hkz : Kn [(Z, 25, e, .slice a3 xs.length c3)] w _ := (hr.out.2.1.below H7.out.2.2.1).below T10.out
            exact ⟨k + 1, e + 1, a5, c5, ys, hlt, by go_num, ⟨HX.out.ck, by have := hr.out.1.2; omega⟩, hkz.put HZ0.out (fun y hy => by cases hy) (e + 1) (.slice a5 ys.length c5), hzo.segW⟩
          case measure => simp [intOf]; omega
      · have hne : (woE e xs x != 0) = true := by simpa using hwo
        generalize woE e xs x = E1 at HWO hne
        generalize woX e xs x = y1 at HWO
        generalize woP e xs x = P1 at HWO
        clear hwo
        by_cases hwi : wiE e xs x = 0
        · obtain ⟨hnx, hp, hll, hbk⟩ := next_wi hwi
          obtain ⟨hb1, hb2⟩ := hbk (by omega)
          rw [hwi, hp] at HWI
          generalize wiX e xs x = ys at HWI hnx hll hb1 hb2
          have HX : Hid (NextC e xs ys) := hnx
          have HBK : Hid (woE (e + 1) ys x = 0 ∧ woX (e + 1) ys x = xs) := ⟨hb1, hb2⟩
          have hgt : (xs.length : Int) < (ys.length : Int) := by omega
          have hyl : ys.length ≤ 8 := (chk_ok.1 hnx.ck).2.1.2
          clear hnx hwi hp hb1 hb2 hbk
          go_wp2_with fail
          go_region_held3 (fun W => (W.cell? ⟨Z, 0, none⟩ = some (.int .i64 e) ∧ W.cell? ⟨Z, 1, none⟩ = some (.slice a3 xs.length c3) ∧ W.cell? ⟨bn, on + k, none⟩ = some (.int .i64 x)) ∧ Hid (Below wr.heap.size wr W)) (first | assumption | exact HSA.out _ _ (by assumption) | exact HSS.out _ _ _ _ (by first | exact Nat.le_refl _ | exact HL5.out) (by first | assumption | exact HSA.out _ _ (by assumption))) (first
            | (go_at_call 22; refine (Calls.mono (HWO.out _ (by first | assumption | exact HSA.out _ _ (by assumption))) ?_); rintro r w5 ⟨a4, c4, rfl, ho, hb⟩; have HP5 : Hid (CfB 25 w5 wr.heap.size 0 (.slice none 0 0)) := CfB.below (CfB.new 25 wr.drew 0 (.slice none 0 0)) hb; have hS5 : (w5.cell? ⟨Z, 0, none⟩ = some (.int .i64 e) ∧ w5.cell? ⟨Z, 1, none⟩ = some (.slice a3 xs.length c3) ∧ w5.cell? ⟨bn, on + k, none⟩ = some (.int .i64 x)) ∧ Hid (Below wr.heap.size wr w5) := HSB.out _ ((HSA.out wr.drew (.cells #[.int .i64 0, .slice none 0 0] 25) hSd).2.out.trans (hb.mono (alloc_b wr.drew _).size)); have HL5 : Hid (wr.heap.size ≤ w5.heap.size) := hS5.2.out.size; have H5 : Hid (OwI (wr.heap.size + 1) w5 (.slice a4 y1.length c4) y1.length y1) := ho.base (by simp); have p0 := HP5.out.c0; have p1 := HP5.out.c1; have g0 := HP5.out.fz 0; have g1 := HP5.out.fz 1; clear ho hb)
            | (go_at_call 22; refine (Calls.mono (HWO.out _ (by first | assumption | exact HSA.out _ _ (by assumption))) ?_); rintro r w5 ⟨a4, c4, rfl, ho, hb⟩; have hS5 : (w5.cell? ⟨Z, 0, none⟩ = some (.int .i64 e) ∧ w5.cell? ⟨Z, 1, none⟩ = some (.slice a3 xs.length c3) ∧ w5.cell? ⟨bn, on + k, none⟩ = some (.int .i64 x)) ∧ Hid (Below wr.heap.size wr w5) := HSB.out _ ((Below.refl wr.heap.size wr).drew.trans hb); have HL5 : Hid (wr.heap.size ≤ w5.heap.size) := hS5.2.out.size; have H5 : Hid (OwI wr.heap.size w5 (.slice a4 y1.length c4) y1.length y1) := ho; clear ho hb))
          · have H6 : Hid (CfB 25 (w5.alloc (.cells #[.int .i64 (P1), .slice a4 (y1).length c4] 25)) w5.heap.size (P1) (.slice a4 (y1).length c4) ∧ OwI wr.heap.size (w5.alloc (.cells #[.int .i64 (P1), .slice a4 (y1).length c4] 25)) (.slice a4 (y1).length c4) (y1).length (y1) ∧ Below wr.heap.size wr (w5.alloc (.cells #[.int .i64 (P1), .slice a4 (y1).length c4] 25)) ∧ wr.heap.size ≤ w5.heap.size) := ⟨CfB.new _ _ _ _, H5.out.below (alloc_b _ _), hS5.2.out.trans ((alloc_b _ _).mono HL5.out), HL5.out⟩
            generalize World.alloc w5 _ = W6 at H6 ⊢
            generalize w5.heap.size = P at H6 ⊢
            clear hS5 HL5 H5
            have hS6 : (W6.cell? ⟨Z, 0, none⟩ = some (.int .i64 e) ∧ W6.cell? ⟨Z, 1, none⟩ = some (.slice a3 xs.length c3) ∧ W6.cell? ⟨bn, on + k, none⟩ = some (.int .i64 x)) ∧ Hid (Below wr.heap.size wr W6) := HSB.out _ H6.out.2.2.1
            have hS6d : (W6.drew.cell? ⟨Z, 0, none⟩ = some (.int .i64 e) ∧ W6.drew.cell? ⟨Z, 1, none⟩ = some (.slice a3 xs.length c3) ∧ W6.drew.cell? ⟨bn, on + k, none⟩ = some (.int .i64 x)) ∧ Hid (Below wr.heap.size wr W6.drew) := HSB.out _ H6.out.2.2.1.drew
            have HPL : Hid (wr.heap.size ≤ P) := H6.out.2.2.2
            go_wp2_with fail
            go_region_held3 (fun W => (W.cell? ⟨Z, 0, none⟩ = some (.int .i64 e) ∧ W.cell? ⟨Z, 1, none⟩ = some (.slice a3 xs.length c3) ∧ W.cell? ⟨bn, on + k, none⟩ = some (.int .i64 x)) ∧ Hid (Below wr.heap.size wr W)) (first | assumption | exact HSS.out _ _ _ _ HPL.out (by assumption)) (first
              | (go_at_call 23; refine (Calls.mono (HWI.out _ (by assumption)) ?_); rintro r w8 ⟨a5, c5, rfl, ho, hb⟩; have HP8 : Hid (CfB 25 w8 P P1 (.slice a4 y1.length c4)) := CfB.below (show CfB 25 W6.drew P P1 (.slice a4 y1.length c4) from H6.out.1) hb; have hS8 : (w8.cell? ⟨Z, 0, none⟩ = some (.int .i64 e) ∧ w8.cell? ⟨Z, 1, none⟩ = some (.slice a3 xs.length c3) ∧ w8.cell? ⟨bn, on + k, none⟩ = some (.int .i64 x)) ∧ Hid (Below wr.heap.size wr w8) := HSB.out _ (hS6d.2.out.trans (hb.mono hS6d.2.out.size)); have H8 : Hid (OwI (P + 1) w8 (.slice a5 ys.length c5) ys.length ys) := ho.base H6.out.1.lt; have p0 := HP8.out.c0; have p1 := HP8.out.c1; have g0 := HP8.out.fz 0; have g1 := HP8.out.fz 1; clear ho hb))
            have H7 : Hid (CfB 25 ((w8.setCell ⟨P, 0, none⟩ (.int .i64 (e + 1))).setCell ⟨P, 1, none⟩ (.slice a5 ys.length c5)) P (e + 1) (.slice a5 ys.length c5) ∧ OwI wr.heap.size ((w8.setCell ⟨P, 0, none⟩ (.int .i64 (e + 1))).setCell ⟨P, 1, none⟩ (.slice a5 ys.length c5)) (.slice a5 ys.length c5) ys.length ys ∧ Below wr.heap.size wr ((w8.setCell ⟨P, 0, none⟩ (.int .i64 (e + 1))).setCell ⟨P, 1, none⟩ (.slice a5 ys.length c5)) ∧ wr.heap.size ≤ P) := ⟨cf_set HP8.out _ _, ((H8.out.other _ 0 (Nat.lt_succ_self _) _).other _ 1 (Nat.lt_succ_self _) _).base (by have := HPL.out; omega), (hS8.2.out.setCell (p := ⟨P, 0, none⟩) HPL.out _).setCell (p := ⟨P, 1, none⟩) HPL.out _, HPL.out⟩
            generalize World.setCell (World.setCell w8 _ _) _ _ = W7 at H7 ⊢
            clear HP8 p0 p1 g0 g1 hS8 H8 hS6 hS6d H6 HPL HWO HWI hS1 hSd
            have HS7 : Hid (Seg .i64 W7 a3 xs.length xs ∧ Kn [(P, 25, e + 1, .slice a5 ys.length c5), (Z, 25, e, .slice a3 xs.length c3)] w W7) := ⟨hr.out.2.2.1.below H7.out.2.2.1, fun y hy => by simp at hy; rcases hy with rfl | rfl; exact H7.out.1; exact (hr.out.2.1.below H7.out.2.2.1).get 0 rfl, (hr.out.2.1.below H7.out.2.2.1).2⟩
            have HF1 : Hid (∀ W, Below W7.heap.size W7 W → Calls Try.prog 24 #[.agg #[.int .i64 e, .slice a3 xs.length c3], .agg #[.int .i64 (e + 1), .slice a5 ys.length c5]] W fun r w' => r = .returned (.bool true) ∧ Below W.heap.size W w') := fun W h => by
              have := follows_c e (e + 1) a3 a5 xs.length c3 ys.length c5 xs ys W (HS7.out.1.below h) (H7.out.2.1.segW.1.below h) hr.out.2.2.2.1 hr.out.2.2.2.2 (by omega) (by omega)
              rwa [HX.out.fo] at this
            have HF2 : Hid (∀ W, Below W7.heap.size W7 W → Calls Try.prog 24 #[.agg #[.int .i64 (e + 1), .slice a5 ys.length c5], .agg #[.int .i64 e, .slice a3 xs.length c3]] W fun r w' => r = .returned (.bool false) ∧ Below W.heap.size W w') := fun W h => by
              have := follows_c (e + 1) e a5 a3 ys.length c5 xs.length c3 ys xs W (H7.out.2.1.segW.1.below h) (HS7.out.1.below h) H7.out.2.1.segW.2.1 H7.out.2.1.segW.2.2 (by omega) (by omega)
              rwa [HX.out.fb] at this
            have HOR : Hid (∀ W, Below W7.heap.size W7 W → Calls Try.prog 25 #[.slice a3 xs.length c3, .slice a5 ys.length c5] W fun r w' => r = .returned (.bool true) ∧ Below W.heap.size W w') := fun W h => ordered_c a3 a5 xs.length c3 ys.length c5 xs ys W (HS7.out.1.below h) (H7.out.2.1.segW.1.below h) (by omega) (by omega) HX.out.od
            have HTC : Hid (∀ W, Below W7.heap.size W7 W → W.cell? ⟨P, 0, none⟩ = some (.int .i64 (e + 1)) ∧ W.cell? ⟨P, 1, none⟩ = some (.slice a5 ys.length c5) ∧ W.cell? ⟨Z, 0, none⟩ = some (.int .i64 e) ∧ W.cell? ⟨Z, 1, none⟩ = some (.slice a3 xs.length c3) ∧ W.frozen? ⟨Z, 0, none⟩ = false ∧ W.frozen? ⟨Z, 1, none⟩ = false) := fun W h => by
              have z := HS7.out.2.below h
              exact ⟨z.c0 0 rfl, z.c1 0 rfl, z.c0 1 rfl, z.c1 1 rfl, (z.get 1 rfl).fz 0, (z.get 1 rfl).fz 1⟩
            have T7 : Hid (Below W7.heap.size W7 W7) := Below.refl _ _
            obtain ⟨aa0, aa1, aa2, aa3, aa4, aa5⟩ := HTC.out _ T7.out
            go_wp2_with (first
              | ((fail_if_success (have z := T8)); go_at_call 24; go_must (refine (Calls.mono (HF1.out _ T7.out) ?_)); rintro r w8 ⟨rfl, hb⟩; have T8 : Hid (Below W7.heap.size W7 w8) := hb; obtain ⟨ab0, ab1, ab2, ab3, ab4, ab5⟩ := HTC.out _ hb; clear hb)
              | (go_at_call 24; go_must (refine (Calls.mono (HF2.out _ T8.out) ?_)); rintro r w9 ⟨rfl, hb⟩; have T9 : Hid (Below W7.heap.size W7 w9) := T8.out.trans (hb.mono T8.out.size); obtain ⟨ac0, ac1, ac2, ac3, ac4, ac5⟩ := HTC.out _ T9.out; clear hb)
              | (go_at_call 25; go_must (refine (Calls.mono (HOR.out _ T9.out) ?_)); rintro r w10 ⟨rfl, hb⟩; have T10 : Hid (Below W7.heap.size W7 w10) := T9.out.trans (hb.mono T9.out.size); obtain ⟨ad0, ad1, ad2, ad3, ad4, ad5⟩ := HTC.out _ T10.out; clear hb))
            have HUB : Hid (∀ W, Below W7.heap.size W7 W → ((W.cell? ⟨P, 0, none⟩ = some (.int .i64 (e + 1)) ∧ W.cell? ⟨P, 1, none⟩ = some (.slice a5 ys.length c5) ∧ W.cell? ⟨bn, on + k, none⟩ = some (.int .i64 x)) ∧ Hid (Below W7.heap.size W7 W))) := fun W hb => ⟨⟨(HTC.out W hb).1, (HTC.out W hb).2.1, HCN.out W (H7.out.2.2.1.trans (hb.mono H7.out.2.2.1.size))⟩, hb⟩
            have HUA : Hid (∀ W o, ((W.cell? ⟨P, 0, none⟩ = some (.int .i64 (e + 1)) ∧ W.cell? ⟨P, 1, none⟩ = some (.slice a5 ys.length c5) ∧ W.cell? ⟨bn, on + k, none⟩ = some (.int .i64 x)) ∧ Hid (Below W7.heap.size W7 W)) → (((W.alloc o).cell? ⟨P, 0, none⟩ = some (.int .i64 (e + 1)) ∧ (W.alloc o).cell? ⟨P, 1, none⟩ = some (.slice a5 ys.length c5) ∧ (W.alloc o).cell? ⟨bn, on + k, none⟩ = some (.int .i64 x)) ∧ Hid (Below W7.heap.size W7 (W.alloc o)))) := fun W o h => HUB.out _ (h.2.out.trans ((alloc_b W o).mono h.2.out.size))
            have HUS : Hid (∀ W b u v, W7.heap.size ≤ b → ((W.cell? ⟨P, 0, none⟩ = some (.int .i64 (e + 1)) ∧ W.cell? ⟨P, 1, none⟩ = some (.slice a5 ys.length c5) ∧ W.cell? ⟨bn, on + k, none⟩ = some (.int .i64 x)) ∧ Hid (Below W7.heap.size W7 W)) → ((((W.setCell ⟨b, 0, none⟩ u).setCell ⟨b, 1, none⟩ v).cell? ⟨P, 0, none⟩ = some (.int .i64 (e + 1)) ∧ ((W.setCell ⟨b, 0, none⟩ u).setCell ⟨b, 1, none⟩ v).cell? ⟨P, 1, none⟩ = some (.slice a5 ys.length c5) ∧ ((W.setCell ⟨b, 0, none⟩ u).setCell ⟨b, 1, none⟩ v).cell? ⟨bn, on + k, none⟩ = some (.int .i64 x)) ∧ Hid (Below W7.heap.size W7 ((W.setCell ⟨b, 0, none⟩ u).setCell ⟨b, 1, none⟩ v)))) := fun W b u v hb h => HUB.out _ ((h.2.out.setCell (p := ⟨b, 0, none⟩) hb u).setCell (p := ⟨b, 1, none⟩) hb v)
            have hU1 : (w10.cell? ⟨P, 0, none⟩ = some (.int .i64 (e + 1)) ∧ w10.cell? ⟨P, 1, none⟩ = some (.slice a5 ys.length c5) ∧ w10.cell? ⟨bn, on + k, none⟩ = some (.int .i64 x)) ∧ Hid (Below W7.heap.size W7 w10) := HUB.out _ T10.out
            have hUd : (w10.drew.cell? ⟨P, 0, none⟩ = some (.int .i64 (e + 1)) ∧ w10.drew.cell? ⟨P, 1, none⟩ = some (.slice a5 ys.length c5) ∧ w10.drew.cell? ⟨bn, on + k, none⟩ = some (.int .i64 x)) ∧ Hid (Below W7.heap.size W7 w10.drew) := HUB.out _ T10.out.drew
            have HLW : Hid (W7.heap.size ≤ w10.heap.size) := T10.out.size
            obtain ⟨PB, hPB⟩ : ∃ PB, PB = woP (e + 1) ys x := ⟨_, rfl⟩
            have HW2 : Hid (∀ W, ((W.cell? ⟨P, 0, none⟩ = some (.int .i64 (e + 1)) ∧ W.cell? ⟨P, 1, none⟩ = some (.slice a5 ys.length c5) ∧ W.cell? ⟨bn, on + k, none⟩ = some (.int .i64 x)) ∧ Hid (Below W7.heap.size W7 W)) → Calls Try.prog 22 #[.agg #[.int .i64 (e + 1), .slice a5 ys.length c5], .int .i64 x] W (StA W PB 0 xs)) := fun W h => by
              have := without_c (e + 1) a5 ys.length c5 ys x W (H7.out.2.1.segW.1.below h.2.out) H7.out.2.1.segW.2.1 H7.out.2.1.segW.2.2
              rwa [HBK.out.1, HBK.out.2, ← hPB] at this
            clear hPB
            go_region_held3 (fun W => (W.cell? ⟨P, 0, none⟩ = some (.int .i64 (e + 1)) ∧ W.cell? ⟨P, 1, none⟩ = some (.slice a5 ys.length c5) ∧ W.cell? ⟨bn, on + k, none⟩ = some (.int .i64 x)) ∧ Hid (Below W7.heap.size W7 W)) (first | assumption | exact HUA.out _ _ (by assumption) | exact HUS.out _ _ _ _ (by first | exact HLW.out | exact HL5.out) (by first | assumption | exact HUA.out _ _ (by assumption))) (first
              | (go_at_call 22; refine (Calls.mono (HW2.out _ (by first | assumption | exact HUA.out _ _ (by assumption))) ?_); rintro r w5 ⟨a7, c7, rfl, ho, hb⟩; have HP5 : Hid (CfB 25 w5 w10.heap.size 0 (.slice none 0 0)) := CfB.below (CfB.new 25 w10.drew 0 (.slice none 0 0)) hb; have hU5 : (w5.cell? ⟨P, 0, none⟩ = some (.int .i64 (e + 1)) ∧ w5.cell? ⟨P, 1, none⟩ = some (.slice a5 ys.length c5) ∧ w5.cell? ⟨bn, on + k, none⟩ = some (.int .i64 x)) ∧ Hid (Below W7.heap.size W7 w5) := HUB.out _ ((HUA.out w10.drew (.cells #[.int .i64 0, .slice none 0 0] 25) hUd).2.out.trans (hb.mono (HUA.out w10.drew (.cells #[.int .i64 0, .slice none 0 0] 25) hUd).2.out.size)); have HL5 : Hid (W7.heap.size ≤ w5.heap.size) := hU5.2.out.size; have H5 : Hid (OwI (w10.heap.size + 1) w5 (.slice a7 xs.length c7) xs.length xs) := ho.base (by simp); have p0 := HP5.out.c0; have p1 := HP5.out.c1; have g0 := HP5.out.fz 0; have g1 := HP5.out.fz 1; clear ho hb)
              | (go_at_call 22; refine (Calls.mono (HW2.out _ (by first | assumption | exact HUA.out _ _ (by assumption))) ?_); rintro r w5 ⟨a7, c7, rfl, ho, hb⟩; have hU5 : (w5.cell? ⟨P, 0, none⟩ = some (.int .i64 (e + 1)) ∧ w5.cell? ⟨P, 1, none⟩ = some (.slice a5 ys.length c5) ∧ w5.cell? ⟨bn, on + k, none⟩ = some (.int .i64 x)) ∧ Hid (Below W7.heap.size W7 w5) := HUB.out _ (hUd.2.out.trans (hb.mono hUd.2.out.size)); have HL5 : Hid (W7.heap.size ≤ w5.heap.size) := hU5.2.out.size; have H5 : Hid (OwI 0 w5 (.slice a7 xs.length c7) xs.length xs) := ho.base (Nat.zero_le _); clear ho hb))
            · have H14 : Hid (CfB 25 (w5.alloc (.cells #[.int .i64 PB, .slice a7 xs.length c7] 25)) w5.heap.size PB (.slice a7 xs.length c7) ∧ OwI 0 (w5.alloc (.cells #[.int .i64 PB, .slice a7 xs.length c7] 25)) (.slice a7 xs.length c7) xs.length xs ∧ Below W7.heap.size W7 (w5.alloc (.cells #[.int .i64 PB, .slice a7 xs.length c7] 25))) := ⟨CfB.new _ _ _ _, H5.out.below (alloc_b _ _), hU5.2.out.trans ((alloc_b _ _).mono HL5.out)⟩
              clear hU5 HL5 H5
              generalize World.alloc w5 _ = W4 at H14 ⊢
              generalize w5.heap.size = P4 at H14 ⊢
              clear HW2 HUB HUA HUS hU1 hUd HLW
              have HAL : Hid (∀ W, Below W4.heap.size W4 W → Calls Try.prog 26 #[.agg #[.int .i64 e, .slice a7 xs.length c7], .agg #[.int .i64 e, .slice a3 xs.length c3]] W fun r w' => r = .returned (.bool true) ∧ Below W.heap.size W w') := fun W h => by
                have := alike_c e e a7 a3 xs.length c7 xs.length c3 xs xs W (H14.out.2.1.segW.1.below h) ((HS7.out.1.below H14.out.2.2).below h) (by omega)
                rwa [sam_refl] at this
              obtain ⟨ae0, ae1, ae2, ae3, ae4, ae5⟩ := HTC.out _ H14.out.2.2
              have q0 := H14.out.1.c0
              have q1 := H14.out.1.c1
              go_wp2_with (go_at_call 26; go_must (refine (Calls.mono (HAL.out _ (Below.refl _ _)) ?_)); rintro r w15 ⟨rfl, hb⟩; have T15 : Hid (Below W7.heap.size W7 w15) := H14.out.2.2.trans (hb.mono H14.out.2.2.size); obtain ⟨af0, af1, af2, af3, af4, af5⟩ := HTC.out _ T15.out; clear hb)
              go_roundw
              case rel =>
                have hz := (H7.out.2.1.below T15.out)
                have hzo := (hz.other Z 0 HLR.out (.int .i64 (e + 1))).other Z 1 HLR.out (.slice a5 ys.length c5)
                have hkz : Kn [(Z, 25, e, .slice a3 xs.length c3)] w _ := (hr.out.2.1.below H7.out.2.2.1).below T15.out
                exact ⟨k + 1, e + 1, a5, c5, ys, hlt, by go_num, ⟨HX.out.ck, by have := hr.out.1.2; omega⟩, hkz.put HZ0.out (fun y hy => by cases hy) (e + 1) (.slice a5 ys.length c5), hzo.segW⟩
              case measure => simp [intOf]; omega
            · obtain ⟨P4, hP4⟩ : ∃ P4, P4 = w10.heap.size := ⟨_, rfl⟩
              have H14 : Hid (CfB 25 ((w5.setCell ⟨w10.heap.size, 0, none⟩ (.int .i64 PB)).setCell ⟨w10.heap.size, 1, none⟩ (.slice a7 xs.length c7)) P4 PB (.slice a7 xs.length c7) ∧ OwI 0 ((w5.setCell ⟨w10.heap.size, 0, none⟩ (.int .i64 PB)).setCell ⟨w10.heap.size, 1, none⟩ (.slice a7 xs.length c7)) (.slice a7 xs.length c7) xs.length xs ∧ Below W7.heap.size W7 ((w5.setCell ⟨w10.heap.size, 0, none⟩ (.int .i64 PB)).setCell ⟨w10.heap.size, 1, none⟩ (.slice a7 xs.length c7))) := ⟨by rw [hP4]; exact cf_set HP5.out _ _, ((H5.out.other _ 0 (Nat.lt_succ_self _) _).other _ 1 (Nat.lt_succ_self _) _).base (Nat.zero_le _), (hU5.2.out.setCell (p := ⟨w10.heap.size, 0, none⟩) HLW.out _).setCell (p := ⟨w10.heap.size, 1, none⟩) HLW.out _⟩
              generalize World.setCell (World.setCell w5 _ _) _ _ = W4 at H14 ⊢
              rw [← hP4]
              clear hP4 HP5 p0 p1 g0 g1 hU5 HL5 H5
              clear HW2 HUB HUA HUS hU1 hUd HLW
              have HAL : Hid (∀ W, Below W4.heap.size W4 W → Calls Try.prog 26 #[.agg #[.int .i64 e, .slice a7 xs.length c7], .agg #[.int .i64 e, .slice a3 xs.length c3]] W fun r w' => r = .returned (.bool true) ∧ Below W.heap.size W w') := fun W h => by
                have := alike_c e e a7 a3 xs.length c7 xs.length c3 xs xs W (H14.out.2.1.segW.1.below h) ((HS7.out.1.below H14.out.2.2).below h) (by omega)
                rwa [sam_refl] at this
              obtain ⟨ae0, ae1, ae2, ae3, ae4, ae5⟩ := HTC.out _ H14.out.2.2
              have q0 := H14.out.1.c0
              have q1 := H14.out.1.c1
              go_wp2_with (go_at_call 26; go_must (refine (Calls.mono (HAL.out _ (Below.refl _ _)) ?_)); rintro r w15 ⟨rfl, hb⟩; have T15 : Hid (Below W7.heap.size W7 w15) := H14.out.2.2.trans (hb.mono H14.out.2.2.size); obtain ⟨af0, af1, af2, af3, af4, af5⟩ := HTC.out _ T15.out; clear hb)
              go_roundw
              case rel =>
                have hz := (H7.out.2.1.below T15.out)
                have hzo := (hz.other Z 0 HLR.out (.int .i64 (e + 1))).other Z 1 HLR.out (.slice a5 ys.length c5)
                have hkz : Kn [(Z, 25, e, .slice a3 xs.length c3)] w _ := (hr.out.2.1.below H7.out.2.2.1).below T15.out
                exact ⟨k + 1, e + 1, a5, c5, ys, hlt, by go_num, ⟨HX.out.ck, by have := hr.out.1.2; omega⟩, hkz.put HZ0.out (fun y hy => by cases hy) (e + 1) (.slice a5 ys.length c5), hzo.segW⟩
              case measure => simp [intOf]; omega
          · obtain ⟨P, hP⟩ : ∃ P, P = wr.heap.size := ⟨_, rfl⟩
            have H6 : Hid (CfB 25 ((w5.setCell ⟨wr.heap.size, 0, none⟩ (.int .i64 (P1))).setCell ⟨wr.heap.size, 1, none⟩ (.slice a4 (y1).length c4)) P (P1) (.slice a4 (y1).length c4) ∧ OwI wr.heap.size ((w5.setCell ⟨wr.heap.size, 0, none⟩ (.int .i64 (P1))).setCell ⟨wr.heap.size, 1, none⟩ (.slice a4 (y1).length c4)) (.slice a4 (y1).length c4) (y1).length (y1) ∧ Below wr.heap.size wr ((w5.setCell ⟨wr.heap.size, 0, none⟩ (.int .i64 (P1))).setCell ⟨wr.heap.size, 1, none⟩ (.slice a4 (y1).length c4)) ∧ wr.heap.size ≤ P) := ⟨by rw [hP]; exact cf_set HP5.out _ _, ((H5.out.other _ 0 (Nat.lt_succ_self _) _).other _ 1 (Nat.lt_succ_self _) _).base (Nat.le_succ _), (hS5.2.out.setCell (p := ⟨wr.heap.size, 0, none⟩) (Nat.le_refl _) _).setCell (p := ⟨wr.heap.size, 1, none⟩) (Nat.le_refl _) _, Nat.le_of_eq hP.symm⟩
            generalize World.setCell (World.setCell w5 _ _) _ _ = W6 at H6 ⊢
            rw [← hP]
            clear hP HP5 p0 p1 g0 g1
            clear hS5 HL5 H5
            have hS6 : (W6.cell? ⟨Z, 0, none⟩ = some (.int .i64 e) ∧ W6.cell? ⟨Z, 1, none⟩ = some (.slice a3 xs.length c3) ∧ W6.cell? ⟨bn, on + k, none⟩ = some (.int .i64 x)) ∧ Hid (Below wr.heap.size wr W6) := HSB.out _ H6.out.2.2.1
            have hS6d : (W6.drew.cell? ⟨Z, 0, none⟩ = some (.int .i64 e) ∧ W6.drew.cell? ⟨Z, 1, none⟩ = some (.slice a3 xs.length c3) ∧ W6.drew.cell? ⟨bn, on + k, none⟩ = some (.int .i64 x)) ∧ Hid (Below wr.heap.size wr W6.drew) := HSB.out _ H6.out.2.2.1.drew
            have HPL : Hid (wr.heap.size ≤ P) := H6.out.2.2.2
            go_wp2_with fail
            go_region_held3 (fun W => (W.cell? ⟨Z, 0, none⟩ = some (.int .i64 e) ∧ W.cell? ⟨Z, 1, none⟩ = some (.slice a3 xs.length c3) ∧ W.cell? ⟨bn, on + k, none⟩ = some (.int .i64 x)) ∧ Hid (Below wr.heap.size wr W)) (first | assumption | exact HSS.out _ _ _ _ HPL.out (by assumption)) (first
              | (go_at_call 23; refine (Calls.mono (HWI.out _ (by assumption)) ?_); rintro r w8 ⟨a5, c5, rfl, ho, hb⟩; have HP8 : Hid (CfB 25 w8 P P1 (.slice a4 y1.length c4)) := CfB.below (show CfB 25 W6.drew P P1 (.slice a4 y1.length c4) from H6.out.1) hb; have hS8 : (w8.cell? ⟨Z, 0, none⟩ = some (.int .i64 e) ∧ w8.cell? ⟨Z, 1, none⟩ = some (.slice a3 xs.length c3) ∧ w8.cell? ⟨bn, on + k, none⟩ = some (.int .i64 x)) ∧ Hid (Below wr.heap.size wr w8) := HSB.out _ (hS6d.2.out.trans (hb.mono hS6d.2.out.size)); have H8 : Hid (OwI (P + 1) w8 (.slice a5 ys.length c5) ys.length ys) := ho.base H6.out.1.lt; have p0 := HP8.out.c0; have p1 := HP8.out.c1; have g0 := HP8.out.fz 0; have g1 := HP8.out.fz 1; clear ho hb))
            have H7 : Hid (CfB 25 ((w8.setCell ⟨P, 0, none⟩ (.int .i64 (e + 1))).setCell ⟨P, 1, none⟩ (.slice a5 ys.length c5)) P (e + 1) (.slice a5 ys.length c5) ∧ OwI wr.heap.size ((w8.setCell ⟨P, 0, none⟩ (.int .i64 (e + 1))).setCell ⟨P, 1, none⟩ (.slice a5 ys.length c5)) (.slice a5 ys.length c5) ys.length ys ∧ Below wr.heap.size wr ((w8.setCell ⟨P, 0, none⟩ (.int .i64 (e + 1))).setCell ⟨P, 1, none⟩ (.slice a5 ys.length c5)) ∧ wr.heap.size ≤ P) := ⟨cf_set HP8.out _ _, ((H8.out.other _ 0 (Nat.lt_succ_self _) _).other _ 1 (Nat.lt_succ_self _) _).base (by have := HPL.out; omega), (hS8.2.out.setCell (p := ⟨P, 0, none⟩) HPL.out _).setCell (p := ⟨P, 1, none⟩) HPL.out _, HPL.out⟩
            generalize World.setCell (World.setCell w8 _ _) _ _ = W7 at H7 ⊢
            clear HP8 p0 p1 g0 g1 hS8 H8 hS6 hS6d H6 HPL HWO HWI hS1 hSd
            have HS7 : Hid (Seg .i64 W7 a3 xs.length xs ∧ Kn [(P, 25, e + 1, .slice a5 ys.length c5), (Z, 25, e, .slice a3 xs.length c3)] w W7) := ⟨hr.out.2.2.1.below H7.out.2.2.1, fun y hy => by simp at hy; rcases hy with rfl | rfl; exact H7.out.1; exact (hr.out.2.1.below H7.out.2.2.1).get 0 rfl, (hr.out.2.1.below H7.out.2.2.1).2⟩
            have HF1 : Hid (∀ W, Below W7.heap.size W7 W → Calls Try.prog 24 #[.agg #[.int .i64 e, .slice a3 xs.length c3], .agg #[.int .i64 (e + 1), .slice a5 ys.length c5]] W fun r w' => r = .returned (.bool true) ∧ Below W.heap.size W w') := fun W h => by
              have := follows_c e (e + 1) a3 a5 xs.length c3 ys.length c5 xs ys W (HS7.out.1.below h) (H7.out.2.1.segW.1.below h) hr.out.2.2.2.1 hr.out.2.2.2.2 (by omega) (by omega)
              rwa [HX.out.fo] at this
            have HF2 : Hid (∀ W, Below W7.heap.size W7 W → Calls Try.prog 24 #[.agg #[.int .i64 (e + 1), .slice a5 ys.length c5], .agg #[.int .i64 e, .slice a3 xs.length c3]] W fun r w' => r = .returned (.bool false) ∧ Below W.heap.size W w') := fun W h => by
              have := follows_c (e + 1) e a5 a3 ys.length c5 xs.length c3 ys xs W (H7.out.2.1.segW.1.below h) (HS7.out.1.below h) H7.out.2.1.segW.2.1 H7.out.2.1.segW.2.2 (by omega) (by omega)
              rwa [HX.out.fb] at this
            have HOR : Hid (∀ W, Below W7.heap.size W7 W → Calls Try.prog 25 #[.slice a3 xs.length c3, .slice a5 ys.length c5] W fun r w' => r = .returned (.bool true) ∧ Below W.heap.size W w') := fun W h => ordered_c a3 a5 xs.length c3 ys.length c5 xs ys W (HS7.out.1.below h) (H7.out.2.1.segW.1.below h) (by omega) (by omega) HX.out.od
            have HTC : Hid (∀ W, Below W7.heap.size W7 W → W.cell? ⟨P, 0, none⟩ = some (.int .i64 (e + 1)) ∧ W.cell? ⟨P, 1, none⟩ = some (.slice a5 ys.length c5) ∧ W.cell? ⟨Z, 0, none⟩ = some (.int .i64 e) ∧ W.cell? ⟨Z, 1, none⟩ = some (.slice a3 xs.length c3) ∧ W.frozen? ⟨Z, 0, none⟩ = false ∧ W.frozen? ⟨Z, 1, none⟩ = false) := fun W h => by
              have z := HS7.out.2.below h
              exact ⟨z.c0 0 rfl, z.c1 0 rfl, z.c0 1 rfl, z.c1 1 rfl, (z.get 1 rfl).fz 0, (z.get 1 rfl).fz 1⟩
            have T7 : Hid (Below W7.heap.size W7 W7) := Below.refl _ _
            obtain ⟨aa0, aa1, aa2, aa3, aa4, aa5⟩ := HTC.out _ T7.out
            go_wp2_with (first
              | ((fail_if_success (have z := T8)); go_at_call 24; go_must (refine (Calls.mono (HF1.out _ T7.out) ?_)); rintro r w8 ⟨rfl, hb⟩; have T8 : Hid (Below W7.heap.size W7 w8) := hb; obtain ⟨ab0, ab1, ab2, ab3, ab4, ab5⟩ := HTC.out _ hb; clear hb)
              | (go_at_call 24; go_must (refine (Calls.mono (HF2.out _ T8.out) ?_)); rintro r w9 ⟨rfl, hb⟩; have T9 : Hid (Below W7.heap.size W7 w9) := T8.out.trans (hb.mono T8.out.size); obtain ⟨ac0, ac1, ac2, ac3, ac4, ac5⟩ := HTC.out _ T9.out; clear hb)
              | (go_at_call 25; go_must (refine (Calls.mono (HOR.out _ T9.out) ?_)); rintro r w10 ⟨rfl, hb⟩; have T10 : Hid (Below W7.heap.size W7 w10) := T9.out.trans (hb.mono T9.out.size); obtain ⟨ad0, ad1, ad2, ad3, ad4, ad5⟩ := HTC.out _ T10.out; clear hb))
            have HUB : Hid (∀ W, Below W7.heap.size W7 W → ((W.cell? ⟨P, 0, none⟩ = some (.int .i64 (e + 1)) ∧ W.cell? ⟨P, 1, none⟩ = some (.slice a5 ys.length c5) ∧ W.cell? ⟨bn, on + k, none⟩ = some (.int .i64 x)) ∧ Hid (Below W7.heap.size W7 W))) := fun W hb => ⟨⟨(HTC.out W hb).1, (HTC.out W hb).2.1, HCN.out W (H7.out.2.2.1.trans (hb.mono H7.out.2.2.1.size))⟩, hb⟩
            have HUA : Hid (∀ W o, ((W.cell? ⟨P, 0, none⟩ = some (.int .i64 (e + 1)) ∧ W.cell? ⟨P, 1, none⟩ = some (.slice a5 ys.length c5) ∧ W.cell? ⟨bn, on + k, none⟩ = some (.int .i64 x)) ∧ Hid (Below W7.heap.size W7 W)) → (((W.alloc o).cell? ⟨P, 0, none⟩ = some (.int .i64 (e + 1)) ∧ (W.alloc o).cell? ⟨P, 1, none⟩ = some (.slice a5 ys.length c5) ∧ (W.alloc o).cell? ⟨bn, on + k, none⟩ = some (.int .i64 x)) ∧ Hid (Below W7.heap.size W7 (W.alloc o)))) := fun W o h => HUB.out _ (h.2.out.trans ((alloc_b W o).mono h.2.out.size))
            have HUS : Hid (∀ W b u v, W7.heap.size ≤ b → ((W.cell? ⟨P, 0, none⟩ = some (.int .i64 (e + 1)) ∧ W.cell? ⟨P, 1, none⟩ = some (.slice a5 ys.length c5) ∧ W.cell? ⟨bn, on + k, none⟩ = some (.int .i64 x)) ∧ Hid (Below W7.heap.size W7 W)) → ((((W.setCell ⟨b, 0, none⟩ u).setCell ⟨b, 1, none⟩ v).cell? ⟨P, 0, none⟩ = some (.int .i64 (e + 1)) ∧ ((W.setCell ⟨b, 0, none⟩ u).setCell ⟨b, 1, none⟩ v).cell? ⟨P, 1, none⟩ = some (.slice a5 ys.length c5) ∧ ((W.setCell ⟨b, 0, none⟩ u).setCell ⟨b, 1, none⟩ v).cell? ⟨bn, on + k, none⟩ = some (.int .i64 x)) ∧ Hid (Below W7.heap.size W7 ((W.setCell ⟨b, 0, none⟩ u).setCell ⟨b, 1, none⟩ v)))) := fun W b u v hb h => HUB.out _ ((h.2.out.setCell (p := ⟨b, 0, none⟩) hb u).setCell (p := ⟨b, 1, none⟩) hb v)
            have hU1 : (w10.cell? ⟨P, 0, none⟩ = some (.int .i64 (e + 1)) ∧ w10.cell? ⟨P, 1, none⟩ = some (.slice a5 ys.length c5) ∧ w10.cell? ⟨bn, on + k, none⟩ = some (.int .i64 x)) ∧ Hid (Below W7.heap.size W7 w10) := HUB.out _ T10.out
            have hUd : (w10.drew.cell? ⟨P, 0, none⟩ = some (.int .i64 (e + 1)) ∧ w10.drew.cell? ⟨P, 1, none⟩ = some (.slice a5 ys.length c5) ∧ w10.drew.cell? ⟨bn, on + k, none⟩ = some (.int .i64 x)) ∧ Hid (Below W7.heap.size W7 w10.drew) := HUB.out _ T10.out.drew
            have HLW : Hid (W7.heap.size ≤ w10.heap.size) := T10.out.size
            obtain ⟨PB, hPB⟩ : ∃ PB, PB = woP (e + 1) ys x := ⟨_, rfl⟩
            have HW2 : Hid (∀ W, ((W.cell? ⟨P, 0, none⟩ = some (.int .i64 (e + 1)) ∧ W.cell? ⟨P, 1, none⟩ = some (.slice a5 ys.length c5) ∧ W.cell? ⟨bn, on + k, none⟩ = some (.int .i64 x)) ∧ Hid (Below W7.heap.size W7 W)) → Calls Try.prog 22 #[.agg #[.int .i64 (e + 1), .slice a5 ys.length c5], .int .i64 x] W (StA W PB 0 xs)) := fun W h => by
              have := without_c (e + 1) a5 ys.length c5 ys x W (H7.out.2.1.segW.1.below h.2.out) H7.out.2.1.segW.2.1 H7.out.2.1.segW.2.2
              rwa [HBK.out.1, HBK.out.2, ← hPB] at this
            clear hPB
            go_region_held3 (fun W => (W.cell? ⟨P, 0, none⟩ = some (.int .i64 (e + 1)) ∧ W.cell? ⟨P, 1, none⟩ = some (.slice a5 ys.length c5) ∧ W.cell? ⟨bn, on + k, none⟩ = some (.int .i64 x)) ∧ Hid (Below W7.heap.size W7 W)) (first | assumption | exact HUA.out _ _ (by assumption) | exact HUS.out _ _ _ _ (by first | exact HLW.out | exact HL5.out) (by first | assumption | exact HUA.out _ _ (by assumption))) (first
              | (go_at_call 22; refine (Calls.mono (HW2.out _ (by first | assumption | exact HUA.out _ _ (by assumption))) ?_); rintro r w5 ⟨a7, c7, rfl, ho, hb⟩; have HP5 : Hid (CfB 25 w5 w10.heap.size 0 (.slice none 0 0)) := CfB.below (CfB.new 25 w10.drew 0 (.slice none 0 0)) hb; have hU5 : (w5.cell? ⟨P, 0, none⟩ = some (.int .i64 (e + 1)) ∧ w5.cell? ⟨P, 1, none⟩ = some (.slice a5 ys.length c5) ∧ w5.cell? ⟨bn, on + k, none⟩ = some (.int .i64 x)) ∧ Hid (Below W7.heap.size W7 w5) := HUB.out _ ((HUA.out w10.drew (.cells #[.int .i64 0, .slice none 0 0] 25) hUd).2.out.trans (hb.mono (HUA.out w10.drew (.cells #[.int .i64 0, .slice none 0 0] 25) hUd).2.out.size)); have HL5 : Hid (W7.heap.size ≤ w5.heap.size) := hU5.2.out.size; have H5 : Hid (OwI (w10.heap.size + 1) w5 (.slice a7 xs.length c7) xs.length xs) := ho.base (by simp); have p0 := HP5.out.c0; have p1 := HP5.out.c1; have g0 := HP5.out.fz 0; have g1 := HP5.out.fz 1; clear ho hb)
              | (go_at_call 22; refine (Calls.mono (HW2.out _ (by first | assumption | exact HUA.out _ _ (by assumption))) ?_); rintro r w5 ⟨a7, c7, rfl, ho, hb⟩; have hU5 : (w5.cell? ⟨P, 0, none⟩ = some (.int .i64 (e + 1)) ∧ w5.cell? ⟨P, 1, none⟩ = some (.slice a5 ys.length c5) ∧ w5.cell? ⟨bn, on + k, none⟩ = some (.int .i64 x)) ∧ Hid (Below W7.heap.size W7 w5) := HUB.out _ (hUd.2.out.trans (hb.mono hUd.2.out.size)); have HL5 : Hid (W7.heap.size ≤ w5.heap.size) := hU5.2.out.size; have H5 : Hid (OwI 0 w5 (.slice a7 xs.length c7) xs.length xs) := ho.base (Nat.zero_le _); clear ho hb))
            · have H14 : Hid (CfB 25 (w5.alloc (.cells #[.int .i64 PB, .slice a7 xs.length c7] 25)) w5.heap.size PB (.slice a7 xs.length c7) ∧ OwI 0 (w5.alloc (.cells #[.int .i64 PB, .slice a7 xs.length c7] 25)) (.slice a7 xs.length c7) xs.length xs ∧ Below W7.heap.size W7 (w5.alloc (.cells #[.int .i64 PB, .slice a7 xs.length c7] 25))) := ⟨CfB.new _ _ _ _, H5.out.below (alloc_b _ _), hU5.2.out.trans ((alloc_b _ _).mono HL5.out)⟩
              clear hU5 HL5 H5
              generalize World.alloc w5 _ = W4 at H14 ⊢
              generalize w5.heap.size = P4 at H14 ⊢
              clear HW2 HUB HUA HUS hU1 hUd HLW
              have HAL : Hid (∀ W, Below W4.heap.size W4 W → Calls Try.prog 26 #[.agg #[.int .i64 e, .slice a7 xs.length c7], .agg #[.int .i64 e, .slice a3 xs.length c3]] W fun r w' => r = .returned (.bool true) ∧ Below W.heap.size W w') := fun W h => by
                have := alike_c e e a7 a3 xs.length c7 xs.length c3 xs xs W (H14.out.2.1.segW.1.below h) ((HS7.out.1.below H14.out.2.2).below h) (by omega)
                rwa [sam_refl] at this
              obtain ⟨ae0, ae1, ae2, ae3, ae4, ae5⟩ := HTC.out _ H14.out.2.2
              have q0 := H14.out.1.c0
              have q1 := H14.out.1.c1
              go_wp2_with (go_at_call 26; go_must (refine (Calls.mono (HAL.out _ (Below.refl _ _)) ?_)); rintro r w15 ⟨rfl, hb⟩; have T15 : Hid (Below W7.heap.size W7 w15) := H14.out.2.2.trans (hb.mono H14.out.2.2.size); obtain ⟨af0, af1, af2, af3, af4, af5⟩ := HTC.out _ T15.out; clear hb)
              go_roundw
              case rel =>
                have hz := (H7.out.2.1.below T15.out)
                have hzo := (hz.other Z 0 HLR.out (.int .i64 (e + 1))).other Z 1 HLR.out (.slice a5 ys.length c5)
                have hkz : Kn [(Z, 25, e, .slice a3 xs.length c3)] w _ := (hr.out.2.1.below H7.out.2.2.1).below T15.out
                exact ⟨k + 1, e + 1, a5, c5, ys, hlt, by go_num, ⟨HX.out.ck, by have := hr.out.1.2; omega⟩, hkz.put HZ0.out (fun y hy => by cases hy) (e + 1) (.slice a5 ys.length c5), hzo.segW⟩
              case measure => simp [intOf]; omega
            · obtain ⟨P4, hP4⟩ : ∃ P4, P4 = w10.heap.size := ⟨_, rfl⟩
              have H14 : Hid (CfB 25 ((w5.setCell ⟨w10.heap.size, 0, none⟩ (.int .i64 PB)).setCell ⟨w10.heap.size, 1, none⟩ (.slice a7 xs.length c7)) P4 PB (.slice a7 xs.length c7) ∧ OwI 0 ((w5.setCell ⟨w10.heap.size, 0, none⟩ (.int .i64 PB)).setCell ⟨w10.heap.size, 1, none⟩ (.slice a7 xs.length c7)) (.slice a7 xs.length c7) xs.length xs ∧ Below W7.heap.size W7 ((w5.setCell ⟨w10.heap.size, 0, none⟩ (.int .i64 PB)).setCell ⟨w10.heap.size, 1, none⟩ (.slice a7 xs.length c7))) := ⟨by rw [hP4]; exact cf_set HP5.out _ _, ((H5.out.other _ 0 (Nat.lt_succ_self _) _).other _ 1 (Nat.lt_succ_self _) _).base (Nat.zero_le _), (hU5.2.out.setCell (p := ⟨w10.heap.size, 0, none⟩) HLW.out _).setCell (p := ⟨w10.heap.size, 1, none⟩) HLW.out _⟩
              generalize World.setCell (World.setCell w5 _ _) _ _ = W4 at H14 ⊢
              rw [← hP4]
              clear hP4 HP5 p0 p1 g0 g1 hU5 HL5 H5
              clear HW2 HUB HUA HUS hU1 hUd HLW
              have HAL : Hid (∀ W, Below W4.heap.size W4 W → Calls Try.prog 26 #[.agg #[.int .i64 e, .slice a7 xs.length c7], .agg #[.int .i64 e, .slice a3 xs.length c3]] W fun r w' => r = .returned (.bool true) ∧ Below W.heap.size W w') := fun W h => by
                have := alike_c e e a7 a3 xs.length c7 xs.length c3 xs xs W (H14.out.2.1.segW.1.below h) ((HS7.out.1.below H14.out.2.2).below h) (by omega)
                rwa [sam_refl] at this
              obtain ⟨ae0, ae1, ae2, ae3, ae4, ae5⟩ := HTC.out _ H14.out.2.2
              have q0 := H14.out.1.c0
              have q1 := H14.out.1.c1
              go_wp2_with (go_at_call 26; go_must (refine (Calls.mono (HAL.out _ (Below.refl _ _)) ?_)); rintro r w15 ⟨rfl, hb⟩; have T15 : Hid (Below W7.heap.size W7 w15) := H14.out.2.2.trans (hb.mono H14.out.2.2.size); obtain ⟨af0, af1, af2, af3, af4, af5⟩ := HTC.out _ T15.out; clear hb)
              go_roundw
              case rel =>
                have hz := (H7.out.2.1.below T15.out)
                have hzo := (hz.other Z 0 HLR.out (.int .i64 (e + 1))).other Z 1 HLR.out (.slice a5 ys.length c5)
                have hkz : Kn [(Z, 25, e, .slice a3 xs.length c3)] w _ := (hr.out.2.1.below H7.out.2.2.1).below T15.out
                exact ⟨k + 1, e + 1, a5, c5, ys, hlt, by go_num, ⟨HX.out.ck, by have := hr.out.1.2; omega⟩, hkz.put HZ0.out (fun y hy => by cases hy) (e + 1) (.slice a5 ys.length c5), hzo.segW⟩
              case measure => simp [intOf]; omega
        · have hne2 : (wiE e xs x != 0) = true := by simpa using hwi
          generalize wiE e xs x = E2 at HWI hne2
          generalize wiX e xs x = ys at HWI
          generalize wiP e xs x = P2 at HWI
          clear hwi
          go_wp2_with fail
          go_region_held3 (fun W => (W.cell? ⟨Z, 0, none⟩ = some (.int .i64 e) ∧ W.cell? ⟨Z, 1, none⟩ = some (.slice a3 xs.length c3) ∧ W.cell? ⟨bn, on + k, none⟩ = some (.int .i64 x)) ∧ Hid (Below wr.heap.size wr W)) (first | assumption | exact HSA.out _ _ (by assumption) | exact HSS.out _ _ _ _ (by first | exact Nat.le_refl _ | exact HL5.out) (by first | assumption | exact HSA.out _ _ (by assumption))) (first
            | (go_at_call 22; refine (Calls.mono (HWO.out _ (by first | assumption | exact HSA.out _ _ (by assumption))) ?_); rintro r w5 ⟨a4, c4, rfl, ho, hb⟩; have HP5 : Hid (CfB 25 w5 wr.heap.size 0 (.slice none 0 0)) := CfB.below (CfB.new 25 wr.drew 0 (.slice none 0 0)) hb; have hS5 : (w5.cell? ⟨Z, 0, none⟩ = some (.int .i64 e) ∧ w5.cell? ⟨Z, 1, none⟩ = some (.slice a3 xs.length c3) ∧ w5.cell? ⟨bn, on + k, none⟩ = some (.int .i64 x)) ∧ Hid (Below wr.heap.size wr w5) := HSB.out _ ((HSA.out wr.drew (.cells #[.int .i64 0, .slice none 0 0] 25) hSd).2.out.trans (hb.mono (alloc_b wr.drew _).size)); have HL5 : Hid (wr.heap.size ≤ w5.heap.size) := hS5.2.out.size; have H5 : Hid (OwI (wr.heap.size + 1) w5 (.slice a4 y1.length c4) y1.length y1) := ho.base (by simp); have p0 := HP5.out.c0; have p1 := HP5.out.c1; have g0 := HP5.out.fz 0; have g1 := HP5.out.fz 1; clear ho hb)
            | (go_at_call 22; refine (Calls.mono (HWO.out _ (by first | assumption | exact HSA.out _ _ (by assumption))) ?_); rintro r w5 ⟨a4, c4, rfl, ho, hb⟩; have hS5 : (w5.cell? ⟨Z, 0, none⟩ = some (.int .i64 e) ∧ w5.cell? ⟨Z, 1, none⟩ = some (.slice a3 xs.length c3) ∧ w5.cell? ⟨bn, on + k, none⟩ = some (.int .i64 x)) ∧ Hid (Below wr.heap.size wr w5) := HSB.out _ ((Below.refl wr.heap.size wr).drew.trans hb); have HL5 : Hid (wr.heap.size ≤ w5.heap.size) := hS5.2.out.size; have H5 : Hid (OwI wr.heap.size w5 (.slice a4 y1.length c4) y1.length y1) := ho; clear ho hb))
          · have H6 : Hid (CfB 25 (w5.alloc (.cells #[.int .i64 (P1), .slice a4 (y1).length c4] 25)) w5.heap.size (P1) (.slice a4 (y1).length c4) ∧ OwI wr.heap.size (w5.alloc (.cells #[.int .i64 (P1), .slice a4 (y1).length c4] 25)) (.slice a4 (y1).length c4) (y1).length (y1) ∧ Below wr.heap.size wr (w5.alloc (.cells #[.int .i64 (P1), .slice a4 (y1).length c4] 25)) ∧ wr.heap.size ≤ w5.heap.size) := ⟨CfB.new _ _ _ _, H5.out.below (alloc_b _ _), hS5.2.out.trans ((alloc_b _ _).mono HL5.out), HL5.out⟩
            generalize World.alloc w5 _ = W6 at H6 ⊢
            generalize w5.heap.size = P at H6 ⊢
            clear hS5 HL5 H5
            have hS6 : (W6.cell? ⟨Z, 0, none⟩ = some (.int .i64 e) ∧ W6.cell? ⟨Z, 1, none⟩ = some (.slice a3 xs.length c3) ∧ W6.cell? ⟨bn, on + k, none⟩ = some (.int .i64 x)) ∧ Hid (Below wr.heap.size wr W6) := HSB.out _ H6.out.2.2.1
            have hS6d : (W6.drew.cell? ⟨Z, 0, none⟩ = some (.int .i64 e) ∧ W6.drew.cell? ⟨Z, 1, none⟩ = some (.slice a3 xs.length c3) ∧ W6.drew.cell? ⟨bn, on + k, none⟩ = some (.int .i64 x)) ∧ Hid (Below wr.heap.size wr W6.drew) := HSB.out _ H6.out.2.2.1.drew
            have HPL : Hid (wr.heap.size ≤ P) := H6.out.2.2.2
            go_wp2_with fail
            go_region_held3 (fun W => (W.cell? ⟨Z, 0, none⟩ = some (.int .i64 e) ∧ W.cell? ⟨Z, 1, none⟩ = some (.slice a3 xs.length c3) ∧ W.cell? ⟨bn, on + k, none⟩ = some (.int .i64 x)) ∧ Hid (Below wr.heap.size wr W)) (first | assumption | exact HSS.out _ _ _ _ HPL.out (by assumption)) (first
              | (go_at_call 23; refine (Calls.mono (HWI.out _ (by assumption)) ?_); rintro r w8 ⟨a5, c5, rfl, ho, hb⟩; have HP8 : Hid (CfB 25 w8 P P1 (.slice a4 y1.length c4)) := CfB.below (show CfB 25 W6.drew P P1 (.slice a4 y1.length c4) from H6.out.1) hb; have hS8 : (w8.cell? ⟨Z, 0, none⟩ = some (.int .i64 e) ∧ w8.cell? ⟨Z, 1, none⟩ = some (.slice a3 xs.length c3) ∧ w8.cell? ⟨bn, on + k, none⟩ = some (.int .i64 x)) ∧ Hid (Below wr.heap.size wr w8) := HSB.out _ (hS6d.2.out.trans (hb.mono hS6d.2.out.size)); have H8 : Hid (OwI (P + 1) w8 (.slice a5 ys.length c5) ys.length ys) := ho.base H6.out.1.lt; have p0 := HP8.out.c0; have p1 := HP8.out.c1; have g0 := HP8.out.fz 0; have g1 := HP8.out.fz 1; clear ho hb))
            have H7 : Hid (CfB 25 ((w8.setCell ⟨P, 0, none⟩ (.int .i64 (P2))).setCell ⟨P, 1, none⟩ (.slice a5 ys.length c5)) P (P2) (.slice a5 ys.length c5) ∧ OwI wr.heap.size ((w8.setCell ⟨P, 0, none⟩ (.int .i64 (P2))).setCell ⟨P, 1, none⟩ (.slice a5 ys.length c5)) (.slice a5 ys.length c5) ys.length ys ∧ Below wr.heap.size wr ((w8.setCell ⟨P, 0, none⟩ (.int .i64 (P2))).setCell ⟨P, 1, none⟩ (.slice a5 ys.length c5)) ∧ wr.heap.size ≤ P) := ⟨cf_set HP8.out _ _, ((H8.out.other _ 0 (Nat.lt_succ_self _) _).other _ 1 (Nat.lt_succ_self _) _).base (by have := HPL.out; omega), (hS8.2.out.setCell (p := ⟨P, 0, none⟩) HPL.out _).setCell (p := ⟨P, 1, none⟩) HPL.out _, HPL.out⟩
            generalize World.setCell (World.setCell w8 _ _) _ _ = W7 at H7 ⊢
            clear HP8 p0 p1 g0 g1 hS8 H8 hS6 hS6d H6 HPL HWO HWI hS1 hSd
            go_wp2_with fail
            go_roundw
            case rel => exact ⟨k + 1, e, a3, c3, xs, hlt, by go_num, ⟨hr.out.1.1, by have := hr.out.1.2; omega⟩, hr.out.2.1.below H7.out.2.2.1, hr.out.2.2.1.below H7.out.2.2.1, hr.out.2.2.2.1, hr.out.2.2.2.2⟩
            case measure => simp [intOf]; omega
          · obtain ⟨P, hP⟩ : ∃ P, P = wr.heap.size := ⟨_, rfl⟩
            have H6 : Hid (CfB 25 ((w5.setCell ⟨wr.heap.size, 0, none⟩ (.int .i64 (P1))).setCell ⟨wr.heap.size, 1, none⟩ (.slice a4 (y1).length c4)) P (P1) (.slice a4 (y1).length c4) ∧ OwI wr.heap.size ((w5.setCell ⟨wr.heap.size, 0, none⟩ (.int .i64 (P1))).setCell ⟨wr.heap.size, 1, none⟩ (.slice a4 (y1).length c4)) (.slice a4 (y1).length c4) (y1).length (y1) ∧ Below wr.heap.size wr ((w5.setCell ⟨wr.heap.size, 0, none⟩ (.int .i64 (P1))).setCell ⟨wr.heap.size, 1, none⟩ (.slice a4 (y1).length c4)) ∧ wr.heap.size ≤ P) := ⟨by rw [hP]; exact cf_set HP5.out _ _, ((H5.out.other _ 0 (Nat.lt_succ_self _) _).other _ 1 (Nat.lt_succ_self _) _).base (Nat.le_succ _), (hS5.2.out.setCell (p := ⟨wr.heap.size, 0, none⟩) (Nat.le_refl _) _).setCell (p := ⟨wr.heap.size, 1, none⟩) (Nat.le_refl _) _, Nat.le_of_eq hP.symm⟩
            generalize World.setCell (World.setCell w5 _ _) _ _ = W6 at H6 ⊢
            rw [← hP]
            clear hP HP5 p0 p1 g0 g1
            clear hS5 HL5 H5
            have hS6 : (W6.cell? ⟨Z, 0, none⟩ = some (.int .i64 e) ∧ W6.cell? ⟨Z, 1, none⟩ = some (.slice a3 xs.length c3) ∧ W6.cell? ⟨bn, on + k, none⟩ = some (.int .i64 x)) ∧ Hid (Below wr.heap.size wr W6) := HSB.out _ H6.out.2.2.1
            have hS6d : (W6.drew.cell? ⟨Z, 0, none⟩ = some (.int .i64 e) ∧ W6.drew.cell? ⟨Z, 1, none⟩ = some (.slice a3 xs.length c3) ∧ W6.drew.cell? ⟨bn, on + k, none⟩ = some (.int .i64 x)) ∧ Hid (Below wr.heap.size wr W6.drew) := HSB.out _ H6.out.2.2.1.drew
            have HPL : Hid (wr.heap.size ≤ P) := H6.out.2.2.2
            go_wp2_with fail
            go_region_held3 (fun W => (W.cell? ⟨Z, 0, none⟩ = some (.int .i64 e) ∧ W.cell? ⟨Z, 1, none⟩ = some (.slice a3 xs.length c3) ∧ W.cell? ⟨bn, on + k, none⟩ = some (.int .i64 x)) ∧ Hid (Below wr.heap.size wr W)) (first | assumption | exact HSS.out _ _ _ _ HPL.out (by assumption)) (first
              | (go_at_call 23; refine (Calls.mono (HWI.out _ (by assumption)) ?_); rintro r w8 ⟨a5, c5, rfl, ho, hb⟩; have HP8 : Hid (CfB 25 w8 P P1 (.slice a4 y1.length c4)) := CfB.below (show CfB 25 W6.drew P P1 (.slice a4 y1.length c4) from H6.out.1) hb; have hS8 : (w8.cell? ⟨Z, 0, none⟩ = some (.int .i64 e) ∧ w8.cell? ⟨Z, 1, none⟩ = some (.slice a3 xs.length c3) ∧ w8.cell? ⟨bn, on + k, none⟩ = some (.int .i64 x)) ∧ Hid (Below wr.heap.size wr w8) := HSB.out _ (hS6d.2.out.trans (hb.mono hS6d.2.out.size)); have H8 : Hid (OwI (P + 1) w8 (.slice a5 ys.length c5) ys.length ys) := ho.base H6.out.1.lt; have p0 := HP8.out.c0; have p1 := HP8.out.c1; have g0 := HP8.out.fz 0; have g1 := HP8.out.fz 1; clear ho hb))
            have H7 : Hid (CfB 25 ((w8.setCell ⟨P, 0, none⟩ (.int .i64 (P2))).setCell ⟨P, 1, none⟩ (.slice a5 ys.length c5)) P (P2) (.slice a5 ys.length c5) ∧ OwI wr.heap.size ((w8.setCell ⟨P, 0, none⟩ (.int .i64 (P2))).setCell ⟨P, 1, none⟩ (.slice a5 ys.length c5)) (.slice a5 ys.length c5) ys.length ys ∧ Below wr.heap.size wr ((w8.setCell ⟨P, 0, none⟩ (.int .i64 (P2))).setCell ⟨P, 1, none⟩ (.slice a5 ys.length c5)) ∧ wr.heap.size ≤ P) := ⟨cf_set HP8.out _ _, ((H8.out.other _ 0 (Nat.lt_succ_self _) _).other _ 1 (Nat.lt_succ_self _) _).base (by have := HPL.out; omega), (hS8.2.out.setCell (p := ⟨P, 0, none⟩) HPL.out _).setCell (p := ⟨P, 1, none⟩) HPL.out _, HPL.out⟩
            generalize World.setCell (World.setCell w8 _ _) _ _ = W7 at H7 ⊢
            clear HP8 p0 p1 g0 g1 hS8 H8 hS6 hS6d H6 HPL HWO HWI hS1 hSd
            go_wp2_with fail
            go_roundw
            case rel => exact ⟨k + 1, e, a3, c3, xs, hlt, by go_num, ⟨hr.out.1.1, by have := hr.out.1.2; omega⟩, hr.out.2.1.below H7.out.2.2.1, hr.out.2.2.1.below H7.out.2.2.1, hr.out.2.2.2.1, hr.out.2.2.2.2⟩
            case measure => simp [intOf]; omega
    · have hi1 : ¬ (k : Int) < (m : Int) := by omega
      have HCK : Hid _ := check_c e a3 xs.length c3 xs wr hr.out.2.2.1
      rw [hr.out.1.1] at HCK
      go_wp2_with (go_at_call 27; go_must (refine (Calls.mono HCK.out ?_)); rintro r w8 ⟨rfl, hb⟩; have T8 : Hid (Below wr.heap.size wr w8) := hb; clear hb)
      go_ret
      exact ⟨rfl, (hr.out.2.1.below T8.out).2⟩

theorem bulk_len {H : Type} (l : List (DataW H)) : l.length ≤ Rows.uptoBulkAll l := by
  induction l with
  | nil => simp
  | cons d r ih =>
    have : 1 ≤ Rows.uptoBulk d := by
      cases d with
      | lit x => cases x <;> simp [Rows.uptoBulk]
      | _ => simp [Rows.uptoBulk]
    simp only [Rows.uptoBulkAll, List.length_cons]; omega
theorem bulk_mem {H : Type} {d : DataW H} {l : List (DataW H)} (h : d ∈ l) : Rows.uptoBulk d ≤ Rows.uptoBulkAll l := by
  induction l with
  | nil => cases h
  | cons x r ih =>
    simp only [Rows.uptoBulkAll]
    rcases List.mem_cons.1 h with rfl | h
    · omega
    · have := ih h; omega
theorem bulk_slice {H : Type} {ds : List (DataW H)} {d : DataW H} {l r : List (DataW H)} (hk : Rows.uptoSmall H ds = true) (hd : d ∈ ds) (e : d = .slice l r) : l.length + r.length ≤ 1048576 := by
  have h0 : Rows.uptoBulkAll ds ≤ 1048576 := of_decide_eq_true hk
  have h1 := bulk_mem hd
  have h3 := bulk_len l
  have h4 := bulk_len r
  rw [e] at h1
  simp only [Rows.uptoBulk] at h1
  omega

set_option maxRecDepth 100000 in
theorem lifted (os : Os) (started : os.Started) (H : Type) (enc : TypeId × Value → H) (F : Stop.Interp) :
    ReturnsInHanded {} Try.checked os 6 .any ((Rows.OpenSpec.upto Rows.configChangeSpec).pre6 enc Try.prog Try.f6 Rows.configChangeUptoRow.domain false) (((Rows.OpenSpec.upto Rows.configChangeSpec).at F).post enc Try.prog Try.f6 false true false false) := by
  refine returnsInHanded_of_cond (C := Try.checked) (s := Rows.OpenSpec.upto Rows.configChangeSpec) (k := Rows.uptoSmall) rfl own started (by kernel_rfl) Try.func6
    (OpenSpec.witness (enc := enc) (C := Try.checked) (s := Rows.OpenSpec.upto Rows.configChangeSpec) (k := Rows.uptoSmall) rfl false ⟨#[], #[.slice none 0 0, .slice none 0 0], []⟩ 8 (by kernel_rfl) (by kernel_rfl) (by kernel_rfl)
      (x := ([.nil, .nil], [], [])) (by kernel_rfl) rfl (by kernel_rfl)) ?_
  intro W base args ds gs before hval0 hW hcnd hk _
  have hval : ∀ (j : Nat) t v, Try.f6.params[j]? = some t → args[j]? = some v → Value.okWide Try.prog W .any base t v := hval0
  have hW' := hW
  obtain ⟨p, q, hA0, hV, rfl, hfz, hnd⟩ := hW
  have hA : DataW.TrodAll enc Try.prog W 0 (fun _ => true) true Try.f6.params.toList args.toList ds p := hA0
  rw [Try.params6] at hA hval
  obtain ⟨v0, vs0, d0, ds0, p0, q0, hargs, rfl, rfl, h0, r0⟩ := trodAll_cons hA
  obtain ⟨v1, vs1, d1, ds1, p1, q1, rfl, rfl, rfl, h1, r1⟩ := trodAll_cons r0
  obtain ⟨rfl, rfl, rfl⟩ := trodAll_nil r1
  obtain rfl : args = #[v0, v1] := by cases args; simp_all
  obtain ⟨rfl, rfl⟩ := trodVars_none hV
  have k0 := h0
  have lt0 : ∀ x ∈ p0, x.block < W.heap.size := by obtain ⟨m, hm⟩ := k0; exact DataW.trod_lt m _ _ _ hm
  obtain ⟨a0, len0, cap0, z0, rfl, x0⟩ : ∃ a len cap zs, v0 = .slice a len cap ∧ IsRow .i64 1048576 W a len cap zs := by
    obtain ⟨sa, sl, sc, rfl⟩ := okWide_slice Try.underlying23 (hval 0 23 v0 rfl rfl)
    obtain ⟨fuel, hf⟩ := h0
    rcases open_ints Try.underlying23 Try.underlying3 (by kernel_rfl) hf with ⟨hcs, _⟩ | ⟨x, l, c, zs, hcs, _, hl, hm, hz, hx, hcell, hwz⟩
    · simp [Value.cells] at hcs; obtain ⟨rfl, rfl, rfl⟩ := hcs
      exact ⟨none, 0, 0, [], rfl, .inl ⟨rfl, rfl, rfl, rfl⟩⟩
    · simp [Value.cells] at hcs; obtain ⟨rfl, rfl, rfl⟩ := hcs
      have hz' : zs.length = sc := by simpa using hz
      have hd : d0 = _ := congrArg Prod.fst hx
      have hb := bulk_slice hk (show d0 ∈ _ by simp) hd
      simp only [lits, List.length_map, List.length_take, List.length_drop] at hb
      exact ⟨some x, sl, sc, zs, rfl, .inr ⟨_, rfl, hl, by omega, hz', hcell, hwz⟩⟩
  have k1 := h1
  have lt1 : ∀ x ∈ p1, x.block < W.heap.size := by obtain ⟨m, hm⟩ := k1; exact DataW.trod_lt m _ _ _ hm
  obtain ⟨a1, len1, cap1, z1, rfl, x1⟩ : ∃ a len cap zs, v1 = .slice a len cap ∧ IsRow .i64 1048576 W a len cap zs := by
    obtain ⟨sa, sl, sc, rfl⟩ := okWide_slice Try.underlying23 (hval 1 23 v1 rfl rfl)
    obtain ⟨fuel, hf⟩ := h1
    rcases open_ints Try.underlying23 Try.underlying3 (by kernel_rfl) hf with ⟨hcs, _⟩ | ⟨x, l, c, zs, hcs, _, hl, hm, hz, hx, hcell, hwz⟩
    · simp [Value.cells] at hcs; obtain ⟨rfl, rfl, rfl⟩ := hcs
      exact ⟨none, 0, 0, [], rfl, .inl ⟨rfl, rfl, rfl, rfl⟩⟩
    · simp [Value.cells] at hcs; obtain ⟨rfl, rfl, rfl⟩ := hcs
      have hz' : zs.length = sc := by simpa using hz
      have hd : d1 = _ := congrArg Prod.fst hx
      have hb := bulk_slice hk (show d1 ∈ _ by simp) hd
      simp only [lits, List.length_map, List.length_take, List.length_drop] at hb
      exact ⟨some x, sl, sc, zs, rfl, .inr ⟨_, rfl, hl, by omega, hz', hcell, hwz⟩⟩
  clear hA0 hval0
  refine (walk a0 len0 cap0 z0 a1 len1 cap1 z1 W x0 x1).mono fun e W' ⟨he, bel⟩ => ?_
  subst he
  exact ⟨_, rfl, _, _, _, [], _, [], hW', trodAll_mk1 (shut_bool Try.underlying4 _), (trodAll_cons_mk (Below.trod laidOut (by kernel_rfl) (of_decide_eq_true (by kernel_rfl)) k0 bel lt0) (trodAll_cons_mk (Below.trod laidOut (by kernel_rfl) (of_decide_eq_true (by kernel_rfl)) k1 bel lt1) trodAll_mk0)), rfl, bel.frame _, fun h => by cases h⟩

theorem over : Rows.configChangeUptoRow.holds Try.pinned (Rows.OpenSpec.upto Rows.configChangeSpec) :=
  OpenClaim.holds_of_cond 6 Try.f6 rfl rfl rfl rfl rfl rfl rfl ⟨rfl, rfl, rfl, rfl, rfl⟩ rfl rfl rfl rfl rfl (by kernel_rfl) Try.func6 (by kernel_rfl)
    (of_decide_eq_true (by kernel_rfl)) (by unfold Func.isWrapper; first | (rw [if_pos (by decide +kernel)]; kernel_rfl) | (rw [if_neg (by decide +kernel)]; exact ⟨rfl, rfl⟩))
    (fun os started H enc _ F => lifted os started H enc F)

end Go.Proofs.Ytekefbbjocekiab.configChange
namespace Go.Proofs.Ytekefbbjocekiab
theorem configChange_holds : Rows.ConfigChangeUptoSaid := configChange.over
#print axioms configChange_holds
end Go.Proofs.Ytekefbbjocekiab
