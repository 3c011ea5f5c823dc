/-
  What the law's lives answers: that one small message has the document's bytes, and that a message of no kind is refused. Condition: the list of kinds and crc's table lie in memory as the program's text lays them.
-/
import Derived.Test.YtokkhhekmebakaaGreatDoorEEn
import Derived.Test.YtokkhhekmebakaaGreatDoorEA0
namespace Go.Proofs.YtokkhhekmebakaaGreatDoor
open Go.RowKit
set_option linter.unusedVariables false

def L1 : Msg := { zMsg with kind := 10, frm := 3, to := 2 }
def L2 : Msg := { zMsg with kind := 10, frm := 3, to := 2, epoch := 1 }
def L3 : Msg := { zMsg with kind := 10, frm := 3, to := 2, epoch := 1, seq := 4 }
def fdL (i : Nat) (q : Array Value) (S : Wy) : Option (Array Value × Wy) := if i = 0 then fN 3 1 1099511627776 1 q S else if i = 1 then fN 7 0 1152921504606846976 4 q S else fN 6 4 1152921504606846976 6 q S
theorem fdL0 (g : Nat) : fdL 0 L1.cells ⟨1, g, [3, 2]⟩ = some (L2.cells, ⟨1, g, [3, 2, 1]⟩) := by
  have he : enc 1 = [1] := enc_small (by decide)
  simp [fdL, fN, Wy.num, Wy.more, he]
  rfl
theorem fdL1 (g : Nat) : fdL 1 L2.cells ⟨1, g, [3, 2, 1]⟩ = some (L3.cells, ⟨1, g, [3, 2, 1, 4]⟩) := by
  have he : enc 4 = [4] := enc_small (by decide)
  simp [fdL, fN, Wy.num, Wy.more, he]
  rfl
theorem fdL2 (g : Nat) : fdL 2 L3.cells ⟨1, g, [3, 2, 1, 4]⟩ = some (LvM.cells, ⟨1, g, [3, 2, 1, 4, 6]⟩) := by
  have he : enc 6 = [6] := enc_small (by decide)
  simp [fdL, fN, Wy.num, Wy.more, he]
  rfl
theorem endsL (g : Nat) : fEnds 10 3 2 (zMsg.cells.setIfInBounds 0 (.int .i64 10)) ⟨1, g, []⟩ = some (L1.cells, ⟨1, g, [3, 2]⟩) := by
  have h3 : enc 3 = [3] := enc_small (by decide)
  have h2 : enc 2 = [2] := enc_small (by decide)
  have hh : has (wyK 10) (wayB 3 2) = true := by decide
  simp [fEnds, Wy.num, Wy.more, h3, h2, hh]
  rfl
theorem carryL (g : Nat) : fCarry fdL 10 3 2 zMsg.cells ⟨1, g, []⟩ = some (LvM.cells, ⟨1, g, [3, 2, 1, 4, 6]⟩) := by
  have e : (flK 10).length = 3 := rfl
  unfold fCarry
  rw [show ((10 : Nat) : Int) = 10 from rfl, endsL, e]
  simp only [runF, fdL0, Nat.zero_add, fdL1, Nat.reduceAdd, fdL2]
/-- Between lives' fields. -/
def IvL (g : Nat) (i : Nat) (q : Array Value) (S : Wy) : Prop := i = 0 ∧ q = L1.cells ∧ S = ⟨1, g, [3, 2]⟩ ∨ i = 1 ∧ q = L2.cells ∧ S = ⟨1, g, [3, 2, 1]⟩ ∨ i = 2 ∧ q = L3.cells ∧ S = ⟨1, g, [3, 2, 1, 4]⟩ ∨ i = 3
theorem roomL (g : Nat) (xs : List Int) (n : Nat) (h : xs.length ≤ 100) (hn : n ≤ 100) : (⟨1, g, xs⟩ : Wy).room n := by
  show xs.length + n ≤ _
  omega
theorem carryL_c (g : Nat) (W : World) (p : Nat) (A : Nat → Prop) (h : St W p LvM.cells zMsg.cells ⟨1, g, []⟩ A) (HK : Knd W) (HM : Max W) :
    Calls Tryz.prog 52 #[.pointer (some ⟨p, 0, none⟩), .int .i64 10] W (StepTo W p LvM.cells zMsg.cells ⟨1, g, []⟩ A (some (LvM.cells, ⟨1, g, [3, 2, 1, 4, 6]⟩))) := by
  rw [← carryL g]
  refine carry_c 10 3 2 fdL (IvL g) (by omega) (by omega) rfl rfl h (roomL g [] 20 (by simp) (by omega)) HK HM ?_ ?_ ?_ ?_
  · intro q1 S1 e
    rw [show ((10 : Nat) : Int) = 10 from rfl, endsL] at e
    injection e with e
    injection e with e1 e2
    exact .inl ⟨rfl, e1.symm, e2.symm⟩
  · intro i q S W hi hI hs hk hm
    rcases hI with ⟨rfl, rfl, rfl⟩ | ⟨rfl, rfl, rfl⟩ | ⟨rfl, rfl, rfl⟩ | rfl
    · exact epoch_c 1 rfl hs (roomL g _ 10 (by simp) (by omega))
    · exact seq_c 4 rfl hs (roomL g _ 10 (by simp) (by omega))
    · rw [fdL2]
      refine (upto_ok 6 4 6 ⟨1, g, [3, 2, 1, 4, 6]⟩ rfl rfl (by omega) hs (roomL g _ 10 (by simp) (by omega)) ?_).mono ?_
      · have he : enc 6 = [6] := enc_small (by decide)
        simp [Wy.num, Wy.more, he]
      · rintro r w' ⟨rfl, h2, hg⟩
        exact ⟨.inl ⟨_, _, rfl, rfl, h2⟩, hg⟩
    · exact absurd hi (by decide)
  · intro i q S q' S' hi hI e
    rcases hI with ⟨rfl, rfl, rfl⟩ | ⟨rfl, rfl, rfl⟩ | ⟨rfl, rfl, rfl⟩ | rfl
    · rw [fdL0] at e
      injection e with e
      injection e with e1 e2
      exact ⟨.inr (.inl ⟨rfl, e1.symm, e2.symm⟩), by rw [← e2]; rfl⟩
    · rw [fdL1] at e
      injection e with e
      injection e with e1 e2
      exact ⟨.inr (.inr (.inl ⟨rfl, e1.symm, e2.symm⟩)), by rw [← e2]; rfl⟩
    · rw [fdL2] at e
      injection e with e
      injection e with e1 e2
      exact ⟨.inr (.inr (.inr rfl)), by rw [← e2]; rfl⟩
    · exact absurd hi (by decide)
  · intro i W hi
    have h3 : i < 3 := hi
    match i, h3 with
    | 0, _ => exact (show (callFunc 129 #[.pointer (some ⟨p, 0, none⟩)]).run Tryz.prog W = .ok (.enter 129 #[.pointer (some ⟨p, 0, none⟩)]) W by kernel_rfl)
    | 1, _ => exact (show (callFunc 137 #[.pointer (some ⟨p, 0, none⟩)]).run Tryz.prog W = .ok (.enter 137 #[.pointer (some ⟨p, 0, none⟩)]) W by kernel_rfl)
    | 2, _ => exact (show (callFunc 138 #[.pointer (some ⟨p, 0, none⟩)]).run Tryz.prog W = .ok (.enter 138 #[.pointer (some ⟨p, 0, none⟩)]) W by kernel_rfl)
/-- A message of no kind. -/
def KnM : Msg := { zMsg with kind := 29 }
theorem checkK_c (w : World) : Calls Tryz.prog 12 #[.agg KnM.cells] w fun r w' => r = .returned (.int .i64 150) ∧ w.grownBy w' none := by
  obtain ⟨b1, b2⟩ := blk_new w 49 KnM.cells
  have HL : Hid (∀ W, _) := fun W => elay_kind KnM none W (by decide)
  obtain ⟨W0, hW0⟩ : ∃ W0, W0 = w.alloc (.cells KnM.cells 49) := ⟨_, rfl⟩
  rw [← hW0] at b1 b2
  have B : Hid (Bk 49 W0 w.heap.size KnM.cells ∧ w.grownBy W0 none) := ⟨b1, b2⟩
  replace hW0 : Hid _ := hW0
  clear b1 b2
  go_enter Tryz.func12, Tryz.ntmps12
  go_wp2_with (first
    | (rw [← hW0.out]; refine wpList_load_bk 49 rfl (.tmp 1) rfl Tryz.underlying49 rfl infoMsg w.heap.size KnM.cells rfl B.out.1 rfl ?_)
    | (go_at_call 27; go_must (refine (Calls.mono (HL.out _) ?_)); rintro r W1 ⟨rfl, g1⟩; have H1 : Hid (w.grownBy W1 none) := gb_trans B.out.2 g1; clear g1))
  go_ret
  exact ⟨rfl, H1.out⟩
theorem encL_c (w : World) (HK : Knd w) (HM : Max w) (HT : Cr.Tab w) : Calls Tryz.prog 16 #[.agg LvM.cells] w fun r w' => ∃ v, r = .returned (.tuple #[v, .int .i64 0]) ∧ Cr.Own w.heap.size w' v (Cr.fenc 10 [3, 2, 1, 4, 6]).length (Cr.fenc 10 [3, 2, 1, 4, 6]) ∧ Below w.heap.size w w' :=
  eencode_ok LvM LvM.cells ⟨1, w.heap.size + 1, [3, 2, 1, 4, 6]⟩ w (by decide) HK HM HT rfl rfl (by simp) (fun W p A' a b c => carryL_c _ W p A' a b c) (fun W => alike0 W)
theorem gb_newE {w W0 W1 : World} (h : w.grownBy W0 none) (k : W0.grownBy W1 (some w.heap.size)) : w.grownBy W1 none :=
  ⟨k.os.trans h.os, k.tape.trans h.tape, k.output.trans h.output, Nat.le_trans h.size k.size, fun i hi hn => (k.block i (Nat.lt_of_lt_of_le hi h.size) (by simp; omega)).trans (h.block i hi hn)⟩
theorem gb_belowE {a b : World} (h : a.grownBy b none) : Below a.heap.size a b := ⟨h.os, h.tape, h.output, h.size, fun i hi => h.block i hi (fun e => by cases e)⟩
theorem fencL_len : (Cr.fenc 10 [3, 2, 1, 4, 6]).length = 19 := Cr.fenc_length 10 [3, 2, 1, 4, 6]
theorem fencL_mid : ((Cr.fenc 10 [3, 2, 1, 4, 6]).drop 10).take 5 = [3, 2, 1, 4, 6] := by
  have h1 : (Cr.sealed (Cr.fsix 10 5)).length = 10 := Cr.sealed_length _
  have e : Cr.fenc 10 [3, 2, 1, 4, 6] = Cr.sealed (Cr.fsix 10 5) ++ ([3, 2, 1, 4, 6] ++ Cr.by4 (Cr.sum (Cr.sealed (Cr.fsix 10 5) ++ [3, 2, 1, 4, 6]))) := List.append_assoc _ _ _
  rw [e, List.drop_left' h1]
  rfl
theorem lv_own {B : Nat} {w : World} {v : Value} (h : Cr.Own B w v 19 (Cr.fenc 10 [3, 2, 1, 4, 6])) : ∃ g cap, v = .slice (some ⟨g, 0, none⟩) 19 cap ∧ Seg .u8 w (some ⟨g, 10, none⟩) 5 [3, 2, 1, 4, 6] ∧ 19 ≤ cap := by
  obtain ⟨g, cap, rfl, _, hc⟩ := h.form (by omega)
  refine ⟨g, cap, rfl, ?_, hc⟩
  have hm := fencL_mid
  generalize Cr.fenc 10 [3, 2, 1, 4, 6] = X at h hm
  obtain ⟨a, c, e, hs, _, _⟩ := h.seg
  injection e with e1 e2 e3
  subst e1
  rcases hs.2 with z | ⟨b, off, e, hlt, hcell⟩
  · omega
  · injection e with e
    injection e with e1 e2
    subst e1 e2
    refine ⟨rfl, .inr ⟨g, 10, rfl, hlt, fun i hi => ?_⟩⟩
    have := hcell (10 + i) (by omega)
    rw [Nat.zero_add] at this
    rw [this, ← hm, List.getElem?_take, if_pos hi, List.getElem?_drop]
theorem lv_same (w : World) (g c : Nat) (h : Seg .u8 w (some ⟨g, 10, none⟩) 5 [3, 2, 1, 4, 6]) : Calls Tryz.prog 17 #[.slice (some ⟨g, 10, none⟩) 5 c, .slice (some ⟨w.heap.size, 0, none⟩) 5 5] (w.alloc (.cells #[.int .u8 3, .int .u8 2, .int .u8 1, .int .u8 4, .int .u8 6] 5)) fun r w' => r = .returned (.bool true) ∧ w.grownBy w' none := by
  have hB : Bytes [3, 2, 1, 4, 6] := bytes_of_mem (by decide)
  have h2 : Seg .u8 (w.alloc (.cells #[.int .u8 3, .int .u8 2, .int .u8 1, .int .u8 4, .int .u8 6] 5)) (some ⟨w.heap.size, 0, none⟩) 5 [3, 2, 1, 4, 6] := by
    refine ⟨rfl, .inr ⟨_, 0, rfl, by simp [World.size_alloc], fun i hi => ?_⟩⟩
    rw [Nat.zero_add, World.cell?_alloc_new]
    match i, hi with
    | 0, _ => rfl
    | 1, _ => rfl
    | 2, _ => rfl
    | 3, _ => rfl
    | 4, _ => rfl
  have hg : w.grownBy (w.alloc (.cells #[.int .u8 3, .int .u8 2, .int .u8 1, .int .u8 4, .int .u8 6] 5)) none := World.grownBy_alloc _ _ _
  refine (same_c _ _ 5 c 5 5 _ _ _ (h.grew hg (by simp)) h2 hB hB).mono ?_
  rintro r w' ⟨rfl, rfl⟩
  exact ⟨rfl, hg⟩
theorem wpList_build_G {ops : Array Oper} {rest : List Oper} {op : Oper} {a : Act} {w : World} {Q : Exit → Act → World → Prop} (hgd : Region.wanted op (yielded ops a.tmps) = true) (T : TypeId) (parts : Array (Nat × Operand)) (ho : op.op = .build T parts)
    (v : Value) (hr : (Instr.build T (parts.map fun p => (p.1, a.eval p.2))).run Tryz.prog w = .ok v w)
    (K : wpList Tryz.prog ops Q rest (a.put op.dst v) w) : wpList Tryz.prog ops Q (op :: rest) a w :=
  BigFrame.wpList_want hgd fun K' hK => by
    unfold Oper.wp execOp
    simp only [ho, Sem.run_bind, Sem.run_pure, Result.andThen_ok, hr]
    exact hK _ _ K
set_option maxRecDepth 20000 in
set_option maxHeartbeats 2000000 in
theorem lives_c (w : World) (HK : Knd w) (HM : Max w) (HT : Cr.Tab w) : Calls Tryz.prog 10 #[] w fun r w' => r = .returned (.bool true) ∧ Below w.heap.size w w' := by
  have HB1 : Hid (∀ W, (Instr.build 49 #[(0, .int .i64 10), (1, .int .i64 3), (2, .int .i64 2), (3, .int .i64 1), (7, .int .i64 4), (6, .int .i64 6)]).run Tryz.prog W = .ok (.agg LvM.cells) W) := fun W => by kernel_rfl
  have HB2 : Hid (∀ W, (Instr.build 49 #[(0, .int .i64 29)]).run Tryz.prog W = .ok (.agg KnM.cells) W) := fun W => by kernel_rfl
  have H0 : Hid (Knd w ∧ Max w ∧ Cr.Tab w) := ⟨HK, HM, HT⟩
  clear HK HM HT
  go_enter Tryz.func10, Tryz.ntmps10
  go_wp2_with (first
    | (refine wpList_build_E rfl 49 _ rfl (.agg LvM.cells) (by simp only [List.map_toArray, List.map_cons, List.map_nil]; exact HB1.out _) ?_)
    | (refine wpList_store_bk 49 rfl (.tmp 1) (.tmp 4) rfl infoMsg w.heap.size _ LvM.cells rfl rfl (heap_new w _) rfl (Msg.size _) (Msg.one _) ?_; intro W1 k1 k2; have H1 : Hid (Bk 49 W1 w.heap.size LvM.cells ∧ w.grownBy W1 none) := ⟨k1, gb_newE (World.grownBy_alloc _ _ _) k2⟩; clear k1 k2)
    | (refine wpList_load_bk 49 rfl (.tmp 1) rfl Tryz.underlying49 rfl infoMsg w.heap.size LvM.cells rfl H1.out.1 rfl ?_))
  refine Calls.mono (encL_c W1 (H0.out.1.gb H1.out.2) (H0.out.2.1.gb H1.out.2) (H0.out.2.2.gb H1.out.2)) ?_
  rintro r W2 ⟨v, rfl, ho, hb⟩
  rw [fencL_len] at ho
  obtain ⟨g, cap, rfl, hsg, hcap⟩ := lv_own ho
  have H2 : Hid (Below w.heap.size w W2 ∧ Seg .u8 W2 (some ⟨g, 10, none⟩) 5 [3, 2, 1, 4, 6]) := ⟨(gb_belowE H1.out.2).trans (hb.mono H1.out.2.size), hsg⟩
  have hc1 : (15 : Int) ≤ (cap : Int) := by omega
  clear ho hb hsg
  have HS : Hid _ := lv_same W2 g (cap - 10) H2.out.2
  have HCK : Hid (∀ W, _) := fun W => checkK_c W
  go_wp2_with (first
    | (go_at_call 17; go_must (refine (Calls.mono HS.out ?_)); rintro r W3 ⟨rfl, h3⟩; have H3 : Hid (W2.grownBy W3 none) := h3; clear h3)
    | (refine wpList_build_G (by simp [Region.wanted, yielded]) 49 _ rfl (.agg KnM.cells) (by simp only [List.map_toArray, List.map_cons, List.map_nil]; exact HB2.out _) ?_)
    | (go_at_call 12; go_must (refine (Calls.mono (HCK.out _) ?_)); rintro r W4 ⟨rfl, h4⟩; have H4 : Hid (W2.grownBy W4 none) := gb_trans H3.out h4; clear h4))
  go_ret
  exact ⟨rfl, H2.out.1.trans ((gb_belowE H4.out).mono H2.out.1.size)⟩
end Go.Proofs.YtokkhhekmebakaaGreatDoor
