/-
  What the tree's find answers: the node of the key's row, or nil. Condition: the rows rise.
-/
import Derived.Test.YtdmchcdkfbijlabTPt
namespace Go.Proofs.Ytdmchcdkfbijlab
open Go.RowKit
set_option linter.unusedVariables false

/-- How high the tree is that a pointer leads to. -/
def hAt (w : World) (v : Value) : Nat := match v with
  | .pointer (some a) => (match w.cell? ⟨a.block, 5, none⟩ with
    | some (.int _ h) => h.toNat
    | _ => 0)
  | _ => 0
theorem hAt_tr {o : Nat → Prop} {w : World} {p : Option Addr} {h : Nat} {xs : List Rw} (ht : Tr o w p h xs) : hAt w (.pointer p) = h := by
  cases p with
  | none => have := ht.nil0; simp [hAt, this.1]
  | some a =>
    obtain ⟨b, l, y, r, pl, pr, hl, hr, rfl, ob', hb, t1, t2, he, hh⟩ := ht.node
    have hc : w.cell? ⟨b, 5, none⟩ = some (.int .i64 h) := hb.cell 5
    simp [hAt, hc]
theorem wpList_load_midG {ops : Array Oper} {rest : List Oper} {op : Oper} {a : Act} {w : World} {Q : Exit → Act → World → Prop} (T : TypeId) (hgd : Region.wanted op (yielded ops a.tmps) = true) (x : Operand) (ho : op.op = .load T x) (b off : Nat) (hx : a.eval x = .pointer (some ⟨b, off, none⟩)) (cs : List Value)
    {d : TypeDesc} (h : w.rangeAt b off cs) (hu : Try.prog.underlying T = some d) (hd : d.isRow = true) (hi : (Try.prog.info? T).map (·.size) = some cs.length)
    (K : wpList Try.prog ops Q rest (a.put op.dst (.agg cs.toArray)) w) : wpList Try.prog ops Q (op :: rest) a w :=
  BigFrame.wpList_want hgd fun _ hK => wp_load_mid T x ho b off hx cs d h hu hd hi (hK _ _ K)
/-- A node that holds the row, or nil. -/
def FoundAt (w : World) (q : Option Addr) : Option Rw → Prop
  | none => q = none
  | some y => ∃ b pl pr h n z, q = some ⟨b, 0, none⟩ ∧ Bk 62 w b (nc y pl pr h n z)
set_option maxRecDepth 20000 in
set_option maxHeartbeats 1000000 in
theorem find_c (o : Nat → Prop) (k : ByteArray) (p : Option Addr) (h : Nat) (xs : List Rw) (w : World) (ht : Tr o w p h xs) (hR : Rises xs) : Calls Try.prog 22 #[.pointer p, .string k] w fun e w' => ∃ q, e = .returned (.pointer q) ∧ FoundAt w' q (getR k xs) ∧ w.grownBy w' none := by
  have hmp := meth_place
  have HP : Hid (∀ (y : Rw) W, Calls Try.prog 74 #[.agg #[.string y.1, .string y.2.1, .int .i64 y.2.2]] W fun r w' => r = .returned (.string y.1) ∧ W.grownBy w' none) := fun y W => place_c y W
  have HT : Hid (Tr o w p h xs ∧ Rises xs) := ⟨ht, hR⟩
  clear ht hR
  go_enter Try.func22, Try.ntmps22
  go_wp2_with fail
  go_loopw [0] (fun v wr => ∃ p h ys, v = .pointer p ∧ Hid (Tr o wr p h ys ∧ Rises ys ∧ getR k ys = getR k xs ∧ w.grownBy wr none)) (fun v wr => hAt wr v)
  case atStart => exact ⟨p, h, xs, rfl, ⟨HT.out.1, HT.out.2, rfl, gb_rr _ _⟩⟩
  case round =>
    obtain ⟨p, h, ys, rfl, hr⟩ := hrel
    clear HT
    cases p with
    | none =>
      go_wp2
      go_ret
      obtain ⟨rfl, rfl⟩ := hr.out.1.nil0
      exact ⟨none, rfl, by rw [← hr.out.2.2.1]; exact rfl, hr.out.2.2.2⟩
    | some a =>
      obtain ⟨b, l, y, r, pl, pr, hl, hr', rfl, ob', hb, t1, t2, rfl, hh⟩ := hr.out.1.node
      have HB : Hid (Bk 62 wr b (nc y pl pr h (l ++ y :: r).length (szs (l ++ y :: r)))) := hb
      have HH : Hid (Tr o wr pl hl l ∧ Tr o wr pr hr' r ∧ h = max hl hr' + 1) := ⟨t1, t2, hh⟩
      have hrg := nc_range hb
      have kl1 : wr.cell? ⟨b, 3, none⟩ = some (.pointer pl) := hb.cell 3
      have kl2 : wr.cell? ⟨b, 4, none⟩ = some (.pointer pr) := hb.cell 4
      obtain ⟨r1, r2, r3, r4⟩ := rises_mid hr.out.2.1
      have HM : Hid (hAt wr (.pointer (some ⟨b, 0, none⟩)) = h) := hAt_tr hr.out.1
      clear hb t1 t2 hh
      have hn : (y.1.toList == k.toList) = decide (y.1 = k) := te_iff y.1 k
      by_cases he : y.1 = k
      · rw [decide_eq_true he] at hn
        have HE : Hid (getR k (l ++ y :: r) = some y) := getR_mid_eq he.symm r3
        clear r1 r2 r3 r4 he
        go_wp2_with (first
          | (refine wpList_load_midG 52 rfl (.tmp 10) rfl b 0 rfl [.string y.1, .string y.2.1, .int .i64 y.2.2] hrg Try.underlying52 rfl (by kernel_rfl) ?_)
          | (go_at_call 74; go_must (refine (Calls.mono (HP.out y _) ?_)); rintro e w1 ⟨rfl, hq⟩; have HN : Hid (wr.grownBy w1 none) := hq; clear hq))
        go_ret
        refine ⟨_, rfl, ?_, gb_trans hr.out.2.2.2 HN.out⟩
        rw [← hr.out.2.2.1, HE.out]
        exact ⟨b, pl, pr, h, _, _, rfl, HB.out.grew HN.out (by simp)⟩
      · rw [decide_eq_false he] at hn
        rcases cmpT_cases k y.1 with ⟨_, hk⟩ | ⟨_, hk⟩ | ⟨_, hk⟩
        · have hl1 : Op.bytesLess k.toList y.1.toList = true := hk
          have HE : Hid (getR k l = getR k xs ∧ Rises l) := ⟨by rw [← hr.out.2.2.1, getR_mid_lt hk r4], r1⟩
          clear r1 r2 r3 r4 he hk
          go_wp2_with (first
            | ((fail_if_success (have z := HN)); refine wpList_load_midG 52 rfl (.tmp 10) rfl b 0 rfl [.string y.1, .string y.2.1, .int .i64 y.2.2] hrg Try.underlying52 rfl (by kernel_rfl) ?_)
            | (refine wpList_load_midG 52 rfl (.tmp 20) rfl b 0 rfl [.string y.1, .string y.2.1, .int .i64 y.2.2] hrg Try.underlying52 rfl (by kernel_rfl) ?_)
            | ((fail_if_success (have z := HN)); go_at_call 74; go_must (refine (Calls.mono (HP.out y _) ?_)); rintro e w1 ⟨rfl, hq⟩; have HN : Hid (wr.grownBy w1 none) := hq; replace hrg := nc_range (HB.out.grew hq (by simp)); clear hq)
            | (have z := HN; clear z; go_at_call 74; go_must (refine (Calls.mono (HP.out y _) ?_)); rintro e w2 ⟨rfl, hq⟩; have HN2 : Hid (wr.grownBy w2 none) := gb_trans HN.out hq; replace kl1 : w2.cell? ⟨b, 3, none⟩ = some (.pointer pl) := (HB.out.grew HN2.out (by simp)).cell 3; replace kl2 : w2.cell? ⟨b, 4, none⟩ = some (.pointer pr) := (HB.out.grew HN2.out (by simp)).cell 4; clear hq))
          refine ⟨⟨pl, hl, l, rfl, ⟨HH.out.1.gb HN2.out, HE.out.2, HE.out.1, gb_trans hr.out.2.2.2 HN2.out⟩⟩, ?_⟩
          rw [HM.out, hAt_tr (HH.out.1.gb HN2.out)]
          have := HH.out.2.2
          omega
        · have hl1 : Op.bytesLess k.toList y.1.toList = false := tl_asymm hk
          have HE : Hid (getR k r = getR k xs ∧ Rises r) := ⟨by rw [← hr.out.2.2.1, getR_mid_gt hk r3], r2⟩
          clear r1 r2 r3 r4 he hk
          go_wp2_with (first
            | ((fail_if_success (have z := HN)); refine wpList_load_midG 52 rfl (.tmp 10) rfl b 0 rfl [.string y.1, .string y.2.1, .int .i64 y.2.2] hrg Try.underlying52 rfl (by kernel_rfl) ?_)
            | (refine wpList_load_midG 52 rfl (.tmp 20) rfl b 0 rfl [.string y.1, .string y.2.1, .int .i64 y.2.2] hrg Try.underlying52 rfl (by kernel_rfl) ?_)
            | ((fail_if_success (have z := HN)); go_at_call 74; go_must (refine (Calls.mono (HP.out y _) ?_)); rintro e w1 ⟨rfl, hq⟩; have HN : Hid (wr.grownBy w1 none) := hq; replace hrg := nc_range (HB.out.grew hq (by simp)); clear hq)
            | (have z := HN; clear z; go_at_call 74; go_must (refine (Calls.mono (HP.out y _) ?_)); rintro e w2 ⟨rfl, hq⟩; have HN2 : Hid (wr.grownBy w2 none) := gb_trans HN.out hq; replace kl1 : w2.cell? ⟨b, 3, none⟩ = some (.pointer pl) := (HB.out.grew HN2.out (by simp)).cell 3; replace kl2 : w2.cell? ⟨b, 4, none⟩ = some (.pointer pr) := (HB.out.grew HN2.out (by simp)).cell 4; clear hq))
          refine ⟨⟨pr, hr', r, rfl, ⟨HH.out.2.1.gb HN2.out, HE.out.2, HE.out.1, gb_trans hr.out.2.2.2 HN2.out⟩⟩, ?_⟩
          rw [HM.out, hAt_tr (HH.out.2.1.gb HN2.out)]
          have := HH.out.2.2
          omega
        · exact absurd hk.symm he
end Go.Proofs.Ytdmchcdkfbijlab
