/-
  What side, isNode, isClient and way answer of whatever addresses: between whom a message goes, as a text. No condition.
  What the pass's ends and upto come to. Condition: what is laid down takes at most 2^47 bytes; for ends: the list of kinds lies in memory as the program's text lays it.
-/
import Derived.Test.YtokkhhekmebakaaGreatDoorEWy
import Derived.Laws.BytesArg
import Derived.Test.YtokkhhekmebakaaGreatDoorECo
import Derived.Deep.RegionWith
import Derived.Deep.RegionHeld2
namespace Go.Proofs.YtokkhhekmebakaaGreatDoor
open Go.RowKit
set_option linter.unusedVariables false

def isN (n : Int) : Bool := decide (1 ≤ n) && decide (n ≤ 8)
def isC (n : Int) : Bool := decide (100 < n) && decide (n ≤ 116)
def sdB (n : Int) : Int := if n = 0 then 109 else if isN n then 110 else if isC n then 99 else 63
theorem eisNode_c (n : Int) (w : World) : Calls Tryz.prog 185 #[.int .i64 n] w fun r w' => r = .returned (.bool (isN n)) ∧ w' = w := by
  by_cases h1 : 1 ≤ n <;> by_cases h2 : n ≤ 8
  all_goals
    have hb : isN n = (decide (1 ≤ n) && decide (n ≤ 8)) := rfl
    simp only [h1, h2, decide_true, decide_false, Bool.and_true, Bool.and_false] at hb
    rw [hb]
    clear hb
    go_enter Tryz.func185, Tryz.ntmps185
    go_wp2
    go_ret
    exact ⟨rfl, rfl⟩
theorem eisClient_c (n : Int) (w : World) : Calls Tryz.prog 164 #[.int .i64 n] w fun r w' => r = .returned (.bool (isC n)) ∧ w' = w := by
  by_cases h1 : 100 < n <;> by_cases h2 : n ≤ 116
  all_goals
    have hb : isC n = (decide (100 < n) && decide (n ≤ 116)) := rfl
    simp only [h1, h2, decide_true, decide_false, Bool.and_true, Bool.and_false] at hb
    rw [hb]
    clear hb
    go_enter Tryz.func164, Tryz.ntmps164
    go_wp2
    go_ret
    exact ⟨rfl, rfl⟩
theorem side_c (n : Int) (w : World) : Calls Tryz.prog 163 #[.int .i64 n] w fun r w' => r = .returned (.int .u8 (sdB n)) ∧ w' = w := by
  have HA : Hid _ := eisNode_c n w
  have HB : Hid _ := eisClient_c n w
  by_cases h0 : n = 0
  · subst h0
    rw [show sdB 0 = 109 from rfl]
    go_enter Tryz.func163, Tryz.ntmps163
    go_wp2
    go_ret
    exact ⟨rfl, rfl⟩
  · cases h1 : isN n
    · cases h2 : isC n
      · have hs : Hid (sdB n = 63) := (by unfold sdB; rw [if_neg h0, if_neg (by rw [h1]; decide), if_neg (by rw [h2]; decide)] : sdB n = 63)
        go_enter Tryz.func163, Tryz.ntmps163
        go_wp2_with (first
          | (go_at_call 185; go_must (refine (Calls.mono HA.out ?_)); rintro r wq ⟨rfl, hq⟩; obtain rfl := hq.symm; clear hq; rw [h1])
          | (go_at_call 164; go_must (refine (Calls.mono HB.out ?_)); rintro r wq ⟨rfl, hq⟩; obtain rfl := hq.symm; clear hq; rw [h2]))
        go_ret
        exact ⟨by rw [hs.out]; rfl, rfl⟩
      · have hs : Hid (sdB n = 99) := (by unfold sdB; rw [if_neg h0, if_neg (by rw [h1]; decide), if_pos h2] : sdB n = 99)
        go_enter Tryz.func163, Tryz.ntmps163
        go_wp2_with (first
          | (go_at_call 185; go_must (refine (Calls.mono HA.out ?_)); rintro r wq ⟨rfl, hq⟩; obtain rfl := hq.symm; clear hq; rw [h1])
          | (go_at_call 164; go_must (refine (Calls.mono HB.out ?_)); rintro r wq ⟨rfl, hq⟩; obtain rfl := hq.symm; clear hq; rw [h2]))
        go_ret
        exact ⟨by rw [hs.out]; rfl, rfl⟩
    · have hs : Hid (sdB n = 110) := (by unfold sdB; rw [if_neg h0, if_pos h1] : sdB n = 110)
      go_enter Tryz.func163, Tryz.ntmps163
      go_wp2_with (go_at_call 185; go_must (refine (Calls.mono HA.out ?_)); rintro r wq ⟨rfl, hq⟩; obtain rfl := hq.symm; clear hq; rw [h1])
      go_ret
      exact ⟨by rw [hs.out]; rfl, rfl⟩
def wayB (a b : Int) : ByteArray := strOfNums [sdB a, 62, sdB b]
theorem way_c (a b : Int) (w : World) : Calls Tryz.prog 125 #[.int .i64 a, .int .i64 b] w fun r w' => r = .returned (.string (wayB a b)) ∧ w.grownBy w' none := by
  have HA : Hid _ := side_c a w
  have HB : Hid _ := side_c b w
  obtain ⟨x, hx⟩ : ∃ x, x = sdB a := ⟨_, rfl⟩
  obtain ⟨y, hy⟩ : ∃ y, y = sdB b := ⟨_, rfl⟩
  have HW : Hid (wayB a b = strOfNums [x, 62, y]) := by show _ = _; rw [hx, hy]; rfl
  have HG : Hid (w.grownBy (w.alloc (.cells #[.int .u8 x, .int .u8 62, .int .u8 y] 5)) none) := World.grownBy_alloc _ _ _
  rw [← hx] at HA
  rw [← hy] at HB
  have hcv := run_convert_bytes_arg (P := Tryz.prog) (w.alloc (.cells #[.int .u8 x, .int .u8 62, .int .u8 y] 5)) 56 5 Tryz.underlying56 Tryz.underlying5 w.heap.size 0 3 3 [x, 62, y] rfl (fun i hi => by
    rw [Nat.zero_add, World.cell?_alloc_new]
    rcases i with _ | _ | _ | i
    · rfl
    · rfl
    · rfl
    · omega) 9 Tryz.underlying9
  clear hx hy
  go_enter Tryz.func125, Tryz.ntmps125
  go_wp2_with fail
  refine Calls.mono HA.out ?_
  rintro r wq ⟨rfl, hq⟩; obtain rfl := hq.symm; clear hq
  go_wp2_with fail
  refine Calls.mono HB.out ?_
  rintro r wq ⟨rfl, hq⟩; obtain rfl := hq.symm; clear hq
  go_wp2
  go_ret
  exact ⟨by rw [HW.out]; rfl, HG.out⟩

theorem Knd.st {w w' p m q S A} (hk : Knd w) (h : St w p m q S A) (hg : Gr (fun j => j = p ∨ S.blk j) w w') : Knd w' := hk.block (h.glob hg 0 (by omega) hk.pos)
theorem Max.st {w w' p m q S A} (hk : Max w) (h : St w p m q S A) (hg : Gr (fun j => j = p ∨ S.blk j) w w') : Max w' := hk.block (h.glob hg 2 (by omega) hk.pos)
theorem num_same {S : Wy} {x lo hi v : Int} {S' : Wy} (h : S.num x lo hi = some (v, S')) : S'.k = S.k ∧ S'.g = S.g := by
  unfold Wy.num at h
  split at h
  · injection h with h
    injection h with _ h
    subst h
    unfold Wy.more
    split <;> exact ⟨rfl, rfl⟩
  · cases h
theorem enc_ten (n : Nat) (h : n < 18446744073709551616) : (enc n).length ≤ 10 := by
  have h1 := enc_length n h
  have h2 := (sz_bd (n : Int)).2
  omega
theorem room_more {S : Wy} {ys : List Int} {n k : Nat} (hy : ys.length ≤ k) (hb : S.room (n + k)) : (S.more ys).room n := by
  have hb' : S.xs.length + (n + k) ≤ 140737488355328 := hb
  unfold Wy.more
  split
  · show (S.xs ++ ys).length + n ≤ _
    rw [List.length_append]; omega
  · show S.xs.length + n ≤ _
    omega
theorem num_room {S : Wy} {x lo hi v : Int} {S' : Wy} {n : Nat} (h0 : 0 ≤ lo) (hm : hi ≤ 9223372036854775807) (h : S.num x lo hi = some (v, S')) (hb : S.room (n + 10)) : S'.room n := by
  unfold Wy.num at h
  split at h
  · rename_i hc
    injection h with h
    injection h with _ h
    subst h
    exact room_more (enc_ten _ (by omega)) hb
  · cases h
theorem blk_same {S S' : Wy} (h : S'.k = S.k ∧ S'.g = S.g) : S'.blk = S.blk := by
  unfold Wy.blk
  rw [h.1, h.2]
theorem gr_drew (G : Nat → Prop) (w : World) : Gr G w w.drew := Gr.of (row := none) ⟨rfl, rfl, rfl, Nat.le_refl _, fun _ _ _ => rfl⟩ (by simp)
theorem gr_drewN (G : Nat → Prop) (w : World) (n : Nat) : Gr G w (w.drewN n) := Gr.of (row := none) (gb_drewN (row := none) ⟨rfl, rfl, rfl, Nat.le_refl _, fun _ _ _ => rfl⟩ n) (by simp)
/-- A number that is held against another one (where it may be: the rest is another text's). -/
theorem upto_ok {w p m q S A} (x y v : Int) (S' : Wy) (hm : m[6]? = some (.int .i64 x)) (hq : q[7]? = some (.int .i64 y)) (hy : 0 ≤ y) (h : St w p m q S A) (hb : S.room 10) (hR : S.num x y 1152921504606846976 = some (v, S')) :
    Calls Tryz.prog 138 #[.pointer (some ⟨p, 0, none⟩)] w fun r w' => r = .returned (.tuple #[]) ∧ St w' p m (q.setIfInBounds 6 (.int .i64 v)) S' A ∧ Gr (fun j => j = p ∨ S.blk j) w w' := by
  have c := (h.cellM 6 (by omega)).trans hm
  have c2 : w.cell? ⟨p, 44, none⟩ = some (.int .i64 y) := (h.cellQ 7 (by omega)).trans hq
  have HN' : Hid (∀ W, w.grownBy W none → Calls Tryz.prog 122 #[.pointer (some ⟨p, 0, none⟩), .int .i64 x, .int .i64 y, .int .i64 1152921504606846976] W fun r w' => r = .returned (.int .i64 v) ∧ St w' p m q S' A ∧ Gr S.blk W w') := fun W hg => by
    refine (num_c x y 1152921504606846976 (h.new hg) hy (by omega) hb).mono ?_
    rintro r w' ⟨⟨v1, S1, e1, rfl, h2⟩ | ⟨e1, _⟩, hg⟩
    · rw [hR] at e1
      injection e1 with e1
      injection e1 with e1 e2
      subst e1 e2
      exact ⟨rfl, h2, hg⟩
    · rw [hR] at e1; cases e1
  clear h hb hm hq hR
  go_enter Tryz.func138, Tryz.ntmps138
  go_wp2_with fail
  go_region_with (go_at_call 122; go_must (refine (Calls.mono (HN'.out _ ⟨rfl, rfl, rfl, Nat.le_refl _, fun _ _ _ => rfl⟩) ?_)); rintro r w2 ⟨rfl, h2, hg⟩; obtain ⟨u, hu⟩ := q_some h2 6 (by omega); have cq : w2.cell? ⟨p, 43, none⟩ = some u := (h2.cellQ 6 (by omega)).trans hu; have fq : w2.frozen? ⟨p, 43, none⟩ = false := h2.free 43; have H2 : Hid _ := h2.put 6 (by omega) (.int .i64 v); have H3 : Hid _ := put_gr (p := p) (k := 43) hg (.int .i64 v); clear h2 hg hu)
  all_goals
    go_end0
    exact ⟨rfl, H2.out, (gr_drew _ w).trans H3.out⟩
/-- From where to where. -/
def fEnds (k x y : Int) (q : Array Value) (S : Wy) : Option (Array Value × Wy) :=
  match S.num x 0 116 with
  | none => none
  | some (a, S1) => match S1.num y 0 116 with
    | none => none
    | some (b, S2) => if a ≠ b ∧ has (wyK k) (wayB a b) = true then some ((q.setIfInBounds 1 (.int .i64 a)).setIfInBounds 2 (.int .i64 b), S2) else none
theorem ends_c {w p m q S A} (k x y : Int) (hm1 : m[1]? = some (.int .i64 x)) (hm2 : m[2]? = some (.int .i64 y)) (hq : q[0]? = some (.int .i64 k)) (h : St w p m q S A) (hb : S.room 20) (HK : Knd w) (HM : Max w) :
    Calls Tryz.prog 89 #[.pointer (some ⟨p, 0, none⟩)] w fun r w' => StepTo w p m q S A (fEnds k x y q S) r w' := by
  have c := (h.cellM 1 (by omega)).trans hm1
  have hb10 : S.room 10 := by have h1 : S.xs.length + 20 ≤ 140737488355328 := hb; show S.xs.length + 10 ≤ 140737488355328; omega
  have HN : Hid _ := num_c x 0 116 h (by omega) (by omega) hb10
  have H0 : Hid (St w p m q S A) := h
  have HC : Hid (m[2]? = some (.int .i64 y) ∧ q[0]? = some (.int .i64 k) ∧ Knd w ∧ Max w ∧ S.room 20) := ⟨hm2, hq, HK, HM, hb⟩
  clear h hb hb10 hm1 hm2 hq HK HM
  go_enter Tryz.func89, Tryz.ntmps89
  go_wp2_with fail
  refine Calls.mono HN.out ?_
  rintro r w2 ⟨⟨a, S1, e1, rfl, h2⟩ | ⟨e1, rfl⟩, hg⟩
  · obtain ⟨u, hu⟩ := q_some h2 1 (by omega)
    have cq : w2.cell? ⟨p, 38, none⟩ = some u := (h2.cellQ 1 (by omega)).trans hu
    have fq : w2.frozen? ⟨p, 38, none⟩ = false := h2.free 38
    have h3 := h2.put 1 (by omega) (.int .i64 a)
    have H2 : Hid _ := h3
    have HG : Hid (Gr (fun j => j = p ∨ S.blk j) w (w2.setCell ⟨p, 38, none⟩ (.int .i64 a))) := put_gr (p := p) (k := 38) hg (.int .i64 a)
    have c2 : (w2.setCell ⟨p, 38, none⟩ (.int .i64 a)).cell? ⟨p, 2, none⟩ = some (.int .i64 y) := (h3.cellM 2 (by omega)).trans HC.out.1
    have HE : Hid (S.num x 0 116 = some (a, S1)) := e1
    have HB : Hid (S1.blk = S.blk) := blk_same (num_same e1)
    have HR : S1.room 10 := num_room (by omega) (by omega) e1 HC.out.2.2.2.2
    have HN2 : Hid _ := num_c y 0 116 h3 (by omega) (by omega) HR
    have HKM : Hid (Knd (w2.setCell ⟨p, 38, none⟩ (.int .i64 a)) ∧ Max (w2.setCell ⟨p, 38, none⟩ (.int .i64 a))) := ⟨HC.out.2.2.1.st H0.out HG.out, HC.out.2.2.2.1.st H0.out HG.out⟩
    clear h2 hg e1 hu h3 HR HN
    go_wp2_with fail
    refine Calls.mono HN2.out ?_
    rintro r w3 ⟨⟨b, S2, e2, rfl, h4⟩ | ⟨e2, rfl⟩, hg⟩
    · obtain ⟨u2, hu2⟩ := q_some h4 2 (by omega)
      have cq2 : w3.cell? ⟨p, 39, none⟩ = some u2 := (h4.cellQ 2 (by omega)).trans hu2
      have fq2 : w3.frozen? ⟨p, 39, none⟩ = false := h4.free 39
      have h5 := h4.put 2 (by omega) (.int .i64 b)
      have HG2 : Hid (Gr (fun j => j = p ∨ S1.blk j) (w2.setCell ⟨p, 38, none⟩ (.int .i64 a)) (w3.setCell ⟨p, 39, none⟩ (.int .i64 b))) := put_gr (p := p) (k := 39) hg (.int .i64 b)
      have HE2 : Hid (S1.num y 0 116 = some (b, S2)) := e2
      have q37 := H0.out.q37
      have d0 : (w3.setCell ⟨p, 39, none⟩ (.int .i64 b)).cell? ⟨p, 37, none⟩ = some (.int .i64 k) := (h5.cellQ 0 (by omega)).trans (by simp [HC.out.2.1])
      have d1 : (w3.setCell ⟨p, 39, none⟩ (.int .i64 b)).cell? ⟨p, 38, none⟩ = some (.int .i64 a) := (h5.cellQ 1 (by omega)).trans (by simp [q37])
      have d2 : (w3.setCell ⟨p, 39, none⟩ (.int .i64 b)).cell? ⟨p, 39, none⟩ = some (.int .i64 b) := (h5.cellQ 2 (by omega)).trans (by simp [q37])
      have H5 : Hid (St (w3.setCell ⟨p, 39, none⟩ (.int .i64 b)) p m ((q.setIfInBounds 1 (.int .i64 a)).setIfInBounds 2 (.int .i64 b)) S2 A) := h5
      have HKM2 : Hid (Knd (w3.setCell ⟨p, 39, none⟩ (.int .i64 b)) ∧ Max (w3.setCell ⟨p, 39, none⟩ (.int .i64 b))) := ⟨HKM.out.1.st H2.out HG2.out, HKM.out.2.st H2.out HG2.out⟩
      have HGG : Hid (Gr (fun j => j = p ∨ S.blk j) w (w3.setCell ⟨p, 39, none⟩ (.int .i64 b))) := HG.out.trans (by rw [← HB.out]; exact HG2.out)
      clear h4 hg e2 hu2 h5 q37 HN2
      go_wp2_with fail
      generalize w3.setCell ⟨p, 39, none⟩ (.int .i64 b) = w4 at *
      go_quiet (fail)
      have hgd : w4.grownBy (w4.drewN nq) none := gb_drewN ⟨rfl, rfl, rfl, Nat.le_refl _, fun _ _ _ => rfl⟩ nq
      have H6 : Hid (St (w4.drewN nq) p m ((q.setIfInBounds 1 (.int .i64 a)).setIfInBounds 2 (.int .i64 b)) S2 A ∧ Knd (w4.drewN nq) ∧ Max (w4.drewN nq) ∧ Gr (fun j => j = p ∨ S.blk j) w (w4.drewN nq)) := ⟨H5.out.new hgd, HKM2.out.1.gb hgd, HKM2.out.2.gb hgd, HGG.out.trans (gr_drewN _ w4 nq)⟩
      have c37 : (w4.drewN nq).cell? ⟨p, 37, none⟩ = some (.int .i64 k) := d0
      clear d0 d1 d2 hgd H5 HKM2 HGG H2 HG HKM c2 c
      generalize w4.drewN nq = w5 at *
      by_cases hab : a = b
      · subst hab
        have HX : Hid _ := emust_no w5
        go_wp2_with (go_at_call 42; go_must (refine (Calls.mono HX.out ?_)); rintro r wq ⟨rfl, hq⟩; obtain rfl := hq.symm; clear hq)
        exact ⟨rfl, .inr ⟨by unfold fEnds; rw [HE.out]; simp only []; rw [HE2.out]; simp, rfl⟩, H6.out.2.2.2⟩
      · have hab' : (a != b) = true := by simpa using hab
        have HAB : Hid (a ≠ b) := hab
        clear hab
        have HWy : Hid _ := ways_c k w5 H6.out.2.1
        have HWb : Hid _ := way_c a b w5
        have HCo : Hid (∀ W, w5.grownBy W none → _) := fun W hg => contains_c (wyK k) (wayB a b) W (wyK_small k) (H6.out.2.2.1.gb hg)
        have HMo : Hid _ := fun W => emust_so W
        have HMn : Hid _ := fun W => emust_no W
        cases hh : has (wyK k) (wayB a b) with
        | true =>
          go_wp2_with fail
          refine Calls.mono HWy.out ?_
          rintro r wq ⟨rfl, hq⟩; obtain rfl := hq.symm; clear hq
          go_wp2_with fail
          refine Calls.mono HWb.out ?_
          rintro r w6 ⟨rfl, h6⟩
          go_wp2_with fail
          refine Calls.mono (HCo.out _ h6) ?_
          rintro r wq ⟨rfl, hq⟩; obtain rfl := hq.symm; clear hq
          rw [hh]
          go_wp2_with fail
          refine Calls.mono (HMo.out _) ?_
          rintro r wq ⟨rfl, hq⟩; obtain rfl := hq.symm; clear hq
          go_wp2
          go_end0
          exact ⟨.inl ⟨_, _, by unfold fEnds; rw [HE.out]; simp only []; rw [HE2.out]; simp only []; rw [if_pos ⟨HAB.out, hh⟩], rfl, H6.out.1.new h6⟩, H6.out.2.2.2.trans (Gr.of h6 (by simp))⟩
        | false =>
          go_wp2_with fail
          refine Calls.mono HWy.out ?_
          rintro r wq ⟨rfl, hq⟩; obtain rfl := hq.symm; clear hq
          go_wp2_with fail
          refine Calls.mono HWb.out ?_
          rintro r w6 ⟨rfl, h6⟩
          go_wp2_with fail
          refine Calls.mono (HCo.out _ h6) ?_
          rintro r wq ⟨rfl, hq⟩; obtain rfl := hq.symm; clear hq
          rw [hh]
          go_wp2_with fail
          refine Calls.mono (HMn.out _) ?_
          rintro r wq ⟨rfl, hq⟩; obtain rfl := hq.symm; clear hq
          exact ⟨rfl, .inr ⟨by unfold fEnds; rw [HE.out]; simp only []; rw [HE2.out]; simp only []; rw [if_neg (fun z => by rw [hh] at z; exact absurd z.2 (by decide))], rfl⟩, H6.out.2.2.2.trans (Gr.of h6 (by simp))⟩
    · exact ⟨rfl, .inr ⟨by unfold fEnds; rw [HE.out]; simp only []; rw [e2], rfl⟩, HG.out.trans (by rw [← HB.out]; exact blk_wide hg)⟩
  · exact ⟨rfl, .inr ⟨by unfold fEnds; rw [e1], rfl⟩, blk_wide hg⟩
end Go.Proofs.YtokkhhekmebakaaGreatDoor
