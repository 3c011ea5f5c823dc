/-
  What span's lay answers with the closure of Meet: the texts that are wanted, in normal form, in memory of its own. Condition: both lists together have at most 2^40 ranges.
-/
import Derived.Test.YtdjcokepeifojaaNLq
namespace Go.Proofs.Ytdjcokepeifojaa
set_option linter.unusedVariables false
open Go.RowKit

def fwM (x y : Bool) : Bool := x && y
theorem cloM_c (x y : Bool) (w : World) : Calls Try.prog 23 #[.bool x, .bool y] w fun e w' => e = .returned (.bool (fwM x y)) ∧ w' = w := by
  cases x <;> cases y <;>
  · go_enter Try.func23, Try.ntmps23
    go_wp2
    go_ret
    exact ⟨rfl, rfl⟩
/-- How it stands in memory: the ranges so far, the counts. -/
def LMM (W1 wr : World) (v : Value) (out : List Rg) (x y : Int) : Prop :=
  wr.ownsRow (W1.heap.size + 1) 39 2 v out.length (flR out) ∧ Bk 65 wr W1.heap.size #[.int .i64 x, .int .i64 y] ∧ W1.grownBy wr none
theorem lm_appM {W1 wr w6 : World} {v : Value} {out : List Rg} {x y : Int} {r : Rg} {g cap : Nat} (h : LMM W1 wr v out x y) (ho : w6.ownsRow (W1.heap.size + 1) 39 2 (.slice (some ⟨g, 0, none⟩) (out.length + 1) cap) (out.length + 1) (flR out ++ (rC r).toArray.toList)) (hb : Below (W1.heap.size + 1) wr w6) : LMM W1 w6 (.slice (some ⟨g, 0, none⟩) (out.length + 1) cap) (out ++ [r]) x y := by
  refine ⟨?_, h.2.1.below hb (Nat.lt_succ_self _), below_gb ((gb_below h.2.2).trans (hb.mono (Nat.le_succ _)))⟩
  have e : (out ++ [r]).length = out.length + 1 := by simp
  rw [e, flR_snoc]; exact ho
set_option maxRecDepth 20000 in
set_option maxHeartbeats 2000000 in
theorem layM_c (A B : List Rg) (a b : Option Addr) (ca cb : Nat) (w : World) (hA : Cells w a (flR A)) (hB : Cells w b (flR B)) (hn : A.length + B.length ≤ 1099511627776) :
    Calls Try.prog 21 #[.slice a A.length ca, .slice b B.length cb, .func (.func 23) #[] #[]] w fun e w' => ∃ v R, e = .returned v ∧ w'.ownsRow w.heap.size 39 2 v R.length (flR R) ∧ Nrm R ∧ (∀ t, lHas R t = fwM (lHas A t) (lHas B t)) ∧ R.length ≤ 2 * (A.length + B.length) + 1 ∧ w.grownBy w' none := by
  have HRI : Hid _ := rising_c A B a b ca cb w hA hB hn
  obtain ⟨na, hna⟩ : ∃ na, na = A.length := ⟨_, rfl⟩
  obtain ⟨nb, hnb⟩ : ∃ nb, nb = B.length := ⟨_, rfl⟩
  rw [← hna, ← hnb] at HRI hn ⊢
  clear hA hB hna hnb
  go_enter Try.func21, Try.ntmps21
  go_wp2_with (first
    | (go_at_call 32; go_must (refine (Calls.mono HRI.out ?_)); rintro e W1 ⟨g, cap, E, rfl, hp, hs, hc, hl, hgb⟩; have H1 : Hid ((edsL 0 A ++ edsL 1 B).Perm E ∧ Srt E ∧ Cells W1 (some ⟨g, 0, none⟩) (flE E) ∧ w.grownBy W1 none) := ⟨hp, hs, hc, hgb⟩; clear hp hs hc hgb; obtain ⟨n, hnE⟩ : ∃ n, n = E.length := ⟨_, rfl⟩; rw [← hnE] at hl ⊢; have HNE : Hid (n = E.length) := hnE; clear hnE))
  have H2 : Hid (LMM W1 (W1.alloc (.cells #[.int .i64 0, .int .i64 0] 65)) (.slice none 0 0) [] 0 0) := ⟨own_none _ _ _ _, heap_new W1 _, gb_alloc _ _⟩
  generalize hW2 : W1.alloc _ = W2 at *
  clear hW2 HRI
  go_loopw [8, 10, 11, 20] (fun v p c i wr => ∃ k : Nat, k ≤ n ∧ i = .int .i64 k ∧ p = .bool (lw fwM E k).2.2.2.1 ∧ c = .string (lw fwM E k).2.2.2.2 ∧ Hid (LMM W1 wr v (lw fwM E k).1 (lw fwM E k).2.1 (lw fwM E k).2.2.1)) (fun _ _ _ i _ => n - (intOf i).toNat)
  case atStart => exact ⟨0, Nat.zero_le _, rfl, rfl, rfl, H2⟩
  case round =>
    obtain ⟨k, hk, rfl, rfl, rfl, hr⟩ := hrel
    clear H2
    by_cases hlt : k < n
    · have HST : Hid (lw fwM E (k + 1) = lstep fwM (lw fwM E k) (E.getD k ed0) (sameN E k)) := rfl
      have hbd := lw_bd fwM E (fun e he => eds_step A B e (H1.out.1.mem_iff.2 he)) k (by have := HNE.out; omega)
      have hlen := lw_len fwM E k
      obtain ⟨hc0, hc1, hc2⟩ := cells_ed (H1.out.2.2.1.gb hr.out.2.2) k (by have := HNE.out; omega)
      have hmem : E.getD k ed0 ∈ E := by
        have hk' : k < E.length := by have := HNE.out; omega
        have : E.getD k ed0 = E[k] := by simp [hk']
        rw [this]; exact List.getElem_mem _
      have h01 := eds_01 A B _ (H1.out.1.mem_iff.2 hmem)
      have hst := eds_step A B _ (H1.out.1.mem_iff.2 hmem)
      have HQ : Hid ((E.getD k ed0).1 = (E.getD k ed0).1) := rfl
      obtain ⟨e, he⟩ : ∃ e, e = E.getD k ed0 := ⟨_, rfl⟩
      have HE : Hid (e = E.getD k ed0) := he
      rw [← he] at HST hc0 hc1 hc2 h01 hst
      obtain ⟨s, hs⟩ : ∃ s, s = lw fwM E k := ⟨_, rfl⟩
      rw [← hs] at HST hbd hlen hr ⊢
      clear he hs hmem HQ
      obtain ⟨q, l, st⟩ := e
      obtain ⟨out, x, y, inn, frm⟩ := s
      simp only at hc0 hc1 hc2 h01 hst hbd hlen hr ⊢
      have i1 : (0 : Int) ≤ (k : Int) := by omega
      have i2 : (k : Int) < (n : Int) := by omega
      rcases h01 with rfl | rfl
      · rw [lstep_0] at HST
        have hop : wr.cell? ⟨W1.heap.size, 0, none⟩ = some (.int .i64 x) := hr.out.2.1.cell 0
        have hofr : wr.frozen? ⟨W1.heap.size, 0, none⟩ = false := frozen_of_row _ _ 0 _ _ hr.out.2.1
        have w1 : IntKind.i64.wrap (x + st) = x + st := IntWalk.i64_in _ ⟨by omega, by omega⟩
        have hNop : W1.heap.size < wr.heap.size := lt_of_block hr.out.2.1
        go_wp2
        generalize hW3 : World.alloc wr _ = W3
        have H3 : Hid (Bk 67 W3 wr.heap.size #[.string q, .int .i64 0, .int .i64 st] ∧ LMM W1 W3 u8 out x y) := by rw [← hW3]; exact ⟨heap_new wr _, own_gb hr.out.1 (gb_alloc _ _), hr.out.2.1.grew (gb_alloc _ _) (by simp), gb_trans hr.out.2.2 (gb_alloc _ _)⟩
        clear hW3 hop hofr hc0 hc1 hc2
        have d1 : W3.cell? ⟨wr.heap.size, 1, none⟩ = some (.int .i64 0) := H3.out.1.cell 1
        have d2 : W3.cell? ⟨wr.heap.size, 2, none⟩ = some (.int .i64 st) := H3.out.1.cell 2
        have hop : W3.cell? ⟨W1.heap.size, 0, none⟩ = some (.int .i64 x) := H3.out.2.2.1.cell 0
        have hofr : W3.frozen? ⟨W1.heap.size, 0, none⟩ = false := frozen_of_row _ _ 0 _ _ H3.out.2.2.1
        refine wp_eqA (by go_region; all_goals exact eqA_intro _ _) ?_
        generalize hW4 : (W3.setCell ⟨W1.heap.size, 0, none⟩ (.int .i64 (x + st))).drew = W4
        have HL4 : Hid (LMM W1 W4 u8 out (x + st) (y)) := by
          rw [← hW4]
          refine ⟨own_gb (own_far H3.out.2.1 (gb_set _ _ _ _) (Nat.lt_succ_self _)) (gb_drew1 _), ?_, gb_trans (gb_newer H3.out.2.2.2 (gb_set _ _ _ _) (Nat.le_refl _)) (gb_drew1 _)⟩
          exact H3.out.2.2.1.set 0 (.int .i64 (x + st))
        have d0' : W4.cell? ⟨wr.heap.size, 0, none⟩ = some (.string q) := by
          rw [← hW4]; show (W3.setCell _ _).cell? _ = _; rw [World.cell?_setCell_far _ _ _ _ (by show W1.heap.size ≠ wr.heap.size; omega)]; exact H3.out.1.cell 0
        clear hW4 d1 d2 hop hofr H3
        by_cases hk1 : k + 1 < n
        · obtain ⟨hc3, -, -⟩ := cells_ed (H1.out.2.2.1.gb HL4.out.2.2) (k + 1) (by have := HNE.out; omega)
          have HSY : Hid ((E.getD (k + 1) ed0).1 = q → sameN E k = true) := fun e => same_yes (by have := HNE.out; omega) (by rw [e, ← HE.out])
          have HSN : Hid (¬ (E.getD (k + 1) ed0).1 = q → sameN E k = false) := fun e => same_no (by have := HNE.out; omega) (by rw [← HE.out]; exact e)
          generalize (E.getD (k + 1) ed0).1 = q2 at *
          have n2 : ((k : Int) + 1).toNat = k + 1 := by omega
          have i3 : (k : Int) + 1 < (n : Int) := by omega
          have i4 : (0 : Int) ≤ (k : Int) + 1 := by omega
          have w2 : IntKind.i64.wrap ((k : Int) + 1) = (k : Int) + 1 := IntWalk.i64_in _ ⟨by omega, by omega⟩
          by_cases hq : q2 = q
          · have HS2 : Hid (lw fwM E (k + 1) = (out, x + st, y, inn, frm)) := by show _ = _; rw [HST.out, HSY.out hq, if_pos rfl]
            subst hq
            go_wp2
            go_quiet (fail)
            generalize hW5 : World.drewN W4 _ = W5
            have HL9 : Hid (LMM W1 W5 u8 out (x + st) (y)) := by rw [← hW5]; exact ⟨own_gb HL4.out.1 (gb_drewN (gb_refl _) _), HL4.out.2.1, gb_drewN HL4.out.2.2 _⟩
            clear hW5
            go_wp2
            go_roundw
            case rel => exact ⟨k + 1, by omega, by simp, by rw [HS2.out], by rw [HS2.out], by rw [HS2.out]; exact HL9⟩
            case measure => simp [intOf]; omega
          · have HSA : sameN E k = false := HSN.out hq
            have hqb : (q2.toList == q.toList) = false := by rw [te_iff]; simp [hq]
            have hqc : ¬ q2.toList = q.toList := fun e => hq (toList_inj e)
            go_wp2
            go_quiet (fail)
            generalize hW5 : World.drewN W4 _ = W5
            have HL9 : Hid (LMM W1 W5 u8 out (x + st) (y)) := by rw [← hW5]; exact ⟨own_gb HL4.out.1 (gb_drewN (gb_refl _) _), HL4.out.2.1, gb_drewN HL4.out.2.2 _⟩
            have f0 : W5.cell? ⟨W1.heap.size, 0, none⟩ = some (.int .i64 (x + st)) := HL9.out.2.1.cell 0
            have f1 : W5.cell? ⟨W1.heap.size, 1, none⟩ = some (.int .i64 (y)) := HL9.out.2.1.cell 1
            have f2 : W5.cell? ⟨wr.heap.size, 0, none⟩ = some (.string q) := by rw [← hW5]; exact d0'
            clear hW5
            have HCL : Hid (∀ w, Calls Try.prog 23 #[.bool (decide (0 < x + st)), .bool (decide (0 < y))] w fun e w' => e = .returned (.bool (fwM (decide (0 < x + st)) (decide (0 < y)))) ∧ w' = w) := cloM_c _ _
            cases inn
            · cases hnw : fwM (decide (0 < x + st)) (decide (0 < y))
              · rw [hnw] at HCL
                have HS2 : Hid (lw fwM E (k + 1) = (out, x + st, y, false, frm)) := by show _ = _; rw [HST.out, HSA, hnw]; rfl
                clear hnw
                go_wp2_with (go_at_call 23; go_must (refine (HCL.out _).mono ?_); rintro e w9 ⟨rfl, rfl⟩)
                go_roundw
                case rel => exact ⟨k + 1, by omega, by simp, by rw [HS2.out], by rw [HS2.out], by rw [HS2.out]; exact HL9⟩
                case measure => simp [intOf]; omega
              · rw [hnw] at HCL
                have HS2 : Hid (lw fwM E (k + 1) = (out, x + st, y, true, q)) := by show _ = _; rw [HST.out, HSA, hnw]; rfl
                clear hnw
                go_wp2_with (go_at_call 23; go_must (refine (HCL.out _).mono ?_); rintro e w9 ⟨rfl, rfl⟩)
                go_roundw
                case rel => exact ⟨k + 1, by omega, by simp, by rw [HS2.out], by rw [HS2.out], by rw [HS2.out]; exact HL9⟩
                case measure => simp [intOf]; omega
            · cases hnw : fwM (decide (0 < x + st)) (decide (0 < y))
              · rw [hnw] at HCL
                have HS2 : Hid (lw fwM E (k + 1) = (out ++ [(frm, q)], x + st, y, false, frm)) := by show _ = _; rw [HST.out, HSA, hnw]; rfl
                clear hnw
                go_wp2_with (first
                  | (go_at_call 23; go_must (refine (HCL.out _).mono ?_); rintro e w9 ⟨rfl, rfl⟩)
                  | (at_builtin; go_must (refine wpList_lit rfl _ _ 24 rfl (W1.heap.size + 1) 39 _ 2 32 Try.underlying24 infoRange rfl (by decide) w9 (rC (frm, q)).toArray rfl _ out.length (flR out) rfl HL9.out.1 rfl rfl (range_one _) (by unfold maxLen; omega) (by omega) (lt_of_block HL9.out.2.1) ?_); intro g6 cap6 w6 ho6 hb6 hg6 _ _; have H6 : Hid (LMM W1 w6 (.slice (some ⟨g6, 0, none⟩) (out.length + 1) cap6) (out ++ [(frm, q)]) (x + st) (y)) := lm_appM HL9.out ho6 hb6; clear ho6 hb6 hg6))
                go_roundw
                case rel => exact ⟨k + 1, by omega, by simp, by rw [HS2.out], by rw [HS2.out], by rw [HS2.out]; exact H6⟩
                case measure => simp [intOf]; omega
              · rw [hnw] at HCL
                have HS2 : Hid (lw fwM E (k + 1) = (out, x + st, y, true, frm)) := by show _ = _; rw [HST.out, HSA, hnw]; rfl
                clear hnw
                go_wp2_with (go_at_call 23; go_must (refine (HCL.out _).mono ?_); rintro e w9 ⟨rfl, rfl⟩)
                go_roundw
                case rel => exact ⟨k + 1, by omega, by simp, by rw [HS2.out], by rw [HS2.out], by rw [HS2.out]; exact HL9⟩
                case measure => simp [intOf]; omega
        · have HSA : sameN E k = false := same_end (by have := HNE.out; omega)
          have i3 : decide ((k : Int) + 1 < (n : Int)) = false := decide_eq_false (by omega)
          have w2 : IntKind.i64.wrap ((k : Int) + 1) = (k : Int) + 1 := IntWalk.i64_in _ ⟨by omega, by omega⟩
          go_wp2
          go_quiet (fail)
          generalize hW5 : World.drewN W4 _ = W5
          have HL9 : Hid (LMM W1 W5 u8 out (x + st) (y)) := by rw [← hW5]; exact ⟨own_gb HL4.out.1 (gb_drewN (gb_refl _) _), HL4.out.2.1, gb_drewN HL4.out.2.2 _⟩
          have f0 : W5.cell? ⟨W1.heap.size, 0, none⟩ = some (.int .i64 (x + st)) := HL9.out.2.1.cell 0
          have f1 : W5.cell? ⟨W1.heap.size, 1, none⟩ = some (.int .i64 (y)) := HL9.out.2.1.cell 1
          have f2 : W5.cell? ⟨wr.heap.size, 0, none⟩ = some (.string q) := by rw [← hW5]; exact d0'
          clear hW5
          have HCL : Hid (∀ w, Calls Try.prog 23 #[.bool (decide (0 < x + st)), .bool (decide (0 < y))] w fun e w' => e = .returned (.bool (fwM (decide (0 < x + st)) (decide (0 < y)))) ∧ w' = w) := cloM_c _ _
          cases inn
          · cases hnw : fwM (decide (0 < x + st)) (decide (0 < y))
            · rw [hnw] at HCL
              have HS2 : Hid (lw fwM E (k + 1) = (out, x + st, y, false, frm)) := by show _ = _; rw [HST.out, HSA, hnw]; rfl
              clear hnw
              go_wp2_with (go_at_call 23; go_must (refine (HCL.out _).mono ?_); rintro e w9 ⟨rfl, rfl⟩)
              go_roundw
              case rel => exact ⟨k + 1, by omega, by simp, by rw [HS2.out], by rw [HS2.out], by rw [HS2.out]; exact HL9⟩
              case measure => simp [intOf]; omega
            · rw [hnw] at HCL
              have HS2 : Hid (lw fwM E (k + 1) = (out, x + st, y, true, q)) := by show _ = _; rw [HST.out, HSA, hnw]; rfl
              clear hnw
              go_wp2_with (go_at_call 23; go_must (refine (HCL.out _).mono ?_); rintro e w9 ⟨rfl, rfl⟩)
              go_roundw
              case rel => exact ⟨k + 1, by omega, by simp, by rw [HS2.out], by rw [HS2.out], by rw [HS2.out]; exact HL9⟩
              case measure => simp [intOf]; omega
          · cases hnw : fwM (decide (0 < x + st)) (decide (0 < y))
            · rw [hnw] at HCL
              have HS2 : Hid (lw fwM E (k + 1) = (out ++ [(frm, q)], x + st, y, false, frm)) := by show _ = _; rw [HST.out, HSA, hnw]; rfl
              clear hnw
              go_wp2_with (first
                | (go_at_call 23; go_must (refine (HCL.out _).mono ?_); rintro e w9 ⟨rfl, rfl⟩)
                | (at_builtin; go_must (refine wpList_lit rfl _ _ 24 rfl (W1.heap.size + 1) 39 _ 2 32 Try.underlying24 infoRange rfl (by decide) w9 (rC (frm, q)).toArray rfl _ out.length (flR out) rfl HL9.out.1 rfl rfl (range_one _) (by unfold maxLen; omega) (by omega) (lt_of_block HL9.out.2.1) ?_); intro g6 cap6 w6 ho6 hb6 hg6 _ _; have H6 : Hid (LMM W1 w6 (.slice (some ⟨g6, 0, none⟩) (out.length + 1) cap6) (out ++ [(frm, q)]) (x + st) (y)) := lm_appM HL9.out ho6 hb6; clear ho6 hb6 hg6))
              go_roundw
              case rel => exact ⟨k + 1, by omega, by simp, by rw [HS2.out], by rw [HS2.out], by rw [HS2.out]; exact H6⟩
              case measure => simp [intOf]; omega
            · rw [hnw] at HCL
              have HS2 : Hid (lw fwM E (k + 1) = (out, x + st, y, true, frm)) := by show _ = _; rw [HST.out, HSA, hnw]; rfl
              clear hnw
              go_wp2_with (go_at_call 23; go_must (refine (HCL.out _).mono ?_); rintro e w9 ⟨rfl, rfl⟩)
              go_roundw
              case rel => exact ⟨k + 1, by omega, by simp, by rw [HS2.out], by rw [HS2.out], by rw [HS2.out]; exact HL9⟩
              case measure => simp [intOf]; omega
      · rw [lstep_1] at HST
        have hop : wr.cell? ⟨W1.heap.size, 1, none⟩ = some (.int .i64 y) := hr.out.2.1.cell 1
        have hofr : wr.frozen? ⟨W1.heap.size, 1, none⟩ = false := frozen_of_row _ _ 1 _ _ hr.out.2.1
        have w1 : IntKind.i64.wrap (y + st) = y + st := IntWalk.i64_in _ ⟨by omega, by omega⟩
        have hNop : W1.heap.size < wr.heap.size := lt_of_block hr.out.2.1
        go_wp2
        generalize hW3 : World.alloc wr _ = W3
        have H3 : Hid (Bk 67 W3 wr.heap.size #[.string q, .int .i64 1, .int .i64 st] ∧ LMM W1 W3 u8 out x y) := by rw [← hW3]; exact ⟨heap_new wr _, own_gb hr.out.1 (gb_alloc _ _), hr.out.2.1.grew (gb_alloc _ _) (by simp), gb_trans hr.out.2.2 (gb_alloc _ _)⟩
        clear hW3 hop hofr hc0 hc1 hc2
        have d1 : W3.cell? ⟨wr.heap.size, 1, none⟩ = some (.int .i64 1) := H3.out.1.cell 1
        have d2 : W3.cell? ⟨wr.heap.size, 2, none⟩ = some (.int .i64 st) := H3.out.1.cell 2
        have hop : W3.cell? ⟨W1.heap.size, 1, none⟩ = some (.int .i64 y) := H3.out.2.2.1.cell 1
        have hofr : W3.frozen? ⟨W1.heap.size, 1, none⟩ = false := frozen_of_row _ _ 1 _ _ H3.out.2.2.1
        refine wp_eqA (by go_region; all_goals exact eqA_intro _ _) ?_
        generalize hW4 : (W3.setCell ⟨W1.heap.size, 1, none⟩ (.int .i64 (y + st))).drew = W4
        have HL4 : Hid (LMM W1 W4 u8 out (x) (y + st)) := by
          rw [← hW4]
          refine ⟨own_gb (own_far H3.out.2.1 (gb_set _ _ _ _) (Nat.lt_succ_self _)) (gb_drew1 _), ?_, gb_trans (gb_newer H3.out.2.2.2 (gb_set _ _ _ _) (Nat.le_refl _)) (gb_drew1 _)⟩
          exact H3.out.2.2.1.set 1 (.int .i64 (y + st))
        have d0' : W4.cell? ⟨wr.heap.size, 0, none⟩ = some (.string q) := by
          rw [← hW4]; show (W3.setCell _ _).cell? _ = _; rw [World.cell?_setCell_far _ _ _ _ (by show W1.heap.size ≠ wr.heap.size; omega)]; exact H3.out.1.cell 0
        clear hW4 d1 d2 hop hofr H3
        by_cases hk1 : k + 1 < n
        · obtain ⟨hc3, -, -⟩ := cells_ed (H1.out.2.2.1.gb HL4.out.2.2) (k + 1) (by have := HNE.out; omega)
          have HSY : Hid ((E.getD (k + 1) ed0).1 = q → sameN E k = true) := fun e => same_yes (by have := HNE.out; omega) (by rw [e, ← HE.out])
          have HSN : Hid (¬ (E.getD (k + 1) ed0).1 = q → sameN E k = false) := fun e => same_no (by have := HNE.out; omega) (by rw [← HE.out]; exact e)
          generalize (E.getD (k + 1) ed0).1 = q2 at *
          have n2 : ((k : Int) + 1).toNat = k + 1 := by omega
          have i3 : (k : Int) + 1 < (n : Int) := by omega
          have i4 : (0 : Int) ≤ (k : Int) + 1 := by omega
          have w2 : IntKind.i64.wrap ((k : Int) + 1) = (k : Int) + 1 := IntWalk.i64_in _ ⟨by omega, by omega⟩
          by_cases hq : q2 = q
          · have HS2 : Hid (lw fwM E (k + 1) = (out, x, y + st, inn, frm)) := by show _ = _; rw [HST.out, HSY.out hq, if_pos rfl]
            subst hq
            go_wp2
            go_quiet (fail)
            generalize hW5 : World.drewN W4 _ = W5
            have HL9 : Hid (LMM W1 W5 u8 out (x) (y + st)) := by rw [← hW5]; exact ⟨own_gb HL4.out.1 (gb_drewN (gb_refl _) _), HL4.out.2.1, gb_drewN HL4.out.2.2 _⟩
            clear hW5
            go_wp2
            go_roundw
            case rel => exact ⟨k + 1, by omega, by simp, by rw [HS2.out], by rw [HS2.out], by rw [HS2.out]; exact HL9⟩
            case measure => simp [intOf]; omega
          · have HSA : sameN E k = false := HSN.out hq
            have hqb : (q2.toList == q.toList) = false := by rw [te_iff]; simp [hq]
            have hqc : ¬ q2.toList = q.toList := fun e => hq (toList_inj e)
            go_wp2
            go_quiet (fail)
            generalize hW5 : World.drewN W4 _ = W5
            have HL9 : Hid (LMM W1 W5 u8 out (x) (y + st)) := by rw [← hW5]; exact ⟨own_gb HL4.out.1 (gb_drewN (gb_refl _) _), HL4.out.2.1, gb_drewN HL4.out.2.2 _⟩
            have f0 : W5.cell? ⟨W1.heap.size, 0, none⟩ = some (.int .i64 (x)) := HL9.out.2.1.cell 0
            have f1 : W5.cell? ⟨W1.heap.size, 1, none⟩ = some (.int .i64 (y + st)) := HL9.out.2.1.cell 1
            have f2 : W5.cell? ⟨wr.heap.size, 0, none⟩ = some (.string q) := by rw [← hW5]; exact d0'
            clear hW5
            have HCL : Hid (∀ w, Calls Try.prog 23 #[.bool (decide (0 < x)), .bool (decide (0 < y + st))] w fun e w' => e = .returned (.bool (fwM (decide (0 < x)) (decide (0 < y + st)))) ∧ w' = w) := cloM_c _ _
            cases inn
            · cases hnw : fwM (decide (0 < x)) (decide (0 < y + st))
              · rw [hnw] at HCL
                have HS2 : Hid (lw fwM E (k + 1) = (out, x, y + st, false, frm)) := by show _ = _; rw [HST.out, HSA, hnw]; rfl
                clear hnw
                go_wp2_with (go_at_call 23; go_must (refine (HCL.out _).mono ?_); rintro e w9 ⟨rfl, rfl⟩)
                go_roundw
                case rel => exact ⟨k + 1, by omega, by simp, by rw [HS2.out], by rw [HS2.out], by rw [HS2.out]; exact HL9⟩
                case measure => simp [intOf]; omega
              · rw [hnw] at HCL
                have HS2 : Hid (lw fwM E (k + 1) = (out, x, y + st, true, q)) := by show _ = _; rw [HST.out, HSA, hnw]; rfl
                clear hnw
                go_wp2_with (go_at_call 23; go_must (refine (HCL.out _).mono ?_); rintro e w9 ⟨rfl, rfl⟩)
                go_roundw
                case rel => exact ⟨k + 1, by omega, by simp, by rw [HS2.out], by rw [HS2.out], by rw [HS2.out]; exact HL9⟩
                case measure => simp [intOf]; omega
            · cases hnw : fwM (decide (0 < x)) (decide (0 < y + st))
              · rw [hnw] at HCL
                have HS2 : Hid (lw fwM E (k + 1) = (out ++ [(frm, q)], x, y + st, false, frm)) := by show _ = _; rw [HST.out, HSA, hnw]; rfl
                clear hnw
                go_wp2_with (first
                  | (go_at_call 23; go_must (refine (HCL.out _).mono ?_); rintro e w9 ⟨rfl, rfl⟩)
                  | (at_builtin; go_must (refine wpList_lit rfl _ _ 24 rfl (W1.heap.size + 1) 39 _ 2 32 Try.underlying24 infoRange rfl (by decide) w9 (rC (frm, q)).toArray rfl _ out.length (flR out) rfl HL9.out.1 rfl rfl (range_one _) (by unfold maxLen; omega) (by omega) (lt_of_block HL9.out.2.1) ?_); intro g6 cap6 w6 ho6 hb6 hg6 _ _; have H6 : Hid (LMM W1 w6 (.slice (some ⟨g6, 0, none⟩) (out.length + 1) cap6) (out ++ [(frm, q)]) (x) (y + st)) := lm_appM HL9.out ho6 hb6; clear ho6 hb6 hg6))
                go_roundw
                case rel => exact ⟨k + 1, by omega, by simp, by rw [HS2.out], by rw [HS2.out], by rw [HS2.out]; exact H6⟩
                case measure => simp [intOf]; omega
              · rw [hnw] at HCL
                have HS2 : Hid (lw fwM E (k + 1) = (out, x, y + st, true, frm)) := by show _ = _; rw [HST.out, HSA, hnw]; rfl
                clear hnw
                go_wp2_with (go_at_call 23; go_must (refine (HCL.out _).mono ?_); rintro e w9 ⟨rfl, rfl⟩)
                go_roundw
                case rel => exact ⟨k + 1, by omega, by simp, by rw [HS2.out], by rw [HS2.out], by rw [HS2.out]; exact HL9⟩
                case measure => simp [intOf]; omega
        · have HSA : sameN E k = false := same_end (by have := HNE.out; omega)
          have i3 : decide ((k : Int) + 1 < (n : Int)) = false := decide_eq_false (by omega)
          have w2 : IntKind.i64.wrap ((k : Int) + 1) = (k : Int) + 1 := IntWalk.i64_in _ ⟨by omega, by omega⟩
          go_wp2
          go_quiet (fail)
          generalize hW5 : World.drewN W4 _ = W5
          have HL9 : Hid (LMM W1 W5 u8 out (x) (y + st)) := by rw [← hW5]; exact ⟨own_gb HL4.out.1 (gb_drewN (gb_refl _) _), HL4.out.2.1, gb_drewN HL4.out.2.2 _⟩
          have f0 : W5.cell? ⟨W1.heap.size, 0, none⟩ = some (.int .i64 (x)) := HL9.out.2.1.cell 0
          have f1 : W5.cell? ⟨W1.heap.size, 1, none⟩ = some (.int .i64 (y + st)) := HL9.out.2.1.cell 1
          have f2 : W5.cell? ⟨wr.heap.size, 0, none⟩ = some (.string q) := by rw [← hW5]; exact d0'
          clear hW5
          have HCL : Hid (∀ w, Calls Try.prog 23 #[.bool (decide (0 < x)), .bool (decide (0 < y + st))] w fun e w' => e = .returned (.bool (fwM (decide (0 < x)) (decide (0 < y + st)))) ∧ w' = w) := cloM_c _ _
          cases inn
          · cases hnw : fwM (decide (0 < x)) (decide (0 < y + st))
            · rw [hnw] at HCL
              have HS2 : Hid (lw fwM E (k + 1) = (out, x, y + st, false, frm)) := by show _ = _; rw [HST.out, HSA, hnw]; rfl
              clear hnw
              go_wp2_with (go_at_call 23; go_must (refine (HCL.out _).mono ?_); rintro e w9 ⟨rfl, rfl⟩)
              go_roundw
              case rel => exact ⟨k + 1, by omega, by simp, by rw [HS2.out], by rw [HS2.out], by rw [HS2.out]; exact HL9⟩
              case measure => simp [intOf]; omega
            · rw [hnw] at HCL
              have HS2 : Hid (lw fwM E (k + 1) = (out, x, y + st, true, q)) := by show _ = _; rw [HST.out, HSA, hnw]; rfl
              clear hnw
              go_wp2_with (go_at_call 23; go_must (refine (HCL.out _).mono ?_); rintro e w9 ⟨rfl, rfl⟩)
              go_roundw
              case rel => exact ⟨k + 1, by omega, by simp, by rw [HS2.out], by rw [HS2.out], by rw [HS2.out]; exact HL9⟩
              case measure => simp [intOf]; omega
          · cases hnw : fwM (decide (0 < x)) (decide (0 < y + st))
            · rw [hnw] at HCL
              have HS2 : Hid (lw fwM E (k + 1) = (out ++ [(frm, q)], x, y + st, false, frm)) := by show _ = _; rw [HST.out, HSA, hnw]; rfl
              clear hnw
              go_wp2_with (first
                | (go_at_call 23; go_must (refine (HCL.out _).mono ?_); rintro e w9 ⟨rfl, rfl⟩)
                | (at_builtin; go_must (refine wpList_lit rfl _ _ 24 rfl (W1.heap.size + 1) 39 _ 2 32 Try.underlying24 infoRange rfl (by decide) w9 (rC (frm, q)).toArray rfl _ out.length (flR out) rfl HL9.out.1 rfl rfl (range_one _) (by unfold maxLen; omega) (by omega) (lt_of_block HL9.out.2.1) ?_); intro g6 cap6 w6 ho6 hb6 hg6 _ _; have H6 : Hid (LMM W1 w6 (.slice (some ⟨g6, 0, none⟩) (out.length + 1) cap6) (out ++ [(frm, q)]) (x) (y + st)) := lm_appM HL9.out ho6 hb6; clear ho6 hb6 hg6))
              go_roundw
              case rel => exact ⟨k + 1, by omega, by simp, by rw [HS2.out], by rw [HS2.out], by rw [HS2.out]; exact H6⟩
              case measure => simp [intOf]; omega
            · rw [hnw] at HCL
              have HS2 : Hid (lw fwM E (k + 1) = (out, x, y + st, true, frm)) := by show _ = _; rw [HST.out, HSA, hnw]; rfl
              clear hnw
              go_wp2_with (go_at_call 23; go_must (refine (HCL.out _).mono ?_); rintro e w9 ⟨rfl, rfl⟩)
              go_roundw
              case rel => exact ⟨k + 1, by omega, by simp, by rw [HS2.out], by rw [HS2.out], by rw [HS2.out]; exact HL9⟩
              case measure => simp [intOf]; omega
    · obtain rfl : k = n := by omega
      have HPU : Hid _ := lay_pure fwM rfl A B E H1.out.1 H1.out.2.1
      have hlen := lw_len fwM E k
      rw [← HNE.out] at HPU
      obtain ⟨s, hs⟩ : ∃ s, s = lw fwM E k := ⟨_, rfl⟩
      rw [← hs] at HPU hlen hr ⊢
      clear hs
      obtain ⟨out, x, y, inn, frm⟩ := s
      simp only at hlen hr ⊢
      have HBW : Hid (w.heap.size ≤ W1.heap.size + 1) := Nat.le_succ_of_le H1.out.2.2.2.size
      cases inn
      · have HPU : Hid (Nrm out ∧ ∀ t, lHas out t = fwM (lHas A t) (lHas B t)) := by show _ ∧ _; have := HPU.out; simpa [lfin] using this
        go_wp2
        go_ret
        exact ⟨_, out, rfl, own_base hr.out.1 HBW.out, HPU.out.1, HPU.out.2, by omega, gb_trans H1.out.2.2.2 hr.out.2.2⟩
      · have HPU : Hid (Nrm (out ++ [(frm, .empty)]) ∧ ∀ t, lHas (out ++ [(frm, .empty)]) t = fwM (lHas A t) (lHas B t)) := by show _ ∧ _; have := HPU.out; simpa [lfin] using this
        go_wp2_with (first
          | (at_builtin; go_must (refine wpList_lit rfl _ _ 24 rfl (W1.heap.size + 1) 39 _ 2 32 Try.underlying24 infoRange rfl (by decide) wr (rC (frm, .empty)).toArray rfl _ out.length (flR out) rfl hr.out.1 rfl rfl (range_one _) (by unfold maxLen; omega) (by omega) (lt_of_block hr.out.2.1) ?_); intro g6 cap6 w6 ho6 hb6 hg6 _ _; have H6 : Hid (LMM W1 w6 (.slice (some ⟨g6, 0, none⟩) (out.length + 1) cap6) (out ++ [(frm, .empty)]) x y) := lm_appM hr.out ho6 hb6; clear ho6 hb6 hg6))
        go_ret
        refine ⟨_, out ++ [(frm, .empty)], rfl, own_base H6.out.1 HBW.out, HPU.out.1, HPU.out.2, by rw [List.length_append]; simp; omega, gb_trans H1.out.2.2.2 H6.out.2.2⟩
end Go.Proofs.Ytdjcokepeifojaa
