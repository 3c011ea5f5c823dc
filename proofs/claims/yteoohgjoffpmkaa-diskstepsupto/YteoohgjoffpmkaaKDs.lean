/-
  What disk's settle, Sync, Size and Pending do. Condition: the numbers are below 2^60.
-/
import Derived.Test.YteoohgjoffpmkaaKDg
namespace Go.Proofs.Yteoohgjoffpmkaa
open Go.RowKit
set_option linter.unusedVariables false

/-- What settle leaves. -/
def SetA (w : World) (g s l : Nat) (st : Value) (V : ByteArray → Option Value) (Os Ol Od : Nat → Prop) (D' : Dk) (r : Ending) (w' : World) : Prop :=
  r = .returned (.tuple #[]) ∧ (∃ U' Ol', DkI w' g s l (.slice none 0 0) V U' [] Os Ol' Od D' ∧ (∀ k, Ol' k → Ol k ∨ w.heap.size ≤ k)) ∧ Gr (fun k => k = g ∨ Ol k) w w'
set_option maxRecDepth 20000 in
set_option maxHeartbeats 2000000 in
theorem settle_c {g s l st V U vs Os Ol Od D} (keep : Int) (w : World) (h : DkI w g s l st V U vs Os Ol Od D) (hok : soks D.last D.steps) (hb : bnds D.last D.steps) (hk1 : -9223372036854775808 ≤ keep) (hk2 : keep ≤ 9223372036854775807) (hll : D.steps.length ≤ 1099511627776) :
    Calls Try.prog 56 #[.pointer (some ⟨g, 0, none⟩), .int .i64 keep] w (SetA w g s l st V Os Ol Od { D with last := sfirst D.last D.steps keep.toNat, steps := [] }) := by
  obtain ⟨CS, hCS⟩ : ∃ CS, CS = dcells D.room D.free (some s) (some l) st (scnts D.steps) D.acts D.fail D.down := ⟨_, rfl⟩
  obtain ⟨L, hL⟩ : ∃ L, L = D.steps := ⟨_, rfl⟩
  obtain ⟨F', hF'⟩ : ∃ F', F' = sfirst D.last D.steps keep.toNat := ⟨_, rfl⟩
  obtain ⟨F, hF⟩ : ∃ F, F = D.seen := ⟨_, rfl⟩
  obtain ⟨D', hD'⟩ : ∃ D' : Dk, D' = { D with last := F', steps := [] } := ⟨_, rfl⟩
  rw [← hF', ← hD']
  have hj := h.j
  rw [← hCS, ← hL, ← hF] at hj
  have HJ : Hid (DkJ w g s l CS st V U vs L Os Ol Od F D.last) := hj
  have HDO : Hid (∀ W, w.grownBy W none → Calls Try.prog 58 #[.map (some l), st, .int .i64 keep] W (FdoA Ol W l F')) := by
    show ∀ W, _
    intro W hg
    have j := hj.grew hg
    rw [hF', ← hL]
    exact doFirst_c l st vs L keep W j.last j.row j.stl (fun k hk => ⟨(j.hl k hk).1, (j.hl k hk).2.2.1, (j.hl k hk).2.2.2⟩) (fun k hk => (j.hd k hk).1) (hL ▸ hok) (hL ▸ hb) hk1 hk2 (hL ▸ hll)
  have HE : Hid (∀ x U' Ol', DkJ x g s l ((CS.setIfInBounds 4 (.slice none 0 0)).setIfInBounds 5 (.int .i64 0)) st V U' vs L Os Ol' Od F F' → (∀ k, Ol' k → Ol k ∨ w.heap.size ≤ k) → Gr (fun k => k = g ∨ Ol k) w x → SetA w g s l st V Os Ol Od D' (.returned (.tuple #[])) x) := by
    show ∀ x U' Ol', _
    intro x U' Ol' q1 q2 q4
    refine ⟨rfl, ⟨U', Ol', ?_, q2⟩, q4⟩
    have q5 : DkJ x g s l ((CS.setIfInBounds 4 (.slice none 0 0)).setIfInBounds 5 (.int .i64 0)) (.slice none 0 0) V U' [] [] Os Ol' Od F F' :=
      ⟨q1.bk, q1.seen, q1.last, ⟨rfl, .inl ⟨rfl, rfl⟩⟩, ⟨rfl, fun i v p hv => by simp at hv⟩, fun k hk => ⟨(q1.hs k hk).1, (q1.hs k hk).2.1, (q1.hs k hk).2.2.1, (q1.hs k hk).2.2.2.1, by simp [Value.ownBlock]⟩, fun k hk => ⟨(q1.hl k hk).1, (q1.hl k hk).2.1, (q1.hl k hk).2.2.1, by simp [Value.ownBlock]⟩, fun k hk => ⟨(q1.hd k hk).1, (q1.hd k hk).2.1, by simp [Value.ownBlock]⟩, by simp [Value.ownBlock]⟩
    refine q5.i D' ?_ (by rw [hD']) (by rw [hD']; exact hF) (by rw [hD'])
    rw [hCS, hD']
    rfl
  have HC1 : Hid (CS[3]? = some (.map (some l)) ∧ CS[4]? = some st) := by
    show _ ∧ _
    rw [hCS]
    exact ⟨rfl, rfl⟩
  have HC5 : Hid (∃ pd, CS[5]? = some (.int .i64 pd)) := by
    show ∃ pd, _
    rw [hCS]
    exact ⟨_, rfl⟩
  clear h hok hb hk1 hk2 hll hCS hL hF' hF hD' hj
  go_enter Try.func56, Try.ntmps56
  go_wp2_with fail
  refine wp_region_lastR (fun a b => World.grownBy a b none) (fun _ _ _ h k => gb_trans h k) ⟨rfl, rfl, rfl, Nat.le_refl _, fun _ _ _ => rfl⟩ 9 rfl (by kernel_rfl) [4, 5, 6, 7, 8, 9, 10, 11, 12, 13] [[], [0], [1], [2], [], [4], [5], [6], [], [3, 7, 8]] (by kernel_rfl) (by kernel_rfl) [fun u W => u = .pointer (some ⟨g, 0, none⟩), fun u W => u = .pointer (some ⟨g, 0, none⟩), fun u W => u = .pointer (some ⟨g, 3, none⟩), fun u W => u = .map (some l), fun u W => u = .pointer (some ⟨g, 0, none⟩), fun u W => u = .pointer (some ⟨g, 0, none⟩), fun u W => u = .pointer (some ⟨g, 4, none⟩), fun u W => u = st, fun u W => u = .int .i64 keep] ?stable ?step ?last
  case stable =>
    intro i v W W' h hg
    match i, h with
    | 0, h => exact h
    | 1, h => exact h
    | 2, h => exact h
    | 3, h => exact h
    | 4, h => exact h
    | 5, h => exact h
    | 6, h => exact h
    | 7, h => exact h
    | 8, h => exact h
    | i + 9, h => exact trivial
  case step =>
    intro f W A hA hg i o hin ho hu K hK
    match i, hin, ho, hu, hK with
    | 0, hin, ho, hu, hK =>
      cases ho
      have e0 : A.eval (.tmp 0) = .pointer (some ⟨g, 0, none⟩) := ev_out hA 0 rfl
      exact ph_move _ rfl rfl (.pointer (some ⟨g, 0, none⟩)) e0 (hK _ _ (gb_rr W _) rfl)
    | 1, hin, ho, hu, hK =>
      cases ho
      have e4 : A.eval (.tmp 4) = .pointer (some ⟨g, 0, none⟩) := (ev_in hA 4 0 rfl rfl rfl).trans (show f 0 = .pointer (some ⟨g, 0, none⟩) from hu 0 (by decide))
      exact ph_nil _ rfl rfl _ e4 (hK _ _ (gb_rr W _) rfl)
    | 2, hin, ho, hu, hK =>
      cases ho
      have e5 : A.eval (.tmp 5) = .pointer (some ⟨g, 0, none⟩) := (ev_in hA 5 1 rfl rfl rfl).trans (show f 1 = .pointer (some ⟨g, 0, none⟩) from hu 1 (by decide))
      exact ph_field _ _ _ rfl rfl _ (.pointer (some ⟨g, 3, none⟩)) e5 (by kernel_rfl) (hK _ _ (gb_rr W _) rfl)
    | 3, hin, ho, hu, hK =>
      cases ho
      have e6 : A.eval (.tmp 6) = .pointer (some ⟨g, 3, none⟩) := (ev_in hA 6 2 rfl rfl rfl).trans (show f 2 = .pointer (some ⟨g, 3, none⟩) from hu 2 (by decide))
      have hc : W.cell? ⟨g, 3, none⟩ = some (.map (some l)) := (Bk.cell (HJ.out.grew hg).bk 3).trans HC1.out.1
      refine ph_sem rfl rfl (r := .ok (.value (.map (some l))) W) ?_ (hK _ _ (gb_rr W _) rfl)
      have eC : ∀ c, A.eval (.const c) = c := fun _ => rfl; have eF : ∀ g, A.eval (.func g) = .func (.func g) #[] #[] := fun _ => rfl; generalize A.eval = ρ at *
      clear hA hu hg
      go_simp
    | 4, hin, ho, hu, hK =>
      cases ho
      have e0 : A.eval (.tmp 0) = .pointer (some ⟨g, 0, none⟩) := ev_out hA 0 rfl
      exact ph_move _ rfl rfl (.pointer (some ⟨g, 0, none⟩)) e0 (hK _ _ (gb_rr W _) rfl)
    | 5, hin, ho, hu, hK =>
      cases ho
      have e8 : A.eval (.tmp 8) = .pointer (some ⟨g, 0, none⟩) := (ev_in hA 8 4 rfl rfl rfl).trans (show f 4 = .pointer (some ⟨g, 0, none⟩) from hu 4 (by decide))
      exact ph_nil _ rfl rfl _ e8 (hK _ _ (gb_rr W _) rfl)
    | 6, hin, ho, hu, hK =>
      cases ho
      have e9 : A.eval (.tmp 9) = .pointer (some ⟨g, 0, none⟩) := (ev_in hA 9 5 rfl rfl rfl).trans (show f 5 = .pointer (some ⟨g, 0, none⟩) from hu 5 (by decide))
      exact ph_field _ _ _ rfl rfl _ (.pointer (some ⟨g, 4, none⟩)) e9 (by kernel_rfl) (hK _ _ (gb_rr W _) rfl)
    | 7, hin, ho, hu, hK =>
      cases ho
      have e10 : A.eval (.tmp 10) = .pointer (some ⟨g, 4, none⟩) := (ev_in hA 10 6 rfl rfl rfl).trans (show f 6 = .pointer (some ⟨g, 4, none⟩) from hu 6 (by decide))
      have hc : W.cell? ⟨g, 4, none⟩ = some (st) := (Bk.cell (HJ.out.grew hg).bk 4).trans HC1.out.2
      refine ph_sem rfl rfl (r := .ok (.value (st)) W) ?_ (hK _ _ (gb_rr W _) rfl)
      have eC : ∀ c, A.eval (.const c) = c := fun _ => rfl; have eF : ∀ g, A.eval (.func g) = .func (.func g) #[] #[] := fun _ => rfl; generalize A.eval = ρ at *
      clear hA hu hg
      go_simp
    | 8, hin, ho, hu, hK =>
      cases ho
      have e1 : A.eval (.tmp 1) = .int .i64 keep := ev_out hA 1 rfl
      exact ph_move _ rfl rfl (.int .i64 keep) e1 (hK _ _ (gb_rr W _) rfl)
    | i + 9, hin, ho, hu, hK => omega
  case last =>
    intro f W A hA hg hu o ho K hK
    cases ho
    have e7 : A.eval (.tmp 7) = .map (some l) := (ev_in hA 7 3 rfl rfl rfl).trans (show f 3 = .map (some l) from hu 3 (by decide))
    have e11 : A.eval (.tmp 11) = st := (ev_in hA 11 7 rfl rfl rfl).trans (show f 7 = st from hu 7 (by decide))
    have e12 : A.eval (.tmp 12) = .int .i64 keep := (ev_in hA 12 8 rfl rfl rfl).trans (show f 8 = .int .i64 keep from hu 8 (by decide))
    refine ph_fn 58 _ _ rfl rfl #[.map (some l), st, .int .i64 keep] (by simp [e7, e11, e12]) (by kernel_rfl) ?_
    refine (Calls.mono (HDO.out W hg) ?_)
    rintro rr x1 h9
    obtain ⟨U1, q1⟩ := (HJ.out.grew hg).lastTo h9
    have hrr : rr = .returned (.tuple #[]) := h9.1
    subst hrr
    refine ⟨_, rfl, hK _ _ ?_⟩
    have zW := hg.size
    have J1 : Hid (∃ Ol1 : Nat → Prop, DkJ x1 g s l CS st V U1 vs L Os Ol1 Od F F' ∧ (∀ k, Ol1 k → Ol k ∨ w.heap.size ≤ k) ∧ Gr Ol w x1) := ⟨_, q1, (fun k hk => hk.elim .inl (fun hk => .inr (Nat.le_trans zW hk.1))), (Gr.of hg (by simp)).trans h9.2.2⟩
    clear h9 hg e7 e11 e12 q1 zW
    have hA2 := hA.trans (putAll_lit [(.pointer (some ⟨g, 0, none⟩)), (.pointer (some ⟨g, 0, none⟩)), (.pointer (some ⟨g, 3, none⟩)), (.map (some l)), (.pointer (some ⟨g, 0, none⟩)), (.pointer (some ⟨g, 0, none⟩)), (.pointer (some ⟨g, 4, none⟩)), (st), (.int .i64 keep), (f 9)] (by
      intro j hj
      match j, hj with
      | 0, _ => exact hu 0 (by decide)
      | 1, _ => exact hu 1 (by decide)
      | 2, _ => exact hu 2 (by decide)
      | 3, _ => exact hu 3 (by decide)
      | 4, _ => exact hu 4 (by decide)
      | 5, _ => exact hu 5 (by decide)
      | 6, _ => exact hu 6 (by decide)
      | 7, _ => exact hu 7 (by decide)
      | 8, _ => exact hu 8 (by decide)
      | 9, _ => rfl
      | j + 10, hj => exact absurd hj (by simp)))
    clear hu hA
    subst hA2
    simp only [putAll, putL, List.mem_cons, List.not_mem_nil, List.idxOf_cons, Nat.reduceEqDiff, Nat.reduceBEq, Nat.reduceAdd, or_false, or_true, reduceIte, cond_true, cond_false, List.getD_cons_zero, List.getD_cons_succ, BEq.rfl]
    obtain ⟨Ol1, J1, O1, G1⟩ := J1.out
    replace J1 : Hid _ := J1
    replace O1 : Hid _ := O1
    replace G1 : Hid _ := G1
    have c4 : x1.cell? ⟨g, 4, none⟩ = some st := (Bk.cell J1.out.bk 4).trans HC1.out.2
    have f4 : x1.frozen? ⟨g, 4, none⟩ = false := frozen_of_row x1 g 4 _ _ J1.out.bk
    have J2 := J1.out.set 4 (.slice none 0 0)
    obtain ⟨pd, hpd⟩ := HC5.out
    have c5 : (x1.setCell ⟨g, 4, none⟩ (.slice none 0 0)).cell? ⟨g, 5, none⟩ = some (.int .i64 pd) := (Bk.cell J2.bk 5).trans ((by simp : (CS.setIfInBounds 4 (.slice none 0 0))[5]? = CS[5]?).trans hpd)
    have f5 : (x1.setCell ⟨g, 4, none⟩ (.slice none 0 0)).frozen? ⟨g, 5, none⟩ = false := frozen_of_row _ g 5 _ _ J2.bk
    have HF : Hid (SetA w g s l st V Os Ol Od D' (.returned (.tuple #[])) ((x1.setCell ⟨g, 4, none⟩ (.slice none 0 0)).setCell ⟨g, 5, none⟩ (.int .i64 0))) := HE.out _ _ _ (J2.set 5 (.int .i64 0)) O1.out (((G1.out.wide (fun k _ hk => .inr hk)).set g 4 (.inl rfl) _).set g 5 (.inl rfl) _)
    clear J1 J2 G1 O1 HE HJ HDO HC1 HC5 hpd
    go_wp2
    go_end0
    exact HF.out
theorem alls0_c (w : World) : Calls Try.prog 76 #[.slice none 0 0, .func (.func 36) #[] #[]] w fun r w' => r = .returned (.bool true) ∧ w' = w := by
  go_enter Try.func76, Try.ntmps76
  go_wp2
  refine wp_loop_rounds 1 ?_
  rw [rounds_succ]
  go_wp2
  go_ret
  exact ⟨rfl, rfl⟩
theorem madeA_c (g : Nat) (cs : Array Value) (s : Nat) (w : World) (h : Bk 83 w g cs) (hc : cs[2]? = some (.map (some s))) : Calls Try.prog 53 #[.pointer (some ⟨g, 0, none⟩)] w fun r w' => r = .returned (.bool true) ∧ w' = w := by
  have c2 : w.cell? ⟨g, 2, none⟩ = some (.map (some s)) := (Bk.cell h 2).trans hc
  have hz := neq_map0 (some s)
  clear h hc
  go_enter Try.func53, Try.ntmps53
  go_wp2
  go_ret
  exact ⟨rfl, rfl⟩
theorem ready0_c {g s l st V U vs Os Ol Od D} (w : World) (h : DkI w g s l st V U vs Os Ol Od D) : Calls Try.prog 54 #[.pointer (some ⟨g, 0, none⟩), .slice none 0 0] w fun r w' => r = .returned (.int .i64 (rdE D [])) ∧ w' = w := by
  have HM : Hid _ := madeA_c g _ s w h.bk rfl
  have HL : Hid _ := alls0_c w
  have c8 : w.cell? ⟨g, 8, none⟩ = some (.bool D.down) := Bk.cell h.bk 8
  have HE : Hid (rdE D [] = if D.down then 125 else 0) := by show _ = _; simp [rdE]
  generalize D.down = dn at c8 HE
  clear h
  rw [HE.out]
  clear HE
  cases dn with
  | true =>
    go_enter Try.func54, Try.ntmps54
    go_wp2_with (go_at_call 53; go_must (refine (Calls.mono HM.out ?_)); rintro r wq ⟨rfl, hq⟩; obtain rfl := hq.symm; clear hq)
    go_ret
    exact ⟨rfl, rfl⟩
  | false =>
    go_enter Try.func54, Try.ntmps54
    go_wp2_with (first
      | (go_at_call 53; go_must (refine (Calls.mono HM.out ?_)); rintro r wq ⟨rfl, hq⟩; obtain rfl := hq.symm; clear hq)
      | (go_at_call 76; go_must (refine (Calls.mono HL.out ?_)); rintro r wq ⟨rfl, hq⟩; obtain rfl := hq.symm; clear hq))
    go_ret
    exact ⟨rfl, rfl⟩
/-- What Sync answers, and the disk behind it. -/
def syR (D : Dk) : Int × Dk := if rdE D [] ≠ 0 then (rdE D [], D) else if bgE D 0 ≠ 0 then (bgE D 0, bgD D 0) else (0, { bgD D 0 with last := D.seen, steps := [] })
set_option maxRecDepth 20000 in
set_option maxHeartbeats 2000000 in
theorem syncA_c {G : Nat → Prop} (w : World) (g : Nat) (D : Dk) (h : DkM G w g D) (hd : Dok D) (hm : Dsm D) : Calls Try.prog 18 #[.pointer (some ⟨g, 0, none⟩)] w (ActA G w g (syR D)) := by
  obtain ⟨s, l, st, V, U, vs, Os, Ol, Od, h, hG⟩ := h
  have HR : Hid _ := ready0_c w h
  have HG : Hid (∀ k, (k = g ∨ Os k ∨ Ol k ∨ Od k ∨ st.ownBlock = some k) → G k) := hG
  have HD : Hid (Dok D ∧ Dsm D) := ⟨hd, hm⟩
  have HI : Hid (DkI w g s l st V U vs Os Ol Od D) := h
  have HC : Hid (syR D = if rdE D [] ≠ 0 then (rdE D [], D) else if bgE D 0 ≠ 0 then (bgE D 0, bgD D 0) else (0, { bgD D 0 with last := D.seen, steps := [] })) := rfl
  rw [HC.out]
  clear h hG hd hm HC
  by_cases he : rdE D [] = 0
  · rw [he] at HR
    rw [if_neg (by simpa using he)]
    clear he
    by_cases hb : bgE D 0 = 0
    · rw [if_neg (by simpa using hb)]
      have HEb : Hid (bgE D 0 = 0) := hb
      clear hb
      obtain ⟨pd, hpd⟩ : ∃ pd, pd = scnts D.steps := ⟨_, rfl⟩
      have HS : Hid (∀ x2, Gr G w x2 → DkI x2 g s l st V U vs Os Ol Od (bgD D 0) → x2.cell? ⟨g, 5, none⟩ = some (.int .i64 (pd : Int)) ∧ Calls Try.prog 56 #[.pointer (some ⟨g, 0, none⟩), .int .i64 (pd : Int)] x2 fun r x3 => r = .returned (.tuple #[]) ∧ ActA G w g (0, { bgD D 0 with last := D.seen, steps := [] }) (.returned (.int .i64 0)) x3) := by
        show ∀ x2, _
        intro x2 q1 q2
        obtain ⟨d1, d2⟩ := HD.out
        obtain ⟨e1, e2, e3, e4, e5⟩ := bgD_seen D 0
        obtain ⟨_, _, s3, s4⟩ := d2
        have hz := q1.size
        refine ⟨?_, ?_⟩
        · have z : x2.cell? ⟨g, 5, none⟩ = some (.int .i64 (scnts (bgD D 0).steps : Int)) := Bk.cell q2.bk 5
          rw [e3] at z
          rw [hpd]; exact z
        · refine Calls.mono (settle_c (pd : Int) x2 q2 (by rw [e2, e3]; exact d1.ok) (by rw [e2, e3]; exact d1.bn) (by omega) (by omega) (by rw [e3]; omega)) ?_
          rintro r x3 ⟨rr, ⟨U', Ol', k1, k2⟩, k3⟩
          have el : sfirst (bgD D 0).last (bgD D 0).steps (pd : Int).toNat = D.seen := by
            rw [e2, e3, Int.toNat_natCast, hpd, sfirst_all _ _ _ (Nat.le_refl _) (soks_cnt d1.ok), ← d1.se]
          rw [el] at k1
          refine ⟨rr, rfl, ⟨s, l, _, V, U', [], Os, Ol', Od, k1, fun k hk => ?_⟩, q1.then k3 (fun k hk h2 => ?_), ?_⟩
          · rcases hk with hk | hk | hk | hk | hk
            · exact .inl (HG.out k (.inl hk))
            · exact .inl (HG.out k (.inr (.inl hk)))
            · have z := (k1.hl k hk).1
              rcases k2 k hk with q | q
              · exact .inl (HG.out k (.inr (.inr (.inl q))))
              · exact .inr ⟨by omega, z⟩
            · exact .inl (HG.out k (.inr (.inr (.inr (.inl hk)))))
            · simp [Value.ownBlock] at hk
          · rcases h2 with q | q
            · exact HG.out k (.inl q)
            · exact HG.out k (.inr (.inr (.inl q)))
          · exact ⟨trivial, d1.bnd, e1, by show ∃ n, Tot (bgD D 0).seen n ∧ (bgD D 0).free + n = (bgD D 0).room; rw [e1, e4, e5]; exact d1.tot, by show (bgD D 0).room ≤ _; rw [e5]; exact d1.room, by show ∀ s xs, (bgD D 0).seen s = some xs → _; rw [e1]; exact d1.nm, fun k => by obtain ⟨nn, t1, t2⟩ := d1.tot; exact ⟨nn, by show Tot (sfirst D.seen [] k) nn; exact t1, by show nn ≤ (bgD D 0).room; rw [e5]; omega, by show bnd (sfirst D.seen [] k); exact d1.bnd⟩⟩
      clear hpd
      go_enter Try.func18, Try.ntmps18
      go_wp2_with (first
        | (go_at_call 54; go_must (refine (Calls.mono HR.out ?_)); rintro r wq ⟨rfl, hq⟩; obtain rfl := hq.symm; clear hq)
        | (go_at_call 55; go_must (refine (Calls.mono (beginA_c 0 _ HI.out HD.out.2.1 HD.out.2.2.1) ?_)); rintro r x2 ⟨rfl, k1, k2, k3⟩; rw [HEb.out]; obtain ⟨c5, k4⟩ := HS.out x2 (k2.wide (fun k _ e => HG.out k (.inl e))) k1; have H2 : Hid _ := k4; clear k1 k2 k3 k4)
        | (go_at_call 56; go_must (refine (Calls.mono H2.out ?_)); rintro r x3 ⟨rfl, k1⟩; have H3 : Hid (ActA G w g (0, { bgD D 0 with last := D.seen, steps := [] }) (.returned (.int .i64 0)) x3) := k1; clear k1))
      go_ret
      exact H3.out
    · rw [if_pos hb]
      obtain ⟨E, hE⟩ : ∃ E, E = bgE D 0 := ⟨_, rfl⟩
      have hEb : (E == 0) = false := by rw [hE]; simpa using hb
      have HEb : Hid (bgE D 0 = E) := hE.symm
      rw [← hE]
      clear hE hb
      go_enter Try.func18, Try.ntmps18
      go_wp2_with (first
        | (go_at_call 54; go_must (refine (Calls.mono HR.out ?_)); rintro r wq ⟨rfl, hq⟩; obtain rfl := hq.symm; clear hq)
        | (go_at_call 55; go_must (refine (Calls.mono (beginA_c 0 _ HI.out HD.out.2.1 HD.out.2.2.1) ?_)); rintro r x2 ⟨rfl, k1, k2, k3⟩; rw [HEb.out]; have H2 : Hid (Gr G w x2 ∧ DkI x2 g s l st V U vs Os Ol Od (bgD D 0)) := ⟨k2.wide (fun k _ e => HG.out k (.inl e)), k1⟩; clear k1 k2 k3))
      go_ret
      exact act_same H2.out.2 HG.out H2.out.1 (HD.out.1.bg _) E
  · rw [if_pos he]
    obtain ⟨E, hE⟩ : ∃ E, E = rdE D [] := ⟨_, rfl⟩
    rw [← hE] at HR he ⊢
    have hb : (E == 0) = false := by simpa using he
    clear he hE
    go_enter Try.func18, Try.ntmps18
    go_wp2_with (go_at_call 54; go_must (refine (Calls.mono HR.out ?_)); rintro r wq ⟨rfl, hq⟩; obtain rfl := hq.symm; clear hq)
    go_ret
    exact act_same HI.out HG.out (Gr.refl _ _) HD.out.1 E
end Go.Proofs.Yteoohgjoffpmkaa
