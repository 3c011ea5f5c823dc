/-
  What disk's do does with any step. Condition: the numbers are below 2^60.
-/
import Derived.Test.YteoohgjoffpmkaaKDj
namespace Go.Proofs.Yteoohgjoffpmkaa
open Go.RowKit
set_option linter.unusedVariables false

theorem infoStep : (Try.prog.info? 123).map (fun i => (i.zero, i.size, i.bytes)) = some (some .nilIface, 1, 16) := by kernel_rfl
/-- What disk's do leaves. -/
def DoA (w : World) (g s l : Nat) (st : Value) (U : ByteArray → Option Value) (Os Ol Od : Nat → Prop) (vs' : List Value) (D' : Dk) (r : Ending) (w' : World) : Prop :=
  r = .returned (.tuple #[]) ∧ (∃ st' V' Os', DkI w' g s l st' V' U vs' Os' Ol Od D' ∧ (∀ k, Os' k → Os k ∨ w.heap.size ≤ k) ∧ ∀ k, st'.ownBlock = some k → st.ownBlock = some k ∨ w.heap.size ≤ k) ∧ Gr (fun k => k = g ∨ Os k ∨ st.ownBlock = some k) w w'
theorem one_news (w : World) (T : TypeId) (v : Value) : ∀ (j : Nat) u, [v][j]? = some u → (w.alloc (.cells #[v] T)).cell? ((⟨w.heap.size, 0, none⟩ : Addr).add j) = some u := fun j u hu => by
  match j, hu with
  | 0, hu => cases hu; exact Bk.cell (blk_new w T #[v]).1 0
  | j + 1, hu => simp at hu
set_option maxRecDepth 20000 in
set_option maxHeartbeats 2000000 in
theorem doD_c {g s l st V U vs Os Ol Od D} (v : Value) (p : Stp) (need : Int) (free' : Nat) (w : World) (h : DkI w g s l st V U vs Os Ol Od D) (hv : StV Od w v p) (hok : sok D.seen p) (hb : bnd D.seen) (hf : (free' : Int) = D.free - need) (hf1 : D.free ≤ 67108864) (hf2 : free' ≤ 67108864) (hn : -67108864 ≤ need ∧ need ≤ 67108864) (hp : scnts D.steps + scnt p ≤ 1152921504606846976) (hl : D.steps.length ≤ 1099511627776) :
    Calls Try.prog 75 #[.pointer (some ⟨g, 0, none⟩), v, .int .i64 need] w (DoA w g s l st U Os Ol Od (vs ++ [v]) { D with free := free', seen := sdo D.seen p (scnt p), steps := D.steps ++ [p] }) := by
  obtain ⟨T0, x0, rfl⟩ : ∃ T0 x0, v = .iface T0 x0 := by
    rcases hv with ⟨_, e⟩ | ⟨_, _, _, e, _⟩ | ⟨_, e⟩ | ⟨_, e⟩ | ⟨_, e⟩ <;> exact ⟨_, _, e⟩
  obtain ⟨fn0, ar0, hcm, hcc⟩ := hv.cnt
  have HCM : Hid (∀ W, (callMethod (.iface T0 x0) "hawser/disk.count" #[]).run Try.prog W = .ok (.enter fn0 ar0) W) := hcm
  obtain ⟨cn, hcn⟩ : ∃ cn, cn = scnt p := ⟨_, rfl⟩
  rw [← hcn] at hcc hp ⊢
  have HCC : Hid (∀ W, Calls Try.prog fn0 ar0 W fun r w' => r = .returned (.int .i64 (cn : Int)) ∧ W.grownBy w' none) := hcc
  obtain ⟨CS, hCS⟩ : ∃ CS, CS = dcells D.room D.free (some s) (some l) st (scnts D.steps) D.acts D.fail D.down := ⟨_, rfl⟩
  obtain ⟨L, hL⟩ : ∃ L, L = D.steps := ⟨_, rfl⟩
  obtain ⟨F', hF'⟩ : ∃ F', F' = sdo D.seen p cn := ⟨_, rfl⟩
  obtain ⟨FL, hFL⟩ : ∃ FL, FL = D.last := ⟨_, rfl⟩
  obtain ⟨D', hD'⟩ : ∃ D' : Dk, D' = { D with free := free', seen := F', steps := L ++ [p] } := ⟨_, rfl⟩
  rw [← hF', ← hL, ← hD']
  have hj := h.j
  rw [← hCS, ← hL, ← hFL] at hj
  have HJ : Hid (DkJ w g s l CS st V U vs L Os Ol Od D.seen FL) := hj
  have HDO : Hid (∀ W, w.grownBy W none → Calls Try.prog 77 #[.map (some s), .iface T0 x0, .int .i64 (cn : Int)] W (FdoA Os W s F')) := by
    show ∀ W, _
    intro W hg
    rw [hF']
    exact fdoA_c s _ p cn W (hj.grew hg).seen (hv.gr (G := fun _ => False) (Gr.of hg (by simp)) (fun _ _ z => z)) hok (fun k hk => (h.hs k hk).2.2.2.1) hb
  have HV : Hid (∀ G x, Gr G w x → (∀ k, Od k → ¬ G k) → StV Od x (.iface T0 x0) p) := fun G x hg hn => hv.gr hg hn
  have HOD : Hid (∀ k, Od k → ¬ Os k) := fun k h1 h2 => (h.hs k h2).2.2.2.1 h1
  obtain ⟨pd, hpd⟩ : ∃ pd, pd = scnts D.steps := ⟨_, rfl⟩
  obtain ⟨pd2, hpd2⟩ : ∃ pd2, pd2 = pd + cn := ⟨_, rfl⟩
  have HE : Hid (∀ x st' V' Os', DkJ x g s l (((CS.setIfInBounds 1 (.int .i64 (free' : Int))).setIfInBounds 4 st').setIfInBounds 5 (.int .i64 (pd2 : Int))) st' V' U (vs ++ [.iface T0 x0]) (L ++ [p]) Os' Ol Od F' FL → (∀ k, Os' k → Os k ∨ w.heap.size ≤ k) → (∀ k, st'.ownBlock = some k → st.ownBlock = some k ∨ w.heap.size ≤ k) → Gr (fun k => k = g ∨ Os k ∨ st.ownBlock = some k) w x → DoA w g s l st U Os Ol Od (vs ++ [.iface T0 x0]) D' (.returned (.tuple #[])) x) := by
    show ∀ x st' V' Os', _
    intro x st' V' Os' q1 q2 q3 q4
    refine ⟨rfl, ⟨st', V', Os', q1.i D' ?_ (by rw [hD']) (by rw [hD']) (by rw [hD']; exact hFL), q2, q3⟩, q4⟩
    rw [hCS, hD']
    have e : scnts (L ++ [p]) = pd2 := by rw [scnts_snoc, hL, ← hpd, ← hcn, hpd2]
    simp only [e]
    rfl
  have hw1 : wrap64 ((D.free : Int) - need) = (free' : Int) := by rw [hf]; exact IntWalk.wrap64_in _ ⟨by omega, by omega⟩
  have hw2 : IntKind.i64.wrap ((D.free : Int) - need) = (free' : Int) := by rw [hf]; exact IntWalk.i64_in _ ⟨by omega, by omega⟩
  have HW : Hid (wrap64 ((pd : Int) + (cn : Int)) = (pd2 : Int) ∧ IntKind.i64.wrap ((pd : Int) + (cn : Int)) = (pd2 : Int)) := by
    show _ ∧ _
    have e : (pd2 : Int) = (pd : Int) + (cn : Int) := by omega
    rw [e]
    exact ⟨IntWalk.wrap64_in _ ⟨by omega, by omega⟩, IntWalk.i64_in _ ⟨by omega, by omega⟩⟩
  have HLL : Hid (L.length ≤ 1099511627776) := by rw [hL]; exact hl
  have HC1 : Hid (CS[1]? = some (.int .i64 (D.free : Int)) ∧ CS[4]? = some st ∧ CS[5]? = some (.int .i64 (pd : Int)) ∧ CS[2]? = some (.map (some s))) := by
    show _ ∧ _
    rw [hCS, hpd]
    exact ⟨rfl, rfl, rfl, rfl⟩
  have hC2 : CS[2]? = some (.map (some s)) := HC1.out.2.2.2
  generalize (D.free : Int) = fr at hw1 hw2 HC1
  clear h hv hok hb hf hf1 hf2 hn hp hl hcm hcc hcn hCS hL hF' hFL hD' hj hpd hpd2
  go_enter Try.func75, Try.ntmps75
  go_wp2_with fail
  refine wp_region_lastR (fun a b => World.grownBy a b none) (fun _ _ _ h k => gb_trans h k) ⟨rfl, rfl, rfl, Nat.le_refl _, fun _ _ _ => rfl⟩ 7 rfl (by kernel_rfl) [6, 7, 8, 9, 10, 11, 12, 13] [[], [0], [1], [2], [], [], [5], [3, 4, 6]] (by kernel_rfl) (by kernel_rfl) [fun u W => u = .pointer (some ⟨g, 0, none⟩), fun u W => u = .pointer (some ⟨g, 0, none⟩), fun u W => u = .pointer (some ⟨g, 2, none⟩), fun u W => u = .map (some s), fun u W => u = .iface T0 x0, fun u W => u = .iface T0 x0, fun u W => u = .int .i64 (cn : Int)] ?stable ?step ?last
  case stable =>
    intro i v W W' h hg
    match i, h with
    | 0, h => exact h
    | 1, h => exact h
    | 2, h => exact h
    | 3, h => exact h
    | 4, h => exact h
    | 5, h => exact h
    | 6, h => exact h
    | i + 7, h => exact trivial
  case step =>
    intro f W A hA hg i o hin ho hu K hK
    match i, hin, ho, hu, hK with
    | 0, hin, ho, hu, hK =>
      cases ho
      have e0 : A.eval (.tmp 0) = .pointer (some ⟨g, 0, none⟩) := ev_out hA 0 rfl
      exact ph_move _ rfl rfl (.pointer (some ⟨g, 0, none⟩)) e0 (hK _ _ (gb_rr W _) rfl)
    | 1, hin, ho, hu, hK =>
      cases ho
      have e6 : A.eval (.tmp 6) = .pointer (some ⟨g, 0, none⟩) := (ev_in hA 6 0 rfl rfl rfl).trans (show f 0 = .pointer (some ⟨g, 0, none⟩) from hu 0 (by decide))
      exact ph_nil _ rfl rfl _ e6 (hK _ _ (gb_rr W _) rfl)
    | 2, hin, ho, hu, hK =>
      cases ho
      have e7 : A.eval (.tmp 7) = .pointer (some ⟨g, 0, none⟩) := (ev_in hA 7 1 rfl rfl rfl).trans (show f 1 = .pointer (some ⟨g, 0, none⟩) from hu 1 (by decide))
      exact ph_field _ _ _ rfl rfl _ (.pointer (some ⟨g, 2, none⟩)) e7 (by kernel_rfl) (hK _ _ (gb_rr W _) rfl)
    | 3, hin, ho, hu, hK =>
      cases ho
      have e8 : A.eval (.tmp 8) = .pointer (some ⟨g, 2, none⟩) := (ev_in hA 8 2 rfl rfl rfl).trans (show f 2 = .pointer (some ⟨g, 2, none⟩) from hu 2 (by decide))
      have hc : W.cell? ⟨g, 2, none⟩ = some (.map (some s)) := (Bk.cell (HJ.out.grew hg).bk 2).trans HC1.out.2.2.2
      refine ph_sem rfl rfl (r := .ok (.value (.map (some s))) W) ?_ (hK _ _ (gb_rr W _) rfl)
      have eC : ∀ c, A.eval (.const c) = c := fun _ => rfl; have eF : ∀ g, A.eval (.func g) = .func (.func g) #[] #[] := fun _ => rfl; generalize A.eval = ρ at *
      clear hA hu hg
      go_simp
    | 4, hin, ho, hu, hK =>
      cases ho
      have e1 : A.eval (.tmp 1) = .iface T0 x0 := ev_out hA 1 rfl
      exact ph_move _ rfl rfl (.iface T0 x0) e1 (hK _ _ (gb_rr W _) rfl)
    | 5, hin, ho, hu, hK =>
      cases ho
      have e1 : A.eval (.tmp 1) = .iface T0 x0 := ev_out hA 1 rfl
      exact ph_move _ rfl rfl (.iface T0 x0) e1 (hK _ _ (gb_rr W _) rfl)
    | 6, hin, ho, hu, hK =>
      cases ho
      have e11 : A.eval (.tmp 11) = .iface T0 x0 := (ev_in hA 11 5 rfl rfl rfl).trans (show f 5 = .iface T0 x0 from hu 5 (by decide))
      refine ph_inv _ _ _ rfl rfl (.iface T0 x0) (e11) fn0 ar0 (HCM.out W) ?_
      refine (Calls.mono (HCC.out W) ?_)
      rintro e W' ⟨rfl, hq⟩
      exact ⟨_, rfl, hK _ _ hq rfl⟩
    | i + 7, hin, ho, hu, hK => omega
  case last =>
    intro f W A hA hg hu o ho K hK
    cases ho
    have e9 : A.eval (.tmp 9) = .map (some s) := (ev_in hA 9 3 rfl rfl rfl).trans (show f 3 = .map (some s) from hu 3 (by decide))
    have e10 : A.eval (.tmp 10) = .iface T0 x0 := (ev_in hA 10 4 rfl rfl rfl).trans (show f 4 = .iface T0 x0 from hu 4 (by decide))
    have e12 : A.eval (.tmp 12) = .int .i64 (cn : Int) := (ev_in hA 12 6 rfl rfl rfl).trans (show f 6 = .int .i64 (cn : Int) from hu 6 (by decide))
    refine ph_fn 77 _ _ rfl rfl #[.map (some s), .iface T0 x0, .int .i64 (cn : Int)] (by simp [e9, e10, e12]) (by kernel_rfl) ?_
    refine (Calls.mono (HDO.out W hg) ?_)
    rintro rr x1 h9
    obtain ⟨V1, q1⟩ := (HJ.out.grew hg).seenTo h9
    have hrr : rr = .returned (.tuple #[]) := h9.1
    subst hrr
    refine ⟨_, rfl, hK _ _ ?_⟩
    have zW := hg.size
    have J1 : Hid (∃ Os1 : Nat → Prop, DkJ x1 g s l CS st V1 U vs L Os1 Ol Od F' FL ∧ (∀ k, Os1 k → Os k ∨ w.heap.size ≤ k) ∧ Gr Os w x1) := ⟨_, q1, (fun k hk => hk.elim .inl (fun hk => .inr (Nat.le_trans zW hk.1))), (Gr.of hg (by simp)).trans h9.2.2⟩
    clear h9 hg e9 e10 e12 q1 zW
    have hA2 := hA.trans (putAll_lit [(.pointer (some ⟨g, 0, none⟩)), (.pointer (some ⟨g, 0, none⟩)), (.pointer (some ⟨g, 2, none⟩)), (.map (some s)), (.iface T0 x0), (.iface T0 x0), (.int .i64 (cn : Int)), (f 7)] (by
      intro j hj
      match j, hj with
      | 0, _ => exact hu 0 (by decide)
      | 1, _ => exact hu 1 (by decide)
      | 2, _ => exact hu 2 (by decide)
      | 3, _ => exact hu 3 (by decide)
      | 4, _ => exact hu 4 (by decide)
      | 5, _ => exact hu 5 (by decide)
      | 6, _ => exact hu 6 (by decide)
      | 7, _ => rfl
      | j + 8, hj => exact absurd hj (by simp)))
    clear hu hA
    subst hA2
    simp only [putAll, putL, List.mem_cons, List.not_mem_nil, List.idxOf_cons, Nat.reduceEqDiff, Nat.reduceBEq, Nat.reduceAdd, or_false, or_true, reduceIte, cond_true, cond_false, List.getD_cons_zero, List.getD_cons_succ, BEq.rfl]
    obtain ⟨Os1, J1, O1, G1⟩ := J1.out
    replace J1 : Hid _ := J1
    replace O1 : Hid _ := O1
    replace G1 : Hid _ := G1
    have c1 : x1.cell? ⟨g, 1, none⟩ = some (.int .i64 fr) := (Bk.cell J1.out.bk 1).trans HC1.out.1
    have f1 : x1.frozen? ⟨g, 1, none⟩ = false := frozen_of_row x1 g 1 _ _ J1.out.bk
    obtain ⟨x2, hx2⟩ : ∃ x2, x2 = x1.setCell ⟨g, 1, none⟩ (.int .i64 (free' : Int)) := ⟨_, rfl⟩
    have J2 : Hid (DkJ x2 g s l (CS.setIfInBounds 1 (.int .i64 (free' : Int))) st V1 U vs L Os1 Ol Od F' FL) := by rw [hx2]; exact J1.out.set 1 _
    have G2 : Hid (Gr (fun k => k = g ∨ Os k ∨ st.ownBlock = some k) w x2) := by rw [hx2]; exact (G1.out.wide (fun k _ hk => .inr (.inl hk))).set g 1 (.inl rfl) _
    have c4 : ∀ o, (x2.alloc o).cell? ⟨g, 4, none⟩ = some st := fun o => (Bk.cell (J2.out.grew (World.grownBy_alloc _ _ none)).bk 4).trans ((by simp : (CS.setIfInBounds 1 (.int .i64 (free' : Int)))[4]? = CS[4]?).trans HC1.out.2.1)
    have c4' : x2.cell? ⟨g, 4, none⟩ = some st := (Bk.cell J2.out.bk 4).trans ((by simp : (CS.setIfInBounds 1 (.int .i64 (free' : Int)))[4]? = CS[4]?).trans HC1.out.2.1)
    obtain ⟨i0, hi0, hz0, hs0, hb0⟩ := info_parts infoStep
    have HSV : Hid (StV Od x2 (.iface T0 x0) p) := by
      refine HV.out (fun k => k = g ∨ Os k) x2 ?_ (fun k hk e => ?_)
      · rw [hx2]; exact (G1.out.wide (fun k _ hk => .inr hk)).set g 1 (.inl rfl) _
      · rcases e with e | e
        · exact (J2.out.hd k hk).2.1 e
        · exact HOD.out k hk e
    have hx2' : x1.setCell ⟨g, 1, none⟩ (.int .i64 (free' : Int)) = x2 := hx2.symm
    clear J1 G1 hx2
    go_wp2_with (at_builtin; go_must (refine wpList_append_own_at _ rfl (.tmp 26) (.tmp 28) 81 rfl 0 123 i0 .nilIface 1 16 Try.underlying81 hi0 hz0 hs0 hb0 rfl (by decide) st L.length vs rfl (J2.out.grew (World.grownBy_alloc _ _ none)).row ⟨x2.heap.size, 0, none⟩ 1 1 [.iface T0 x0] rfl rfl (one_news x2 123 _) (by intro u hu; simp at hu; rcases hu with rfl; rfl) (by unfold maxLen; have := HLL.out; omega) (by have := HLL.out; omega) (Nat.zero_le _) ?_); intro st' x3 k1 k2 k3 k4; obtain ⟨a4, n4, cc4, hst⟩ : ∃ a n c, st' = Value.slice a n c := (by rcases k1.2 with ⟨e, _⟩ | ⟨_, _, _, e, _⟩ <;> exact ⟨_, _, _, e⟩); subst hst; go_loud (have J3 : Hid (DkJ x3 g s l (CS.setIfInBounds 1 (.int .i64 (free' : Int))) (.slice a4 n4 cc4) V1 U (vs ++ [.iface T0 x0]) (L ++ [p]) Os1 Ol Od F' FL) := J2.out.rowTo (.slice a4 n4 cc4) _ p HSV.out (World.grownBy_alloc _ _ none) k1 k2 k4; have d4 : x3.cell? ⟨g, 4, none⟩ = some st := (Bk.cell J3.out.bk 4).trans ((by simp : (CS.setIfInBounds 1 (.int .i64 (free' : Int)))[4]? = CS[4]?).trans HC1.out.2.1); have g4 : x3.frozen? ⟨g, 4, none⟩ = false := frozen_of_row x3 g 4 _ _ J3.out.bk; have G3 : Hid (Gr (fun k => k = g ∨ Os k ∨ st.ownBlock = some k) w x3 ∧ ∀ k, (Value.slice a4 n4 cc4).ownBlock = some k → st.ownBlock = some k ∨ w.heap.size ≤ k) := ⟨(G2.out.trans (Gr.of (World.grownBy_alloc _ _ none) (by simp))).trans (Gr.of k2 (fun k e => .inl (.inr (.inr e)))), fun k e => by rcases k4 with k4 | k4; exact .inl (k4.symm.trans e); rw [k4] at e; have e2 := Option.some.inj e; have e3 := G2.out.size; rw [World.size_alloc] at e2; exact .inr (by omega)⟩; clear k1 k2 k3 k4))
    generalize hW4 : x3.setCell ⟨g, 4, none⟩ _ = x4
    have J4 : Hid (DkJ x4 g s l ((CS.setIfInBounds 1 (.int .i64 (free' : Int))).setIfInBounds 4 (.slice a4 n4 cc4)) (.slice a4 n4 cc4) V1 U (vs ++ [.iface T0 x0]) (L ++ [p]) Os1 Ol Od F' FL) := by rw [← hW4]; exact J3.out.set 4 _
    have B4 : Hid (Gr (fun k => k = g ∨ Os k ∨ st.ownBlock = some k) w x4 ∧ (∀ k, Os1 k → Os k ∨ w.heap.size ≤ k) ∧ ∀ k, (Value.slice a4 n4 cc4).ownBlock = some k → st.ownBlock = some k ∨ w.heap.size ≤ k) := by rw [← hW4]; exact ⟨G3.out.1.set g 4 (.inl rfl) _, O1.out, G3.out.2⟩
    have HC5 : Hid (((CS.setIfInBounds 1 (.int .i64 (free' : Int))).setIfInBounds 4 (.slice a4 n4 cc4))[5]? = some (.int .i64 (pd : Int))) := (by simp : ((CS.setIfInBounds 1 (.int .i64 (free' : Int))).setIfInBounds 4 (.slice a4 n4 cc4))[5]? = CS[5]?).trans HC1.out.2.2.1
    clear hW4 c4 c4' d4 g4 c1 f1 J3 G3
    refine wp_region_lastR (fun a b => World.grownBy a b none) (fun _ _ _ h k => gb_trans h k) ⟨rfl, rfl, rfl, Nat.le_refl _, fun _ _ _ => rfl⟩ 9 rfl (by kernel_rfl) [32, 33, 34, 35, 36, 37, 38, 39, 40, 100009] [[], [0], [1], [2], [], [4], [3, 5], [0], [7], [8, 6]] (by kernel_rfl) (by kernel_rfl) [fun u W => u = .pointer (some ⟨g, 0, none⟩), fun u W => u = .pointer (some ⟨g, 0, none⟩), fun u W => u = .pointer (some ⟨g, 5, none⟩), fun u W => u = .int .i64 (pd : Int), fun u W => u = .iface T0 x0, fun u W => u = .int .i64 (cn : Int), fun u W => u = .int .i64 (pd2 : Int), fun u W => u = .pointer (some ⟨g, 0, none⟩), fun u W => u = .pointer (some ⟨g, 5, none⟩)] ?stable ?step ?last
    case stable =>
      intro i v W W' h hg
      match i, h with
      | 0, h => exact h
      | 1, h => exact h
      | 2, h => exact h
      | 3, h => exact h
      | 4, h => exact h
      | 5, h => exact h
      | 6, h => exact h
      | 7, h => exact h
      | 8, h => exact h
      | i + 9, h => exact trivial
    case step =>
      intro f W A hA hg i o hin ho hu K hK
      match i, hin, ho, hu, hK with
      | 0, hin, ho, hu, hK =>
        cases ho
        have e0 : A.eval (.tmp 0) = .pointer (some ⟨g, 0, none⟩) := ev_out hA 0 rfl
        exact ph_move _ rfl rfl (.pointer (some ⟨g, 0, none⟩)) e0 (hK _ _ (gb_rr W _) rfl)
      | 1, hin, ho, hu, hK =>
        cases ho
        have e32 : A.eval (.tmp 32) = .pointer (some ⟨g, 0, none⟩) := (ev_in hA 32 0 rfl rfl rfl).trans (show f 0 = .pointer (some ⟨g, 0, none⟩) from hu 0 (by decide))
        exact ph_nil _ rfl rfl _ e32 (hK _ _ (gb_rr W _) rfl)
      | 2, hin, ho, hu, hK =>
        cases ho
        have e33 : A.eval (.tmp 33) = .pointer (some ⟨g, 0, none⟩) := (ev_in hA 33 1 rfl rfl rfl).trans (show f 1 = .pointer (some ⟨g, 0, none⟩) from hu 1 (by decide))
        exact ph_field _ _ _ rfl rfl _ (.pointer (some ⟨g, 5, none⟩)) e33 (by kernel_rfl) (hK _ _ (gb_rr W _) rfl)
      | 3, hin, ho, hu, hK =>
        cases ho
        have e34 : A.eval (.tmp 34) = .pointer (some ⟨g, 5, none⟩) := (ev_in hA 34 2 rfl rfl rfl).trans (show f 2 = .pointer (some ⟨g, 5, none⟩) from hu 2 (by decide))
        have hc : W.cell? ⟨g, 5, none⟩ = some (.int .i64 (pd : Int)) := (Bk.cell (J4.out.grew hg).bk 5).trans HC5.out
        refine ph_sem rfl rfl (r := .ok (.value (.int .i64 (pd : Int))) W) ?_ (hK _ _ (gb_rr W _) rfl)
        have eC : ∀ c, A.eval (.const c) = c := fun _ => rfl; have eF : ∀ g, A.eval (.func g) = .func (.func g) #[] #[] := fun _ => rfl; generalize A.eval = ρ at *
        clear hA hu hg
        go_simp
      | 4, hin, ho, hu, hK =>
        cases ho
        have e1 : A.eval (.tmp 1) = .iface T0 x0 := ev_out hA 1 rfl
        exact ph_move _ rfl rfl (.iface T0 x0) e1 (hK _ _ (gb_rr W _) rfl)
      | 5, hin, ho, hu, hK =>
        cases ho
        have e36 : A.eval (.tmp 36) = .iface T0 x0 := (ev_in hA 36 4 rfl rfl rfl).trans (show f 4 = .iface T0 x0 from hu 4 (by decide))
        refine ph_inv _ _ _ rfl rfl (.iface T0 x0) (e36) fn0 ar0 (HCM.out W) ?_
        refine (Calls.mono (HCC.out W) ?_)
        rintro e W' ⟨rfl, hq⟩
        exact ⟨_, rfl, hK _ _ hq rfl⟩
      | 6, hin, ho, hu, hK =>
        cases ho
        have e35 : A.eval (.tmp 35) = .int .i64 (pd : Int) := (ev_in hA 35 3 rfl rfl rfl).trans (show f 3 = .int .i64 (pd : Int) from hu 3 (by decide))
        have e37 : A.eval (.tmp 37) = .int .i64 (cn : Int) := (ev_in hA 37 5 rfl rfl rfl).trans (show f 5 = .int .i64 (cn : Int) from hu 5 (by decide))
        have hw3 := HW.out.1
        have hw4 := HW.out.2
        refine ph_sem rfl rfl (r := .ok (.value (.int .i64 (pd2 : Int))) W) ?_ (hK _ _ (gb_rr W _) rfl)
        have eC : ∀ c, A.eval (.const c) = c := fun _ => rfl; have eF : ∀ g, A.eval (.func g) = .func (.func g) #[] #[] := fun _ => rfl; generalize A.eval = ρ at *
        clear hA hu hg hK
        go_simp
      | 7, hin, ho, hu, hK =>
        cases ho
        have e32 : A.eval (.tmp 32) = .pointer (some ⟨g, 0, none⟩) := (ev_in hA 32 0 rfl rfl rfl).trans (show f 0 = .pointer (some ⟨g, 0, none⟩) from hu 0 (by decide))
        exact ph_nil _ rfl rfl _ e32 (hK _ _ (gb_rr W _) rfl)
      | 8, hin, ho, hu, hK =>
        cases ho
        have e39 : A.eval (.tmp 39) = .pointer (some ⟨g, 0, none⟩) := (ev_in hA 39 7 rfl rfl rfl).trans (show f 7 = .pointer (some ⟨g, 0, none⟩) from hu 7 (by decide))
        exact ph_field _ _ _ rfl rfl _ (.pointer (some ⟨g, 5, none⟩)) e39 (by kernel_rfl) (hK _ _ (gb_rr W _) rfl)
      | i + 9, hin, ho, hu, hK => omega
    case last =>
      intro f W A hA hg hu o ho K hK
      cases ho
      have e38 : A.eval (.tmp 38) = .int .i64 (pd2 : Int) := (ev_in hA 38 6 rfl rfl rfl).trans (show f 6 = .int .i64 (pd2 : Int) from hu 6 (by decide))
      have e40 : A.eval (.tmp 40) = .pointer (some ⟨g, 5, none⟩) := (ev_in hA 40 8 rfl rfl rfl).trans (show f 8 = .pointer (some ⟨g, 5, none⟩) from hu 8 (by decide))
      have hc : W.cell? ⟨g, 5, none⟩ = some (.int .i64 (pd : Int)) := (Bk.cell (J4.out.grew hg).bk 5).trans HC5.out
      have hf5 : W.frozen? ⟨g, 5, none⟩ = false := frozen_of_row W g 5 _ _ (J4.out.grew hg).bk
      have J5 := (J4.out.grew hg).set 5 (.int .i64 (pd2 : Int))
      have HF : Hid (DoA w g s l st U Os Ol Od (vs ++ [.iface T0 x0]) D' (.returned (.tuple #[])) (W.setCell ⟨g, 5, none⟩ (.int .i64 (pd2 : Int)))) := HE.out _ _ _ _ J5 B4.out.2.1 B4.out.2.2 ((B4.out.1.trans (Gr.of hg (by simp))).set g 5 (.inl rfl) _)
      refine ph_sem rfl rfl (r := .ok .skip (W.setCell ⟨g, 5, none⟩ (.int .i64 (pd2 : Int)))) ?_ (hK _ _ ?_)
      · have eC : ∀ c, A.eval (.const c) = c := fun _ => rfl
        generalize A.eval = ρ at *
        clear hA hu hg hK
        go_simp
      clear hg e38 e40 hc hf5 J5
      have hA2 := hA.trans (putAll_lit [(.pointer (some ⟨g, 0, none⟩)), (.pointer (some ⟨g, 0, none⟩)), (.pointer (some ⟨g, 5, none⟩)), (.int .i64 (pd : Int)), (.iface T0 x0), (.int .i64 (cn : Int)), (.int .i64 (pd2 : Int)), (.pointer (some ⟨g, 0, none⟩)), (.pointer (some ⟨g, 5, none⟩)), (f 9)] (by
        intro j hj
        match j, hj with
        | 0, _ => exact hu 0 (by decide)
        | 1, _ => exact hu 1 (by decide)
        | 2, _ => exact hu 2 (by decide)
        | 3, _ => exact hu 3 (by decide)
        | 4, _ => exact hu 4 (by decide)
        | 5, _ => exact hu 5 (by decide)
        | 6, _ => exact hu 6 (by decide)
        | 7, _ => exact hu 7 (by decide)
        | 8, _ => exact hu 8 (by decide)
        | 9, _ => rfl
        | j + 10, hj => exact absurd hj (by simp)))
      clear hu hA
      subst hA2
      simp only [putAll, putL, List.mem_cons, List.not_mem_nil, List.idxOf_cons, Nat.reduceEqDiff, Nat.reduceBEq, Nat.reduceAdd, or_false, or_true, reduceIte, cond_true, cond_false, List.getD_cons_zero, List.getD_cons_succ, BEq.rfl]
      go_wp2_with fail
      go_end0
      exact HF.out
end Go.Proofs.Yteoohgjoffpmkaa
