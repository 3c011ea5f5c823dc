/-
  What disk's Crash does. Condition: the numbers are below 2^60.
-/
import Derived.Test.YteoohgjoffpmkaaKTl
namespace Go.Proofs.Yteoohgjoffpmkaa
open Go.RowKit
set_option linter.unusedVariables false

/-- The files that are seen are others, in memory that is new. -/
theorem DkJ.seenNew {w0 w : World} {g s l m cs st V U Vn vs L Os Ol Od F Fl' F'} (h : DkJ w0 g s l cs st V U vs L Os Ol Od F Fl') (hb : Below w0.heap.size w0 w) (hn : Fl (fun k => w0.heap.size ≤ k ∧ k < w.heap.size) w m Vn F') : DkJ w g m l cs st Vn U vs L (fun k => w0.heap.size ≤ k ∧ k < w.heap.size) Ol Od F' Fl' := by
  have h1 := h.grew (gb_of hb)
  have hgl := lt_of_block h.bk
  have hst : ∀ k, st.ownBlock = some k → k < w0.heap.size := fun k hk => (own_lt h.row k hk).2
  exact ⟨h1.bk, hn, h1.last, h1.row, h1.stl, fun k hk => ⟨hk.2, by omega, fun z => by have := (h.hl k z).1; omega, fun z => by have := (h.hd k z).1; omega, fun z => by have := hst k z; omega⟩, h1.hl, h1.hd, h1.hg⟩
/-- What Crash leaves. -/
def CrA (G : Nat → Prop) (w : World) (g : Nat) (D : Dk) (keep : Int) (r : Ending) (w' : World) : Prop :=
  r = .returned (.tuple #[]) ∧ ∃ D', DkM (fun k => G k ∨ (w.heap.size ≤ k ∧ k < w'.heap.size)) w' g D' ∧ Gr G w w' ∧ Dok D' ∧ (D.down = true → D' = D) ∧ (D.down = false → D'.room = D.room ∧ D'.seen = sfirst D.last D.steps keep.toNat ∧ D'.last = D'.seen ∧ D'.steps = [] ∧ D'.acts = D.acts ∧ D'.fail = 0 ∧ D'.down = true)
set_option maxRecDepth 20000 in
set_option maxHeartbeats 2000000 in
theorem crashA_c {G : Nat → Prop} (keep : Int) (w : World) (g : Nat) (D : Dk) (h : DkM G w g D) (hd : Dok D) (hm : Dsm D) (hk1 : -9223372036854775808 ≤ keep) (hk2 : keep ≤ 9223372036854775807) :
    Calls Try.prog 24 #[.pointer (some ⟨g, 0, none⟩), .int .i64 keep] w (CrA G w g D keep) := by
  have HM : Hid (Calls Try.prog 53 #[.pointer (some ⟨g, 0, none⟩)] w fun r w' => r = .returned (.bool true) ∧ w' = w) := made_m h
  obtain ⟨_, _, _, c8⟩ := h.cells
  cases hdn : D.down with
  | true =>
    rw [hdn] at c8
    have HF : Hid (CrA G w g D keep (.returned (.tuple #[])) w) := ⟨rfl, D, h.weak (fun k hk => .inl hk), Gr.refl _ _, hd, fun _ => rfl, fun e => by rw [hdn] at e; cases e⟩
    clear h hdn hd hm hk1 hk2
    go_enter Try.func24, Try.ntmps24
    go_wp2_with (go_at_call 53; go_must (refine (Calls.mono HM.out ?_)); rintro r wq ⟨rfl, hq⟩; obtain rfl := hq.symm; clear hq)
    refine bodyPost_ret (results_none rfl _ _ _) rfl ?_
    exact HF.out
  | false =>
    rw [hdn] at c8
    obtain ⟨s, l, st, V, U, vs, Os, Ol, Od, hi, hG⟩ := h
    obtain ⟨F', hF'⟩ : ∃ F', F' = sfirst D.last D.steps keep.toNat := ⟨_, rfl⟩
    obtain ⟨nt, ht1, ht2, ht3⟩ := hd.all keep.toNat
    rw [← hF'] at ht1 ht3
    obtain ⟨rm, hrm⟩ : ∃ rm, rm = D.room := ⟨_, rfl⟩
    obtain ⟨fr, hfr⟩ : ∃ fr, fr = rm - nt := ⟨_, rfl⟩
    have hro := hd.room
    have HS : Hid (Calls Try.prog 56 #[.pointer (some ⟨g, 0, none⟩), .int .i64 keep] w (SetA w g s l st V Os Ol Od { D with last := F', steps := [] })) := by
      rw [hF']
      exact settle_c keep w hi hd.ok hd.bn hk1 hk2 (by have := hm.2.2.2; omega)
    have HTO : Hid (Tot F' nt ∧ nt ≤ 67108864 ∧ bnd F') := ⟨ht1, by omega, ht3⟩
    have HGg : Hid (G g) := hG g (.inl rfl)
    have HGG : Hid (∀ k, (k = g ∨ Os k ∨ Ol k ∨ Od k ∨ st.ownBlock = some k) → G k) := hG
    have HW : Hid (wrap64 ((rm : Int) - (nt : Int)) = (fr : Int) ∧ IntKind.i64.wrap ((rm : Int) - (nt : Int)) = (fr : Int)) := by
      show _ ∧ _
      have e : (fr : Int) = (rm : Int) - (nt : Int) := by omega
      rw [e]
      exact ⟨IntWalk.wrap64_in _ ⟨by omega, by omega⟩, IntWalk.i64_in _ ⟨by omega, by omega⟩⟩
    have HDD : Hid (∀ CS m, CS = (dcells D.room D.free (some s) (some l) (.slice none 0 0) (scnts []) D.acts D.fail D.down).setIfInBounds 2 (.map (some m)) → (((CS.setIfInBounds 1 (.int .i64 (fr : Int))).setIfInBounds 7 (.int .i64 0)).setIfInBounds 8 (.bool true)) = dcells D.room fr (some m) (some l) (.slice none 0 0) (scnts []) D.acts 0 true) := by
      show ∀ CS m, _
      intro CS m e
      rw [e]
      rfl
    have HDK : Hid (Dok { D with free := fr, seen := F', last := F', steps := [], fail := 0, down := true }) := by
      refine ⟨trivial, ht3, rfl, ⟨nt, ht1, ?_⟩, hd.room, fun q xs hq => (ht3 q xs hq).2, fun k => ⟨nt, ht1, ht2, ht3⟩⟩
      show fr + nt = D.room
      omega
    have HDN : Hid (D.down = false ∧ rm = D.room ∧ F' = sfirst D.last D.steps keep.toNat) := ⟨hdn, hrm, hF'⟩
    clear hi hG hd hm hk1 hk2 hdn hF' ht1 ht2 ht3 hrm hfr hro
    go_enter Try.func24, Try.ntmps24
    go_wp2_with (first
      | (go_at_call 53; go_must (refine (Calls.mono HM.out ?_)); rintro r wq ⟨rfl, hq⟩; obtain rfl := hq.symm; clear hq)
      | (go_at_call 56; go_must (refine (Calls.mono HS.out ?_)); rintro r x1 ⟨rfl, ⟨U1, Ol1, k1, k2⟩, k3⟩; have H1 : Hid (DkI x1 g s l (.slice none 0 0) V U1 [] Os Ol1 Od { D with last := F', steps := [] } ∧ (∀ k, Ol1 k → Ol k ∨ w.heap.size ≤ k) ∧ Gr G w x1) := ⟨k1, k2, k3.wide (fun k _ hk => hk.elim (fun e => HGG.out k (.inl e)) (fun e => HGG.out k (.inr (.inr (.inl e)))))⟩; have d3 : x1.cell? ⟨g, 3, none⟩ = some (.map (some l)) := Bk.cell k1.bk 3; clear k1 k2 k3)
      | (go_at_call 40; go_must (refine (Calls.mono (copiedA_c l _ H1.out.1.last HTO.out.2.2) ?_)); rintro r x2 ⟨m, rfl, k1, k2, Vn, k3⟩; have J2 := H1.out.1.j.seenNew k2 k3; have d2 : ∃ v, x2.cell? ⟨g, 2, none⟩ = some (.map v) := ⟨_, Bk.cell J2.bk 2⟩; obtain ⟨v2, d2⟩ := d2; have f2 : x2.frozen? ⟨g, 2, none⟩ = false := frozen_of_row x2 g 2 _ _ J2.bk; have H2 : Hid (DkJ x2 g m l (dcells D.room D.free (some s) (some l) (.slice none 0 0) (scnts []) D.acts D.fail D.down) (.slice none 0 0) Vn U1 [] [] (fun k => x1.heap.size ≤ k ∧ k < x2.heap.size) Ol1 Od F' F' ∧ Gr G w x2 ∧ w.heap.size ≤ x1.heap.size) := ⟨J2, H1.out.2.2.trans (Gr.ofB k2), H1.out.2.2.size⟩; clear k1 k2 k3 J2))
    obtain ⟨CS, hCS⟩ : ∃ CS, CS = (dcells D.room D.free (some s) (some l) (.slice none 0 0) (scnts []) D.acts D.fail D.down).setIfInBounds 2 (.map (some m)) := ⟨_, rfl⟩
    generalize hW3 : x2.setCell ⟨g, 2, none⟩ _ = x3
    have J3 : Hid (DkJ x3 g m l CS (.slice none 0 0) Vn U1 [] [] (fun k => x1.heap.size ≤ k ∧ k < x2.heap.size) Ol1 Od F' F') := by rw [← hW3, hCS]; exact H2.out.1.set 2 _
    have G3 : Hid (Gr G w x3) := by rw [← hW3]; exact H2.out.2.1.set g 2 HGg.out _
    have HC : Hid (CS[0]? = some (.int .i64 (rm : Int)) ∧ CS[2]? = some (.map (some m)) ∧ (∃ v, CS[1]? = some (.int .i64 v)) ∧ (∃ v, CS[7]? = some (.int .i64 v)) ∧ ∃ v, CS[8]? = some (.bool v)) := by
      show _ ∧ _
      rw [hCS, HDN.out.2.1]
      exact ⟨rfl, rfl, ⟨_, rfl⟩, ⟨_, rfl⟩, ⟨_, rfl⟩⟩
    have HTK : Hid (∀ W, x3.grownBy W none → Calls Try.prog 59 #[.map (some m)] W fun r w' => r = .returned (.int .i64 (nt : Int)) ∧ Below W.heap.size W w') := by
      show ∀ W, _
      intro W hg
      exact takenF_c m nt W (J3.out.grew hg).seen HTO.out.1 HTO.out.2.1 HTO.out.2.2
    have HE : Hid (∀ x, DkJ x g m l (((CS.setIfInBounds 1 (.int .i64 (fr : Int))).setIfInBounds 7 (.int .i64 0)).setIfInBounds 8 (.bool true)) (.slice none 0 0) Vn U1 [] [] (fun k => x1.heap.size ≤ k ∧ k < x2.heap.size) Ol1 Od F' F' → Gr G w x → CrA G w g D keep (.returned (.tuple #[])) x) := by
      show ∀ x, _
      intro x q1 q2
      have z1 := H2.out.2.2
      refine ⟨rfl, { D with free := fr, seen := F', last := F', steps := [], fail := 0, down := true }, ⟨m, l, .slice none 0 0, Vn, U1, [], _, Ol1, Od, q1.i _ (HDD.out CS m hCS) rfl rfl rfl, fun k hk => ?_⟩, q2, HDK.out, (fun e => by rw [HDN.out.1] at e; cases e), fun _ => ⟨rfl, HDN.out.2.2, rfl, rfl, rfl, rfl, rfl⟩⟩
      rcases hk with hk | hk | hk | hk | hk
      · exact .inl (HGG.out k (.inl hk))
      · have := (q1.hs k hk).1
        exact .inr ⟨by omega, this⟩
      · have z := (q1.hl k hk).1
        rcases H1.out.2.1 k hk with q | q
        · exact .inl (HGG.out k (.inr (.inr (.inl q))))
        · exact .inr ⟨q, z⟩
      · exact .inl (HGG.out k (.inr (.inr (.inr (.inl hk)))))
      · simp [Value.ownBlock] at hk
    clear hW3 hCS H1 H2 d2 f2 d3 c8
    refine wp_region_lastR (fun a b => World.grownBy a b none) (fun _ _ _ h k => gb_trans h k) ⟨rfl, rfl, rfl, Nat.le_refl _, fun _ _ _ => rfl⟩ 13 rfl (by kernel_rfl) [24, 25, 26, 27, 28, 29, 30, 31, 32, 33, 34, 35, 36, 100013] [[], [], [1], [2], [3], [], [5], [6], [7], [8], [4, 9], [0], [11], [12, 10]] (by kernel_rfl) (by kernel_rfl) [fun u W => u = .pointer (some ⟨g, 0, none⟩), fun u W => u = .pointer (some ⟨g, 0, none⟩), fun u W => u = .pointer (some ⟨g, 0, none⟩), fun u W => u = .pointer (some ⟨g, 0, none⟩), fun u W => u = .int .i64 (rm : Int), fun u W => u = .pointer (some ⟨g, 0, none⟩), fun u W => u = .pointer (some ⟨g, 0, none⟩), fun u W => u = .pointer (some ⟨g, 2, none⟩), fun u W => u = .map (some m), fun u W => u = .int .i64 (nt : Int), fun u W => u = .int .i64 (fr : Int), fun u W => u = .pointer (some ⟨g, 0, none⟩), fun u W => u = .pointer (some ⟨g, 1, none⟩)] ?stable ?step ?last
    case stable =>
      intro i v W W' h hg
      match i, h with
      | 0, h => exact h
      | 1, h => exact h
      | 2, h => exact h
      | 3, h => exact h
      | 4, h => exact h
      | 5, h => exact h
      | 6, h => exact h
      | 7, h => exact h
      | 8, h => exact h
      | 9, h => exact h
      | 10, h => exact h
      | 11, h => exact h
      | 12, h => exact h
      | i + 13, h => exact trivial
    case step =>
      intro f W A hA hg i o hin ho hu K hK
      match i, hin, ho, hu, hK with
      | 0, hin, ho, hu, hK =>
        cases ho
        have e0 : A.eval (.tmp 0) = .pointer (some ⟨g, 0, none⟩) := ev_out hA 0 rfl
        exact ph_move _ rfl rfl (.pointer (some ⟨g, 0, none⟩)) e0 (hK _ _ (gb_rr W _) rfl)
      | 1, hin, ho, hu, hK =>
        cases ho
        have e0 : A.eval (.tmp 0) = .pointer (some ⟨g, 0, none⟩) := ev_out hA 0 rfl
        exact ph_move _ rfl rfl (.pointer (some ⟨g, 0, none⟩)) e0 (hK _ _ (gb_rr W _) rfl)
      | 2, hin, ho, hu, hK =>
        cases ho
        have e25 : A.eval (.tmp 25) = .pointer (some ⟨g, 0, none⟩) := (ev_in hA 25 1 rfl rfl rfl).trans (show f 1 = .pointer (some ⟨g, 0, none⟩) from hu 1 (by decide))
        exact ph_nil _ rfl rfl _ e25 (hK _ _ (gb_rr W _) rfl)
      | 3, hin, ho, hu, hK =>
        cases ho
        have e26 : A.eval (.tmp 26) = .pointer (some ⟨g, 0, none⟩) := (ev_in hA 26 2 rfl rfl rfl).trans (show f 2 = .pointer (some ⟨g, 0, none⟩) from hu 2 (by decide))
        exact ph_field _ _ _ rfl rfl _ (.pointer (some ⟨g, 0, none⟩)) e26 (by kernel_rfl) (hK _ _ (gb_rr W _) rfl)
      | 4, hin, ho, hu, hK =>
        cases ho
        have e27 : A.eval (.tmp 27) = .pointer (some ⟨g, 0, none⟩) := (ev_in hA 27 3 rfl rfl rfl).trans (show f 3 = .pointer (some ⟨g, 0, none⟩) from hu 3 (by decide))
        have hc : W.cell? ⟨g, 0, none⟩ = some (.int .i64 (rm : Int)) := (Bk.cell (J3.out.grew hg).bk 0).trans HC.out.1
        refine ph_sem rfl rfl (r := .ok (.value (.int .i64 (rm : Int))) W) ?_ (hK _ _ (gb_rr W _) rfl)
        have eC : ∀ c, A.eval (.const c) = c := fun _ => rfl; have eF : ∀ g, A.eval (.func g) = .func (.func g) #[] #[] := fun _ => rfl; generalize A.eval = ρ at *
        clear hA hu hg
        go_simp
      | 5, hin, ho, hu, hK =>
        cases ho
        have e0 : A.eval (.tmp 0) = .pointer (some ⟨g, 0, none⟩) := ev_out hA 0 rfl
        exact ph_move _ rfl rfl (.pointer (some ⟨g, 0, none⟩)) e0 (hK _ _ (gb_rr W _) rfl)
      | 6, hin, ho, hu, hK =>
        cases ho
        have e29 : A.eval (.tmp 29) = .pointer (some ⟨g, 0, none⟩) := (ev_in hA 29 5 rfl rfl rfl).trans (show f 5 = .pointer (some ⟨g, 0, none⟩) from hu 5 (by decide))
        exact ph_nil _ rfl rfl _ e29 (hK _ _ (gb_rr W _) rfl)
      | 7, hin, ho, hu, hK =>
        cases ho
        have e30 : A.eval (.tmp 30) = .pointer (some ⟨g, 0, none⟩) := (ev_in hA 30 6 rfl rfl rfl).trans (show f 6 = .pointer (some ⟨g, 0, none⟩) from hu 6 (by decide))
        exact ph_field _ _ _ rfl rfl _ (.pointer (some ⟨g, 2, none⟩)) e30 (by kernel_rfl) (hK _ _ (gb_rr W _) rfl)
      | 8, hin, ho, hu, hK =>
        cases ho
        have e31 : A.eval (.tmp 31) = .pointer (some ⟨g, 2, none⟩) := (ev_in hA 31 7 rfl rfl rfl).trans (show f 7 = .pointer (some ⟨g, 2, none⟩) from hu 7 (by decide))
        have hc : W.cell? ⟨g, 2, none⟩ = some (.map (some m)) := (Bk.cell (J3.out.grew hg).bk 2).trans HC.out.2.1
        refine ph_sem rfl rfl (r := .ok (.value (.map (some m))) W) ?_ (hK _ _ (gb_rr W _) rfl)
        have eC : ∀ c, A.eval (.const c) = c := fun _ => rfl; have eF : ∀ g, A.eval (.func g) = .func (.func g) #[] #[] := fun _ => rfl; generalize A.eval = ρ at *
        clear hA hu hg
        go_simp
      | 9, hin, ho, hu, hK =>
        cases ho
        have e32 : A.eval (.tmp 32) = .map (some m) := (ev_in hA 32 8 rfl rfl rfl).trans (show f 8 = .map (some m) from hu 8 (by decide))
        refine ph_fn 59 _ _ rfl rfl #[.map (some m)] (by simp [e32]) (by kernel_rfl) ?_
        refine (Calls.mono (HTK.out W hg) ?_)
        rintro e W' ⟨rfl, hq⟩
        exact ⟨_, rfl, hK _ _ (gb_of hq) rfl⟩
      | 10, hin, ho, hu, hK =>
        cases ho
        have e28 : A.eval (.tmp 28) = .int .i64 (rm : Int) := (ev_in hA 28 4 rfl rfl rfl).trans (show f 4 = .int .i64 (rm : Int) from hu 4 (by decide))
        have e33 : A.eval (.tmp 33) = .int .i64 (nt : Int) := (ev_in hA 33 9 rfl rfl rfl).trans (show f 9 = .int .i64 (nt : Int) from hu 9 (by decide))
        have hw3 := HW.out.1
        have hw4 := HW.out.2
        refine ph_sem rfl rfl (r := .ok (.value (.int .i64 (fr : Int))) W) ?_ (hK _ _ (gb_rr W _) rfl)
        have eC : ∀ c, A.eval (.const c) = c := fun _ => rfl; have eF : ∀ g, A.eval (.func g) = .func (.func g) #[] #[] := fun _ => rfl; generalize A.eval = ρ at *
        clear hA hu hg hK
        go_simp
      | 11, hin, ho, hu, hK =>
        cases ho
        have e24 : A.eval (.tmp 24) = .pointer (some ⟨g, 0, none⟩) := (ev_in hA 24 0 rfl rfl rfl).trans (show f 0 = .pointer (some ⟨g, 0, none⟩) from hu 0 (by decide))
        exact ph_nil _ rfl rfl _ e24 (hK _ _ (gb_rr W _) rfl)
      | 12, hin, ho, hu, hK =>
        cases ho
        have e35 : A.eval (.tmp 35) = .pointer (some ⟨g, 0, none⟩) := (ev_in hA 35 11 rfl rfl rfl).trans (show f 11 = .pointer (some ⟨g, 0, none⟩) from hu 11 (by decide))
        exact ph_field _ _ _ rfl rfl _ (.pointer (some ⟨g, 1, none⟩)) e35 (by kernel_rfl) (hK _ _ (gb_rr W _) rfl)
      | i + 13, hin, ho, hu, hK => omega
    case last =>
      intro f W A hA hg hu o ho K hK
      cases ho
      have e34 : A.eval (.tmp 34) = .int .i64 (fr : Int) := (ev_in hA 34 10 rfl rfl rfl).trans (show f 10 = .int .i64 (fr : Int) from hu 10 (by decide))
      have e36 : A.eval (.tmp 36) = .pointer (some ⟨g, 1, none⟩) := (ev_in hA 36 12 rfl rfl rfl).trans (show f 12 = .pointer (some ⟨g, 1, none⟩) from hu 12 (by decide))
      have hc : ∃ v, W.cell? ⟨g, 1, none⟩ = some (.int .i64 v) := HC.out.2.2.1.imp (fun v hv => (Bk.cell (J3.out.grew hg).bk 1).trans hv)
      obtain ⟨v1, hc⟩ := hc
      have hf1 : W.frozen? ⟨g, 1, none⟩ = false := frozen_of_row W g 1 _ _ (J3.out.grew hg).bk
      have J4 := (J3.out.grew hg).set 1 (.int .i64 (fr : Int))
      obtain ⟨W4, hW4⟩ : ∃ W4, W4 = W.setCell ⟨g, 1, none⟩ (.int .i64 (fr : Int)) := ⟨_, rfl⟩
      have G4 : Hid (Gr G w W4) := by rw [hW4]; exact (G3.out.trans (Gr.of hg (by simp))).set g 1 HGg.out _
      rw [← hW4] at J4
      have f7 : W4.frozen? ⟨g, 7, none⟩ = false := frozen_of_row W4 g 7 _ _ J4.bk
      have J5 := J4.set 7 (.int .i64 0)
      have f8 : (W4.setCell ⟨g, 7, none⟩ (.int .i64 0)).frozen? ⟨g, 8, none⟩ = false := frozen_of_row _ g 8 _ _ J5.bk
      have c7 : ∃ v, W4.cell? ⟨g, 7, none⟩ = some (.int .i64 v) := HC.out.2.2.2.1.imp (fun v hv => (Bk.cell J4.bk 7).trans ((by simp : (CS.setIfInBounds 1 (.int .i64 (fr : Int)))[7]? = CS[7]?).trans hv))
      obtain ⟨v7, c7⟩ := c7
      have c8 : ∃ v, (W4.setCell ⟨g, 7, none⟩ (.int .i64 0)).cell? ⟨g, 8, none⟩ = some (.bool v) := HC.out.2.2.2.2.imp (fun v hv => (Bk.cell J5.bk 8).trans ((by simp : ((CS.setIfInBounds 1 (.int .i64 (fr : Int))).setIfInBounds 7 (.int .i64 0))[8]? = CS[8]?).trans hv))
      obtain ⟨v8, c8⟩ := c8
      have HF : Hid (CrA G w g D keep (.returned (.tuple #[])) ((W4.setCell ⟨g, 7, none⟩ (.int .i64 0)).setCell ⟨g, 8, none⟩ (.bool true))) := HE.out _ (J5.set 8 (.bool true)) ((G4.out.set g 7 HGg.out _).set g 8 HGg.out _)
      refine ph_sem rfl rfl (r := .ok .skip W4) ?_ (hK _ _ ?_)
      · rw [hW4]; have eC : ∀ c, A.eval (.const c) = c := fun _ => rfl
        generalize A.eval = ρ at *
        clear hA hu hg hK
        go_simp
      clear hg e34 e36 hc hf1 J4 J5 hW4
      have hA2 := hA.trans (putAll_lit [(.pointer (some ⟨g, 0, none⟩)), (.pointer (some ⟨g, 0, none⟩)), (.pointer (some ⟨g, 0, none⟩)), (.pointer (some ⟨g, 0, none⟩)), (.int .i64 (rm : Int)), (.pointer (some ⟨g, 0, none⟩)), (.pointer (some ⟨g, 0, none⟩)), (.pointer (some ⟨g, 2, none⟩)), (.map (some m)), (.int .i64 (nt : Int)), (.int .i64 (fr : Int)), (.pointer (some ⟨g, 0, none⟩)), (.pointer (some ⟨g, 1, none⟩)), (f 13)] (by
        intro j hj
        match j, hj with
        | 0, _ => exact hu 0 (by decide)
        | 1, _ => exact hu 1 (by decide)
        | 2, _ => exact hu 2 (by decide)
        | 3, _ => exact hu 3 (by decide)
        | 4, _ => exact hu 4 (by decide)
        | 5, _ => exact hu 5 (by decide)
        | 6, _ => exact hu 6 (by decide)
        | 7, _ => exact hu 7 (by decide)
        | 8, _ => exact hu 8 (by decide)
        | 9, _ => exact hu 9 (by decide)
        | 10, _ => exact hu 10 (by decide)
        | 11, _ => exact hu 11 (by decide)
        | 12, _ => exact hu 12 (by decide)
        | 13, _ => rfl
        | j + 14, hj => exact absurd hj (by simp)))
      clear hu hA
      subst hA2
      simp only [putAll, putL, List.mem_cons, List.not_mem_nil, List.idxOf_cons, Nat.reduceEqDiff, Nat.reduceBEq, Nat.reduceAdd, or_false, or_true, reduceIte, cond_true, cond_false, List.getD_cons_zero, List.getD_cons_succ, BEq.rfl]
      go_wp2
      go_end0
      exact HF.out
end Go.Proofs.Yteoohgjoffpmkaa
