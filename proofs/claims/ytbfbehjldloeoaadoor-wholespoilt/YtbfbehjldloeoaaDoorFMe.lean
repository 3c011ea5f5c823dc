/-
  What Splitter.left and Splitter.meets answer: the bytes from its place on, and what is wrong with them. Condition: the table of package crc lies in memory; at most 2^40 bytes.
-/
import Derived.Test.YtbfbehjldloeoaaDoorFHo
import Derived.Test.YtbfbehjldloeoaaDoorFWk
namespace Go.Proofs.YtbfbehjldloeoaaDoor
set_option linter.unusedVariables false
open Go.RowKit

set_option maxHeartbeats 2000000 in
theorem left2_c (S T a n vc : Nat) (va : Option Addr) (m j l : Int) (f u : Value) (w : World) (h : Sp w S T a n m j l f) (ht : Bk 49 w T #[.slice va n vc, u]) (ha : a ≤ n) (hn : n ≤ vc) :
    Calls Tryd.prog 38 #[.pointer (some ⟨S, 0, none⟩)] w fun r w' => r = .returned (.slice (cutB va vc a) (n - a) (vc - a)) ∧ ∃ q, w' = w.drewN q := by
  obtain ⟨c0, c1, c2, _⟩ := h.cells
  have t0 : w.cell? ⟨T, 0, none⟩ = some (.slice va n vc) := ht.cell 0
  have hslc := slice_blh va n vc a n ha hn
  clear h ht
  go_enter Tryd.func38, Tryd.ntmps38
  go_wp2
  go_quiet (fail)
  all_goals go_wp2
  all_goals go_ret
  all_goals exact ⟨rfl, _, rfl⟩
theorem drop_take_app (xs : List Int) (a k : Nat) : (xs.take (a + k)).drop a = (xs.drop a).take k := by
  rw [List.drop_take]
  congr 1
  omega
theorem drewN_gb (w : World) (q : Nat) : w.grownBy (w.drewN q) none := ⟨rfl, rfl, rfl, Nat.le_refl _, fun _ _ _ => rfl⟩
theorem Sp.gr {G : Nat → Prop} {w w' : World} {S T : Nat} {a e m j l : Int} {f : Value} (h : Sp w S T a e m j l f) (hg : Gr G w w') (hn : ¬ G S) : Sp w' S T a e m j l f := Bk.gr h hg hn
set_option maxRecDepth 20000 in
set_option maxHeartbeats 2000000 in
theorem meets_c (O : Nat → Prop) (S T : Nat) (v u : Value) (xs : List Int) (M a most : Nat) (j l : Int) (f : Value) (w : World) (h : Sp w S T a xs.length most j l f) (hs : Str O w T v u xs M) (hOS : ¬ O S) (ht : Tab w) (h0 : ¬ O 0) (ha : a ≤ xs.length) (hm : most ≤ 1048576) (hl : xs.length ≤ 1099511627776) :
    Calls Tryd.prog 33 #[.pointer (some ⟨S, 0, none⟩)] w fun r w' => r = .returned (.int .i64 ((fmeet most (xs.drop a) : Nat) : Int)) ∧ StrA O w T v xs w' := by
  obtain ⟨n, hn⟩ : ∃ n, n = xs.length := ⟨_, rfl⟩
  obtain ⟨va, vc, rfl, _, _, hvc⟩ := hs.ob.seg
  rw [← hn] at h hs hvc ha hl ⊢
  obtain ⟨ys, hys⟩ : ∃ ys, ys = xs.drop a := ⟨_, rfl⟩
  have hyl : ys.length = n - a := by rw [hys, List.length_drop, hn]
  have hby : Bytes ys := by rw [hys]; exact hs.hx.drop _
  have HSG : Hid (∀ W, w.grownBy W none → Seg .u8 W (cutB va vc a) (n - a) ys ∧ Tab W ∧ Gr O w W) := fun W hg => by
    have hG0 : Gr (fun _ => False) w W := Gr.of hg (by simp)
    have hGO : Gr O w W := (Gr.refl O w).then hG0 (fun _ _ z => z.elim)
    have hb := own_gr hs.ob hG0 (fun _ _ z => z)
    rw [← hn] at hb
    have := seg_cutB (own_segv hb).1 a n ha (Nat.le_refl _) hvc
    rw [List.take_of_length_le (by omega), ← hys] at this
    exact ⟨this, ht.gr hGO h0, hGO⟩
  have HL : Hid _ := left2_c S T a n vc va most j l f u w h hs.bk ha hvc
  have HB : Hid (∀ q, Calls Tryd.prog 22 #[.slice (cutB va vc a) (n - a) (vc - a), .int .i64 (most : Int)] (w.drewN q) fun r w' => r = .returned (.int .i64 ((fbeg most ys : Nat) : Int)) ∧ w.grownBy w' none) := fun q => by
    have z := HSG.out _ (drewN_gb w q)
    refine (begins_c (cutB va vc a) (n - a) (vc - a) ys most (w.drewN q) (by omega) z.1 hby (by omega) hm z.2.1).mono ?_
    rintro r w' ⟨q1, q2⟩
    exact ⟨q1, gb_trans (drewN_gb w q) (gb_of q2)⟩
  have HK : Hid (∀ W, w.grownBy W none → W.cell? ⟨S, 0, none⟩ = some (.pointer (some ⟨T, 0, none⟩)) ∧ W.cell? ⟨S, 1, none⟩ = some (.int .i64 (a : Int)) ∧ W.cell? ⟨S, 3, none⟩ = some (.int .i64 (most : Int))) := fun W hg => by
    have := Sp.gr h (Gr.of (G := fun _ => False) hg (by simp)) (fun z => z)
    obtain ⟨c0, c1, c2, c3, _⟩ := this.cells
    exact ⟨c0, c1, c3⟩
  rw [← hys]
  by_cases hf : fbeg most ys = 0
  · obtain ⟨_, hy10, _, hfm, hfl⟩ := fbeg_ok hf
    obtain ⟨F, hF⟩ : ∃ F, F = flen ys := ⟨_, rfl⟩
    rw [← hF] at hfm hfl
    obtain ⟨b, hb⟩ : ∃ b, b = holds (ys.take (F + 14)) := ⟨_, rfl⟩
    have HMT : Hid (fmeet most ys = if b = true then 0 else 44) := by show _ = _; unfold fmeet; rw [if_pos hf, ← hF, hb]
    have HTO : Hid (∀ W, w.grownBy W none → Calls Tryd.prog 23 #[.slice (cutB va vc a) (n - a) (vc - a)] W fun r w' => r = .returned (.int .i64 ((F : Int) + 14)) ∧ W.grownBy w' none) := fun W hg => by
      refine (told_c (cutB va vc a) (n - a) (vc - a) ys W (HSG.out W hg).1 hby (by omega)).mono ?_
      rintro r w' ⟨q1, q2⟩
      rw [← hF] at q1
      exact ⟨by rw [q1]; push_cast; rfl, gb_of q2⟩
    have HHO : Hid (∀ W, w.grownBy W none → Calls Tryd.prog 40 #[.pointer (some ⟨T, 0, none⟩), .int .i64 (a : Int), .int .i64 ((a : Int) + ((F : Int) + 14))] W fun r w' => r = .returned (.bool b) ∧ StrA O w T (.slice va n vc) xs w' ∧ Gr (fun b => O b ∨ w.heap.size ≤ b) W w') := fun W hg => by
      have hG0 : Gr (fun _ => False) w W := Gr.of hg (by simp)
      have z := HSG.out W hg
      have := sholds_c (fun b => O b ∨ w.heap.size ≤ b) T (.slice va n vc) u xs M a (a + (F + 14)) W (hs.more.gr hG0 (fun _ _ z => z)) z.2.1 (fun z => z.elim h0 (fun q => by have := ht.pos; omega)) (by omega) (by omega) (by omega)
      rw [drop_take_app, ← hys, ← hb] at this
      rw [show (a : Int) + ((F : Int) + 14) = ((a + (F + 14) : Nat) : Int) from by omega]
      refine this.mono ?_
      rintro r w' ⟨q1, q2⟩
      have q5 := StrA.then z.2.2 q2
      obtain ⟨_, _, _, q3⟩ := q2
      exact ⟨q1, q5, q3⟩
    have hF2 : F ≤ 1048576 := by omega
    have ha2 : a ≤ 1099511627776 := by omega
    have HAD : Hid (wrap64 ((a : Int) + ((F : Int) + 14)) = (a : Int) + ((F : Int) + 14) ∧ IntKind.i64.wrap ((a : Int) + ((F : Int) + 14)) = (a : Int) + ((F : Int) + 14)) := ⟨IntWalk.wrap64_in _ ⟨by omega, by omega⟩, IntWalk.i64_in _ ⟨by omega, by omega⟩⟩
    obtain ⟨_, _, _, c3, _⟩ := h.cells
    rw [HMT.out]
    clear h hs hOS ht h0 hn hys hyl hby HSG hb hfl hfm hy10 hF c3 HMT
    go_enter Tryd.func33, Tryd.ntmps33
    have hd : ∀ q, (w.drewN q).cell? ⟨S, 3, none⟩ = some (.int .i64 (most : Int)) := fun q => (HK.out _ (drewN_gb w q)).2.2
    go_wp2_with (first
      | (go_at_call 38; go_must (refine (Calls.mono HL.out ?_)); rintro r w1 ⟨rfl, q, rfl⟩)
      | (go_at_call 22; go_must (refine (Calls.mono (HB.out _) ?_)); rintro r w2 ⟨rfl, h2⟩; rw [hf]; have H2 : Hid _ := h2; clear h2))
    clear hd HL HB
    have HK2 : Hid (∀ W, w2.grownBy W none → W.cell? ⟨S, 0, none⟩ = some (.pointer (some ⟨T, 0, none⟩)) ∧ W.cell? ⟨S, 1, none⟩ = some (.int .i64 (a : Int))) := fun W hg => ⟨(HK.out W (gb_trans H2.out hg)).1, (HK.out W (gb_trans H2.out hg)).2.1⟩
    clear HK
    refine wp_region_lastB (fun a b => Gr (fun b => O b ∨ w.heap.size ≤ b) a b) (fun a b => World.grownBy a b none) (fun a b => Gr (fun b => O b ∨ w.heap.size ≤ b) a b) (fun _ _ _ h k => h.trans k) (fun _ _ h => Gr.of h (by simp)) (fun _ _ h => h) ⟨rfl, rfl, rfl, Nat.le_refl _, fun _ _ _ => rfl⟩ (fun _ _ _ h k => gb_trans h k) ⟨rfl, rfl, rfl, Nat.le_refl _, fun _ _ _ => rfl⟩ 16 15 rfl (by kernel_rfl) [16, 17, 18, 19, 20, 21, 22, 23, 24, 25, 26, 27, 28, 29, 30, 31, 32] [[], [0], [1], [2], [], [4], [5], [6], [], [8], [9], [10], [], [12], [11, 13], [3, 7, 14], [15]] (by kernel_rfl) (by kernel_rfl) [0, 1, 2, 3, 4, 5, 6, 7, 8, 9, 10, 11, 12, 13, 14] (by kernel_rfl) [fun u W => u = .pointer (some ⟨S, 0, none⟩), fun u W => u = .pointer (some ⟨S, 0, none⟩), fun u W => u = .pointer (some ⟨S, 0, none⟩), fun u W => u = .pointer (some ⟨T, 0, none⟩), fun u W => u = .pointer (some ⟨S, 0, none⟩), fun u W => u = .pointer (some ⟨S, 0, none⟩), fun u W => u = .pointer (some ⟨S, 1, none⟩), fun u W => u = .int .i64 (a : Int), fun u W => u = .pointer (some ⟨S, 0, none⟩), fun u W => u = .pointer (some ⟨S, 0, none⟩), fun u W => u = .pointer (some ⟨S, 1, none⟩), fun u W => u = .int .i64 (a : Int), fun u W => u = .slice (cutB va vc a) (n - a) (vc - a), fun u W => u = .int .i64 ((F : Int) + 14), fun u W => u = .int .i64 ((a : Int) + ((F : Int) + 14)), fun u Wo => u = .bool b ∧ StrA O w T (.slice va n vc) xs Wo] ?stable ?stableA ?step ?last
    case stable =>
      intro i v W W' h hg
      match i, h with
      | 0, h => exact h
      | 1, h => exact h
      | 2, h => exact h
      | 3, h => exact h
      | 4, h => exact h
      | 5, h => exact h
      | 6, h => exact h
      | 7, h => exact h
      | 8, h => exact h
      | 9, h => exact h
      | 10, h => exact h
      | 11, h => exact h
      | 12, h => exact h
      | 13, h => exact h
      | 14, h => exact h
      | 15, h => exact ⟨h.1, h.2.gb hg⟩
      | i + 16, h => exact trivial
    case stableA =>
      intro i v W W' hne hnu h hg
      match i, hne, h with
      | 0, _, h => exact h
      | 1, _, h => exact h
      | 2, _, h => exact h
      | 3, _, h => exact h
      | 4, _, h => exact h
      | 5, _, h => exact h
      | 6, _, h => exact h
      | 7, _, h => exact h
      | 8, _, h => exact h
      | 9, _, h => exact h
      | 10, _, h => exact h
      | 11, _, h => exact h
      | 12, _, h => exact h
      | 13, _, h => exact h
      | 14, _, h => exact h
      | 15, hne, _ => exact absurd rfl hne
      | i + 16, _, h => exact trivial
    case step =>
      intro f W A hA hg i o hin ho hu K hK
      match i, hin, ho, hu, hK with
      | 0, hin, ho, hu, hK =>
        cases ho
        have e0 : A.eval (.tmp 0) = .pointer (some ⟨S, 0, none⟩) := ev_out hA 0 rfl
        exact ph_move _ rfl rfl (.pointer (some ⟨S, 0, none⟩)) e0 (hK _ _ (gb_rr W _) rfl)
      | 1, hin, ho, hu, hK =>
        cases ho
        have e16 : A.eval (.tmp 16) = .pointer (some ⟨S, 0, none⟩) := (ev_in hA 16 0 rfl rfl rfl).trans (show f 0 = .pointer (some ⟨S, 0, none⟩) from hu 0 (by decide))
        exact ph_nil _ rfl rfl _ e16 (hK _ _ (gb_rr W _) rfl)
      | 2, hin, ho, hu, hK =>
        cases ho
        have e17 : A.eval (.tmp 17) = .pointer (some ⟨S, 0, none⟩) := (ev_in hA 17 1 rfl rfl rfl).trans (show f 1 = .pointer (some ⟨S, 0, none⟩) from hu 1 (by decide))
        exact ph_field _ _ _ rfl rfl _ (.pointer (some ⟨S, 0, none⟩)) e17 (by kernel_rfl) (hK _ _ (gb_rr W _) rfl)
      | 3, hin, ho, hu, hK =>
        cases ho
        have e18 : A.eval (.tmp 18) = .pointer (some ⟨S, 0, none⟩) := (ev_in hA 18 2 rfl rfl rfl).trans (show f 2 = .pointer (some ⟨S, 0, none⟩) from hu 2 (by decide))
        have hc : W.cell? ⟨S, 0, none⟩ = some (.pointer (some ⟨T, 0, none⟩)) := (HK2.out W (hin.2 (.inr (by decide)))).1
        refine ph_sem rfl rfl (r := .ok (.value (.pointer (some ⟨T, 0, none⟩))) W) ?_ (hK _ _ (gb_rr W _) rfl)
        have eC : ∀ c, A.eval (.const c) = c := fun _ => rfl; have eF : ∀ g, A.eval (.func g) = .func (.func g) #[] #[] := fun _ => rfl; generalize A.eval = ρ at *
        clear hA hu hg hK hin
        go_simp
      | 4, hin, ho, hu, hK =>
        cases ho
        have e0 : A.eval (.tmp 0) = .pointer (some ⟨S, 0, none⟩) := ev_out hA 0 rfl
        exact ph_move _ rfl rfl (.pointer (some ⟨S, 0, none⟩)) e0 (hK _ _ (gb_rr W _) rfl)
      | 5, hin, ho, hu, hK =>
        cases ho
        have e20 : A.eval (.tmp 20) = .pointer (some ⟨S, 0, none⟩) := (ev_in hA 20 4 rfl rfl rfl).trans (show f 4 = .pointer (some ⟨S, 0, none⟩) from hu 4 (by decide))
        exact ph_nil _ rfl rfl _ e20 (hK _ _ (gb_rr W _) rfl)
      | 6, hin, ho, hu, hK =>
        cases ho
        have e21 : A.eval (.tmp 21) = .pointer (some ⟨S, 0, none⟩) := (ev_in hA 21 5 rfl rfl rfl).trans (show f 5 = .pointer (some ⟨S, 0, none⟩) from hu 5 (by decide))
        exact ph_field _ _ _ rfl rfl _ (.pointer (some ⟨S, 1, none⟩)) e21 (by kernel_rfl) (hK _ _ (gb_rr W _) rfl)
      | 7, hin, ho, hu, hK =>
        cases ho
        have e22 : A.eval (.tmp 22) = .pointer (some ⟨S, 1, none⟩) := (ev_in hA 22 6 rfl rfl rfl).trans (show f 6 = .pointer (some ⟨S, 1, none⟩) from hu 6 (by decide))
        have hc : W.cell? ⟨S, 1, none⟩ = some (.int .i64 (a : Int)) := (HK2.out W (hin.2 (.inr (by decide)))).2
        refine ph_sem rfl rfl (r := .ok (.value (.int .i64 (a : Int))) W) ?_ (hK _ _ (gb_rr W _) rfl)
        have eC : ∀ c, A.eval (.const c) = c := fun _ => rfl; have eF : ∀ g, A.eval (.func g) = .func (.func g) #[] #[] := fun _ => rfl; generalize A.eval = ρ at *
        clear hA hu hg
        go_simp
      | 8, hin, ho, hu, hK =>
        cases ho
        have e0 : A.eval (.tmp 0) = .pointer (some ⟨S, 0, none⟩) := ev_out hA 0 rfl
        exact ph_move _ rfl rfl (.pointer (some ⟨S, 0, none⟩)) e0 (hK _ _ (gb_rr W _) rfl)
      | 9, hin, ho, hu, hK =>
        cases ho
        have e24 : A.eval (.tmp 24) = .pointer (some ⟨S, 0, none⟩) := (ev_in hA 24 8 rfl rfl rfl).trans (show f 8 = .pointer (some ⟨S, 0, none⟩) from hu 8 (by decide))
        exact ph_nil _ rfl rfl _ e24 (hK _ _ (gb_rr W _) rfl)
      | 10, hin, ho, hu, hK =>
        cases ho
        have e25 : A.eval (.tmp 25) = .pointer (some ⟨S, 0, none⟩) := (ev_in hA 25 9 rfl rfl rfl).trans (show f 9 = .pointer (some ⟨S, 0, none⟩) from hu 9 (by decide))
        exact ph_field _ _ _ rfl rfl _ (.pointer (some ⟨S, 1, none⟩)) e25 (by kernel_rfl) (hK _ _ (gb_rr W _) rfl)
      | 11, hin, ho, hu, hK =>
        cases ho
        have e26 : A.eval (.tmp 26) = .pointer (some ⟨S, 1, none⟩) := (ev_in hA 26 10 rfl rfl rfl).trans (show f 10 = .pointer (some ⟨S, 1, none⟩) from hu 10 (by decide))
        have hc : W.cell? ⟨S, 1, none⟩ = some (.int .i64 (a : Int)) := (HK2.out W (hin.2 (.inr (by decide)))).2
        refine ph_sem rfl rfl (r := .ok (.value (.int .i64 (a : Int))) W) ?_ (hK _ _ (gb_rr W _) rfl)
        have eC : ∀ c, A.eval (.const c) = c := fun _ => rfl; have eF : ∀ g, A.eval (.func g) = .func (.func g) #[] #[] := fun _ => rfl; generalize A.eval = ρ at *
        clear hA hu hg
        go_simp
      | 12, hin, ho, hu, hK =>
        cases ho
        have e3 : A.eval (.tmp 3) = .slice (cutB va vc a) (n - a) (vc - a) := ev_out hA 3 rfl
        exact ph_move _ rfl rfl (.slice (cutB va vc a) (n - a) (vc - a)) e3 (hK _ _ (gb_rr W _) rfl)
      | 13, hin, ho, hu, hK =>
        cases ho
        have e28 : A.eval (.tmp 28) = .slice (cutB va vc a) (n - a) (vc - a) := (ev_in hA 28 12 rfl rfl rfl).trans (show f 12 = .slice (cutB va vc a) (n - a) (vc - a) from hu 12 (by decide))
        refine ph_fn 23 _ _ rfl rfl #[.slice (cutB va vc a) (n - a) (vc - a)] (by simp [e28]) (by kernel_rfl) ?_
        refine (Calls.mono (HTO.out W (gb_trans H2.out (hin.2 (.inr (by decide))))) ?_)
        rintro e W' ⟨rfl, hq⟩
        exact ⟨_, rfl, hK _ _ hq rfl⟩
      | 14, hin, ho, hu, hK =>
        cases ho
        have e27 : A.eval (.tmp 27) = .int .i64 (a : Int) := (ev_in hA 27 11 rfl rfl rfl).trans (show f 11 = .int .i64 (a : Int) from hu 11 (by decide))
        have e29 : A.eval (.tmp 29) = .int .i64 ((F : Int) + 14) := (ev_in hA 29 13 rfl rfl rfl).trans (show f 13 = .int .i64 ((F : Int) + 14) from hu 13 (by decide))
        have q1 := HAD.out.1
        have q2 := HAD.out.2
        refine ph_sem rfl rfl (r := .ok (.value (.int .i64 ((a : Int) + ((F : Int) + 14)))) W) ?_ (hK _ _ (gb_rr W _) rfl)
        have eC : ∀ c, A.eval (.const c) = c := fun _ => rfl; have eF : ∀ g, A.eval (.func g) = .func (.func g) #[] #[] := fun _ => rfl; generalize A.eval = ρ at *
        clear hA hu hg hK hin
        go_simp
      | 15, hin, ho, hu, hK =>
        cases ho
        have e19 : A.eval (.tmp 19) = .pointer (some ⟨T, 0, none⟩) := (ev_in hA 19 3 rfl rfl rfl).trans (show f 3 = .pointer (some ⟨T, 0, none⟩) from hu 3 (by decide))
        have e23 : A.eval (.tmp 23) = .int .i64 (a : Int) := (ev_in hA 23 7 rfl rfl rfl).trans (show f 7 = .int .i64 (a : Int) from hu 7 (by decide))
        have e30 : A.eval (.tmp 30) = .int .i64 ((a : Int) + ((F : Int) + 14)) := (ev_in hA 30 14 rfl rfl rfl).trans (show f 14 = .int .i64 ((a : Int) + ((F : Int) + 14)) from hu 14 (by decide))
        refine ph_fn 40 _ _ rfl rfl #[.pointer (some ⟨T, 0, none⟩), .int .i64 (a : Int), .int .i64 ((a : Int) + ((F : Int) + 14))] (by simp [e19, e23, e30]) (by kernel_rfl) ?_
        refine (Calls.mono (HHO.out W (gb_trans H2.out (hin.2 (.inl rfl)))) ?_)
        rintro e W' ⟨rfl, k1, k2⟩
        exact ⟨_, rfl, hK _ _ k2 ⟨rfl, k1⟩⟩
      | i + 16, hin, ho, hu, hK => omega
    case last =>
      intro f W A hA hg hu o ho K hK
      cases ho
      obtain ⟨hv15, hs15⟩ := hu 15 (by decide)
      have e31 : A.eval (.tmp 31) = .bool b := (ev_in hA 31 15 rfl rfl rfl).trans hv15
      have HSA : Hid _ := hs15
      refine ph_sem rfl rfl (r := .ok (.value (.bool (!b))) W) ?_ (hK _ _ ?_)
      · have eC : ∀ c, A.eval (.const c) = c := fun _ => rfl
        generalize A.eval = ρ at *
        clear hA hu hg hK
        go_simp
      have hA2 := hA.trans (putAll_lit [(.pointer (some ⟨S, 0, none⟩)), (.pointer (some ⟨S, 0, none⟩)), (.pointer (some ⟨S, 0, none⟩)), (.pointer (some ⟨T, 0, none⟩)), (.pointer (some ⟨S, 0, none⟩)), (.pointer (some ⟨S, 0, none⟩)), (.pointer (some ⟨S, 1, none⟩)), (.int .i64 (a : Int)), (.pointer (some ⟨S, 0, none⟩)), (.pointer (some ⟨S, 0, none⟩)), (.pointer (some ⟨S, 1, none⟩)), (.int .i64 (a : Int)), (.slice (cutB va vc a) (n - a) (vc - a)), (.int .i64 ((F : Int) + 14)), (.int .i64 ((a : Int) + ((F : Int) + 14))), (.bool b), (f 16)] (by
        intro j hj
        match j, hj with
        | 0, _ => exact hu 0 (by decide)
        | 1, _ => exact hu 1 (by decide)
        | 2, _ => exact hu 2 (by decide)
        | 3, _ => exact hu 3 (by decide)
        | 4, _ => exact hu 4 (by decide)
        | 5, _ => exact hu 5 (by decide)
        | 6, _ => exact hu 6 (by decide)
        | 7, _ => exact hu 7 (by decide)
        | 8, _ => exact hu 8 (by decide)
        | 9, _ => exact hu 9 (by decide)
        | 10, _ => exact hu 10 (by decide)
        | 11, _ => exact hu 11 (by decide)
        | 12, _ => exact hu 12 (by decide)
        | 13, _ => exact hu 13 (by decide)
        | 14, _ => exact hu 14 (by decide)
        | 15, _ => exact hv15
        | 16, _ => rfl
        | j + 17, hj => exact absurd hj (by simp)))
      clear hu hA
      subst hA2
      simp only [putAll, putL, List.mem_cons, List.not_mem_nil, List.idxOf_cons, Nat.reduceEqDiff, Nat.reduceBEq, Nat.reduceAdd, or_false, or_true, reduceIte, cond_true, cond_false, List.getD_cons_zero, List.getD_cons_succ, BEq.rfl]
      clear e31 hg hs15 hv15
      cases b with
      | false =>
        go_wp2
        go_ret
        exact ⟨rfl, HSA.out⟩
      | true =>
        go_wp2
        go_ret
        exact ⟨rfl, HSA.out⟩
  · have HMT : Hid (fmeet most ys = fbeg most ys) := by show _ = _; unfold fmeet; rw [if_neg hf]
    have hf2 : ¬ (((fbeg most ys : Nat) : Int) = 0) := by omega
    obtain ⟨E, hE⟩ : ∃ E, E = fbeg most ys := ⟨_, rfl⟩
    have hf3 : (((E : Nat) : Int) == 0) = false := by rw [hE]; simpa using hf2
    rw [← hE] at HB HMT
    rw [HMT.out]
    have HSA : Hid (∀ w', w.grownBy w' none → StrA O w T (.slice va n vc) xs w') := fun w' hg => StrA.gb ⟨u, M, hs.more, Gr.refl _ _⟩ hg
    clear h hs hOS ht h0 hn hys hyl hby HSG hf hf2 hE HMT
    go_enter Tryd.func33, Tryd.ntmps33
    have hd : ∀ q, (w.drewN q).cell? ⟨S, 3, none⟩ = some (.int .i64 (most : Int)) := fun q => (HK.out _ (drewN_gb w q)).2.2
    go_wp2_with (first
      | (go_at_call 38; go_must (refine (Calls.mono HL.out ?_)); rintro r w1 ⟨rfl, q, rfl⟩)
      | (go_at_call 22; go_must (refine (Calls.mono (HB.out _) ?_)); rintro r w2 ⟨rfl, h2⟩; have H2 : Hid _ := h2; clear h2))
    go_ret
    exact ⟨rfl, HSA.out _ H2.out⟩
end Go.Proofs.YtbfbehjldloeoaaDoor
