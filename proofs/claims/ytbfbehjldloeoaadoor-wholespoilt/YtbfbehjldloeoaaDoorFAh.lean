/-
  What stretch.ahead answers: the sum of the first bytes; it lays marks. Condition: the table of package crc lies in memory; at most 2^40 bytes.
-/
import Derived.Test.YtbfbehjldloeoaaDoorFCt
import Derived.Test.YtbfbehjldloeoaaDoorFSm
import Derived.Test.YtbfbehjldloeoaaDoorFDe
import Derived.Test.YtbfbehjldloeoaaDoorRLg
import Derived.Test.YtbfbehjldloeoaaDoorTSf
import Derived.Deep.AppendLies
namespace Go.Proofs.YtbfbehjldloeoaaDoor
set_option linter.unusedVariables false
open Go.RowKit

theorem own_segv {w : World} {va : Option Addr} {n vc : Nat} {xs : List Int} (h : Own 0 w (.slice va n vc) n xs) : Seg .u8 w va n xs ∧ (va = none → vc = 0) ∧ n ≤ vc := by
  obtain ⟨a, c, e, h1, h2, h3⟩ := h.seg
  cases e
  exact ⟨h1, h2, h3⟩
theorem own_shape {w : World} {B : Nat} {T : TypeId} {sz : Nat} {v : Value} {n : Nat} {xs : List Value} (h : w.ownsRow B T sz v n xs) : (∃ a c, v = .slice a n c) ∧ (0 < n → ∃ g c, v = .slice (some ⟨g, 0, none⟩) n c) := by
  rcases h.2 with ⟨rfl, rfl⟩ | ⟨g, cap, cur, rfl, _⟩
  · exact ⟨⟨_, _, rfl⟩, fun h => by omega⟩
  · exact ⟨⟨_, _, rfl⟩, fun _ => ⟨_, _, rfl⟩⟩
theorem Tryd.infoU32 : (Tryd.prog.info? 23).map (fun i => (i.zero, i.size, i.bytes)) = some (some (.int .u32 0), 1, 4) := by kernel_rfl
/-- One mark more. -/
theorem str_app {O : Nat → Prop} {w wr W : World} {T : Nat} {v : Value} {ua : Option Addr} {k uc G C : Nat} {xs : List Int} (hs : Str (fun b => O b ∨ w.heap.size ≤ b) wr T v (.slice ua k uc) xs k) (hgr : Gr O w wr) (hg : wr.grownBy W (Value.slice ua k uc).ownBlock)
    (ho : W.ownsRow 0 23 1 (.slice (some ⟨G, 0, none⟩) (k + 1) C) (k + 1) (mks xs (k + 1))) (hG : (Value.slice ua k uc).ownBlock = some G ∨ wr.heap.size ≤ G) (hk : 64 * k ≤ xs.length) (hoT : O T) :
    Str (fun b => O b ∨ w.heap.size ≤ b) (W.setCell ⟨T, 1, none⟩ (.slice (some ⟨G, 0, none⟩) (k + 1) C)) T v (.slice (some ⟨G, 0, none⟩) (k + 1) C) xs (k + 1) ∧ Gr O w (W.setCell ⟨T, 1, none⟩ (.slice (some ⟨G, 0, none⟩) (k + 1) C)) := by
  have hT := lt_of_block hs.bk
  have hGT : G ≠ T := by
    rcases hG with z | z
    · exact fun e => hs.n2 (by rw [z, e])
    · omega
  have hset : Gr (fun b => b = T) W (W.setCell ⟨T, 1, none⟩ (.slice (some ⟨G, 0, none⟩) (k + 1) C)) := (Gr.refl (fun b => b = T) W).set T 1 rfl _
  have hgW : Gr (fun b => (Value.slice ua k uc).ownBlock = some b) wr W := Gr.of hg (fun b hb => .inl hb)
  refine ⟨⟨?_, ?_, ?_, .inr (by omega), hs.hx, hs.n1, ?_, ?_, hs.oT, hs.ov, ?_⟩, ?_⟩
  · exact Bk.set (hs.bk.gr hgW hs.n2) 1 _
  · exact own_gr (own_gr hs.ob hgW (fun b hb => hs.n3 b hb)) hset (fun b hb e => hs.n1 (by rw [hb, e]))
  · exact own_gr ho hset (fun b hb e => hGT (by cases hb; exact e))
  · exact fun e => hGT (by cases e; rfl)
  · intro b hb e
    have e' : G = b := Option.some.inj e
    rcases hG with z | z
    · exact hs.n3 b hb (by rw [z, e'])
    · have := (own_lt hs.ob b hb).2; omega
  · intro b hb
    have e' : G = b := Option.some.inj hb
    rcases hG with z | z
    · exact hs.ou b (by rw [z, e'])
    · have := hgr.size; exact .inr (by omega)
  · refine (hgr.then hgW (fun i hi e => ?_)).then hset (fun i hi e => by rw [e]; exact hoT)
    rcases hs.ou i e with z | z
    · exact z
    · omega
set_option maxRecDepth 20000 in
set_option maxHeartbeats 4000000 in
theorem ahead_c (O : Nat → Prop) (T : Nat) (v u : Value) (xs : List Int) (M en : Nat) (w : World) (h : Str O w T v u xs M) (ht : Tab w) (h0 : ¬ O 0) (he : en ≤ xs.length) (hl : xs.length ≤ 1099511627776) :
    Calls Tryd.prog 43 #[.pointer (some ⟨T, 0, none⟩), .int .i64 (en : Int)] w fun r w' => r = .returned (.int .u32 (W (sum (xs.take en)))) ∧ ∃ u' M', Str (fun b => O b ∨ w.heap.size ≤ b) w' T v u' xs M' ∧ Gr O w w' := by
  obtain ⟨n, hn⟩ : ∃ n, n = xs.length := ⟨_, rfl⟩
  obtain ⟨va, vc, rfl, _, _, hvc⟩ := h.ob.seg
  rw [← hn] at h hvc he hl ⊢
  have HOT : Hid (O T ∧ ¬ O 0 ∧ n = xs.length ∧ en ≤ n) := ⟨h.oT, h0, hn, he⟩
  obtain ⟨L, hL⟩ : ∃ L, L = en / 64 := ⟨_, rfl⟩
  have hq : Int.tdiv (en : Int) 64 = (L : Int) := by rw [Int.tdiv_eq_ediv_of_nonneg (by omega), hL]; omega
  have hq2 : (en : Int) / 64 = (L : Int) := by rw [hL]; omega
  have HL : Hid (64 * L ≤ en ∧ en < 64 * L + 64) := ⟨by omega, by omega⟩
  have hLn : L ≤ 17179869184 := by omega
  have HS0 : Hid (Str (fun b => O b ∨ w.heap.size ≤ b) w T (.slice va n vc) u xs M) := h.more
  obtain ⟨ua, uc, rfl⟩ := (own_shape h.om).1
  have c0 : w.cell? ⟨T, 0, none⟩ = some (.slice va n vc) := h.bk.cell 0
  have c1 : w.cell? ⟨T, 1, none⟩ = some (.slice ua M uc) := h.bk.cell 1
  have f1 : w.frozen? ⟨T, 1, none⟩ = false := frozen_of_row w T 1 _ _ h.bk
  have HT : Hid (∀ W, Gr O w W → Tab W) := fun W hg => ht.gr hg h0
  clear h ht h0 hn hL he
  cases M with
  | zero =>
    have HK3 : Hid (∀ W, w.grownBy W (Value.slice ua 0 uc).ownBlock → W.cell? ⟨T, 1, none⟩ = some (.slice ua 0 uc)) := fun W hg => (Bk.grew HS0.out.bk hg (fun e => HS0.out.n2 e)).cell 1
    have HR3 : Hid (∀ W, w.grownBy W none → W.ownsRow 0 23 1 (.slice ua 0 uc) 0 (mks xs 0) ∧ Tab W) := fun W hg => ⟨own_gr HS0.out.om (Gr.of (G := fun _ => False) hg (by simp)) (fun _ _ z => z), HT.out W (Gr.of hg (by simp))⟩
    go_enter Tryd.func43, Tryd.ntmps43
    go_wp2_with fail
    have HUB : Hid (∀ b, (Value.slice ua 0 uc).ownBlock = some b → b < w.heap.size) := fun b hb => (own_lt HS0.out.om b hb).2
    refine wp_region_lastB (fun a b => World.grownBy a b ((Value.slice ua 0 uc).ownBlock)) (fun a b => World.grownBy a b none) (fun a b => World.grownBy a b ((Value.slice ua 0 uc).ownBlock)) (fun _ _ _ h k => gb_trans h k) (fun _ _ h => gb_wide h _) (fun _ _ h => h) ⟨rfl, rfl, rfl, Nat.le_refl _, fun _ _ _ => rfl⟩ (fun _ _ _ h k => gb_trans h k) ⟨rfl, rfl, rfl, Nat.le_refl _, fun _ _ _ => rfl⟩ 10 7 rfl (by kernel_rfl) [15, 16, 17, 18, 19, 20, 21, 22, 23, 24, 100010] [[], [], [1], [2], [3], [], [5], [4, 6], [0], [8], [9, 7]] (by kernel_rfl) (by kernel_rfl) [1, 2, 3, 4, 5, 6] (by kernel_rfl) [fun u W => u = .pointer (some ⟨T, 0, none⟩), fun u W => u = .pointer (some ⟨T, 0, none⟩), fun u W => u = .pointer (some ⟨T, 0, none⟩), fun u W => u = .pointer (some ⟨T, 1, none⟩), fun u W => u = .slice ua 0 uc, fun u W => u = .int .u32 (Go.Proofs.YtbfbehjldloeoaaDoor.W (sum (xs.take (64 * 0)))), fun u Wo => ∃ B, u = .slice (some ⟨B, 0, none⟩) 1 1 ∧ Wo.cell? ⟨B, 0, none⟩ = some (.int .u32 (Go.Proofs.YtbfbehjldloeoaaDoor.W (sum (xs.take (64 * 0))))) ∧ w.heap.size ≤ B ∧ B < Wo.heap.size, fun u Wo => ∃ G C, u = .slice (some ⟨G, 0, none⟩) (0 + 1) C ∧ Wo.ownsRow 0 23 1 (.slice (some ⟨G, 0, none⟩) (0 + 1) C) (0 + 1) (mks xs (0 + 1)) ∧ ((Value.slice ua 0 uc).ownBlock = some G ∨ w.heap.size ≤ G), fun u W => u = .pointer (some ⟨T, 0, none⟩), fun u W => u = .pointer (some ⟨T, 1, none⟩)] ?stable ?stableA ?step ?last
    case stable =>
      intro i v W W' h hg
      match i, h with
      | 0, h => exact h
      | 1, h => exact h
      | 2, h => exact h
      | 3, h => exact h
      | 4, h => exact h
      | 5, h => exact h
      | 6, h => obtain ⟨B, h1, h2, h3, h4⟩ := h; exact ⟨B, h1, ((gb_below hg).cell (p := ⟨B, 0, none⟩) h4).trans h2, h3, Nat.lt_of_lt_of_le h4 hg.size⟩
      | 7, h => obtain ⟨G, C, h1, h2, h3⟩ := h; exact ⟨G, C, h1, own_gr h2 (Gr.of (G := fun _ => False) hg (by simp)) (fun _ _ z => z), h3⟩
      | 8, h => exact h
      | 9, h => exact h
      | i + 10, h => exact trivial
    case stableA =>
      intro i v W W' hne hnu h hg
      match i, hne, h with
      | 0, _, h => exact h
      | 1, _, h => exact h
      | 2, _, h => exact h
      | 3, _, h => exact h
      | 4, _, h => exact h
      | 5, _, h => exact h
      | 6, _, h => obtain ⟨B, h1, h2, h3, h4⟩ := h; exact ⟨B, h1, (World.cell?_of_block (w := W) (w' := W') (a := ⟨B, 0, none⟩) (hg.block B h4 (fun e => by have := HUB.out B e.symm; omega))).trans h2, h3, Nat.lt_of_lt_of_le h4 hg.size⟩
      | 7, hne, _ => exact absurd rfl hne
      | 8, _, h => exact h
      | 9, _, h => exact h
      | i + 10, _, h => exact trivial
    case step =>
      intro f W A hA hg i o hin ho hu K hK
      match i, hin, ho, hu, hK with
      | 0, hin, ho, hu, hK =>
        cases ho
        have e0 : A.eval (.tmp 0) = .pointer (some ⟨T, 0, none⟩) := ev_out hA 0 rfl
        exact ph_move _ rfl rfl (.pointer (some ⟨T, 0, none⟩)) e0 (hK _ _ (gb_rr W _) rfl)
      | 1, hin, ho, hu, hK =>
        cases ho
        have e0 : A.eval (.tmp 0) = .pointer (some ⟨T, 0, none⟩) := ev_out hA 0 rfl
        exact ph_move _ rfl rfl (.pointer (some ⟨T, 0, none⟩)) e0 (hK _ _ (gb_rr W _) rfl)
      | 2, hin, ho, hu, hK =>
        cases ho
        have e16 : A.eval (.tmp 16) = .pointer (some ⟨T, 0, none⟩) := (ev_in hA 16 1 rfl rfl rfl).trans (show f 1 = .pointer (some ⟨T, 0, none⟩) from hu 1 (by decide))
        exact ph_nil _ rfl rfl _ e16 (hK _ _ (gb_rr W _) rfl)
      | 3, hin, ho, hu, hK =>
        cases ho
        have e17 : A.eval (.tmp 17) = .pointer (some ⟨T, 0, none⟩) := (ev_in hA 17 2 rfl rfl rfl).trans (show f 2 = .pointer (some ⟨T, 0, none⟩) from hu 2 (by decide))
        exact ph_field _ _ _ rfl rfl _ (.pointer (some ⟨T, 1, none⟩)) e17 (by kernel_rfl) (hK _ _ (gb_rr W _) rfl)
      | 4, hin, ho, hu, hK =>
        cases ho
        have e18 : A.eval (.tmp 18) = .pointer (some ⟨T, 1, none⟩) := (ev_in hA 18 3 rfl rfl rfl).trans (show f 3 = .pointer (some ⟨T, 1, none⟩) from hu 3 (by decide))
        have hc : W.cell? ⟨T, 1, none⟩ = some (.slice ua 0 uc) := HK3.out W hg
        refine ph_sem rfl rfl (r := .ok (.value (.slice ua 0 uc)) W) ?_ (hK _ _ (gb_rr W _) rfl)
        have eC : ∀ c, A.eval (.const c) = c := fun _ => rfl; have eF : ∀ g, A.eval (.func g) = .func (.func g) #[] #[] := fun _ => rfl; generalize A.eval = ρ at *
        clear hA hu hg
        go_simp
      | 5, hin, ho, hu, hK =>
        cases ho
        refine ph_fn 27 _ _ rfl rfl #[.slice none 0 0] (by simp [show A.eval (.const (.slice none 0 0)) = .slice none 0 0 from rfl]) (by kernel_rfl) ?_
        refine (Calls.mono (sum_c none 0 0 [] W (segs_nil W none) (HR3.out W (hin.2 (.inr (by decide)))).2 (by decide)) ?_)
        rintro e W' ⟨rfl, rfl⟩
        exact ⟨_, rfl, hK _ _ (gb_rr _ _) rfl⟩
      | 6, hin, ho, hu, hK =>
        cases ho
        have e20 : A.eval (.tmp 20) = .int .u32 (Go.Proofs.YtbfbehjldloeoaaDoor.W (sum (xs.take (64 * 0)))) := (ev_in hA 20 5 rfl rfl rfl).trans (show f 5 = .int .u32 (Go.Proofs.YtbfbehjldloeoaaDoor.W (sum (xs.take (64 * 0)))) from hu 5 (by decide))
        refine ph_sem rfl rfl (r := .ok (.value (.slice (some ⟨W.heap.size, 0, none⟩) 1 1)) (W.alloc (.cells #[.int .u32 (Go.Proofs.YtbfbehjldloeoaaDoor.W (sum (xs.take (64 * 0))))] 23))) ?_ (hK _ _ (World.grownBy_alloc _ _ _) ⟨_, rfl, by rw [World.cell?_alloc_new]; rfl, hg.size, by simp⟩)
        have eC : ∀ c, A.eval (.const c) = c := fun _ => rfl; have eF : ∀ g, A.eval (.func g) = .func (.func g) #[] #[] := fun _ => rfl; generalize A.eval = ρ at *
        clear hA hu hg hK hin
        go_simp
      | 7, hin, ho, hu, hK =>
        cases ho
        have e19 : A.eval (.tmp 19) = .slice ua 0 uc := (ev_in hA 19 4 rfl rfl rfl).trans (show f 4 = .slice ua 0 uc from hu 4 (by decide))
        obtain ⟨B, hv6, hr6, hm6, hl6⟩ := hu 6 (by decide)
        have e21 : A.eval (.tmp 21) = .slice (some ⟨B, 0, none⟩) 1 1 := (ev_in hA 21 6 rfl rfl rfl).trans hv6
        obtain ⟨i3, hi3, hz3, hs3, hb3⟩ := info_parts' Tryd.infoU32
        refine step_append_lies _ rfl (.tmp 19) (.tmp 21) 47 rfl 0 23 i3 (.int .u32 0) 1 4 Tryd.underlying47 hi3 hz3 hs3 hb3 rfl (by decide) (.slice ua 0 uc) (0) (mks xs (0)) e19 ((HR3.out W (hin.2 (.inl rfl))).1) ⟨B, 0, none⟩ 1 1 [.int .u32 (Go.Proofs.YtbfbehjldloeoaaDoor.W (sum (xs.take (64 * 0))))] e21 rfl (fun j u hj => by match j, hj with | 0, hj => (rw [Go.WideShapes.add_plain]; cases hj; exact hr6)) (by intro u hu; simp at hu; rw [hu]; rfl) (by decide) (by unfold maxLen; omega) (by omega) (Nat.zero_le _) _ rfl ?_
        intro G C W2 k1 k2 k3 k4
        exact hK _ _ k2 ⟨G, C, rfl, by rw [mks_snoc]; exact k1, k3.imp id (fun e => by rw [e]; exact hg.size)⟩
      | 8, hin, ho, hu, hK =>
        cases ho
        have e15 : A.eval (.tmp 15) = .pointer (some ⟨T, 0, none⟩) := (ev_in hA 15 0 rfl rfl rfl).trans (show f 0 = .pointer (some ⟨T, 0, none⟩) from hu 0 (by decide))
        exact ph_nil _ rfl rfl _ e15 (hK _ _ (gb_rr W _) rfl)
      | 9, hin, ho, hu, hK =>
        cases ho
        have e23 : A.eval (.tmp 23) = .pointer (some ⟨T, 0, none⟩) := (ev_in hA 23 8 rfl rfl rfl).trans (show f 8 = .pointer (some ⟨T, 0, none⟩) from hu 8 (by decide))
        exact ph_field _ _ _ rfl rfl _ (.pointer (some ⟨T, 1, none⟩)) e23 (by kernel_rfl) (hK _ _ (gb_rr W _) rfl)
      | i + 10, hin, ho, hu, hK => omega
    case last =>
      intro f W A hA hg hu o ho K hK
      cases ho
      obtain ⟨G, C, hv7, ho7, hG7⟩ := hu 7 (by decide)
      obtain ⟨B, hv6, _, _, _⟩ := hu 6 (by decide)
      have e22 : A.eval (.tmp 22) = .slice (some ⟨G, 0, none⟩) (0 + 1) C := (ev_in hA 22 7 rfl rfl rfl).trans hv7
      have e24 : A.eval (.tmp 24) = .pointer (some ⟨T, 1, none⟩) := (ev_in hA 24 9 rfl rfl rfl).trans (show f 9 = .pointer (some ⟨T, 1, none⟩) from hu 9 (by decide))
      have hcc : W.cell? ⟨T, 1, none⟩ = some (.slice ua 0 uc) := HK3.out W hg
      have hff : W.frozen? ⟨T, 1, none⟩ = false := frozen_of_row W T 1 _ _ (Bk.grew HS0.out.bk hg (fun e => HS0.out.n2 e))
      refine ph_sem rfl rfl (r := .ok .skip (W.setCell ⟨T, 1, none⟩ (.slice (some ⟨G, 0, none⟩) (0 + 1) C))) ?_ (hK _ _ ?_)
      · have eC : ∀ c, A.eval (.const c) = c := fun _ => rfl
        generalize A.eval = ρ at *
        clear hA hu hg hK
        go_simp
      have H1 : Hid _ := str_app HS0.out (Gr.refl O w) hg ho7 hG7 (Nat.zero_le _) HOT.out.1
      have hA2 := hA.trans (putAll_lit [(.pointer (some ⟨T, 0, none⟩)), (.pointer (some ⟨T, 0, none⟩)), (.pointer (some ⟨T, 0, none⟩)), (.pointer (some ⟨T, 1, none⟩)), (.slice ua 0 uc), (.int .u32 (Go.Proofs.YtbfbehjldloeoaaDoor.W (sum (xs.take (64 * 0))))), (.slice (some ⟨B, 0, none⟩) 1 1), (.slice (some ⟨G, 0, none⟩) (0 + 1) C), (.pointer (some ⟨T, 0, none⟩)), (.pointer (some ⟨T, 1, none⟩)), (f 10)] (by
        intro j hj
        match j, hj with
        | 0, _ => exact hu 0 (by decide)
        | 1, _ => exact hu 1 (by decide)
        | 2, _ => exact hu 2 (by decide)
        | 3, _ => exact hu 3 (by decide)
        | 4, _ => exact hu 4 (by decide)
        | 5, _ => exact hu 5 (by decide)
        | 6, _ => exact hv6
        | 7, _ => exact hv7
        | 8, _ => exact hu 8 (by decide)
        | 9, _ => exact hu 9 (by decide)
        | 10, _ => rfl
        | j + 11, hj => exact absurd hj (by simp)))
      clear hu hA
      subst hA2
      simp only [putAll, putL, List.mem_cons, List.not_mem_nil, List.idxOf_cons, Nat.reduceEqDiff, Nat.reduceBEq, Nat.reduceAdd, or_false, or_true, reduceIte, cond_true, cond_false, List.getD_cons_zero, List.getD_cons_succ, BEq.rfl]
      clear hg ho7 hG7 hv7 hv6 e22 e24 hcc hff HK3 HR3
      generalize W.setCell ⟨T, 1, none⟩ _ = W9 at H1 ⊢
      have c3 : W9.cell? ⟨T, 1, none⟩ = some (.slice (some ⟨G, 0, none⟩) (0 + 1) C) := H1.out.1.bk.cell 1
      clear c0 c1 f1 HS0 HUB
      go_wp2_with fail
      go_loopw [6] (fun i wr => ∃ (k g uc : Nat), i = .int .i64 ((k : Int) + 1) ∧ Hid (Str (fun b => O b ∨ w.heap.size ≤ b) wr T (.slice va n vc) (.slice (some ⟨g, 0, none⟩) (k + 1) uc) xs (k + 1) ∧ Gr O w wr)) (fun i _ => L + 1 - (intOf i).toNat)
      case atStart => exact ⟨0, G, C, rfl, H1.out⟩
      case round =>
        clear H1 c3
        obtain ⟨k, g, uc, rfl, hr⟩ := hrel
        have hkb : k ≤ 17179869184 := by have := hr.out.1.hM; have := HOT.out.2.2.1; omega
        by_cases hlt : k + 1 ≤ L
        · have hc : (k : Int) + 1 ≤ (L : Int) := by omega
          have hkx : 64 * (k + 1) ≤ n := by have := HL.out; have := HOT.out; omega
          have HK7 : Hid (∀ W, wr.grownBy W (some g) → W.cell? ⟨T, 0, none⟩ = some (.slice va n vc) ∧ W.cell? ⟨T, 1, none⟩ = some (.slice (some ⟨g, 0, none⟩) (k + 1) uc) ∧ W.frozen? ⟨T, 1, none⟩ = false) := fun W hg => by
            have hb := Bk.grew hr.out.1.bk hg hr.out.1.n2
            exact ⟨hb.cell 0, hb.cell 1, frozen_of_row W T 1 _ _ hb⟩
          have HR7 : Hid (∀ W, wr.grownBy W none → W.ownsRow 0 23 1 (.slice (some ⟨g, 0, none⟩) (k + 1) uc) (k + 1) (mks xs (k + 1)) ∧ Tab W ∧ Seg .u8 W (cutB va vc (64 * k)) 64 ((xs.take (64 * k + 64)).drop (64 * k)) ∧ W.cell? ⟨g, k, none⟩ = some (.int .u32 (Go.Proofs.YtbfbehjldloeoaaDoor.W (sum (xs.take (64 * k)))))) := fun W hg => by
            have hG : Gr (fun _ => False) wr W := Gr.of hg (by simp)
            have ho := own_gr hr.out.1.om hG (fun _ _ z => z)
            have hb := own_gr hr.out.1.ob hG (fun _ _ z => z)
            rw [← HOT.out.2.2.1] at hb
            have hs := (own_segv hb).1
            refine ⟨ho, HT.out W (hr.out.2.then hG (fun _ _ z => z.elim)), ?_, ?_⟩
            · have := seg_cutB hs (64 * k) (64 * k + 64) (by omega) (by omega) hvc
              rw [show 64 * k + 64 - 64 * k = 64 from by omega] at this
              exact this
            · rw [ho.cellAt k (by omega)]
              exact mks_get xs (k + 1) k (by omega)
          have HB7 : Hid (Bytes ((xs.take (64 * k + 64)).drop (64 * k)) ∧ ~~~ (reg (~~~ (sum (xs.take (64 * k)))) ((xs.take (64 * k + 64)).drop (64 * k))) = sum (xs.take (64 * (k + 1)))) := ⟨(hr.out.1.hx.take _).drop _, by rw [sum_more xs (64 * k) (64 * k + 64) (by omega) (by have := HOT.out.2.2.1; omega)]; congr 1⟩
          have hslc := slice_blh va n vc (64 * k) (64 * k + 64) (by omega) (by omega)
          rw [show 64 * k + 64 - 64 * k = 64 from by omega, show ((64 * k : Nat) : Int) = (k : Int) * 64 from by omega, show ((64 * k + 64 : Nat) : Int) = ((k : Int) + 1) * 64 from by omega] at hslc
          replace hslc : Hid _ := hslc
          have HW7 : Hid (wrap64 ((k : Int) * 64) = (k : Int) * 64 ∧ IntKind.i64.wrap ((k : Int) * 64) = (k : Int) * 64 ∧ wrap64 (((k : Int) + 1) * 64) = ((k : Int) + 1) * 64 ∧ IntKind.i64.wrap (((k : Int) + 1) * 64) = ((k : Int) + 1) * 64 ∧ wrap64 (k : Int) = (k : Int) ∧ IntKind.i64.wrap (k : Int) = (k : Int) ∧ ((k : Int) + 1 - 1 = k)) := ⟨IntWalk.wrap64_in _ ⟨by omega, by omega⟩, IntWalk.i64_in _ ⟨by omega, by omega⟩, IntWalk.wrap64_in _ ⟨by omega, by omega⟩, IntWalk.i64_in _ ⟨by omega, by omega⟩, IntWalk.wrap64_in _ ⟨by omega, by omega⟩, IntWalk.i64_in _ ⟨by omega, by omega⟩, by omega⟩
          have HKX : Hid (64 * (k + 1) ≤ xs.length) := by have := HOT.out.2.2.1; show _ ≤ _; omega
          clear hkx
          go_wp2_with fail
          have HUB : Hid (∀ b, some g = some b → b < wr.heap.size) := fun b hb => (own_lt hr.out.1.om b hb).2
          refine wp_region_lastB (fun a b => World.grownBy a b (some g)) (fun a b => World.grownBy a b none) (fun a b => World.grownBy a b (some g)) (fun _ _ _ h k => gb_trans h k) (fun _ _ h => gb_wide h _) (fun _ _ h => h) ⟨rfl, rfl, rfl, Nat.le_refl _, fun _ _ _ => rfl⟩ (fun _ _ _ h k => gb_trans h k) ⟨rfl, rfl, rfl, Nat.le_refl _, fun _ _ _ => rfl⟩ 28 25 rfl (by kernel_rfl) [35, 36, 37, 38, 39, 40, 41, 42, 43, 44, 45, 46, 47, 48, 49, 50, 51, 52, 53, 54, 55, 56, 57, 58, 59, 60, 61, 62, 100028] [[], [], [1], [2], [3], [], [5], [6], [7], [], [9], [8, 10], [11], [], [13], [14], [15], [], [17], [18], [], [20], [16, 19, 21], [12, 22], [23], [4, 24], [0], [26], [27, 25]] (by kernel_rfl) (by kernel_rfl) [1, 2, 3, 4, 5, 6, 7, 8, 9, 10, 11, 12, 13, 14, 15, 16, 17, 18, 19, 20, 21, 22, 23, 24] (by kernel_rfl) [fun u W => u = .pointer (some ⟨T, 0, none⟩), fun u W => u = .pointer (some ⟨T, 0, none⟩), fun u W => u = .pointer (some ⟨T, 0, none⟩), fun u W => u = .pointer (some ⟨T, 1, none⟩), fun u W => u = .slice (some ⟨g, 0, none⟩) (k + 1) uc, fun u W => u = .pointer (some ⟨T, 0, none⟩), fun u W => u = .pointer (some ⟨T, 0, none⟩), fun u W => u = .pointer (some ⟨T, 1, none⟩), fun u W => u = .slice (some ⟨g, 0, none⟩) (k + 1) uc, fun u W => u = .int .i64 ((k : Int) + 1), fun u W => u = .int .i64 (k : Int), fun u W => u = .pointer (some ⟨g, k, none⟩), fun u W => u = .int .u32 (Go.Proofs.YtbfbehjldloeoaaDoor.W (sum (xs.take (64 * k)))), fun u W => u = .pointer (some ⟨T, 0, none⟩), fun u W => u = .pointer (some ⟨T, 0, none⟩), fun u W => u = .pointer (some ⟨T, 0, none⟩), fun u W => u = .slice va n vc, fun u W => u = .int .i64 ((k : Int) + 1), fun u W => u = .int .i64 (k : Int), fun u W => u = .int .i64 ((k : Int) * 64), fun u W => u = .int .i64 ((k : Int) + 1), fun u W => u = .int .i64 (((k : Int) + 1) * 64), fun u W => u = .slice (cutB va vc (64 * k)) 64 (vc - 64 * k), fun u W => u = .int .u32 (Go.Proofs.YtbfbehjldloeoaaDoor.W (sum (xs.take (64 * (k + 1))))), fun u Wo => ∃ B, u = .slice (some ⟨B, 0, none⟩) 1 1 ∧ Wo.cell? ⟨B, 0, none⟩ = some (.int .u32 (Go.Proofs.YtbfbehjldloeoaaDoor.W (sum (xs.take (64 * (k + 1)))))) ∧ wr.heap.size ≤ B ∧ B < Wo.heap.size, fun u Wo => ∃ G C, u = .slice (some ⟨G, 0, none⟩) (k + 1 + 1) C ∧ Wo.ownsRow 0 23 1 (.slice (some ⟨G, 0, none⟩) (k + 1 + 1) C) (k + 1 + 1) (mks xs (k + 1 + 1)) ∧ (some g = some G ∨ wr.heap.size ≤ G), fun u W => u = .pointer (some ⟨T, 0, none⟩), fun u W => u = .pointer (some ⟨T, 1, none⟩)] ?stable ?stableA ?step ?last
          case stable =>
            intro i v W W' h hg
            match i, h with
            | 0, h => exact h
            | 1, h => exact h
            | 2, h => exact h
            | 3, h => exact h
            | 4, h => exact h
            | 5, h => exact h
            | 6, h => exact h
            | 7, h => exact h
            | 8, h => exact h
            | 9, h => exact h
            | 10, h => exact h
            | 11, h => exact h
            | 12, h => exact h
            | 13, h => exact h
            | 14, h => exact h
            | 15, h => exact h
            | 16, h => exact h
            | 17, h => exact h
            | 18, h => exact h
            | 19, h => exact h
            | 20, h => exact h
            | 21, h => exact h
            | 22, h => exact h
            | 23, h => exact h
            | 24, h => obtain ⟨B, h1, h2, h3, h4⟩ := h; exact ⟨B, h1, ((gb_below hg).cell (p := ⟨B, 0, none⟩) h4).trans h2, h3, Nat.lt_of_lt_of_le h4 hg.size⟩
            | 25, h => obtain ⟨G, C, h1, h2, h3⟩ := h; exact ⟨G, C, h1, own_gr h2 (Gr.of (G := fun _ => False) hg (by simp)) (fun _ _ z => z), h3⟩
            | 26, h => exact h
            | 27, h => exact h
            | i + 28, h => exact trivial
          case stableA =>
            intro i v W W' hne hnu h hg
            match i, hne, h with
            | 0, _, h => exact h
            | 1, _, h => exact h
            | 2, _, h => exact h
            | 3, _, h => exact h
            | 4, _, h => exact h
            | 5, _, h => exact h
            | 6, _, h => exact h
            | 7, _, h => exact h
            | 8, _, h => exact h
            | 9, _, h => exact h
            | 10, _, h => exact h
            | 11, _, h => exact h
            | 12, _, h => exact h
            | 13, _, h => exact h
            | 14, _, h => exact h
            | 15, _, h => exact h
            | 16, _, h => exact h
            | 17, _, h => exact h
            | 18, _, h => exact h
            | 19, _, h => exact h
            | 20, _, h => exact h
            | 21, _, h => exact h
            | 22, _, h => exact h
            | 23, _, h => exact h
            | 24, _, h => obtain ⟨B, h1, h2, h3, h4⟩ := h; exact ⟨B, h1, (World.cell?_of_block (w := W) (w' := W') (a := ⟨B, 0, none⟩) (hg.block B h4 (fun e => by have := HUB.out B e.symm; omega))).trans h2, h3, Nat.lt_of_lt_of_le h4 hg.size⟩
            | 25, hne, _ => exact absurd rfl hne
            | 26, _, h => exact h
            | 27, _, h => exact h
            | i + 28, _, h => exact trivial
          case step =>
            intro f W A hA hg i o hin ho hu K hK
            match i, hin, ho, hu, hK with
            | 0, hin, ho, hu, hK =>
              cases ho
              have e0 : A.eval (.tmp 0) = .pointer (some ⟨T, 0, none⟩) := ev_out hA 0 rfl
              exact ph_move _ rfl rfl (.pointer (some ⟨T, 0, none⟩)) e0 (hK _ _ (gb_rr W _) rfl)
            | 1, hin, ho, hu, hK =>
              cases ho
              have e0 : A.eval (.tmp 0) = .pointer (some ⟨T, 0, none⟩) := ev_out hA 0 rfl
              exact ph_move _ rfl rfl (.pointer (some ⟨T, 0, none⟩)) e0 (hK _ _ (gb_rr W _) rfl)
            | 2, hin, ho, hu, hK =>
              cases ho
              have e36 : A.eval (.tmp 36) = .pointer (some ⟨T, 0, none⟩) := (ev_in hA 36 1 rfl rfl rfl).trans (show f 1 = .pointer (some ⟨T, 0, none⟩) from hu 1 (by decide))
              exact ph_nil _ rfl rfl _ e36 (hK _ _ (gb_rr W _) rfl)
            | 3, hin, ho, hu, hK =>
              cases ho
              have e37 : A.eval (.tmp 37) = .pointer (some ⟨T, 0, none⟩) := (ev_in hA 37 2 rfl rfl rfl).trans (show f 2 = .pointer (some ⟨T, 0, none⟩) from hu 2 (by decide))
              exact ph_field _ _ _ rfl rfl _ (.pointer (some ⟨T, 1, none⟩)) e37 (by kernel_rfl) (hK _ _ (gb_rr W _) rfl)
            | 4, hin, ho, hu, hK =>
              cases ho
              have e38 : A.eval (.tmp 38) = .pointer (some ⟨T, 1, none⟩) := (ev_in hA 38 3 rfl rfl rfl).trans (show f 3 = .pointer (some ⟨T, 1, none⟩) from hu 3 (by decide))
              have hc : W.cell? ⟨T, 1, none⟩ = some (.slice (some ⟨g, 0, none⟩) (k + 1) uc) := (HK7.out W hg).2.1
              refine ph_sem rfl rfl (r := .ok (.value (.slice (some ⟨g, 0, none⟩) (k + 1) uc)) W) ?_ (hK _ _ (gb_rr W _) rfl)
              have eC : ∀ c, A.eval (.const c) = c := fun _ => rfl; have eF : ∀ g, A.eval (.func g) = .func (.func g) #[] #[] := fun _ => rfl; generalize A.eval = ρ at *
              clear hA hu hg
              go_simp
            | 5, hin, ho, hu, hK =>
              cases ho
              have e0 : A.eval (.tmp 0) = .pointer (some ⟨T, 0, none⟩) := ev_out hA 0 rfl
              exact ph_move _ rfl rfl (.pointer (some ⟨T, 0, none⟩)) e0 (hK _ _ (gb_rr W _) rfl)
            | 6, hin, ho, hu, hK =>
              cases ho
              have e40 : A.eval (.tmp 40) = .pointer (some ⟨T, 0, none⟩) := (ev_in hA 40 5 rfl rfl rfl).trans (show f 5 = .pointer (some ⟨T, 0, none⟩) from hu 5 (by decide))
              exact ph_nil _ rfl rfl _ e40 (hK _ _ (gb_rr W _) rfl)
            | 7, hin, ho, hu, hK =>
              cases ho
              have e41 : A.eval (.tmp 41) = .pointer (some ⟨T, 0, none⟩) := (ev_in hA 41 6 rfl rfl rfl).trans (show f 6 = .pointer (some ⟨T, 0, none⟩) from hu 6 (by decide))
              exact ph_field _ _ _ rfl rfl _ (.pointer (some ⟨T, 1, none⟩)) e41 (by kernel_rfl) (hK _ _ (gb_rr W _) rfl)
            | 8, hin, ho, hu, hK =>
              cases ho
              have e42 : A.eval (.tmp 42) = .pointer (some ⟨T, 1, none⟩) := (ev_in hA 42 7 rfl rfl rfl).trans (show f 7 = .pointer (some ⟨T, 1, none⟩) from hu 7 (by decide))
              have hc : W.cell? ⟨T, 1, none⟩ = some (.slice (some ⟨g, 0, none⟩) (k + 1) uc) := (HK7.out W hg).2.1
              refine ph_sem rfl rfl (r := .ok (.value (.slice (some ⟨g, 0, none⟩) (k + 1) uc)) W) ?_ (hK _ _ (gb_rr W _) rfl)
              have eC : ∀ c, A.eval (.const c) = c := fun _ => rfl; have eF : ∀ g, A.eval (.func g) = .func (.func g) #[] #[] := fun _ => rfl; generalize A.eval = ρ at *
              clear hA hu hg
              go_simp
            | 9, hin, ho, hu, hK =>
              cases ho
              have e6 : A.eval (.tmp 6) = .int .i64 ((k : Int) + 1) := ev_out hA 6 rfl
              exact ph_move _ rfl rfl (.int .i64 ((k : Int) + 1)) e6 (hK _ _ (gb_rr W _) rfl)
            | 10, hin, ho, hu, hK =>
              cases ho
              have e44 : A.eval (.tmp 44) = .int .i64 ((k : Int) + 1) := (ev_in hA 44 9 rfl rfl rfl).trans (show f 9 = .int .i64 ((k : Int) + 1) from hu 9 (by decide))
              have q1 := HW7.out.1
              have q2 := HW7.out.2.1
              have q3 := HW7.out.2.2.1
              have q4 := HW7.out.2.2.2.1
              have q5 := HW7.out.2.2.2.2.1
              have q6 := HW7.out.2.2.2.2.2.1
              have q7 := HW7.out.2.2.2.2.2.2
              refine ph_sem rfl rfl (r := .ok (.value (.int .i64 (k : Int))) W) ?_ (hK _ _ (gb_rr W _) rfl)
              have eC : ∀ c, A.eval (.const c) = c := fun _ => rfl; have eF : ∀ g, A.eval (.func g) = .func (.func g) #[] #[] := fun _ => rfl; generalize A.eval = ρ at *
              clear hA hu hg hK hin
              go_simp
            | 11, hin, ho, hu, hK =>
              cases ho
              have e43 : A.eval (.tmp 43) = .slice (some ⟨g, 0, none⟩) (k + 1) uc := (ev_in hA 43 8 rfl rfl rfl).trans (show f 8 = .slice (some ⟨g, 0, none⟩) (k + 1) uc from hu 8 (by decide))
              have e45 : A.eval (.tmp 45) = .int .i64 (k : Int) := (ev_in hA 45 10 rfl rfl rfl).trans (show f 10 = .int .i64 (k : Int) from hu 10 (by decide))
              have q8 : ¬ ((k : Int) + 1 ≤ (k : Int)) := by omega
              refine ph_sem rfl rfl (r := .ok (.value (.pointer (some ⟨g, k, none⟩))) W) ?_ (hK _ _ (gb_rr W _) rfl)
              have eC : ∀ c, A.eval (.const c) = c := fun _ => rfl; have eF : ∀ g, A.eval (.func g) = .func (.func g) #[] #[] := fun _ => rfl; generalize A.eval = ρ at *
              clear hA hu hg hK hin
              go_simp
            | 12, hin, ho, hu, hK =>
              cases ho
              have e46 : A.eval (.tmp 46) = .pointer (some ⟨g, k, none⟩) := (ev_in hA 46 11 rfl rfl rfl).trans (show f 11 = .pointer (some ⟨g, k, none⟩) from hu 11 (by decide))
              have hc : W.cell? ⟨g, k, none⟩ = some (.int .u32 (Go.Proofs.YtbfbehjldloeoaaDoor.W (sum (xs.take (64 * k))))) := (HR7.out W (hin.2 (.inr (by decide)))).2.2.2
              refine ph_sem rfl rfl (r := .ok (.value (.int .u32 (Go.Proofs.YtbfbehjldloeoaaDoor.W (sum (xs.take (64 * k)))))) W) ?_ (hK _ _ (gb_rr W _) rfl)
              have eC : ∀ c, A.eval (.const c) = c := fun _ => rfl; have eF : ∀ g, A.eval (.func g) = .func (.func g) #[] #[] := fun _ => rfl; generalize A.eval = ρ at *
              clear hA hu hg
              go_simp
            | 13, hin, ho, hu, hK =>
              cases ho
              have e0 : A.eval (.tmp 0) = .pointer (some ⟨T, 0, none⟩) := ev_out hA 0 rfl
              exact ph_move _ rfl rfl (.pointer (some ⟨T, 0, none⟩)) e0 (hK _ _ (gb_rr W _) rfl)
            | 14, hin, ho, hu, hK =>
              cases ho
              have e48 : A.eval (.tmp 48) = .pointer (some ⟨T, 0, none⟩) := (ev_in hA 48 13 rfl rfl rfl).trans (show f 13 = .pointer (some ⟨T, 0, none⟩) from hu 13 (by decide))
              exact ph_nil _ rfl rfl _ e48 (hK _ _ (gb_rr W _) rfl)
            | 15, hin, ho, hu, hK =>
              cases ho
              have e49 : A.eval (.tmp 49) = .pointer (some ⟨T, 0, none⟩) := (ev_in hA 49 14 rfl rfl rfl).trans (show f 14 = .pointer (some ⟨T, 0, none⟩) from hu 14 (by decide))
              exact ph_field _ _ _ rfl rfl _ (.pointer (some ⟨T, 0, none⟩)) e49 (by kernel_rfl) (hK _ _ (gb_rr W _) rfl)
            | 16, hin, ho, hu, hK =>
              cases ho
              have e50 : A.eval (.tmp 50) = .pointer (some ⟨T, 0, none⟩) := (ev_in hA 50 15 rfl rfl rfl).trans (show f 15 = .pointer (some ⟨T, 0, none⟩) from hu 15 (by decide))
              have hc : W.cell? ⟨T, 0, none⟩ = some (.slice va n vc) := (HK7.out W hg).1
              refine ph_sem rfl rfl (r := .ok (.value (.slice va n vc)) W) ?_ (hK _ _ (gb_rr W _) rfl)
              have eC : ∀ c, A.eval (.const c) = c := fun _ => rfl; have eF : ∀ g, A.eval (.func g) = .func (.func g) #[] #[] := fun _ => rfl; generalize A.eval = ρ at *
              clear hA hu hg
              go_simp
            | 17, hin, ho, hu, hK =>
              cases ho
              have e6 : A.eval (.tmp 6) = .int .i64 ((k : Int) + 1) := ev_out hA 6 rfl
              exact ph_move _ rfl rfl (.int .i64 ((k : Int) + 1)) e6 (hK _ _ (gb_rr W _) rfl)
            | 18, hin, ho, hu, hK =>
              cases ho
              have e52 : A.eval (.tmp 52) = .int .i64 ((k : Int) + 1) := (ev_in hA 52 17 rfl rfl rfl).trans (show f 17 = .int .i64 ((k : Int) + 1) from hu 17 (by decide))
              have q1 := HW7.out.1
              have q2 := HW7.out.2.1
              have q3 := HW7.out.2.2.1
              have q4 := HW7.out.2.2.2.1
              have q5 := HW7.out.2.2.2.2.1
              have q6 := HW7.out.2.2.2.2.2.1
              have q7 := HW7.out.2.2.2.2.2.2
              refine ph_sem rfl rfl (r := .ok (.value (.int .i64 (k : Int))) W) ?_ (hK _ _ (gb_rr W _) rfl)
              have eC : ∀ c, A.eval (.const c) = c := fun _ => rfl; have eF : ∀ g, A.eval (.func g) = .func (.func g) #[] #[] := fun _ => rfl; generalize A.eval = ρ at *
              clear hA hu hg hK hin
              go_simp
            | 19, hin, ho, hu, hK =>
              cases ho
              have e53 : A.eval (.tmp 53) = .int .i64 (k : Int) := (ev_in hA 53 18 rfl rfl rfl).trans (show f 18 = .int .i64 (k : Int) from hu 18 (by decide))
              have q1 := HW7.out.1
              have q2 := HW7.out.2.1
              have q3 := HW7.out.2.2.1
              have q4 := HW7.out.2.2.2.1
              have q5 := HW7.out.2.2.2.2.1
              have q6 := HW7.out.2.2.2.2.2.1
              have q7 := HW7.out.2.2.2.2.2.2
              refine ph_sem rfl rfl (r := .ok (.value (.int .i64 ((k : Int) * 64))) W) ?_ (hK _ _ (gb_rr W _) rfl)
              have eC : ∀ c, A.eval (.const c) = c := fun _ => rfl; have eF : ∀ g, A.eval (.func g) = .func (.func g) #[] #[] := fun _ => rfl; generalize A.eval = ρ at *
              clear hA hu hg hK hin
              go_simp
            | 20, hin, ho, hu, hK =>
              cases ho
              have e6 : A.eval (.tmp 6) = .int .i64 ((k : Int) + 1) := ev_out hA 6 rfl
              exact ph_move _ rfl rfl (.int .i64 ((k : Int) + 1)) e6 (hK _ _ (gb_rr W _) rfl)
            | 21, hin, ho, hu, hK =>
              cases ho
              have e55 : A.eval (.tmp 55) = .int .i64 ((k : Int) + 1) := (ev_in hA 55 20 rfl rfl rfl).trans (show f 20 = .int .i64 ((k : Int) + 1) from hu 20 (by decide))
              have q1 := HW7.out.1
              have q2 := HW7.out.2.1
              have q3 := HW7.out.2.2.1
              have q4 := HW7.out.2.2.2.1
              have q5 := HW7.out.2.2.2.2.1
              have q6 := HW7.out.2.2.2.2.2.1
              have q7 := HW7.out.2.2.2.2.2.2
              refine ph_sem rfl rfl (r := .ok (.value (.int .i64 (((k : Int) + 1) * 64))) W) ?_ (hK _ _ (gb_rr W _) rfl)
              have eC : ∀ c, A.eval (.const c) = c := fun _ => rfl; have eF : ∀ g, A.eval (.func g) = .func (.func g) #[] #[] := fun _ => rfl; generalize A.eval = ρ at *
              clear hA hu hg hK hin
              go_simp
            | 22, hin, ho, hu, hK =>
              cases ho
              have e51 : A.eval (.tmp 51) = .slice va n vc := (ev_in hA 51 16 rfl rfl rfl).trans (show f 16 = .slice va n vc from hu 16 (by decide))
              have e54 : A.eval (.tmp 54) = .int .i64 ((k : Int) * 64) := (ev_in hA 54 19 rfl rfl rfl).trans (show f 19 = .int .i64 ((k : Int) * 64) from hu 19 (by decide))
              have e56 : A.eval (.tmp 56) = .int .i64 (((k : Int) + 1) * 64) := (ev_in hA 56 21 rfl rfl rfl).trans (show f 21 = .int .i64 (((k : Int) + 1) * 64) from hu 21 (by decide))
              have hsl := hslc.out W
              refine ph_sem rfl rfl (r := .ok (.value (.slice (cutB va vc (64 * k)) 64 (vc - 64 * k))) W) ?_ (hK _ _ (gb_rr W _) rfl)
              have eC : ∀ c, A.eval (.const c) = c := fun _ => rfl; have eF : ∀ g, A.eval (.func g) = .func (.func g) #[] #[] := fun _ => rfl; generalize A.eval = ρ at *
              clear hA hu hg hK hin
              go_simp
            | 23, hin, ho, hu, hK =>
              cases ho
              have e47 : A.eval (.tmp 47) = .int .u32 (Go.Proofs.YtbfbehjldloeoaaDoor.W (sum (xs.take (64 * k)))) := (ev_in hA 47 12 rfl rfl rfl).trans (show f 12 = .int .u32 (Go.Proofs.YtbfbehjldloeoaaDoor.W (sum (xs.take (64 * k)))) from hu 12 (by decide))
              have e57 : A.eval (.tmp 57) = .slice (cutB va vc (64 * k)) 64 (vc - 64 * k) := (ev_in hA 57 22 rfl rfl rfl).trans (show f 22 = .slice (cutB va vc (64 * k)) 64 (vc - 64 * k) from hu 22 (by decide))
              refine ph_fn 37 _ _ rfl rfl #[.int .u32 (Go.Proofs.YtbfbehjldloeoaaDoor.W (sum (xs.take (64 * k)))), .slice (cutB va vc (64 * k)) 64 (vc - 64 * k)] (by simp [e47, e57]) (by kernel_rfl) ?_
              have q0 := HR7.out W (hin.2 (.inr (by decide)))
              refine (Calls.mono (more_c (sum (xs.take (64 * k))) _ 64 _ _ W q0.2.2.1 HB7.out.1 q0.2.1 (by decide)) ?_)
              rintro e W' ⟨rfl, rfl⟩
              exact ⟨_, rfl, hK _ _ (gb_rr _ _) (congrArg (fun z => Value.int .u32 (Go.Proofs.YtbfbehjldloeoaaDoor.W (z))) HB7.out.2)⟩
            | 24, hin, ho, hu, hK =>
              cases ho
              have e58 : A.eval (.tmp 58) = .int .u32 (Go.Proofs.YtbfbehjldloeoaaDoor.W (sum (xs.take (64 * (k + 1))))) := (ev_in hA 58 23 rfl rfl rfl).trans (show f 23 = .int .u32 (Go.Proofs.YtbfbehjldloeoaaDoor.W (sum (xs.take (64 * (k + 1))))) from hu 23 (by decide))
              refine ph_sem rfl rfl (r := .ok (.value (.slice (some ⟨W.heap.size, 0, none⟩) 1 1)) (W.alloc (.cells #[.int .u32 (Go.Proofs.YtbfbehjldloeoaaDoor.W (sum (xs.take (64 * (k + 1)))))] 23))) ?_ (hK _ _ (World.grownBy_alloc _ _ _) ⟨_, rfl, by rw [World.cell?_alloc_new]; rfl, hg.size, by simp⟩)
              have eC : ∀ c, A.eval (.const c) = c := fun _ => rfl; have eF : ∀ g, A.eval (.func g) = .func (.func g) #[] #[] := fun _ => rfl; generalize A.eval = ρ at *
              clear hA hu hg hK hin
              go_simp
            | 25, hin, ho, hu, hK =>
              cases ho
              have e39 : A.eval (.tmp 39) = .slice (some ⟨g, 0, none⟩) (k + 1) uc := (ev_in hA 39 4 rfl rfl rfl).trans (show f 4 = .slice (some ⟨g, 0, none⟩) (k + 1) uc from hu 4 (by decide))
              obtain ⟨B, hv24, hr24, hm24, hl24⟩ := hu 24 (by decide)
              have e59 : A.eval (.tmp 59) = .slice (some ⟨B, 0, none⟩) 1 1 := (ev_in hA 59 24 rfl rfl rfl).trans hv24
              obtain ⟨i3, hi3, hz3, hs3, hb3⟩ := info_parts' Tryd.infoU32
              refine step_append_lies _ rfl (.tmp 39) (.tmp 59) 47 rfl 0 23 i3 (.int .u32 0) 1 4 Tryd.underlying47 hi3 hz3 hs3 hb3 rfl (by decide) (.slice (some ⟨g, 0, none⟩) (k + 1) uc) (k + 1) (mks xs (k + 1)) e39 ((HR7.out W (hin.2 (.inl rfl))).1) ⟨B, 0, none⟩ 1 1 [.int .u32 (Go.Proofs.YtbfbehjldloeoaaDoor.W (sum (xs.take (64 * (k + 1)))))] e59 rfl (fun j u hj => by match j, hj with | 0, hj => (rw [Go.WideShapes.add_plain]; cases hj; exact hr24)) (by intro u hu; simp at hu; rw [hu]; rfl) (by decide) (by unfold maxLen; omega) (by omega) (Nat.zero_le _) _ rfl ?_
              intro G C W2 k1 k2 k3 k4
              exact hK _ _ k2 ⟨G, C, rfl, by rw [mks_snoc]; exact k1, k3.imp id (fun e => by rw [e]; exact hg.size)⟩
            | 26, hin, ho, hu, hK =>
              cases ho
              have e35 : A.eval (.tmp 35) = .pointer (some ⟨T, 0, none⟩) := (ev_in hA 35 0 rfl rfl rfl).trans (show f 0 = .pointer (some ⟨T, 0, none⟩) from hu 0 (by decide))
              exact ph_nil _ rfl rfl _ e35 (hK _ _ (gb_rr W _) rfl)
            | 27, hin, ho, hu, hK =>
              cases ho
              have e61 : A.eval (.tmp 61) = .pointer (some ⟨T, 0, none⟩) := (ev_in hA 61 26 rfl rfl rfl).trans (show f 26 = .pointer (some ⟨T, 0, none⟩) from hu 26 (by decide))
              exact ph_field _ _ _ rfl rfl _ (.pointer (some ⟨T, 1, none⟩)) e61 (by kernel_rfl) (hK _ _ (gb_rr W _) rfl)
            | i + 28, hin, ho, hu, hK => omega
          case last =>
            intro f W A hA hg hu o ho K hK
            cases ho
            obtain ⟨G, C, hv25, ho25, hG25⟩ := hu 25 (by decide)
            obtain ⟨B, hv24, _, _, _⟩ := hu 24 (by decide)
            have e60 : A.eval (.tmp 60) = .slice (some ⟨G, 0, none⟩) (k + 1 + 1) C := (ev_in hA 60 25 rfl rfl rfl).trans hv25
            have e62 : A.eval (.tmp 62) = .pointer (some ⟨T, 1, none⟩) := (ev_in hA 62 27 rfl rfl rfl).trans (show f 27 = .pointer (some ⟨T, 1, none⟩) from hu 27 (by decide))
            have hcc : W.cell? ⟨T, 1, none⟩ = some (.slice (some ⟨g, 0, none⟩) (k + 1) uc) := (HK7.out W hg).2.1
            have hff : W.frozen? ⟨T, 1, none⟩ = false := (HK7.out W hg).2.2
            refine ph_sem rfl rfl (r := .ok .skip (W.setCell ⟨T, 1, none⟩ (.slice (some ⟨G, 0, none⟩) (k + 1 + 1) C))) ?_ (hK _ _ ?_)
            · have eC : ∀ c, A.eval (.const c) = c := fun _ => rfl
              generalize A.eval = ρ at *
              clear hA hu hg hK
              go_simp
            have H2 : Hid _ := str_app hr.out.1 hr.out.2 hg ho25 hG25 HKX.out HOT.out.1
            have hA2 := hA.trans (putAll_lit [(.pointer (some ⟨T, 0, none⟩)), (.pointer (some ⟨T, 0, none⟩)), (.pointer (some ⟨T, 0, none⟩)), (.pointer (some ⟨T, 1, none⟩)), (.slice (some ⟨g, 0, none⟩) (k + 1) uc), (.pointer (some ⟨T, 0, none⟩)), (.pointer (some ⟨T, 0, none⟩)), (.pointer (some ⟨T, 1, none⟩)), (.slice (some ⟨g, 0, none⟩) (k + 1) uc), (.int .i64 ((k : Int) + 1)), (.int .i64 (k : Int)), (.pointer (some ⟨g, k, none⟩)), (.int .u32 (Go.Proofs.YtbfbehjldloeoaaDoor.W (sum (xs.take (64 * k))))), (.pointer (some ⟨T, 0, none⟩)), (.pointer (some ⟨T, 0, none⟩)), (.pointer (some ⟨T, 0, none⟩)), (.slice va n vc), (.int .i64 ((k : Int) + 1)), (.int .i64 (k : Int)), (.int .i64 ((k : Int) * 64)), (.int .i64 ((k : Int) + 1)), (.int .i64 (((k : Int) + 1) * 64)), (.slice (cutB va vc (64 * k)) 64 (vc - 64 * k)), (.int .u32 (Go.Proofs.YtbfbehjldloeoaaDoor.W (sum (xs.take (64 * (k + 1)))))), (.slice (some ⟨B, 0, none⟩) 1 1), (.slice (some ⟨G, 0, none⟩) (k + 1 + 1) C), (.pointer (some ⟨T, 0, none⟩)), (.pointer (some ⟨T, 1, none⟩)), (f 28)] (by
              intro j hj
              match j, hj with
              | 0, _ => exact hu 0 (by decide)
              | 1, _ => exact hu 1 (by decide)
              | 2, _ => exact hu 2 (by decide)
              | 3, _ => exact hu 3 (by decide)
              | 4, _ => exact hu 4 (by decide)
              | 5, _ => exact hu 5 (by decide)
              | 6, _ => exact hu 6 (by decide)
              | 7, _ => exact hu 7 (by decide)
              | 8, _ => exact hu 8 (by decide)
              | 9, _ => exact hu 9 (by decide)
              | 10, _ => exact hu 10 (by decide)
              | 11, _ => exact hu 11 (by decide)
              | 12, _ => exact hu 12 (by decide)
              | 13, _ => exact hu 13 (by decide)
              | 14, _ => exact hu 14 (by decide)
              | 15, _ => exact hu 15 (by decide)
              | 16, _ => exact hu 16 (by decide)
              | 17, _ => exact hu 17 (by decide)
              | 18, _ => exact hu 18 (by decide)
              | 19, _ => exact hu 19 (by decide)
              | 20, _ => exact hu 20 (by decide)
              | 21, _ => exact hu 21 (by decide)
              | 22, _ => exact hu 22 (by decide)
              | 23, _ => exact hu 23 (by decide)
              | 24, _ => exact hv24
              | 25, _ => exact hv25
              | 26, _ => exact hu 26 (by decide)
              | 27, _ => exact hu 27 (by decide)
              | 28, _ => rfl
              | j + 29, hj => exact absurd hj (by simp)))
            clear hu hA
            subst hA2
            simp only [putAll, putL, List.mem_cons, List.not_mem_nil, List.idxOf_cons, Nat.reduceEqDiff, Nat.reduceBEq, Nat.reduceAdd, or_false, or_true, reduceIte, cond_true, cond_false, List.getD_cons_zero, List.getD_cons_succ, BEq.rfl]
            clear hg ho25 hG25 hv25 hv24 e60 e62 hcc hff HK7 HR7 HB7 hslc HW7
            generalize W.setCell ⟨T, 1, none⟩ _ = W9 at H2 ⊢
            have hk2 : ((k + 1 : Nat) : Int) = (k : Int) + 1 := by omega
            go_wp2_with fail
            go_roundw
            case rel => refine ⟨k + 1, G, C, by rw [hk2], H2.out⟩
            case measure => simp [intOf]; omega
        · have hc : ¬ ((k : Int) + 1 ≤ (L : Int)) := by omega
          have HR8 : Hid (wr.cell? ⟨T, 0, none⟩ = some (.slice va n vc) ∧ wr.cell? ⟨T, 1, none⟩ = some (.slice (some ⟨g, 0, none⟩) (k + 1) uc) ∧ wr.cell? ⟨g, L, none⟩ = some (.int .u32 (Go.Proofs.YtbfbehjldloeoaaDoor.W (sum (xs.take (64 * L)))))) := by
            refine ⟨hr.out.1.bk.cell 0, hr.out.1.bk.cell 1, ?_⟩
            rw [hr.out.1.om.cellAt L (by omega)]
            exact mks_get xs (k + 1) L (by omega)
          obtain ⟨c0, c1, c2⟩ := HR8.out
          have hLk : L < k + 1 := by omega
          have hLe : 64 * L ≤ en := HL.out.1
          have hev : en ≤ vc := by have := HOT.out.2.2.2; omega
          have hen : en ≤ 1099511627776 := by have := HOT.out.2.2.2; omega
          have hslc := slice_blh va n vc (64 * L) en hLe hev
          rw [show ((64 * L : Nat) : Int) = (L : Int) * 64 from by omega] at hslc
          have hbo : Own 0 wr (.slice va n vc) n xs := by have := hr.out.1.ob; rw [← HOT.out.2.2.1] at this; exact this
          have hsm := sum_more xs (64 * L) en hLe (by have := HOT.out; omega)
          have HM : ∀ q, Calls Tryd.prog 37 #[.int .u32 (Go.Proofs.YtbfbehjldloeoaaDoor.W (sum (xs.take (64 * L)))), .slice (cutB va vc (64 * L)) (en - 64 * L) (vc - 64 * L)] (wr.drewN q) fun e w' => e = .returned (.int .u32 (Go.Proofs.YtbfbehjldloeoaaDoor.W (sum (xs.take en)))) ∧ w' = wr.drewN q := fun q => by
            have hb := belowDrew (Below.refl wr.heap.size wr) q
            have := more_c (sum (xs.take (64 * L))) (cutB va vc (64 * L)) (en - 64 * L) (vc - 64 * L) _ (wr.drewN q) ((seg_cutB (own_segv hbo).1 (64 * L) en hLe HOT.out.2.2.2 hvc).below hb) ((hr.out.1.hx.take _).drop _) ((HT.out wr hr.out.2).below hb) (by omega)
            rw [hsm] at this
            exact this
          replace HM : Hid _ := HM
          have HE : Hid _ := hr.out
          clear hr HR8 hbo hsm HT HL HOT hlt
          have hw8 : wrap64 ((L : Int) * 64) = (L : Int) * 64 := IntWalk.wrap64_in _ ⟨by omega, by omega⟩
          have hw9 : IntKind.i64.wrap ((L : Int) * 64) = (L : Int) * 64 := IntWalk.i64_in _ ⟨by omega, by omega⟩
          go_wp2_with fail
          go_quiet (first | (go_at_call 37; refine Calls.quiet_of_same (HM.out _)))
          all_goals go_wp2
          all_goals go_ret
          all_goals exact ⟨rfl, _, _, HE.out.1.gr (Gr.ofB (belowDrew (Below.refl _ _) _)) (fun _ _ z => z), HE.out.2.drewN _⟩
  | succ j =>
    obtain ⟨g, uc', hgu⟩ := (own_shape HS0.out.om).2 (by omega)
    cases hgu
    have hj1 : ((j : Int) + 1 == 0) = false := by simp; omega
    have H1 : Hid (Str (fun b => O b ∨ w.heap.size ≤ b) w T (.slice va n vc) (.slice (some ⟨g, 0, none⟩) (j + 1) uc) xs (j + 1) ∧ Gr O w w) := ⟨HS0.out, Gr.refl _ _⟩
    have hjb : j ≤ 17179869184 := by have := HS0.out.hM; have := HOT.out.2.2.1; omega
    clear HS0
    go_enter Tryd.func43, Tryd.ntmps43
    go_wp2_with fail
    go_loopw [6] (fun i wr => ∃ (k g uc : Nat), i = .int .i64 ((k : Int) + 1) ∧ Hid (Str (fun b => O b ∨ w.heap.size ≤ b) wr T (.slice va n vc) (.slice (some ⟨g, 0, none⟩) (k + 1) uc) xs (k + 1) ∧ Gr O w wr)) (fun i _ => L + 1 - (intOf i).toNat)
    case atStart => exact ⟨j, g, uc, rfl, H1.out⟩
    case round =>
      clear H1 c0 c1 f1
      obtain ⟨k, g, uc, rfl, hr⟩ := hrel
      have hkb : k ≤ 17179869184 := by have := hr.out.1.hM; have := HOT.out.2.2.1; omega
      by_cases hlt : k + 1 ≤ L
      · have hc : (k : Int) + 1 ≤ (L : Int) := by omega
        have hkx : 64 * (k + 1) ≤ n := by have := HL.out; have := HOT.out; omega
        have HK7 : Hid (∀ W, wr.grownBy W (some g) → W.cell? ⟨T, 0, none⟩ = some (.slice va n vc) ∧ W.cell? ⟨T, 1, none⟩ = some (.slice (some ⟨g, 0, none⟩) (k + 1) uc) ∧ W.frozen? ⟨T, 1, none⟩ = false) := fun W hg => by
          have hb := Bk.grew hr.out.1.bk hg hr.out.1.n2
          exact ⟨hb.cell 0, hb.cell 1, frozen_of_row W T 1 _ _ hb⟩
        have HR7 : Hid (∀ W, wr.grownBy W none → W.ownsRow 0 23 1 (.slice (some ⟨g, 0, none⟩) (k + 1) uc) (k + 1) (mks xs (k + 1)) ∧ Tab W ∧ Seg .u8 W (cutB va vc (64 * k)) 64 ((xs.take (64 * k + 64)).drop (64 * k)) ∧ W.cell? ⟨g, k, none⟩ = some (.int .u32 (Go.Proofs.YtbfbehjldloeoaaDoor.W (sum (xs.take (64 * k)))))) := fun W hg => by
          have hG : Gr (fun _ => False) wr W := Gr.of hg (by simp)
          have ho := own_gr hr.out.1.om hG (fun _ _ z => z)
          have hb := own_gr hr.out.1.ob hG (fun _ _ z => z)
          rw [← HOT.out.2.2.1] at hb
          have hs := (own_segv hb).1
          refine ⟨ho, HT.out W (hr.out.2.then hG (fun _ _ z => z.elim)), ?_, ?_⟩
          · have := seg_cutB hs (64 * k) (64 * k + 64) (by omega) (by omega) hvc
            rw [show 64 * k + 64 - 64 * k = 64 from by omega] at this
            exact this
          · rw [ho.cellAt k (by omega)]
            exact mks_get xs (k + 1) k (by omega)
        have HB7 : Hid (Bytes ((xs.take (64 * k + 64)).drop (64 * k)) ∧ ~~~ (reg (~~~ (sum (xs.take (64 * k)))) ((xs.take (64 * k + 64)).drop (64 * k))) = sum (xs.take (64 * (k + 1)))) := ⟨(hr.out.1.hx.take _).drop _, by rw [sum_more xs (64 * k) (64 * k + 64) (by omega) (by have := HOT.out.2.2.1; omega)]; congr 1⟩
        have hslc := slice_blh va n vc (64 * k) (64 * k + 64) (by omega) (by omega)
        rw [show 64 * k + 64 - 64 * k = 64 from by omega, show ((64 * k : Nat) : Int) = (k : Int) * 64 from by omega, show ((64 * k + 64 : Nat) : Int) = ((k : Int) + 1) * 64 from by omega] at hslc
        replace hslc : Hid _ := hslc
        have HW7 : Hid (wrap64 ((k : Int) * 64) = (k : Int) * 64 ∧ IntKind.i64.wrap ((k : Int) * 64) = (k : Int) * 64 ∧ wrap64 (((k : Int) + 1) * 64) = ((k : Int) + 1) * 64 ∧ IntKind.i64.wrap (((k : Int) + 1) * 64) = ((k : Int) + 1) * 64 ∧ wrap64 (k : Int) = (k : Int) ∧ IntKind.i64.wrap (k : Int) = (k : Int) ∧ ((k : Int) + 1 - 1 = k)) := ⟨IntWalk.wrap64_in _ ⟨by omega, by omega⟩, IntWalk.i64_in _ ⟨by omega, by omega⟩, IntWalk.wrap64_in _ ⟨by omega, by omega⟩, IntWalk.i64_in _ ⟨by omega, by omega⟩, IntWalk.wrap64_in _ ⟨by omega, by omega⟩, IntWalk.i64_in _ ⟨by omega, by omega⟩, by omega⟩
        have HKX : Hid (64 * (k + 1) ≤ xs.length) := by have := HOT.out.2.2.1; show _ ≤ _; omega
        clear hkx
        go_wp2_with fail
        have HUB : Hid (∀ b, some g = some b → b < wr.heap.size) := fun b hb => (own_lt hr.out.1.om b hb).2
        refine wp_region_lastB (fun a b => World.grownBy a b (some g)) (fun a b => World.grownBy a b none) (fun a b => World.grownBy a b (some g)) (fun _ _ _ h k => gb_trans h k) (fun _ _ h => gb_wide h _) (fun _ _ h => h) ⟨rfl, rfl, rfl, Nat.le_refl _, fun _ _ _ => rfl⟩ (fun _ _ _ h k => gb_trans h k) ⟨rfl, rfl, rfl, Nat.le_refl _, fun _ _ _ => rfl⟩ 28 25 rfl (by kernel_rfl) [35, 36, 37, 38, 39, 40, 41, 42, 43, 44, 45, 46, 47, 48, 49, 50, 51, 52, 53, 54, 55, 56, 57, 58, 59, 60, 61, 62, 100028] [[], [], [1], [2], [3], [], [5], [6], [7], [], [9], [8, 10], [11], [], [13], [14], [15], [], [17], [18], [], [20], [16, 19, 21], [12, 22], [23], [4, 24], [0], [26], [27, 25]] (by kernel_rfl) (by kernel_rfl) [1, 2, 3, 4, 5, 6, 7, 8, 9, 10, 11, 12, 13, 14, 15, 16, 17, 18, 19, 20, 21, 22, 23, 24] (by kernel_rfl) [fun u W => u = .pointer (some ⟨T, 0, none⟩), fun u W => u = .pointer (some ⟨T, 0, none⟩), fun u W => u = .pointer (some ⟨T, 0, none⟩), fun u W => u = .pointer (some ⟨T, 1, none⟩), fun u W => u = .slice (some ⟨g, 0, none⟩) (k + 1) uc, fun u W => u = .pointer (some ⟨T, 0, none⟩), fun u W => u = .pointer (some ⟨T, 0, none⟩), fun u W => u = .pointer (some ⟨T, 1, none⟩), fun u W => u = .slice (some ⟨g, 0, none⟩) (k + 1) uc, fun u W => u = .int .i64 ((k : Int) + 1), fun u W => u = .int .i64 (k : Int), fun u W => u = .pointer (some ⟨g, k, none⟩), fun u W => u = .int .u32 (Go.Proofs.YtbfbehjldloeoaaDoor.W (sum (xs.take (64 * k)))), fun u W => u = .pointer (some ⟨T, 0, none⟩), fun u W => u = .pointer (some ⟨T, 0, none⟩), fun u W => u = .pointer (some ⟨T, 0, none⟩), fun u W => u = .slice va n vc, fun u W => u = .int .i64 ((k : Int) + 1), fun u W => u = .int .i64 (k : Int), fun u W => u = .int .i64 ((k : Int) * 64), fun u W => u = .int .i64 ((k : Int) + 1), fun u W => u = .int .i64 (((k : Int) + 1) * 64), fun u W => u = .slice (cutB va vc (64 * k)) 64 (vc - 64 * k), fun u W => u = .int .u32 (Go.Proofs.YtbfbehjldloeoaaDoor.W (sum (xs.take (64 * (k + 1))))), fun u Wo => ∃ B, u = .slice (some ⟨B, 0, none⟩) 1 1 ∧ Wo.cell? ⟨B, 0, none⟩ = some (.int .u32 (Go.Proofs.YtbfbehjldloeoaaDoor.W (sum (xs.take (64 * (k + 1)))))) ∧ wr.heap.size ≤ B ∧ B < Wo.heap.size, fun u Wo => ∃ G C, u = .slice (some ⟨G, 0, none⟩) (k + 1 + 1) C ∧ Wo.ownsRow 0 23 1 (.slice (some ⟨G, 0, none⟩) (k + 1 + 1) C) (k + 1 + 1) (mks xs (k + 1 + 1)) ∧ (some g = some G ∨ wr.heap.size ≤ G), fun u W => u = .pointer (some ⟨T, 0, none⟩), fun u W => u = .pointer (some ⟨T, 1, none⟩)] ?stable ?stableA ?step ?last
        case stable =>
          intro i v W W' h hg
          match i, h with
          | 0, h => exact h
          | 1, h => exact h
          | 2, h => exact h
          | 3, h => exact h
          | 4, h => exact h
          | 5, h => exact h
          | 6, h => exact h
          | 7, h => exact h
          | 8, h => exact h
          | 9, h => exact h
          | 10, h => exact h
          | 11, h => exact h
          | 12, h => exact h
          | 13, h => exact h
          | 14, h => exact h
          | 15, h => exact h
          | 16, h => exact h
          | 17, h => exact h
          | 18, h => exact h
          | 19, h => exact h
          | 20, h => exact h
          | 21, h => exact h
          | 22, h => exact h
          | 23, h => exact h
          | 24, h => obtain ⟨B, h1, h2, h3, h4⟩ := h; exact ⟨B, h1, ((gb_below hg).cell (p := ⟨B, 0, none⟩) h4).trans h2, h3, Nat.lt_of_lt_of_le h4 hg.size⟩
          | 25, h => obtain ⟨G, C, h1, h2, h3⟩ := h; exact ⟨G, C, h1, own_gr h2 (Gr.of (G := fun _ => False) hg (by simp)) (fun _ _ z => z), h3⟩
          | 26, h => exact h
          | 27, h => exact h
          | i + 28, h => exact trivial
        case stableA =>
          intro i v W W' hne hnu h hg
          match i, hne, h with
          | 0, _, h => exact h
          | 1, _, h => exact h
          | 2, _, h => exact h
          | 3, _, h => exact h
          | 4, _, h => exact h
          | 5, _, h => exact h
          | 6, _, h => exact h
          | 7, _, h => exact h
          | 8, _, h => exact h
          | 9, _, h => exact h
          | 10, _, h => exact h
          | 11, _, h => exact h
          | 12, _, h => exact h
          | 13, _, h => exact h
          | 14, _, h => exact h
          | 15, _, h => exact h
          | 16, _, h => exact h
          | 17, _, h => exact h
          | 18, _, h => exact h
          | 19, _, h => exact h
          | 20, _, h => exact h
          | 21, _, h => exact h
          | 22, _, h => exact h
          | 23, _, h => exact h
          | 24, _, h => obtain ⟨B, h1, h2, h3, h4⟩ := h; exact ⟨B, h1, (World.cell?_of_block (w := W) (w' := W') (a := ⟨B, 0, none⟩) (hg.block B h4 (fun e => by have := HUB.out B e.symm; omega))).trans h2, h3, Nat.lt_of_lt_of_le h4 hg.size⟩
          | 25, hne, _ => exact absurd rfl hne
          | 26, _, h => exact h
          | 27, _, h => exact h
          | i + 28, _, h => exact trivial
        case step =>
          intro f W A hA hg i o hin ho hu K hK
          match i, hin, ho, hu, hK with
          | 0, hin, ho, hu, hK =>
            cases ho
            have e0 : A.eval (.tmp 0) = .pointer (some ⟨T, 0, none⟩) := ev_out hA 0 rfl
            exact ph_move _ rfl rfl (.pointer (some ⟨T, 0, none⟩)) e0 (hK _ _ (gb_rr W _) rfl)
          | 1, hin, ho, hu, hK =>
            cases ho
            have e0 : A.eval (.tmp 0) = .pointer (some ⟨T, 0, none⟩) := ev_out hA 0 rfl
            exact ph_move _ rfl rfl (.pointer (some ⟨T, 0, none⟩)) e0 (hK _ _ (gb_rr W _) rfl)
          | 2, hin, ho, hu, hK =>
            cases ho
            have e36 : A.eval (.tmp 36) = .pointer (some ⟨T, 0, none⟩) := (ev_in hA 36 1 rfl rfl rfl).trans (show f 1 = .pointer (some ⟨T, 0, none⟩) from hu 1 (by decide))
            exact ph_nil _ rfl rfl _ e36 (hK _ _ (gb_rr W _) rfl)
          | 3, hin, ho, hu, hK =>
            cases ho
            have e37 : A.eval (.tmp 37) = .pointer (some ⟨T, 0, none⟩) := (ev_in hA 37 2 rfl rfl rfl).trans (show f 2 = .pointer (some ⟨T, 0, none⟩) from hu 2 (by decide))
            exact ph_field _ _ _ rfl rfl _ (.pointer (some ⟨T, 1, none⟩)) e37 (by kernel_rfl) (hK _ _ (gb_rr W _) rfl)
          | 4, hin, ho, hu, hK =>
            cases ho
            have e38 : A.eval (.tmp 38) = .pointer (some ⟨T, 1, none⟩) := (ev_in hA 38 3 rfl rfl rfl).trans (show f 3 = .pointer (some ⟨T, 1, none⟩) from hu 3 (by decide))
            have hc : W.cell? ⟨T, 1, none⟩ = some (.slice (some ⟨g, 0, none⟩) (k + 1) uc) := (HK7.out W hg).2.1
            refine ph_sem rfl rfl (r := .ok (.value (.slice (some ⟨g, 0, none⟩) (k + 1) uc)) W) ?_ (hK _ _ (gb_rr W _) rfl)
            have eC : ∀ c, A.eval (.const c) = c := fun _ => rfl; have eF : ∀ g, A.eval (.func g) = .func (.func g) #[] #[] := fun _ => rfl; generalize A.eval = ρ at *
            clear hA hu hg
            go_simp
          | 5, hin, ho, hu, hK =>
            cases ho
            have e0 : A.eval (.tmp 0) = .pointer (some ⟨T, 0, none⟩) := ev_out hA 0 rfl
            exact ph_move _ rfl rfl (.pointer (some ⟨T, 0, none⟩)) e0 (hK _ _ (gb_rr W _) rfl)
          | 6, hin, ho, hu, hK =>
            cases ho
            have e40 : A.eval (.tmp 40) = .pointer (some ⟨T, 0, none⟩) := (ev_in hA 40 5 rfl rfl rfl).trans (show f 5 = .pointer (some ⟨T, 0, none⟩) from hu 5 (by decide))
            exact ph_nil _ rfl rfl _ e40 (hK _ _ (gb_rr W _) rfl)
          | 7, hin, ho, hu, hK =>
            cases ho
            have e41 : A.eval (.tmp 41) = .pointer (some ⟨T, 0, none⟩) := (ev_in hA 41 6 rfl rfl rfl).trans (show f 6 = .pointer (some ⟨T, 0, none⟩) from hu 6 (by decide))
            exact ph_field _ _ _ rfl rfl _ (.pointer (some ⟨T, 1, none⟩)) e41 (by kernel_rfl) (hK _ _ (gb_rr W _) rfl)
          | 8, hin, ho, hu, hK =>
            cases ho
            have e42 : A.eval (.tmp 42) = .pointer (some ⟨T, 1, none⟩) := (ev_in hA 42 7 rfl rfl rfl).trans (show f 7 = .pointer (some ⟨T, 1, none⟩) from hu 7 (by decide))
            have hc : W.cell? ⟨T, 1, none⟩ = some (.slice (some ⟨g, 0, none⟩) (k + 1) uc) := (HK7.out W hg).2.1
            refine ph_sem rfl rfl (r := .ok (.value (.slice (some ⟨g, 0, none⟩) (k + 1) uc)) W) ?_ (hK _ _ (gb_rr W _) rfl)
            have eC : ∀ c, A.eval (.const c) = c := fun _ => rfl; have eF : ∀ g, A.eval (.func g) = .func (.func g) #[] #[] := fun _ => rfl; generalize A.eval = ρ at *
            clear hA hu hg
            go_simp
          | 9, hin, ho, hu, hK =>
            cases ho
            have e6 : A.eval (.tmp 6) = .int .i64 ((k : Int) + 1) := ev_out hA 6 rfl
            exact ph_move _ rfl rfl (.int .i64 ((k : Int) + 1)) e6 (hK _ _ (gb_rr W _) rfl)
          | 10, hin, ho, hu, hK =>
            cases ho
            have e44 : A.eval (.tmp 44) = .int .i64 ((k : Int) + 1) := (ev_in hA 44 9 rfl rfl rfl).trans (show f 9 = .int .i64 ((k : Int) + 1) from hu 9 (by decide))
            have q1 := HW7.out.1
            have q2 := HW7.out.2.1
            have q3 := HW7.out.2.2.1
            have q4 := HW7.out.2.2.2.1
            have q5 := HW7.out.2.2.2.2.1
            have q6 := HW7.out.2.2.2.2.2.1
            have q7 := HW7.out.2.2.2.2.2.2
            refine ph_sem rfl rfl (r := .ok (.value (.int .i64 (k : Int))) W) ?_ (hK _ _ (gb_rr W _) rfl)
            have eC : ∀ c, A.eval (.const c) = c := fun _ => rfl; have eF : ∀ g, A.eval (.func g) = .func (.func g) #[] #[] := fun _ => rfl; generalize A.eval = ρ at *
            clear hA hu hg hK hin
            go_simp
          | 11, hin, ho, hu, hK =>
            cases ho
            have e43 : A.eval (.tmp 43) = .slice (some ⟨g, 0, none⟩) (k + 1) uc := (ev_in hA 43 8 rfl rfl rfl).trans (show f 8 = .slice (some ⟨g, 0, none⟩) (k + 1) uc from hu 8 (by decide))
            have e45 : A.eval (.tmp 45) = .int .i64 (k : Int) := (ev_in hA 45 10 rfl rfl rfl).trans (show f 10 = .int .i64 (k : Int) from hu 10 (by decide))
            have q8 : ¬ ((k : Int) + 1 ≤ (k : Int)) := by omega
            refine ph_sem rfl rfl (r := .ok (.value (.pointer (some ⟨g, k, none⟩))) W) ?_ (hK _ _ (gb_rr W _) rfl)
            have eC : ∀ c, A.eval (.const c) = c := fun _ => rfl; have eF : ∀ g, A.eval (.func g) = .func (.func g) #[] #[] := fun _ => rfl; generalize A.eval = ρ at *
            clear hA hu hg hK hin
            go_simp
          | 12, hin, ho, hu, hK =>
            cases ho
            have e46 : A.eval (.tmp 46) = .pointer (some ⟨g, k, none⟩) := (ev_in hA 46 11 rfl rfl rfl).trans (show f 11 = .pointer (some ⟨g, k, none⟩) from hu 11 (by decide))
            have hc : W.cell? ⟨g, k, none⟩ = some (.int .u32 (Go.Proofs.YtbfbehjldloeoaaDoor.W (sum (xs.take (64 * k))))) := (HR7.out W (hin.2 (.inr (by decide)))).2.2.2
            refine ph_sem rfl rfl (r := .ok (.value (.int .u32 (Go.Proofs.YtbfbehjldloeoaaDoor.W (sum (xs.take (64 * k)))))) W) ?_ (hK _ _ (gb_rr W _) rfl)
            have eC : ∀ c, A.eval (.const c) = c := fun _ => rfl; have eF : ∀ g, A.eval (.func g) = .func (.func g) #[] #[] := fun _ => rfl; generalize A.eval = ρ at *
            clear hA hu hg
            go_simp
          | 13, hin, ho, hu, hK =>
            cases ho
            have e0 : A.eval (.tmp 0) = .pointer (some ⟨T, 0, none⟩) := ev_out hA 0 rfl
            exact ph_move _ rfl rfl (.pointer (some ⟨T, 0, none⟩)) e0 (hK _ _ (gb_rr W _) rfl)
          | 14, hin, ho, hu, hK =>
            cases ho
            have e48 : A.eval (.tmp 48) = .pointer (some ⟨T, 0, none⟩) := (ev_in hA 48 13 rfl rfl rfl).trans (show f 13 = .pointer (some ⟨T, 0, none⟩) from hu 13 (by decide))
            exact ph_nil _ rfl rfl _ e48 (hK _ _ (gb_rr W _) rfl)
          | 15, hin, ho, hu, hK =>
            cases ho
            have e49 : A.eval (.tmp 49) = .pointer (some ⟨T, 0, none⟩) := (ev_in hA 49 14 rfl rfl rfl).trans (show f 14 = .pointer (some ⟨T, 0, none⟩) from hu 14 (by decide))
            exact ph_field _ _ _ rfl rfl _ (.pointer (some ⟨T, 0, none⟩)) e49 (by kernel_rfl) (hK _ _ (gb_rr W _) rfl)
          | 16, hin, ho, hu, hK =>
            cases ho
            have e50 : A.eval (.tmp 50) = .pointer (some ⟨T, 0, none⟩) := (ev_in hA 50 15 rfl rfl rfl).trans (show f 15 = .pointer (some ⟨T, 0, none⟩) from hu 15 (by decide))
            have hc : W.cell? ⟨T, 0, none⟩ = some (.slice va n vc) := (HK7.out W hg).1
            refine ph_sem rfl rfl (r := .ok (.value (.slice va n vc)) W) ?_ (hK _ _ (gb_rr W _) rfl)
            have eC : ∀ c, A.eval (.const c) = c := fun _ => rfl; have eF : ∀ g, A.eval (.func g) = .func (.func g) #[] #[] := fun _ => rfl; generalize A.eval = ρ at *
            clear hA hu hg
            go_simp
          | 17, hin, ho, hu, hK =>
            cases ho
            have e6 : A.eval (.tmp 6) = .int .i64 ((k : Int) + 1) := ev_out hA 6 rfl
            exact ph_move _ rfl rfl (.int .i64 ((k : Int) + 1)) e6 (hK _ _ (gb_rr W _) rfl)
          | 18, hin, ho, hu, hK =>
            cases ho
            have e52 : A.eval (.tmp 52) = .int .i64 ((k : Int) + 1) := (ev_in hA 52 17 rfl rfl rfl).trans (show f 17 = .int .i64 ((k : Int) + 1) from hu 17 (by decide))
            have q1 := HW7.out.1
            have q2 := HW7.out.2.1
            have q3 := HW7.out.2.2.1
            have q4 := HW7.out.2.2.2.1
            have q5 := HW7.out.2.2.2.2.1
            have q6 := HW7.out.2.2.2.2.2.1
            have q7 := HW7.out.2.2.2.2.2.2
            refine ph_sem rfl rfl (r := .ok (.value (.int .i64 (k : Int))) W) ?_ (hK _ _ (gb_rr W _) rfl)
            have eC : ∀ c, A.eval (.const c) = c := fun _ => rfl; have eF : ∀ g, A.eval (.func g) = .func (.func g) #[] #[] := fun _ => rfl; generalize A.eval = ρ at *
            clear hA hu hg hK hin
            go_simp
          | 19, hin, ho, hu, hK =>
            cases ho
            have e53 : A.eval (.tmp 53) = .int .i64 (k : Int) := (ev_in hA 53 18 rfl rfl rfl).trans (show f 18 = .int .i64 (k : Int) from hu 18 (by decide))
            have q1 := HW7.out.1
            have q2 := HW7.out.2.1
            have q3 := HW7.out.2.2.1
            have q4 := HW7.out.2.2.2.1
            have q5 := HW7.out.2.2.2.2.1
            have q6 := HW7.out.2.2.2.2.2.1
            have q7 := HW7.out.2.2.2.2.2.2
            refine ph_sem rfl rfl (r := .ok (.value (.int .i64 ((k : Int) * 64))) W) ?_ (hK _ _ (gb_rr W _) rfl)
            have eC : ∀ c, A.eval (.const c) = c := fun _ => rfl; have eF : ∀ g, A.eval (.func g) = .func (.func g) #[] #[] := fun _ => rfl; generalize A.eval = ρ at *
            clear hA hu hg hK hin
            go_simp
          | 20, hin, ho, hu, hK =>
            cases ho
            have e6 : A.eval (.tmp 6) = .int .i64 ((k : Int) + 1) := ev_out hA 6 rfl
            exact ph_move _ rfl rfl (.int .i64 ((k : Int) + 1)) e6 (hK _ _ (gb_rr W _) rfl)
          | 21, hin, ho, hu, hK =>
            cases ho
            have e55 : A.eval (.tmp 55) = .int .i64 ((k : Int) + 1) := (ev_in hA 55 20 rfl rfl rfl).trans (show f 20 = .int .i64 ((k : Int) + 1) from hu 20 (by decide))
            have q1 := HW7.out.1
            have q2 := HW7.out.2.1
            have q3 := HW7.out.2.2.1
            have q4 := HW7.out.2.2.2.1
            have q5 := HW7.out.2.2.2.2.1
            have q6 := HW7.out.2.2.2.2.2.1
            have q7 := HW7.out.2.2.2.2.2.2
            refine ph_sem rfl rfl (r := .ok (.value (.int .i64 (((k : Int) + 1) * 64))) W) ?_ (hK _ _ (gb_rr W _) rfl)
            have eC : ∀ c, A.eval (.const c) = c := fun _ => rfl; have eF : ∀ g, A.eval (.func g) = .func (.func g) #[] #[] := fun _ => rfl; generalize A.eval = ρ at *
            clear hA hu hg hK hin
            go_simp
          | 22, hin, ho, hu, hK =>
            cases ho
            have e51 : A.eval (.tmp 51) = .slice va n vc := (ev_in hA 51 16 rfl rfl rfl).trans (show f 16 = .slice va n vc from hu 16 (by decide))
            have e54 : A.eval (.tmp 54) = .int .i64 ((k : Int) * 64) := (ev_in hA 54 19 rfl rfl rfl).trans (show f 19 = .int .i64 ((k : Int) * 64) from hu 19 (by decide))
            have e56 : A.eval (.tmp 56) = .int .i64 (((k : Int) + 1) * 64) := (ev_in hA 56 21 rfl rfl rfl).trans (show f 21 = .int .i64 (((k : Int) + 1) * 64) from hu 21 (by decide))
            have hsl := hslc.out W
            refine ph_sem rfl rfl (r := .ok (.value (.slice (cutB va vc (64 * k)) 64 (vc - 64 * k))) W) ?_ (hK _ _ (gb_rr W _) rfl)
            have eC : ∀ c, A.eval (.const c) = c := fun _ => rfl; have eF : ∀ g, A.eval (.func g) = .func (.func g) #[] #[] := fun _ => rfl; generalize A.eval = ρ at *
            clear hA hu hg hK hin
            go_simp
          | 23, hin, ho, hu, hK =>
            cases ho
            have e47 : A.eval (.tmp 47) = .int .u32 (Go.Proofs.YtbfbehjldloeoaaDoor.W (sum (xs.take (64 * k)))) := (ev_in hA 47 12 rfl rfl rfl).trans (show f 12 = .int .u32 (Go.Proofs.YtbfbehjldloeoaaDoor.W (sum (xs.take (64 * k)))) from hu 12 (by decide))
            have e57 : A.eval (.tmp 57) = .slice (cutB va vc (64 * k)) 64 (vc - 64 * k) := (ev_in hA 57 22 rfl rfl rfl).trans (show f 22 = .slice (cutB va vc (64 * k)) 64 (vc - 64 * k) from hu 22 (by decide))
            refine ph_fn 37 _ _ rfl rfl #[.int .u32 (Go.Proofs.YtbfbehjldloeoaaDoor.W (sum (xs.take (64 * k)))), .slice (cutB va vc (64 * k)) 64 (vc - 64 * k)] (by simp [e47, e57]) (by kernel_rfl) ?_
            have q0 := HR7.out W (hin.2 (.inr (by decide)))
            refine (Calls.mono (more_c (sum (xs.take (64 * k))) _ 64 _ _ W q0.2.2.1 HB7.out.1 q0.2.1 (by decide)) ?_)
            rintro e W' ⟨rfl, rfl⟩
            exact ⟨_, rfl, hK _ _ (gb_rr _ _) (congrArg (fun z => Value.int .u32 (Go.Proofs.YtbfbehjldloeoaaDoor.W (z))) HB7.out.2)⟩
          | 24, hin, ho, hu, hK =>
            cases ho
            have e58 : A.eval (.tmp 58) = .int .u32 (Go.Proofs.YtbfbehjldloeoaaDoor.W (sum (xs.take (64 * (k + 1))))) := (ev_in hA 58 23 rfl rfl rfl).trans (show f 23 = .int .u32 (Go.Proofs.YtbfbehjldloeoaaDoor.W (sum (xs.take (64 * (k + 1))))) from hu 23 (by decide))
            refine ph_sem rfl rfl (r := .ok (.value (.slice (some ⟨W.heap.size, 0, none⟩) 1 1)) (W.alloc (.cells #[.int .u32 (Go.Proofs.YtbfbehjldloeoaaDoor.W (sum (xs.take (64 * (k + 1)))))] 23))) ?_ (hK _ _ (World.grownBy_alloc _ _ _) ⟨_, rfl, by rw [World.cell?_alloc_new]; rfl, hg.size, by simp⟩)
            have eC : ∀ c, A.eval (.const c) = c := fun _ => rfl; have eF : ∀ g, A.eval (.func g) = .func (.func g) #[] #[] := fun _ => rfl; generalize A.eval = ρ at *
            clear hA hu hg hK hin
            go_simp
          | 25, hin, ho, hu, hK =>
            cases ho
            have e39 : A.eval (.tmp 39) = .slice (some ⟨g, 0, none⟩) (k + 1) uc := (ev_in hA 39 4 rfl rfl rfl).trans (show f 4 = .slice (some ⟨g, 0, none⟩) (k + 1) uc from hu 4 (by decide))
            obtain ⟨B, hv24, hr24, hm24, hl24⟩ := hu 24 (by decide)
            have e59 : A.eval (.tmp 59) = .slice (some ⟨B, 0, none⟩) 1 1 := (ev_in hA 59 24 rfl rfl rfl).trans hv24
            obtain ⟨i3, hi3, hz3, hs3, hb3⟩ := info_parts' Tryd.infoU32
            refine step_append_lies _ rfl (.tmp 39) (.tmp 59) 47 rfl 0 23 i3 (.int .u32 0) 1 4 Tryd.underlying47 hi3 hz3 hs3 hb3 rfl (by decide) (.slice (some ⟨g, 0, none⟩) (k + 1) uc) (k + 1) (mks xs (k + 1)) e39 ((HR7.out W (hin.2 (.inl rfl))).1) ⟨B, 0, none⟩ 1 1 [.int .u32 (Go.Proofs.YtbfbehjldloeoaaDoor.W (sum (xs.take (64 * (k + 1)))))] e59 rfl (fun j u hj => by match j, hj with | 0, hj => (rw [Go.WideShapes.add_plain]; cases hj; exact hr24)) (by intro u hu; simp at hu; rw [hu]; rfl) (by decide) (by unfold maxLen; omega) (by omega) (Nat.zero_le _) _ rfl ?_
            intro G C W2 k1 k2 k3 k4
            exact hK _ _ k2 ⟨G, C, rfl, by rw [mks_snoc]; exact k1, k3.imp id (fun e => by rw [e]; exact hg.size)⟩
          | 26, hin, ho, hu, hK =>
            cases ho
            have e35 : A.eval (.tmp 35) = .pointer (some ⟨T, 0, none⟩) := (ev_in hA 35 0 rfl rfl rfl).trans (show f 0 = .pointer (some ⟨T, 0, none⟩) from hu 0 (by decide))
            exact ph_nil _ rfl rfl _ e35 (hK _ _ (gb_rr W _) rfl)
          | 27, hin, ho, hu, hK =>
            cases ho
            have e61 : A.eval (.tmp 61) = .pointer (some ⟨T, 0, none⟩) := (ev_in hA 61 26 rfl rfl rfl).trans (show f 26 = .pointer (some ⟨T, 0, none⟩) from hu 26 (by decide))
            exact ph_field _ _ _ rfl rfl _ (.pointer (some ⟨T, 1, none⟩)) e61 (by kernel_rfl) (hK _ _ (gb_rr W _) rfl)
          | i + 28, hin, ho, hu, hK => omega
        case last =>
          intro f W A hA hg hu o ho K hK
          cases ho
          obtain ⟨G, C, hv25, ho25, hG25⟩ := hu 25 (by decide)
          obtain ⟨B, hv24, _, _, _⟩ := hu 24 (by decide)
          have e60 : A.eval (.tmp 60) = .slice (some ⟨G, 0, none⟩) (k + 1 + 1) C := (ev_in hA 60 25 rfl rfl rfl).trans hv25
          have e62 : A.eval (.tmp 62) = .pointer (some ⟨T, 1, none⟩) := (ev_in hA 62 27 rfl rfl rfl).trans (show f 27 = .pointer (some ⟨T, 1, none⟩) from hu 27 (by decide))
          have hcc : W.cell? ⟨T, 1, none⟩ = some (.slice (some ⟨g, 0, none⟩) (k + 1) uc) := (HK7.out W hg).2.1
          have hff : W.frozen? ⟨T, 1, none⟩ = false := (HK7.out W hg).2.2
          refine ph_sem rfl rfl (r := .ok .skip (W.setCell ⟨T, 1, none⟩ (.slice (some ⟨G, 0, none⟩) (k + 1 + 1) C))) ?_ (hK _ _ ?_)
          · have eC : ∀ c, A.eval (.const c) = c := fun _ => rfl
            generalize A.eval = ρ at *
            clear hA hu hg hK
            go_simp
          have H2 : Hid _ := str_app hr.out.1 hr.out.2 hg ho25 hG25 HKX.out HOT.out.1
          have hA2 := hA.trans (putAll_lit [(.pointer (some ⟨T, 0, none⟩)), (.pointer (some ⟨T, 0, none⟩)), (.pointer (some ⟨T, 0, none⟩)), (.pointer (some ⟨T, 1, none⟩)), (.slice (some ⟨g, 0, none⟩) (k + 1) uc), (.pointer (some ⟨T, 0, none⟩)), (.pointer (some ⟨T, 0, none⟩)), (.pointer (some ⟨T, 1, none⟩)), (.slice (some ⟨g, 0, none⟩) (k + 1) uc), (.int .i64 ((k : Int) + 1)), (.int .i64 (k : Int)), (.pointer (some ⟨g, k, none⟩)), (.int .u32 (Go.Proofs.YtbfbehjldloeoaaDoor.W (sum (xs.take (64 * k))))), (.pointer (some ⟨T, 0, none⟩)), (.pointer (some ⟨T, 0, none⟩)), (.pointer (some ⟨T, 0, none⟩)), (.slice va n vc), (.int .i64 ((k : Int) + 1)), (.int .i64 (k : Int)), (.int .i64 ((k : Int) * 64)), (.int .i64 ((k : Int) + 1)), (.int .i64 (((k : Int) + 1) * 64)), (.slice (cutB va vc (64 * k)) 64 (vc - 64 * k)), (.int .u32 (Go.Proofs.YtbfbehjldloeoaaDoor.W (sum (xs.take (64 * (k + 1)))))), (.slice (some ⟨B, 0, none⟩) 1 1), (.slice (some ⟨G, 0, none⟩) (k + 1 + 1) C), (.pointer (some ⟨T, 0, none⟩)), (.pointer (some ⟨T, 1, none⟩)), (f 28)] (by
            intro j hj
            match j, hj with
            | 0, _ => exact hu 0 (by decide)
            | 1, _ => exact hu 1 (by decide)
            | 2, _ => exact hu 2 (by decide)
            | 3, _ => exact hu 3 (by decide)
            | 4, _ => exact hu 4 (by decide)
            | 5, _ => exact hu 5 (by decide)
            | 6, _ => exact hu 6 (by decide)
            | 7, _ => exact hu 7 (by decide)
            | 8, _ => exact hu 8 (by decide)
            | 9, _ => exact hu 9 (by decide)
            | 10, _ => exact hu 10 (by decide)
            | 11, _ => exact hu 11 (by decide)
            | 12, _ => exact hu 12 (by decide)
            | 13, _ => exact hu 13 (by decide)
            | 14, _ => exact hu 14 (by decide)
            | 15, _ => exact hu 15 (by decide)
            | 16, _ => exact hu 16 (by decide)
            | 17, _ => exact hu 17 (by decide)
            | 18, _ => exact hu 18 (by decide)
            | 19, _ => exact hu 19 (by decide)
            | 20, _ => exact hu 20 (by decide)
            | 21, _ => exact hu 21 (by decide)
            | 22, _ => exact hu 22 (by decide)
            | 23, _ => exact hu 23 (by decide)
            | 24, _ => exact hv24
            | 25, _ => exact hv25
            | 26, _ => exact hu 26 (by decide)
            | 27, _ => exact hu 27 (by decide)
            | 28, _ => rfl
            | j + 29, hj => exact absurd hj (by simp)))
          clear hu hA
          subst hA2
          simp only [putAll, putL, List.mem_cons, List.not_mem_nil, List.idxOf_cons, Nat.reduceEqDiff, Nat.reduceBEq, Nat.reduceAdd, or_false, or_true, reduceIte, cond_true, cond_false, List.getD_cons_zero, List.getD_cons_succ, BEq.rfl]
          clear hg ho25 hG25 hv25 hv24 e60 e62 hcc hff HK7 HR7 HB7 hslc HW7
          generalize W.setCell ⟨T, 1, none⟩ _ = W9 at H2 ⊢
          have hk2 : ((k + 1 : Nat) : Int) = (k : Int) + 1 := by omega
          go_wp2_with fail
          go_roundw
          case rel => refine ⟨k + 1, G, C, by rw [hk2], H2.out⟩
          case measure => simp [intOf]; omega
      · have hc : ¬ ((k : Int) + 1 ≤ (L : Int)) := by omega
        have HR8 : Hid (wr.cell? ⟨T, 0, none⟩ = some (.slice va n vc) ∧ wr.cell? ⟨T, 1, none⟩ = some (.slice (some ⟨g, 0, none⟩) (k + 1) uc) ∧ wr.cell? ⟨g, L, none⟩ = some (.int .u32 (Go.Proofs.YtbfbehjldloeoaaDoor.W (sum (xs.take (64 * L)))))) := by
          refine ⟨hr.out.1.bk.cell 0, hr.out.1.bk.cell 1, ?_⟩
          rw [hr.out.1.om.cellAt L (by omega)]
          exact mks_get xs (k + 1) L (by omega)
        obtain ⟨c0, c1, c2⟩ := HR8.out
        have hLk : L < k + 1 := by omega
        have hLe : 64 * L ≤ en := HL.out.1
        have hev : en ≤ vc := by have := HOT.out.2.2.2; omega
        have hen : en ≤ 1099511627776 := by have := HOT.out.2.2.2; omega
        have hslc := slice_blh va n vc (64 * L) en hLe hev
        rw [show ((64 * L : Nat) : Int) = (L : Int) * 64 from by omega] at hslc
        have hbo : Own 0 wr (.slice va n vc) n xs := by have := hr.out.1.ob; rw [← HOT.out.2.2.1] at this; exact this
        have hsm := sum_more xs (64 * L) en hLe (by have := HOT.out; omega)
        have HM : ∀ q, Calls Tryd.prog 37 #[.int .u32 (Go.Proofs.YtbfbehjldloeoaaDoor.W (sum (xs.take (64 * L)))), .slice (cutB va vc (64 * L)) (en - 64 * L) (vc - 64 * L)] (wr.drewN q) fun e w' => e = .returned (.int .u32 (Go.Proofs.YtbfbehjldloeoaaDoor.W (sum (xs.take en)))) ∧ w' = wr.drewN q := fun q => by
          have hb := belowDrew (Below.refl wr.heap.size wr) q
          have := more_c (sum (xs.take (64 * L))) (cutB va vc (64 * L)) (en - 64 * L) (vc - 64 * L) _ (wr.drewN q) ((seg_cutB (own_segv hbo).1 (64 * L) en hLe HOT.out.2.2.2 hvc).below hb) ((hr.out.1.hx.take _).drop _) ((HT.out wr hr.out.2).below hb) (by omega)
          rw [hsm] at this
          exact this
        replace HM : Hid _ := HM
        have HE : Hid _ := hr.out
        clear hr HR8 hbo hsm HT HL HOT hlt
        have hw8 : wrap64 ((L : Int) * 64) = (L : Int) * 64 := IntWalk.wrap64_in _ ⟨by omega, by omega⟩
        have hw9 : IntKind.i64.wrap ((L : Int) * 64) = (L : Int) * 64 := IntWalk.i64_in _ ⟨by omega, by omega⟩
        go_wp2_with fail
        go_quiet (first | (go_at_call 37; refine Calls.quiet_of_same (HM.out _)))
        all_goals go_wp2
        all_goals go_ret
        all_goals exact ⟨rfl, _, _, HE.out.1.gr (Gr.ofB (belowDrew (Below.refl _ _) _)) (fun _ _ z => z), HE.out.2.drewN _⟩
end Go.Proofs.YtbfbehjldloeoaaDoor
