/-
  Frames in memory, and what Splitter.find leaves: one frame more. Condition: fewer than 2^40 frames.
-/
import Derived.Test.YtbfbehjldloeoaaDoorFMe
import Derived.Test.YtbfbehjldloeoaaDoorFCu
namespace Go.Proofs.YtbfbehjldloeoaaDoor
set_option linter.unusedVariables false
open Go.RowKit

/-- A frame, and where its body lies. -/
structure FrM where
  t : Int
  ys : List Int
  u : Value
def FrM.fr (f : FrM) : Int × List Int := (f.t, f.ys)
def flF (L : List FrM) : List Value := L.flatMap fun f => [.int .i64 f.t, f.u]
theorem flF_snoc (L : List FrM) (f : FrM) : flF (L ++ [f]) = flF L ++ [.int .i64 f.t, f.u] := by unfold flF; rw [List.flatMap_append]; rfl
theorem flF_app (L D : List FrM) : flF (L ++ D) = flF L ++ flF D := List.flatMap_append
/-- Frames in memory of their own, in blocks that F says. -/
structure FrL (F : Nat → Prop) (w : World) (v : Value) (L : List FrM) : Prop where
  own : w.ownsRow 0 29 2 v L.length (flF L)
  fv : ∀ k, v.ownBlock = some k → F k
  body : ∀ f ∈ L, Own 0 w f.u f.ys.length f.ys ∧ ∀ k, f.u.ownBlock = some k → F k ∧ v.ownBlock ≠ some k
  apart : L.Pairwise fun f g => ∀ k, f.u.ownBlock = some k → g.u.ownBlock ≠ some k
theorem frl_nil (F : Nat → Prop) (w : World) : FrL F w (.slice none 0 0) [] := ⟨World.ownsRow_nil _ _ _ _, fun k hk => (by cases hk), fun f hf => (by cases hf), List.Pairwise.nil⟩
theorem FrL.gr {F G : Nat → Prop} {w w' : World} {v : Value} {L : List FrM} (h : FrL F w v L) (hg : Gr G w w') (hn : ∀ k, F k → ¬ G k) : FrL F w' v L :=
  ⟨own_gr h.own hg (fun b hb => hn b (h.fv b hb)), h.fv, fun f hf => ⟨own_gr (h.body f hf).1 hg (fun b hb => hn b ((h.body f hf).2 b hb).1), (h.body f hf).2⟩, h.apart⟩
theorem FrL.weak {F F' : Nat → Prop} {w : World} {v : Value} {L : List FrM} (h : FrL F w v L) (hn : ∀ k, k < w.heap.size → F k → F' k) : FrL F' w v L :=
  ⟨h.own, fun k hk => hn k (own_lt h.own k hk).2 (h.fv k hk), fun f hf => ⟨(h.body f hf).1, fun k hk => ⟨hn k (own_lt (h.body f hf).1 k hk).2 ((h.body f hf).2 k hk).1, ((h.body f hf).2 k hk).2⟩⟩, h.apart⟩
theorem Tryd.infoFrm : (Tryd.prog.info? 29).map (fun i => (i.zero, i.size, i.bytes)) = some (some (.agg #[.int .i64 0, .slice none 0 0]), 2, 32) := by kernel_rfl
/-- One frame more. -/
theorem frl_app {F : Nat → Prop} {w W1 W2 : World} {v v' : Value} {L : List FrM} {f : FrM} (h : FrL F w v L) (h1 : w.grownBy W1 none) (hb : Own w.heap.size W1 f.u f.ys.length f.ys) (hg : W1.grownBy W2 v.ownBlock) (ho : W2.ownsRow 0 29 2 v' (L.length + 1) (flF L ++ [.int .i64 f.t, f.u])) (hv : ∀ k, v'.ownBlock = some k → (v.ownBlock = some k ∨ W1.heap.size ≤ k)) :
    FrL (fun k => F k ∨ w.heap.size ≤ k) W2 v' (L ++ [f]) := by
  have hs := h1.size
  have hG1 : Gr (fun _ => False) w W1 := Gr.of h1 (by simp)
  have hG2 : Gr (fun k => v.ownBlock = some k) W1 W2 := Gr.of hg (fun k hk => .inl hk)
  have hlo := own_lt hb
  refine ⟨by rw [List.length_append, flF_snoc]; exact ho, fun k hk => ?_, fun g hgm => ?_, ?_⟩
  · rcases hv k hk with z | z
    · exact .inl (h.fv k z)
    · exact .inr (by omega)
  · rcases List.mem_append.1 hgm with z | z
    · have q := h.body g z
      refine ⟨own_gr (own_gr q.1 hG1 (fun _ _ z => z)) hG2 (fun k hk => (q.2 k hk).2), fun k hk => ⟨.inl (q.2 k hk).1, fun e => ?_⟩⟩
      rcases hv k e with z2 | z2
      · exact (q.2 k hk).2 z2
      · have := (own_lt q.1 k hk).2; omega
    · obtain rfl : g = f := by simpa using z
      refine ⟨own_gr (own_base0 hb) hG2 (fun k hk e => ?_), fun k hk => ⟨.inr (hlo k hk).1, fun e => ?_⟩⟩
      · have := (own_lt h.own k e).2; have := (hlo k hk).1; omega
      · rcases hv k e with z2 | z2
        · have := (own_lt h.own k z2).2; have := (hlo k hk).1; omega
        · have := (hlo k hk).2; omega
  · rw [List.pairwise_append]
    refine ⟨h.apart, List.pairwise_singleton _ _, fun g hgm f' hf' k hk e => ?_⟩
    obtain rfl : f' = f := by simpa using hf'
    have := (own_lt (h.body g hgm).1 k hk).2
    have := (hlo k e).1
    omega
theorem range_gb {w w' : World} {M : Nat} {vs : List Value} {row : Option Nat} (h : w.rangeAt M 0 vs) (hg : w.grownBy w' row) (hne : row ≠ some M) (hl : M < w.heap.size) : w'.rangeAt M 0 vs := fun i v hv => by
  have e := hg.block M hl hne.symm
  have := h i v hv
  simp only [World.cell?, e] at this ⊢
  exact this
theorem range_new2 (w : World) (x y : Value) : (w.alloc (.cells #[x, y] 29)).rangeAt w.heap.size 0 [x, y] := fun i v hv => by
  rw [Nat.zero_add, Bk.cell (blk_new w 29 #[x, y]).1 i]
  simpa using hv
/-- What find leaves. -/
structure FindA (O F : Nat → Prop) (w : World) (S T : Nat) (v u : Value) (xs : List Int) (M a most : Nat) (j l : Int) (fv : Value) (L : List FrM) (w' : World) : Prop where
  ex : ∃ fv' f, f.fr = ((xs.drop a)[2]?.getD 0, fbody (xs.drop a)) ∧ Sp w' S T ((a + (flen (xs.drop a) + 14) : Nat) : Int) xs.length most j l fv' ∧ FrL (fun k => F k ∨ w.heap.size ≤ k) w' fv' (L ++ [f])
  gr : Gr (fun k => k = S ∨ fv.ownBlock = some k) w w'
set_option maxRecDepth 20000 in
set_option maxHeartbeats 2000000 in
theorem find_c (O F : Nat → Prop) (S T : Nat) (v u : Value) (xs : List Int) (M a most : Nat) (j l : Int) (fv : Value) (L : List FrM) (w : World) (h : Sp w S T a xs.length most j l fv) (hs : Str O w T v u xs M) (hL : FrL F w fv L) (hFS : ¬ F S) (hFv : ∀ k, v.ownBlock = some k → ¬ F k) (hFT : ¬ F T) (ha : a ≤ xs.length) (hm : most ≤ 1048576) (hl : xs.length ≤ 1099511627776) (hc : L.length ≤ 1099511627776)
    (hf : fmeet most (xs.drop a) = 0) :
    Calls Tryd.prog 28 #[.pointer (some ⟨S, 0, none⟩)] w fun r w' => r = .returned (.bool true) ∧ FindA O F w S T v u xs M a most j l fv L w' := by
  obtain ⟨n, hn⟩ : ∃ n, n = xs.length := ⟨_, rfl⟩
  obtain ⟨va, vc, rfl, _, _, hvc⟩ := hs.ob.seg
  obtain ⟨fa, fc, rfl⟩ := (own_shape hL.own).1
  obtain ⟨cn, hcn⟩ : ∃ cn, cn = L.length := ⟨_, rfl⟩
  rw [← hn] at h hs hvc ha hl
  obtain ⟨ys, hys⟩ : ∃ ys, ys = xs.drop a := ⟨_, rfl⟩
  have hyl : ys.length = n - a := by rw [hys, List.length_drop, hn]
  have hby : Bytes ys := by rw [hys]; exact hs.hx.drop _
  rw [← hys] at hf
  obtain ⟨_, hy10, _, hfm, hfl⟩ := fbeg_ok (fmeet_ok hf).1
  obtain ⟨P, hP⟩ : ∃ P, P = flen ys := ⟨_, rfl⟩
  rw [← hP] at hfm hfl
  obtain ⟨X2, hX2⟩ : ∃ X, X = ys[2]?.getD (0 : Int) := ⟨_, rfl⟩
  have hbd : ((ys.take (P + 14)).drop 10).take P = fbody ys := by
    unfold fbody
    rw [List.drop_take, List.take_take, ← hP]
    congr 1
    omega
  have hbl : (fbody ys).length = P := by unfold fbody; rw [List.length_take, List.length_drop]; omega
  have HSG : Hid (∀ W, w.grownBy W none → Seg .u8 W (cutB va vc a) (n - a) ys) := fun W hg => by
    have hb := own_gr hs.ob (Gr.of (G := fun _ => False) hg (by simp)) (fun _ _ z => z)
    rw [← hn] at hb
    have := seg_cutB (own_segv hb).1 a n ha (Nat.le_refl _) hvc
    rw [List.take_of_length_le (by omega), ← hys] at this
    exact this
  have HL : Hid (∀ W, w.grownBy W none → Calls Tryd.prog 38 #[.pointer (some ⟨S, 0, none⟩)] W fun r w' => r = .returned (.slice (cutB va vc a) (n - a) (vc - a)) ∧ W.grownBy w' none) := fun W hg => by
    have hG0 : Gr (fun _ => False) w W := Gr.of hg (by simp)
    refine (left2_c S T a n vc va most j l (.slice fa L.length fc) u W (Sp.gr h hG0 (fun z => z)) (hs.bk.gr hG0 (fun z => z)) ha hvc).mono ?_
    rintro r w' ⟨q1, q, rfl⟩
    exact ⟨q1, drewN_gb W q⟩
  have HTO : Hid (∀ W, w.grownBy W none → Calls Tryd.prog 23 #[.slice (cutB va vc a) (n - a) (vc - a)] W fun r w' => r = .returned (.int .i64 ((P : Int) + 14)) ∧ W.grownBy w' none) := fun W hg => by
    refine (told_c (cutB va vc a) (n - a) (vc - a) ys W (HSG.out W hg) hby (by omega)).mono ?_
    rintro r w' ⟨q1, q2⟩
    rw [← hP] at q1
    exact ⟨by rw [q1]; push_cast; rfl, gb_of q2⟩
  have HCU : Hid (∀ W, w.grownBy W none → Calls Tryd.prog 25 #[.slice (cutB va vc a) (P + 14) (vc - a)] W fun r w' => ∃ ua uc, r = .returned (.agg #[.int .i64 X2, .slice ua P uc]) ∧ Own w.heap.size w' (.slice ua P uc) P (fbody ys) ∧ W.grownBy w' none) := fun W hg => by
    refine (cut_c (cutB va vc a) P (vc - a) (ys.take (P + 14)) W (seg_headB (HSG.out W hg) (by omega)) (hby.take _) (by omega) (by omega)).mono ?_
    rintro r w' ⟨q, q1, q2, q3⟩
    rw [hbd] at q2
    obtain ⟨ua, uc, rfl, _⟩ := q2.seg
    refine ⟨ua, uc, ?_, q2.base hg.size, gb_of q3⟩
    rw [q1, List.getElem?_take_of_lt (by omega), hX2]
  have HK : Hid (∀ W, w.grownBy W (Value.slice fa cn fc).ownBlock → Sp W S T a n most j l (.slice fa cn fc)) := fun W hg => Bk.grew (by rw [hcn]; exact h) hg (fun e => hFS (hL.fv S (by rw [← hcn]; exact e)))
  have HR : Hid (∀ W, w.grownBy W none → W.ownsRow 0 29 2 (.slice fa cn fc) cn (flF L)) := fun W hg => by rw [hcn]; exact own_gr hL.own (Gr.of (G := fun _ => False) hg (by simp)) (fun _ _ z => z)
  have HAD : Hid (wrap64 ((a : Int) + ((P : Int) + 14)) = (a : Int) + ((P : Int) + 14) ∧ IntKind.i64.wrap ((a : Int) + ((P : Int) + 14)) = (a : Int) + ((P : Int) + 14)) := ⟨IntWalk.wrap64_in _ ⟨by omega, by omega⟩, IntWalk.i64_in _ ⟨by omega, by omega⟩⟩
  have hslc := slice_bh (cutB va vc a) (n - a) (vc - a) (P + 14) (by omega)
  rw [show ((P + 14 : Nat) : Int) = (P : Int) + 14 from by omega] at hslc
  replace hslc : Hid _ := hslc
  have HUB : Hid (∀ b, (Value.slice fa cn fc).ownBlock = some b → b < w.heap.size) := fun b hb => (own_lt hL.own b (by rw [← hcn]; exact hb)).2
  have HE : Hid (∀ W1 W2 W3 fv' ua uc, w.grownBy W1 none → Own w.heap.size W1 (.slice ua P uc) P (fbody ys) → W1.grownBy W2 (Value.slice fa cn fc).ownBlock → W2.ownsRow 0 29 2 fv' (cn + 1) (flF L ++ [.int .i64 X2, .slice ua P uc]) → (∀ k, fv'.ownBlock = some k → ((Value.slice fa cn fc).ownBlock = some k ∨ W1.heap.size ≤ k)) → Sp W3 S T ((a : Int) + ((P : Int) + 14)) n most j l fv' → Gr (fun k => k = S) W2 W3 → FindA O F w S T (.slice va xs.length vc) u xs M a most j l (.slice fa L.length fc) L W3) := by
    intro W1 W2 W3 fv' ua uc k1 k2 k3 k4 k5 k6 k7
    rw [hcn] at k3 k4 k5
    have hG1 : Gr (fun _ => False) w W1 := Gr.of k1 (by simp)
    have hfr := frl_app (f := ⟨X2, fbody ys, .slice ua P uc⟩) hL k1 (by show Own w.heap.size W1 (.slice ua P uc) (fbody ys).length (fbody ys); rw [hbl]; exact k2) k3 k4 k5
    have hSw : S < w.heap.size := lt_of_block h
    refine ⟨⟨fv', ⟨X2, fbody ys, .slice ua P uc⟩, by rw [hX2, hys]; rfl, ?_, hfr.gr k7 (fun k hk e => ?_)⟩, ?_⟩
    · rw [← hys, ← hP, ← hn]
      rw [show ((a + (P + 14) : Nat) : Int) = (a : Int) + ((P : Int) + 14) from by omega]
      exact k6
    · rcases hk with z | z
      · exact hFS (e ▸ z)
      · omega
    · refine (((Gr.refl _ w).then hG1 (fun _ _ z => z.elim)).then (Gr.of (G := fun k => (Value.slice fa L.length fc).ownBlock = some k) k3 (fun k hk => .inl hk)) (fun i _ z => .inr z)).then k7 (fun i _ z => .inl z)
  have hP2 : P ≤ 1048576 := by omega
  rw [← hcn] at hc
  clear h hs hL hFS hFv hFT hn hys hyl hby HSG hbd hbl hX2 hP hfl hfm hy10 hcn
  go_enter Tryd.func28, Tryd.ntmps28
  go_wp2_with (first
    | (go_at_call 38; go_must (refine (Calls.mono (HL.out _ (World.grownBy.refl _ _)) ?_)); rintro r w1 ⟨rfl, h1⟩; have H1 : Hid (w.grownBy w1 none) := h1; clear h1)
    | (go_at_call 23; go_must (refine (Calls.mono (HTO.out _ H1.out) ?_)); rintro r w2 ⟨rfl, h2⟩; have H2 : Hid (w.grownBy w2 none) := gb_trans H1.out h2; clear h2))
  refine wp_region_lastB (fun a b => World.grownBy a b (Value.slice fa cn fc).ownBlock) (fun a b => World.grownBy a b none) (fun a b => World.grownBy a b (Value.slice fa cn fc).ownBlock) (fun _ _ _ h k => gb_trans h k) (fun _ _ h => gb_wide h _) (fun _ _ h => h) ⟨rfl, rfl, rfl, Nat.le_refl _, fun _ _ _ => rfl⟩ (fun _ _ _ h k => gb_trans h k) ⟨rfl, rfl, rfl, Nat.le_refl _, fun _ _ _ => rfl⟩ 14 11 rfl (by kernel_rfl) [7, 8, 9, 10, 11, 12, 13, 14, 15, 16, 17, 18, 19, 20, 100014] [[], [], [1], [2], [3], [], [5], [], [6, 7], [8], [9], [4, 10], [0], [12], [13, 11]] (by kernel_rfl) (by kernel_rfl) [1, 2, 3, 4, 5, 6, 7, 8, 9, 10] (by kernel_rfl) [fun u W => u = .pointer (some ⟨S, 0, none⟩), fun u W => u = .pointer (some ⟨S, 0, none⟩), fun u W => u = .pointer (some ⟨S, 0, none⟩), fun u W => u = .pointer (some ⟨S, 6, none⟩), fun u W => u = .slice fa cn fc, fun u W => u = .pointer (some ⟨S, 0, none⟩), fun u W => u = .slice (cutB va vc a) (n - a) (vc - a), fun u W => u = .int .i64 ((P : Int) + 14), fun u W => u = .slice (cutB va vc a) (P + 14) (vc - a), fun u Wo => ∃ ua uc, u = .agg #[.int .i64 X2, .slice ua P uc] ∧ Own w.heap.size Wo (.slice ua P uc) P (fbody ys), fun u Wo => ∃ B ua uc, u = .slice (some ⟨B, 0, none⟩) 1 1 ∧ Wo.rangeAt B 0 [.int .i64 X2, .slice ua P uc] ∧ w2.heap.size ≤ B ∧ B < Wo.heap.size ∧ Own w.heap.size Wo (.slice ua P uc) P (fbody ys), fun u Wo => ∃ G C ua uc W1, u = .slice (some ⟨G, 0, none⟩) (cn + 1) C ∧ Wo.ownsRow 0 29 2 (.slice (some ⟨G, 0, none⟩) (cn + 1) C) (cn + 1) (flF L ++ [.int .i64 X2, .slice ua P uc]) ∧ w2.grownBy W1 none ∧ Own w.heap.size W1 (.slice ua P uc) P (fbody ys) ∧ W1.grownBy Wo (Value.slice fa cn fc).ownBlock ∧ ((Value.slice fa cn fc).ownBlock = some G ∨ W1.heap.size ≤ G), fun u W => u = .pointer (some ⟨S, 0, none⟩), fun u W => u = .pointer (some ⟨S, 6, none⟩)] ?stable ?stableA ?step ?last
  case stable =>
    intro i v W W' h hg
    match i, h with
    | 0, h => exact h
    | 1, h => exact h
    | 2, h => exact h
    | 3, h => exact h
    | 4, h => exact h
    | 5, h => exact h
    | 6, h => exact h
    | 7, h => exact h
    | 8, h => exact h
    | 9, h => obtain ⟨ua, uc, h1, h2⟩ := h; exact ⟨ua, uc, h1, own_gr h2 (Gr.of (G := fun _ => False) hg (by simp)) (fun _ _ z => z)⟩
    | 10, h => obtain ⟨B, ua, uc, h1, h2, h3, h4, h5⟩ := h; exact ⟨B, ua, uc, h1, range_gb h2 hg (by simp) h4, h3, Nat.lt_of_lt_of_le h4 hg.size, own_gr h5 (Gr.of (G := fun _ => False) hg (by simp)) (fun _ _ z => z)⟩
    | 11, h => obtain ⟨G, C, ua, uc, W1, h1, h2, h3, h4, h5, h6⟩ := h; exact ⟨G, C, ua, uc, W1, h1, own_gr h2 (Gr.of (G := fun _ => False) hg (by simp)) (fun _ _ z => z), h3, h4, gb_trans h5 (gb_wide hg _), h6⟩
    | 12, h => exact h
    | 13, h => exact h
    | i + 14, h => exact trivial
  case stableA =>
    intro i v W W' hne hnu h hg
    have hgG : Gr (fun k => (Value.slice fa cn fc).ownBlock = some k) W W' := Gr.of hg (fun k hk => .inl hk)
    match i, hne, h with
    | 0, _, h => exact h
    | 1, _, h => exact h
    | 2, _, h => exact h
    | 3, _, h => exact h
    | 4, _, h => exact h
    | 5, _, h => exact h
    | 6, _, h => exact h
    | 7, _, h => exact h
    | 8, _, h => exact h
    | 9, _, h => obtain ⟨ua, uc, h1, h2⟩ := h; exact ⟨ua, uc, h1, own_gr h2 hgG (fun k hk e => by have h7 := (own_lt h2 k hk).1; have h8 := HUB.out k e; omega)⟩
    | 10, _, h => obtain ⟨B, ua, uc, h1, h2, h3, h4, h5⟩ := h; exact ⟨B, ua, uc, h1, range_gb h2 hg (fun e => by have h8 := HUB.out B e; have := H2.out.size; omega) h4, h3, Nat.lt_of_lt_of_le h4 hg.size, own_gr h5 hgG (fun k hk e => by have h7 := (own_lt h5 k hk).1; have h8 := HUB.out k e; omega)⟩
    | 11, hne, _ => exact absurd rfl hne
    | 12, _, h => exact h
    | 13, _, h => exact h
    | i + 14, _, h => exact trivial
  case step =>
    intro f W A hA hg i o hin ho hu K hK
    match i, hin, ho, hu, hK with
    | 0, hin, ho, hu, hK =>
      cases ho
      have e0 : A.eval (.tmp 0) = .pointer (some ⟨S, 0, none⟩) := ev_out hA 0 rfl
      exact ph_move _ rfl rfl (.pointer (some ⟨S, 0, none⟩)) e0 (hK _ _ (gb_rr W _) rfl)
    | 1, hin, ho, hu, hK =>
      cases ho
      have e0 : A.eval (.tmp 0) = .pointer (some ⟨S, 0, none⟩) := ev_out hA 0 rfl
      exact ph_move _ rfl rfl (.pointer (some ⟨S, 0, none⟩)) e0 (hK _ _ (gb_rr W _) rfl)
    | 2, hin, ho, hu, hK =>
      cases ho
      have e8 : A.eval (.tmp 8) = .pointer (some ⟨S, 0, none⟩) := (ev_in hA 8 1 rfl rfl rfl).trans (show f 1 = .pointer (some ⟨S, 0, none⟩) from hu 1 (by decide))
      exact ph_nil _ rfl rfl _ e8 (hK _ _ (gb_rr W _) rfl)
    | 3, hin, ho, hu, hK =>
      cases ho
      have e9 : A.eval (.tmp 9) = .pointer (some ⟨S, 0, none⟩) := (ev_in hA 9 2 rfl rfl rfl).trans (show f 2 = .pointer (some ⟨S, 0, none⟩) from hu 2 (by decide))
      exact ph_field _ _ _ rfl rfl _ (.pointer (some ⟨S, 6, none⟩)) e9 (by kernel_rfl) (hK _ _ (gb_rr W _) rfl)
    | 4, hin, ho, hu, hK =>
      cases ho
      have e10 : A.eval (.tmp 10) = .pointer (some ⟨S, 6, none⟩) := (ev_in hA 10 3 rfl rfl rfl).trans (show f 3 = .pointer (some ⟨S, 6, none⟩) from hu 3 (by decide))
      have hc : W.cell? ⟨S, 6, none⟩ = some (.slice fa cn fc) := (HK.out W (gb_trans (gb_wide H2.out _) hg)).cells.2.2.2.2.2.2
      refine ph_sem rfl rfl (r := .ok (.value (.slice fa cn fc)) W) ?_ (hK _ _ (gb_rr W _) rfl)
      have eC : ∀ c, A.eval (.const c) = c := fun _ => rfl; have eF : ∀ g, A.eval (.func g) = .func (.func g) #[] #[] := fun _ => rfl; generalize A.eval = ρ at *
      clear hA hu hg
      go_simp
    | 5, hin, ho, hu, hK =>
      cases ho
      have e0 : A.eval (.tmp 0) = .pointer (some ⟨S, 0, none⟩) := ev_out hA 0 rfl
      exact ph_move _ rfl rfl (.pointer (some ⟨S, 0, none⟩)) e0 (hK _ _ (gb_rr W _) rfl)
    | 6, hin, ho, hu, hK =>
      cases ho
      have e12 : A.eval (.tmp 12) = .pointer (some ⟨S, 0, none⟩) := (ev_in hA 12 5 rfl rfl rfl).trans (show f 5 = .pointer (some ⟨S, 0, none⟩) from hu 5 (by decide))
      refine ph_fn 38 _ _ rfl rfl #[.pointer (some ⟨S, 0, none⟩)] (by simp [e12]) (by kernel_rfl) ?_
      refine (Calls.mono (HL.out W (gb_trans H2.out (hin.2 (.inr (by decide))))) ?_)
      rintro e W' ⟨rfl, hq⟩
      exact ⟨_, rfl, hK _ _ hq rfl⟩
    | 7, hin, ho, hu, hK =>
      cases ho
      have e3 : A.eval (.tmp 3) = .int .i64 ((P : Int) + 14) := ev_out hA 3 rfl
      exact ph_move _ rfl rfl (.int .i64 ((P : Int) + 14)) e3 (hK _ _ (gb_rr W _) rfl)
    | 8, hin, ho, hu, hK =>
      cases ho
      have e13 : A.eval (.tmp 13) = .slice (cutB va vc a) (n - a) (vc - a) := (ev_in hA 13 6 rfl rfl rfl).trans (show f 6 = .slice (cutB va vc a) (n - a) (vc - a) from hu 6 (by decide))
      have e14 : A.eval (.tmp 14) = .int .i64 ((P : Int) + 14) := (ev_in hA 14 7 rfl rfl rfl).trans (show f 7 = .int .i64 ((P : Int) + 14) from hu 7 (by decide))
      have hsl := hslc.out W
      refine ph_sem rfl rfl (r := .ok (.value (.slice (cutB va vc a) (P + 14) (vc - a))) W) ?_ (hK _ _ (gb_rr W _) rfl)
      have eC : ∀ c, A.eval (.const c) = c := fun _ => rfl; have eF : ∀ g, A.eval (.func g) = .func (.func g) #[] #[] := fun _ => rfl; generalize A.eval = ρ at *
      clear hA hu hg hK hin
      go_simp
    | 9, hin, ho, hu, hK =>
      cases ho
      have e15 : A.eval (.tmp 15) = .slice (cutB va vc a) (P + 14) (vc - a) := (ev_in hA 15 8 rfl rfl rfl).trans (show f 8 = .slice (cutB va vc a) (P + 14) (vc - a) from hu 8 (by decide))
      refine ph_fn 25 _ _ rfl rfl #[.slice (cutB va vc a) (P + 14) (vc - a)] (by simp [e15]) (by kernel_rfl) ?_
      refine (Calls.mono (HCU.out W (gb_trans H2.out (hin.2 (.inr (by decide))))) ?_)
      rintro e W' ⟨ua, uc, rfl, k1, hq⟩
      exact ⟨_, rfl, hK _ _ hq ⟨ua, uc, rfl, k1⟩⟩
    | 10, hin, ho, hu, hK =>
      cases ho
      obtain ⟨ua, uc, hv9, ho9⟩ := hu 9 (by decide)
      have e16 : A.eval (.tmp 16) = .agg #[.int .i64 X2, .slice ua P uc] := (ev_in hA 16 9 rfl rfl rfl).trans hv9
      refine ph_sem rfl rfl (r := .ok (.value (.slice (some ⟨W.heap.size, 0, none⟩) 1 1)) (W.alloc (.cells #[.int .i64 X2, .slice ua P uc] 29))) ?_ (hK _ _ (World.grownBy_alloc _ _ _) ⟨_, ua, uc, rfl, range_new2 _ _ _, hg.size, by simp, own_gr ho9 ((Gr.refl (fun _ => False) W).alloc _) (fun _ _ z => z)⟩)
      have eC : ∀ c, A.eval (.const c) = c := fun _ => rfl; have eF : ∀ g, A.eval (.func g) = .func (.func g) #[] #[] := fun _ => rfl; generalize A.eval = ρ at *
      clear hA hu hg hK hin
      go_simp
    | 11, hin, ho, hu, hK =>
      cases ho
      have e11 : A.eval (.tmp 11) = .slice fa cn fc := (ev_in hA 11 4 rfl rfl rfl).trans (show f 4 = .slice fa cn fc from hu 4 (by decide))
      obtain ⟨B, ua, uc, hv10, hr10, hm10, hl10, ho10⟩ := hu 10 (by decide)
      have e17 : A.eval (.tmp 17) = .slice (some ⟨B, 0, none⟩) 1 1 := (ev_in hA 17 10 rfl rfl rfl).trans hv10
      obtain ⟨i3, hi3, hz3, hs3, hb3⟩ := info_parts' Tryd.infoFrm
      refine step_append_lies _ rfl (.tmp 11) (.tmp 17) 37 rfl 0 29 i3 (.agg #[.int .i64 0, .slice none 0 0]) 2 32 Tryd.underlying37 hi3 hz3 hs3 hb3 rfl (by decide) (.slice fa cn fc) cn (flF L) e11 (HR.out W (gb_trans H2.out (hin.2 (.inl rfl)))) ⟨B, 0, none⟩ 1 1 [.int .i64 X2, .slice ua P uc] e17 rfl (fun j u hj => by rw [Go.WideShapes.add_plain]; exact hr10 j u hj) (by intro u hu; simp at hu; rcases hu with rfl | rfl <;> rfl) (by decide) (by unfold maxLen; omega) (by omega) (Nat.zero_le _) _ rfl ?_
      intro G C W2 k1 k2 k3 k4
      exact hK _ _ k2 ⟨G, C, ua, uc, W, rfl, k1, hin.2 (.inl rfl), ho10, k2, k3.imp id (fun e => by rw [e]; exact Nat.le_refl _)⟩
    | 12, hin, ho, hu, hK =>
      cases ho
      have e7 : A.eval (.tmp 7) = .pointer (some ⟨S, 0, none⟩) := (ev_in hA 7 0 rfl rfl rfl).trans (show f 0 = .pointer (some ⟨S, 0, none⟩) from hu 0 (by decide))
      exact ph_nil _ rfl rfl _ e7 (hK _ _ (gb_rr W _) rfl)
    | 13, hin, ho, hu, hK =>
      cases ho
      have e19 : A.eval (.tmp 19) = .pointer (some ⟨S, 0, none⟩) := (ev_in hA 19 12 rfl rfl rfl).trans (show f 12 = .pointer (some ⟨S, 0, none⟩) from hu 12 (by decide))
      exact ph_field _ _ _ rfl rfl _ (.pointer (some ⟨S, 6, none⟩)) e19 (by kernel_rfl) (hK _ _ (gb_rr W _) rfl)
    | i + 14, hin, ho, hu, hK => omega
  case last =>
    intro f W A hA hg hu o ho K hK
    cases ho
    obtain ⟨G, C, ua, uc, W1, hv11, ho11, hw11, hb11, hx11, hG11⟩ := hu 11 (by decide)
    obtain ⟨B, _, _, hv10, _, _, _, _⟩ := hu 10 (by decide)
    obtain ⟨ua9, uc9, hv9, _⟩ := hu 9 (by decide)
    have e18 : A.eval (.tmp 18) = .slice (some ⟨G, 0, none⟩) (cn + 1) C := (ev_in hA 18 11 rfl rfl rfl).trans hv11
    have e20 : A.eval (.tmp 20) = .pointer (some ⟨S, 6, none⟩) := (ev_in hA 20 13 rfl rfl rfl).trans (show f 13 = .pointer (some ⟨S, 6, none⟩) from hu 13 (by decide))
    have hSP : Sp W S T a n most j l (.slice fa cn fc) := HK.out W (gb_trans (gb_wide H2.out _) hg)
    have hcc : W.cell? ⟨S, 6, none⟩ = some (.slice fa cn fc) := hSP.cells.2.2.2.2.2.2
    have hff : W.frozen? ⟨S, 6, none⟩ = false := hSP.free 6
    refine ph_sem rfl rfl (r := .ok .skip (W.setCell ⟨S, 6, none⟩ (.slice (some ⟨G, 0, none⟩) (cn + 1) C))) ?_ (hK _ _ ?_)
    · have eC : ∀ c, A.eval (.const c) = c := fun _ => rfl
      generalize A.eval = ρ at *
      clear hA hu hg hK
      go_simp
    have HSP : Hid (Sp (W.setCell ⟨S, 6, none⟩ (.slice (some ⟨G, 0, none⟩) (cn + 1) C)) S T a n most j l (.slice (some ⟨G, 0, none⟩) (cn + 1) C)) := hSP.setFound _
    have HFE : Hid (∀ W3, Sp W3 S T ((a : Int) + ((P : Int) + 14)) n most j l (.slice (some ⟨G, 0, none⟩) (cn + 1) C) → Gr (fun k => k = S) W W3 → FindA O F w S T (.slice va xs.length vc) u xs M a most j l (.slice fa L.length fc) L W3) := fun W3 z1 z2 => HE.out W1 W W3 _ ua uc (gb_trans H2.out hw11) hb11 hx11 ho11 (fun k hk => by cases hk; exact hG11) z1 z2
    have hA2 := hA.trans (putAll_lit [(.pointer (some ⟨S, 0, none⟩)), (.pointer (some ⟨S, 0, none⟩)), (.pointer (some ⟨S, 0, none⟩)), (.pointer (some ⟨S, 6, none⟩)), (.slice fa cn fc), (.pointer (some ⟨S, 0, none⟩)), (.slice (cutB va vc a) (n - a) (vc - a)), (.int .i64 ((P : Int) + 14)), (.slice (cutB va vc a) (P + 14) (vc - a)), (.agg #[.int .i64 X2, .slice ua9 P uc9]), (.slice (some ⟨B, 0, none⟩) 1 1), (.slice (some ⟨G, 0, none⟩) (cn + 1) C), (.pointer (some ⟨S, 0, none⟩)), (.pointer (some ⟨S, 6, none⟩)), (f 14)] (by
      intro j hj
      match j, hj with
      | 0, _ => exact hu 0 (by decide)
      | 1, _ => exact hu 1 (by decide)
      | 2, _ => exact hu 2 (by decide)
      | 3, _ => exact hu 3 (by decide)
      | 4, _ => exact hu 4 (by decide)
      | 5, _ => exact hu 5 (by decide)
      | 6, _ => exact hu 6 (by decide)
      | 7, _ => exact hu 7 (by decide)
      | 8, _ => exact hu 8 (by decide)
      | 9, _ => exact hv9
      | 10, _ => exact hv10
      | 11, _ => exact hv11
      | 12, _ => exact hu 12 (by decide)
      | 13, _ => exact hu 13 (by decide)
      | 14, _ => rfl
      | j + 15, hj => exact absurd hj (by simp)))
    clear hu hA
    subst hA2
    simp only [putAll, putL, List.mem_cons, List.not_mem_nil, List.idxOf_cons, Nat.reduceEqDiff, Nat.reduceBEq, Nat.reduceAdd, or_false, or_true, reduceIte, cond_true, cond_false, List.getD_cons_zero, List.getD_cons_succ, BEq.rfl]
    clear e18 e20 hSP hcc hff hg ho11 hw11 hb11 hx11 hG11 hv11 hv10 hv9 HE HK HR HL HTO HCU hslc
    have HG9 : Hid (Gr (fun k => k = S) W (W.setCell ⟨S, 6, none⟩ (.slice (some ⟨G, 0, none⟩) (cn + 1) C))) := (Gr.refl (fun k => k = S) W).set S 6 rfl _
    generalize W.setCell ⟨S, 6, none⟩ (.slice (some ⟨G, 0, none⟩) (cn + 1) C) = W9 at HSP HG9 ⊢
    have c1 := HSP.out.cells.2.1
    have f1 := HSP.out.free 1
    have q1 := HAD.out.1
    have q2 := HAD.out.2
    go_wp2
    go_ret
    exact ⟨rfl, HFE.out _ (HSP.out.setAt _) (HG9.out.set S 1 rfl _)⟩
end Go.Proofs.YtbfbehjldloeoaaDoor
