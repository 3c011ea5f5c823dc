/-
  What the law's alike answers of two lists of the same frames: yes. No condition.
-/
import Derived.Test.YtegbgmihcokblaaDoorFAl
namespace Go.Proofs.YtegbgmihcokblaaDoor
set_option linter.unusedVariables false
open Go.RowKit

set_option maxHeartbeats 1000000 in
theorem is2_c (t : Int) (a b : Option Addr) (la ca lb cb : Nat) (xs : List Int) (w : World) (h1 : Seg .u8 w a la xs) (h2 : Seg .u8 w b lb xs) :
    Calls Tryd.prog 26 #[.agg #[.int .i64 t, .slice a la ca], .agg #[.int .i64 t, .slice b lb cb]] w fun r w' => r = .returned (.bool true) ∧ Below w.heap.size w w' := by
  obtain ⟨W1, hW1⟩ : ∃ W1, W1 = (w.alloc (.cells #[.int .i64 t, .slice a la ca] 42)).alloc (.cells #[.int .i64 t, .slice b lb cb] 42) := ⟨_, rfl⟩
  have HB : Hid (Below w.heap.size w W1) := by rw [hW1]; exact ((Below.refl _ _).alloc (Nat.le_refl _) _).alloc (by simp) _
  have r1 := seg_string (P := Tryd.prog) 28 9 5 ca (h1.below HB.out) Tryd.underlying28 Tryd.underlying5 Tryd.underlying9
  have r2 := seg_string (P := Tryd.prog) 28 9 5 cb (h2.below HB.out) Tryd.underlying28 Tryd.underlying5 Tryd.underlying9
  rw [hW1] at r1 r2 HB
  clear h1 h2 hW1
  go_enter Tryd.func26, Tryd.ntmps26
  go_wp2
  go_ret
  exact ⟨rfl, HB.out⟩
theorem flF_get (L : List FrM) (i : Nat) (f : FrM) (h : L[i]? = some f) : (flF L)[i * 2]? = some (.int .i64 f.t) ∧ (flF L)[i * 2 + 1]? = some f.u := by
  induction L generalizing i with
  | nil => simp at h
  | cons g L ih =>
    have e : flF (g :: L) = .int .i64 g.t :: g.u :: flF L := rfl
    rw [e]
    cases i with
    | zero =>
      have : g = f := by simpa using h
      subst this
      exact ⟨rfl, rfl⟩
    | succ i =>
      have := ih i (by simpa using h)
      rw [show (i + 1) * 2 = i * 2 + 1 + 1 from by omega]
      simpa using this
/-- Frames in a row of one's own, whose bodies can be read, wherever they lie. -/
structure RdL (w : World) (v : Value) (L : List FrM) : Prop where
  own : w.ownsRow 0 42 2 v L.length (flF L)
  body : ∀ f ∈ L, ∃ ua uc, f.u = .slice ua f.ys.length uc ∧ Seg .u8 w ua f.ys.length f.ys
theorem FrL.rd {F : Nat → Prop} {w : World} {v : Value} {L : List FrM} (h : FrL F w v L) : RdL w v L := ⟨h.own, fun f hf => by
  obtain ⟨ua, uc, hu, hs, _⟩ := (h.body f hf).1.seg
  exact ⟨ua, uc, hu, hs⟩⟩
/-- The k-th frame in memory. -/
theorem RdL.at {w : World} {v : Value} {L : List FrM} (h : RdL w v L) (k : Nat) (f : FrM) (hf : L[k]? = some f) : ∃ g c ua uc, v = .slice (some ⟨g, 0, none⟩) L.length c ∧ f.u = .slice ua f.ys.length uc ∧ Seg .u8 w ua f.ys.length f.ys ∧ w.rangeAt g (k * 2) [.int .i64 f.t, .slice ua f.ys.length uc] ∧ g < w.heap.size := by
  have hk : k < L.length := by
    rcases Nat.lt_or_ge k L.length with z | z
    · exact z
    · rw [List.getElem?_eq_none z] at hf; cases hf
  obtain ⟨g, c, rfl⟩ := (own_shape h.own).2 (by omega)
  have hm : f ∈ L := List.mem_of_getElem? hf
  obtain ⟨ua, uc, hu, hs⟩ := h.body f hm
  have hg := flF_get L k f hf
  have hlen : (flF L).length = L.length * 2 := h.own.1
  refine ⟨g, c, ua, uc, rfl, hu, hs, fun j x hx => ?_, (own_lt h.own g rfl).2⟩
  match j, hx with
  | 0, hx =>
    cases hx
    rw [Nat.add_zero, h.own.cellAt (k * 2) (by omega)]
    exact hg.1
  | 1, hx =>
    cases hx
    rw [h.own.cellAt (k * 2 + 1) (by omega), ← hu]
    exact hg.2
theorem FrL.at {F : Nat → Prop} {w : World} {v : Value} {L : List FrM} (h : FrL F w v L) (k : Nat) (f : FrM) (hf : L[k]? = some f) : ∃ g c ua uc, v = .slice (some ⟨g, 0, none⟩) L.length c ∧ f.u = .slice ua f.ys.length uc ∧ Seg .u8 w ua f.ys.length f.ys ∧ w.rangeAt g (k * 2) [.int .i64 f.t, .slice ua f.ys.length uc] ∧ g < w.heap.size := h.rd.at k f hf
theorem range_gbO {w w' : World} {M o : Nat} {vs : List Value} (h : w.rangeAt M o vs) (hg : w.grownBy w' none) (hl : M < w.heap.size) : w'.rangeAt M o vs := fun i v hv => by
  have e := hg.block M hl (by simp)
  have := h i v hv
  simp only [World.cell?, e] at this ⊢
  exact this
set_option maxRecDepth 20000 in
set_option maxHeartbeats 2000000 in
theorem alike_r (w : World) (a1 a2 : Option Addr) (c1 c2 : Nat) (L L2 : List FrM) (h : RdL w (.slice a1 L.length c1) L) (h2 : RdL w (.slice a2 L2.length c2) L2) (he : L.map FrM.fr = L2.map FrM.fr) (hn : L.length ≤ 1152921504606846976) :
    Calls Tryd.prog 21 #[.slice a1 L.length c1, .slice a2 L2.length c2] w fun r w' => r = .returned (.bool true) ∧ w.grownBy w' none := by
  have hl : L.length = L2.length := by have := congrArg List.length he; simpa using this
  have HH : Hid (RdL w (.slice a1 L.length c1) L ∧ RdL w (.slice a2 L2.length c2) L2 ∧ L.map FrM.fr = L2.map FrM.fr) := ⟨h, h2, he⟩
  rw [← hl]
  obtain ⟨n, hN⟩ : ∃ n, n = L.length := ⟨_, rfl⟩
  have HN : Hid (n = L.length ∧ n = L2.length) := ⟨hN, by omega⟩
  rw [← hN] at hn ⊢
  clear h h2 he hl hN
  go_enter Tryd.func21, Tryd.ntmps21
  go_wp2_with fail
  go_loopw [5] (fun i wr => ∃ k : Nat, k ≤ n ∧ i = .int .i64 (k : Int) ∧ Hid (w.grownBy wr none)) (fun i _ => n - (intOf i).toNat)
  case atStart => exact ⟨0, Nat.zero_le _, rfl, World.grownBy.refl _ _⟩
  case round =>
    obtain ⟨k, hk, rfl, HG⟩ := hrel
    by_cases hlt : k < n
    · have hci : (k : Int) < (n : Int) := by omega
      obtain ⟨f, hf⟩ : ∃ f, L[k]? = some f := ⟨_, List.getElem?_eq_getElem (show k < L.length by have := HN.out; omega)⟩
      obtain ⟨f2, hf2⟩ : ∃ f, L2[k]? = some f := ⟨_, List.getElem?_eq_getElem (show k < L2.length by have := HN.out; omega)⟩
      have hfr : f.fr = f2.fr := by
        have := congrArg (fun l => l[k]?) HH.out.2.2
        simpa [hf, hf2] using this
      obtain ⟨g, gc, ua, uc, e1, hu, hs, hr, hgl⟩ := HH.out.1.at k f hf
      obtain ⟨g2, gc2, ua2, uc2, e2, hu2, hs2, hr2, hgl2⟩ := HH.out.2.1.at k f2 hf2
      have ht : f2.t = f.t := (congrArg Prod.fst hfr).symm
      have hy : f2.ys = f.ys := (congrArg Prod.snd hfr).symm
      rw [ht, hy] at hr2
      rw [hy] at hs2
      cases e1
      cases e2
      obtain ⟨t, ht'⟩ : ∃ t, t = f.t := ⟨_, rfl⟩
      obtain ⟨m, hm'⟩ : ∃ m, m = f.ys.length := ⟨_, rfl⟩
      rw [← ht', ← hm'] at hr hr2
      rw [← hm'] at hs hs2
      have HR : Hid (∀ W, wr.grownBy W none → W.rangeAt g (k * 2) [.int .i64 t, .slice ua m uc] ∧ W.rangeAt g2 (k * 2) [.int .i64 t, .slice ua2 m uc2] ∧ Calls Tryd.prog 26 #[.agg #[.int .i64 t, .slice ua m uc], .agg #[.int .i64 t, .slice ua2 m uc2]] W fun r w' => r = .returned (.bool true) ∧ W.grownBy w' none) := fun W hg => by
        have hgW := gb_trans HG.out hg
        refine ⟨range_gbO hr hgW hgl, range_gbO hr2 hgW hgl2, ?_⟩
        exact (is2_c t ua ua2 m uc m uc2 f.ys W (hs.below (gb_below hgW)) (hs2.below (gb_below hgW))).mono (fun r w' ⟨z1, z2⟩ => ⟨z1, gb_of z2⟩)
      have HLT : Hid (k + 1 ≤ n) := hlt
      clear hf hf2 hfr hu hu2 hs hs2 hr hr2 ht hy ht' hm' HH hgl hgl2
      go_wp2_with fail
      refine wp_region_lastR (fun a b => World.grownBy a b none) (fun _ _ _ h k => gb_trans h k) ⟨rfl, rfl, rfl, Nat.le_refl _, fun _ _ _ => rfl⟩ 9 rfl (by kernel_rfl) [18, 19, 20, 21, 22, 23, 24, 25, 26, 27] [[], [], [0, 1], [2], [], [], [4, 5], [6], [3, 7], [8]] (by kernel_rfl) (by kernel_rfl) [fun u W => u = .slice (some ⟨g, 0, none⟩) n c1, fun u W => u = .int .i64 (k : Int), fun u W => u = .pointer (some ⟨g, k * 2, none⟩), fun u W => u = .agg #[.int .i64 t, .slice ua m uc], fun u W => u = .slice (some ⟨g2, 0, none⟩) n c2, fun u W => u = .int .i64 (k : Int), fun u W => u = .pointer (some ⟨g2, k * 2, none⟩), fun u W => u = .agg #[.int .i64 t, .slice ua2 m uc2], fun u W => u = .bool true] ?stable ?step ?last
      case stable =>
        intro i v W W' h hg
        match i, h with
        | 0, h => exact h
        | 1, h => exact h
        | 2, h => exact h
        | 3, h => exact h
        | 4, h => exact h
        | 5, h => exact h
        | 6, h => exact h
        | 7, h => exact h
        | 8, h => exact h
        | i + 9, h => exact trivial
      case step =>
        intro f W A hA hg i o hin ho hu K hK
        match i, hin, ho, hu, hK with
        | 0, hin, ho, hu, hK =>
          cases ho
          have e0 : A.eval (.tmp 0) = .slice (some ⟨g, 0, none⟩) n c1 := ev_out hA 0 rfl
          exact ph_move _ rfl rfl (.slice (some ⟨g, 0, none⟩) n c1) e0 (hK _ _ (gb_rr W _) rfl)
        | 1, hin, ho, hu, hK =>
          cases ho
          have e5 : A.eval (.tmp 5) = .int .i64 (k : Int) := ev_out hA 5 rfl
          exact ph_move _ rfl rfl (.int .i64 (k : Int)) e5 (hK _ _ (gb_rr W _) rfl)
        | 2, hin, ho, hu, hK =>
          cases ho
          have e18 : A.eval (.tmp 18) = .slice (some ⟨g, 0, none⟩) n c1 := (ev_in hA 18 0 rfl rfl rfl).trans (show f 0 = .slice (some ⟨g, 0, none⟩) n c1 from hu 0 (by decide))
          have e19 : A.eval (.tmp 19) = .int .i64 (k : Int) := (ev_in hA 19 1 rfl rfl rfl).trans (show f 1 = .int .i64 (k : Int) from hu 1 (by decide))
          have q8 : ¬ ((n : Int) ≤ (k : Int)) := by have := HLT.out; omega
          have q9 : (k : Int) < (n : Int) := by have := HLT.out; omega
          refine ph_sem rfl rfl (r := .ok (.value (.pointer (some ⟨g, k * 2, none⟩))) W) ?_ (hK _ _ (gb_rr W _) rfl)
          have eC : ∀ c, A.eval (.const c) = c := fun _ => rfl; have eF : ∀ g, A.eval (.func g) = .func (.func g) #[] #[] := fun _ => rfl; generalize A.eval = ρ at *
          clear hA hu hg hK hin
          go_simp
        | 3, hin, ho, hu, hK =>
          cases ho
          have e20 : A.eval (.tmp 20) = .pointer (some ⟨g, k * 2, none⟩) := (ev_in hA 20 2 rfl rfl rfl).trans (show f 2 = .pointer (some ⟨g, k * 2, none⟩) from hu 2 (by decide))
          exact ph_load rfl 42 _ rfl Tryd.underlying42 rfl g (k * 2) [.int .i64 t, .slice ua m uc] (by kernel_rfl) e20 ((HR.out W hg).1) (hK _ _ (gb_rr W _) rfl)
        | 4, hin, ho, hu, hK =>
          cases ho
          have e1 : A.eval (.tmp 1) = .slice (some ⟨g2, 0, none⟩) n c2 := ev_out hA 1 rfl
          exact ph_move _ rfl rfl (.slice (some ⟨g2, 0, none⟩) n c2) e1 (hK _ _ (gb_rr W _) rfl)
        | 5, hin, ho, hu, hK =>
          cases ho
          have e5 : A.eval (.tmp 5) = .int .i64 (k : Int) := ev_out hA 5 rfl
          exact ph_move _ rfl rfl (.int .i64 (k : Int)) e5 (hK _ _ (gb_rr W _) rfl)
        | 6, hin, ho, hu, hK =>
          cases ho
          have e22 : A.eval (.tmp 22) = .slice (some ⟨g2, 0, none⟩) n c2 := (ev_in hA 22 4 rfl rfl rfl).trans (show f 4 = .slice (some ⟨g2, 0, none⟩) n c2 from hu 4 (by decide))
          have e23 : A.eval (.tmp 23) = .int .i64 (k : Int) := (ev_in hA 23 5 rfl rfl rfl).trans (show f 5 = .int .i64 (k : Int) from hu 5 (by decide))
          have q8 : ¬ ((n : Int) ≤ (k : Int)) := by have := HLT.out; omega
          have q9 : (k : Int) < (n : Int) := by have := HLT.out; omega
          refine ph_sem rfl rfl (r := .ok (.value (.pointer (some ⟨g2, k * 2, none⟩))) W) ?_ (hK _ _ (gb_rr W _) rfl)
          have eC : ∀ c, A.eval (.const c) = c := fun _ => rfl; have eF : ∀ g, A.eval (.func g) = .func (.func g) #[] #[] := fun _ => rfl; generalize A.eval = ρ at *
          clear hA hu hg hK hin
          go_simp
        | 7, hin, ho, hu, hK =>
          cases ho
          have e24 : A.eval (.tmp 24) = .pointer (some ⟨g2, k * 2, none⟩) := (ev_in hA 24 6 rfl rfl rfl).trans (show f 6 = .pointer (some ⟨g2, k * 2, none⟩) from hu 6 (by decide))
          exact ph_load rfl 42 _ rfl Tryd.underlying42 rfl g2 (k * 2) [.int .i64 t, .slice ua2 m uc2] (by kernel_rfl) e24 ((HR.out W hg).2.1) (hK _ _ (gb_rr W _) rfl)
        | 8, hin, ho, hu, hK =>
          cases ho
          have e21 : A.eval (.tmp 21) = .agg #[.int .i64 t, .slice ua m uc] := (ev_in hA 21 3 rfl rfl rfl).trans (show f 3 = .agg #[.int .i64 t, .slice ua m uc] from hu 3 (by decide))
          have e25 : A.eval (.tmp 25) = .agg #[.int .i64 t, .slice ua2 m uc2] := (ev_in hA 25 7 rfl rfl rfl).trans (show f 7 = .agg #[.int .i64 t, .slice ua2 m uc2] from hu 7 (by decide))
          refine ph_fn 26 _ _ rfl rfl #[.agg #[.int .i64 t, .slice ua m uc], .agg #[.int .i64 t, .slice ua2 m uc2]] (by simp [e21, e25]) (by kernel_rfl) ?_
          refine (Calls.mono (HR.out W hg).2.2 ?_)
          rintro e W' ⟨rfl, hq⟩
          exact ⟨_, rfl, hK _ _ hq rfl⟩
        | i + 9, hin, ho, hu, hK => omega
      case last =>
        intro f W A hA hg hu o ho K hK
        cases ho
        have e26 : A.eval (.tmp 26) = .bool true := (ev_in hA 26 8 rfl rfl rfl).trans (show f 8 = .bool true from hu 8 (by decide))
        have HW : Hid (w.grownBy W none) := gb_trans HG.out hg
        refine ph_sem rfl rfl (r := .ok (.value (.bool false)) W) ?_ (hK _ _ ?_)
        · have eC : ∀ c, A.eval (.const c) = c := fun _ => rfl
          generalize A.eval = ρ at *
          clear hA hu hg hK
          go_simp
        have hA2 := hA.trans (putAll_lit [(.slice (some ⟨g, 0, none⟩) n c1), (.int .i64 (k : Int)), (.pointer (some ⟨g, k * 2, none⟩)), (.agg #[.int .i64 t, .slice ua m uc]), (.slice (some ⟨g2, 0, none⟩) n c2), (.int .i64 (k : Int)), (.pointer (some ⟨g2, k * 2, none⟩)), (.agg #[.int .i64 t, .slice ua2 m uc2]), (.bool true), (f 9)] (by
          intro j hj
          match j, hj with
          | 0, _ => exact hu 0 (by decide)
          | 1, _ => exact hu 1 (by decide)
          | 2, _ => exact hu 2 (by decide)
          | 3, _ => exact hu 3 (by decide)
          | 4, _ => exact hu 4 (by decide)
          | 5, _ => exact hu 5 (by decide)
          | 6, _ => exact hu 6 (by decide)
          | 7, _ => exact hu 7 (by decide)
          | 8, _ => exact hu 8 (by decide)
          | 9, _ => rfl
          | j + 10, hj => exact absurd hj (by simp)))
        clear hu hA
        subst hA2
        simp only [putAll, putL, List.mem_cons, List.not_mem_nil, List.idxOf_cons, Nat.reduceEqDiff, Nat.reduceBEq, Nat.reduceAdd, or_false, or_true, reduceIte, cond_true, cond_false, List.getD_cons_zero, List.getD_cons_succ, BEq.rfl]
        clear e26 hg
        go_wp2_with fail
        go_roundw
        case rel => exact ⟨k + 1, HLT.out, by go_num, HW.out⟩
        case measure => have := HLT.out; simp [intOf]; omega
    · have hci : ¬ ((k : Int) < (n : Int)) := by omega
      go_wp2
      go_ret
      exact ⟨by simp, HG.out⟩
theorem alike_c (F F2 : Nat → Prop) (w : World) (a1 a2 : Option Addr) (c1 c2 : Nat) (L L2 : List FrM) (h : FrL F w (.slice a1 L.length c1) L) (h2 : FrL F2 w (.slice a2 L2.length c2) L2) (he : L.map FrM.fr = L2.map FrM.fr) (hn : L.length ≤ 1152921504606846976) :
    Calls Tryd.prog 21 #[.slice a1 L.length c1, .slice a2 L2.length c2] w fun r w' => r = .returned (.bool true) ∧ w.grownBy w' none := alike_r w a1 a2 c1 c2 L L2 h.rd h2.rd he hn
end Go.Proofs.YtegbgmihcokblaaDoor
