/-
  What the document's Encode of frames answers, and its One. Condition: the bytes can be read, and are at most 2^47.
-/
import Derived.Test.YtdgoncpebfkbdabDoorRows
import Derived.Test.YtdgoncpebfkbdabDoorFRe
namespace Go.Proofs.YtdgoncpebfkbdabDoor
set_option linter.unusedVariables false
open Go.RowKit

theorem gsealed_c (a : Option Addr) (len cap : Nat) (xs : List Int) (w : World) (hn : a = none → cap = 0) (hs : Seg .u8 w a len xs) (hx : Bytes xs) (hl : len ≤ 140737488351232) :
    Calls Tryd.prog 19 #[.slice a len cap] w fun e w' => ∃ v, e = .returned v ∧ Own w.heap.size w' v (len + 4) (sealed xs) ∧ Below w.heap.size w w' := by
  have HC : Hid _ := rseal_c a len cap xs w hn hs hx hl
  clear hn hs hx
  go_enter Tryd.func19, Tryd.ntmps19
  go_wp2_with (go_at_call 30; refine (Calls.mono HC.out ?_); rintro e w1 ⟨v, rfl, h1, h2⟩; have H1 : Hid (Own w.heap.size w1 v (len + 4) (sealed xs) ∧ Below w.heap.size w w1) := ⟨h1, h2⟩; clear h1 h2)
  go_ret
  exact ⟨_, rfl, H1.out⟩

set_option maxHeartbeats 1000000 in
theorem gencode_c (t : Int) (a : Option Addr) (len cap : Nat) (xs : List Int) (w : World) (hn : a = none → cap = 0) (hs : Seg .u8 w a len xs) (hx : Bytes xs) (hl : len ≤ 140737488355328) :
    Calls Tryd.prog 10 #[.agg #[.int .i64 t, .slice a len cap]] w fun e w' => ∃ v, e = .returned (.tuple #[v, .int .i64 (fee t len)]) ∧ Own w.heap.size w' v (feb t xs).length (feb t xs) ∧ Below w.heap.size w w' := by
  have hlen := hs.1
  by_cases ht0 : t < 1 ∨ 255 < t
  · have HF : Hid (fee t len = 42) := by show _ = _; unfold fee; rw [if_pos ht0]
    have HB : Hid (feb t xs = []) := by show _ = _; unfold feb fee; rw [if_pos ht0]; rfl
    rw [HF.out, HB.out]
    clear hs hx hlen HF HB
    rcases ht0 with h1 | h1
    · go_enter Tryd.func10, Tryd.ntmps10
      go_wp2
      go_ret2
      exact ⟨_, rfl, own_nil _ _, (Below.refl _ _).alloc (Nat.le_refl _) _⟩
    · have h2 : ¬ t < 1 := by omega
      go_enter Tryd.func10, Tryd.ntmps10
      go_wp2
      go_ret2
      exact ⟨_, rfl, own_nil _ _, (Below.refl _ _).alloc (Nat.le_refl _) _⟩
  · have t1 : ¬ t < 1 := by omega
    have t2 : ¬ 255 < t := by omega
    by_cases hl1 : 1048576 < len
    · have HF : Hid (fee t len = 43) := by show _ = _; unfold fee; rw [if_neg ht0, if_pos hl1]
      have HB : Hid (feb t xs = []) := by show _ = _; unfold feb fee; rw [hlen, if_neg ht0, if_pos hl1]; rfl
      rw [HF.out, HB.out]
      clear hs hx hlen HF HB ht0
      go_enter Tryd.func10, Tryd.ntmps10
      go_wp2
      go_ret2
      exact ⟨_, rfl, own_nil _ _, (Below.refl _ _).alloc (Nat.le_refl _) _⟩
    · have HF : Hid (fee t len = 0) := by show _ = _; unfold fee; rw [if_neg ht0, if_neg hl1]
      have HB : Hid (feb t xs = fenc t xs) := by show _ = _; unfold feb fee; rw [hlen, if_neg ht0, if_neg hl1]; rfl
      have HLN : Hid (xs.length = len) := hlen
      have HS : Hid (Seg .u8 w a len xs) := hs
      have HX : Hid (Bytes xs) := hx
      have HNA : Hid (a = none → cap = 0) := hn
      rw [HF.out, HB.out]
      clear hs hx hlen HF HB ht0 hn
      have e1 : t % 256 = t := by omega
      go_enter Tryd.func10, Tryd.ntmps10
      go_wp2_with fail
      have HSX : Hid (#[Value.int IntKind.u8 72, Value.int IntKind.u8 87, Value.int IntKind.u8 t, Value.int IntKind.u8 ((len : Int) % 256), Value.int IntKind.u8 ((len : Int) / 256 % 256), Value.int IntKind.u8 ((len : Int) / 65536)] = ((fsix t len).map (Value.int .u8)).toArray) := by
        have : (len : Int) / 65536 % 256 = (len : Int) / 65536 := by omega
        show _ = _
        unfold fsix
        rw [this]; rfl
      have HB6 : Hid (Bytes (fsix t len)) := fsix_bytes (by omega) (by omega)
      obtain ⟨N, hN⟩ : ∃ N, N = w.heap.size := ⟨_, rfl⟩
      rw [← hN]
      generalize hW1 : World.alloc (World.alloc w _) _ = W1
      have H1 : Hid (Seg .u8 W1 (some ⟨N + 1, 0, none⟩) 6 (fsix t len) ∧ Below N w W1 ∧ W1.cell? ⟨N, 1, none⟩ = some (.slice a len cap) ∧ W1.heap.size = N + 2) := by
        rw [← hW1, hN, HSX.out]
        refine ⟨seg_at _ _ .u8 _ 5 6 (fsix t len) (by simp) rfl rfl, ((Below.refl _ _).alloc (Nat.le_refl _) _).alloc (by simp) _, ?_, by simp⟩
        rw [World.cell?_alloc_past _ _ _ (by simp), World.cell?_alloc_new]; rfl
      have HNW : Hid (N = w.heap.size) := hN
      clear hW1 hN HSX
      refine (gsealed_c (some ⟨N + 1, 0, none⟩) 6 6 (fsix t len) W1 (fun h => by cases h) H1.out.1 HB6.out (by omega)).mono ?_
      rintro e w2 ⟨v2, rfl, ho2, hb2⟩
      obtain ⟨g2, k2, rfl, hg2, hk2⟩ := ho2.form (by omega)
      have H2 : Hid (Own W1.heap.size w2 (.slice (some ⟨g2, 0, none⟩) 10 k2) 10 (sealed (fsix t len)) ∧ Below N w w2 ∧ W1.heap.size ≤ w2.heap.size) := ⟨ho2, H1.out.2.1.trans (hb2.mono (by rw [H1.out.2.2.2]; omega)), hb2.size⟩
      have c1 : w2.cell? ⟨N, 1, none⟩ = some (.slice a len cap) := (hb2.cell (p := ⟨N, 1, none⟩) (by rw [H1.out.2.2.2]; show N < N + 2; omega)).trans H1.out.2.2.1
      have HN2 : Hid (N ≤ W1.heap.size) := by rw [H1.out.2.2.2]; show N ≤ N + 2; omega
      clear ho2 hb2 H1 hg2
      have hl3 : len ≤ 1048576 := by omega
      go_wp2_with (first
        | (at_builtin; go_must (refine wpList_append_grow _ rfl _ _ rfl W1.heap.size 10 _ (sealed (fsix t len)) rfl H2.out.1 a len cap xs rfl HNA.out (HS.out.below (HNW.out ▸ H2.out.2.1)) (by omega) H2.out.2.2 ?_); intro v3 w3 ho3 hb3; obtain ⟨g3, k3, rfl, hg3, hk3⟩ := ho3.form (by omega); have H3 : Hid (Own W1.heap.size w3 (.slice (some ⟨g3, 0, none⟩) (10 + len) k3) (10 + len) (sealed (fsix t len) ++ xs) ∧ Below N w w3) := ⟨ho3, H2.out.2.1.trans (hb3.mono HN2.out)⟩; clear ho3 hb3 hg3)
        | (go_at_call 19; obtain ⟨a3, c3, he3, hs3, _, _⟩ := H3.out.1.seg; cases he3; go_must (refine (gsealed_c (some ⟨g3, 0, none⟩) (10 + len) k3 (sealed (fsix t len) ++ xs) w3 (fun h => by cases h) hs3 (bytes_append (sealed_bytes HB6.out) HX.out) (by omega)).mono ?_); rintro e w4 ⟨v4, rfl, ho4, hb4⟩; have H4 : Hid (Own N w4 v4 (fenc t xs).length (fenc t xs) ∧ Below N w w4) := ⟨by rw [fenc_length, HLN.out]; have := ho4.base (HNW.out ▸ H3.out.2).size; rw [← HNW.out, show 10 + len + 4 = len + 14 from by omega] at this; unfold fenc; rw [HLN.out]; exact this, H3.out.2.trans (hb4.mono (Nat.le_trans (Nat.le_of_eq HNW.out) (HNW.out ▸ H3.out.2).size))⟩; clear ho4 hb4 hs3))
      go_ret2
      rw [← HNW.out]
      exact ⟨_, rfl, H4.out.1, H4.out.2⟩

theorem gone_mid {w w1 w2 : World} {N B n : Nat} {u : Value} {ys : List Int} {cs : Array Value} (h1 : Bk 33 w1 N #[.int .i64 0, .slice none 0 0]) (hb : Below N w w1) (hu : Own B w1 u n ys) (h2 : Bk 33 w2 w1.heap.size cs) (hg : (w1.alloc (.cells #[.int .i64 0, .slice none 0 0] 33)).grownBy w2 (some w1.heap.size)) :
    Bk 33 w2 w1.heap.size cs ∧ Bk 33 w2 N #[.int .i64 0, .slice none 0 0] ∧ Below N w w2 ∧ Own B w2 u n ys := by
  have hl := lt_of_block h1
  have hB : Below w1.heap.size w1 w2 := ((Below.refl _ _).alloc (Nat.le_refl _) _).grown hg (by simp) (fun k hk => by cases hk; exact Nat.le_refl _)
  exact ⟨h2, h1.below hB hl, hb.trans (hB.mono (Nat.le_of_lt hl)), hu.below hB⟩

set_option maxHeartbeats 2000000 in
theorem gone_c (a : Option Addr) (len cap : Nat) (xs : List Int) (w : World) (hlc : len ≤ cap) (hs : Seg .u8 w a len xs) (hx : Bytes xs) (hl : len ≤ 140737488355328) :
    Calls Tryd.prog 17 #[.slice a len cap] w fun e w' => ∃ u, e = .returned (.tuple #[.agg #[.int .i64 (ftp1 xs), u], .int .i64 ((fone xs : Nat) : Int)]) ∧ Own w.heap.size w' u (fbd1 xs).length (fbd1 xs) ∧ Below w.heap.size w w' := by
  have hlen := hs.1
  have HDC := fun w' (hb : Below w.heap.size w w') => gdecode_c a len cap xs w' hlc (hs.below hb) hx hl
  replace HDC : Hid (∀ w', _ → _) := HDC
  have HNN : Hid (fdec xs = 0 → fnn xs = flen xs + 14 ∧ ftp xs = xs[2]?.getD 0 ∧ fbd xs = fbody xs) := fun h => by unfold fnn ftp fbd; rw [h]; exact ⟨rfl, rfl, rfl⟩
  have HNO : Hid (fdec xs ≠ 0 → ftp xs = 0 ∧ fbd xs = []) := fun h => by unfold ftp fbd; rw [if_neg h, if_neg h]; exact ⟨rfl, rfl⟩
  obtain ⟨N, hN⟩ : ∃ N, N = w.heap.size := ⟨_, rfl⟩
  by_cases h0 : fdec xs = 0 ∧ flen xs + 14 < xs.length
  · have HF : Hid (fone xs = 45 ∧ ftp1 xs = 0 ∧ fbd1 xs = []) := by
      have : fone xs = 45 := by unfold fone; rw [if_pos h0]
      unfold ftp1 fbd1; rw [this]; exact ⟨rfl, rfl, rfl⟩
    rw [HF.out.1, HF.out.2.1, HF.out.2.2]
    rw [h0.1, (HNN.out h0.1).1] at HDC
    have h1 := h0.2
    rw [hlen] at h1
    clear h0 HF HNN HNO hlen
    clear hs hx
    go_enter Tryd.func17, Tryd.ntmps17
    go_wp2_with fail
    rw [← hN]
    generalize hW0 : World.alloc w _ = W0
    have H0 : Hid (Bk 33 W0 N #[.int .i64 0, .slice none 0 0] ∧ Below N w W0 ∧ W0.heap.size = N + 1) := by rw [← hW0, hN]; exact ⟨(gfr_new w).1, (gfr_new w).2, by simp⟩
    have HNW : Hid (N = w.heap.size) := hN
    clear hW0 hN
    refine (HDC.out W0 (HNW.out ▸ H0.out.2.1)).mono ?_
    rintro e w1 ⟨u, rfl, hu, hb1⟩
    have H1 : Hid (Bk 33 w1 N #[.int .i64 0, .slice none 0 0] ∧ Below N w w1 ∧ N < W0.heap.size ∧ Own W0.heap.size w1 u (fbd xs).length (fbd xs)) := ⟨H0.out.1.below hb1 (by rw [H0.out.2.2]; omega), H0.out.2.1.trans (hb1.mono (by rw [H0.out.2.2]; omega)), by rw [H0.out.2.2]; omega, hu⟩
    clear hu hb1 H0 HDC
    go_wp2_with (first
      | (refine wpList_store_bk 33 rfl (.tmp 4) (.tmp 10) rfl Tryd.infoGFrame w1.heap.size _ _ rfl rfl (heap_new w1 _) rfl rfl (own_one _ H1.out.2.2.2) ?_; intro w2 h2 h2g; have H2 : Hid (Bk 33 w2 w1.heap.size #[.int .i64 (ftp xs), u] ∧ Bk 33 w2 N #[.int .i64 0, .slice none 0 0] ∧ Below N w w2 ∧ Own W0.heap.size w2 u (fbd xs).length (fbd xs)) := gone_mid H1.out.1 H1.out.2.1 H1.out.2.2.2 h2 h2g; clear h2 h2g)
      | (refine wpList_store_bk 33 rfl (.tmp 2) _ rfl Tryd.infoGFrame N _ _ rfl rfl H2.out.2.1 rfl rfl (by simp [Value.oneCell']) ?_; intro w4 h4 h4g; have H4 : Hid (Bk 33 w4 N #[.int .i64 0, .slice none 0 0] ∧ Below N w w4) := ⟨h4, H2.out.2.2.1.grown h4g (Nat.le_of_lt (lt_of_block H2.out.2.1)) (fun k hk => by cases hk; omega)⟩; clear h4 h4g))
    refine bodyPost_ret (results_cell2 Tryd.results17 _ _ _ ⟨N, 0, none⟩ _ _ rfl rfl (bk_load Tryd.underlying33 rfl Tryd.infoGFrame H4.out.1 rfl)) rfl ?_
    rw [← HNW.out]
    exact ⟨_, rfl, own_nil _ _, H4.out.2⟩
  · have HF : Hid (fone xs = fdec xs ∧ ftp1 xs = ftp xs ∧ fbd1 xs = fbd xs) := by
      have : fone xs = fdec xs := by unfold fone; rw [if_neg h0]
      unfold ftp1 fbd1; rw [this]; exact ⟨rfl, rfl, rfl⟩
    rw [HF.out.1, HF.out.2.1, HF.out.2.2]
    obtain ⟨TP, hTP⟩ : ∃ T, T = ftp xs := ⟨_, rfl⟩
    rw [← hTP] at HDC ⊢
    by_cases h1 : fdec xs = 0
    · rw [h1, (HNN.out h1).1] at HDC
      rw [h1]
      have h2 : (flen xs : Int) + 14 = (len : Int) := by
        have q := fbeg_ok (fmeet_ok (most := 1048576) h1).1
        have q2 : ¬ flen xs + 14 < xs.length := fun q => h0 ⟨h1, q⟩
        rw [hlen] at q q2
        omega
      have h3 : (((flen xs : Int) + 14) == (len : Int)) = true := by simp [h2]
      clear h0 HF HNN HNO hlen hTP
      clear hs hx
      go_enter Tryd.func17, Tryd.ntmps17
      go_wp2_with fail
      rw [← hN]
      generalize hW0 : World.alloc w _ = W0
      have H0 : Hid (Bk 33 W0 N #[.int .i64 0, .slice none 0 0] ∧ Below N w W0 ∧ W0.heap.size = N + 1) := by rw [← hW0, hN]; exact ⟨(gfr_new w).1, (gfr_new w).2, by simp⟩
      have HNW : Hid (N = w.heap.size) := hN
      clear hW0 hN
      refine (HDC.out W0 (HNW.out ▸ H0.out.2.1)).mono ?_
      rintro e w1 ⟨u, rfl, hu, hb1⟩
      have H1 : Hid (Bk 33 w1 N #[.int .i64 0, .slice none 0 0] ∧ Below N w w1 ∧ N < W0.heap.size ∧ Own W0.heap.size w1 u (fbd xs).length (fbd xs)) := ⟨H0.out.1.below hb1 (by rw [H0.out.2.2]; omega), H0.out.2.1.trans (hb1.mono (by rw [H0.out.2.2]; omega)), by rw [H0.out.2.2]; omega, hu⟩
      clear hu hb1 H0 HDC
      go_wp2_with (first
        | (refine wpList_store_bk 33 rfl (.tmp 4) (.tmp 10) rfl Tryd.infoGFrame w1.heap.size _ _ rfl rfl (heap_new w1 _) rfl rfl (own_one _ H1.out.2.2.2) ?_; intro w2 h2 h2g; have H2 : Hid (Bk 33 w2 w1.heap.size #[.int .i64 TP, u] ∧ Bk 33 w2 N #[.int .i64 0, .slice none 0 0] ∧ Below N w w2 ∧ Own W0.heap.size w2 u (fbd xs).length (fbd xs)) := gone_mid H1.out.1 H1.out.2.1 H1.out.2.2.2 h2 h2g; clear h2 h2g)
        | (refine wpList_load_bk 33 rfl (.tmp 4) rfl Tryd.underlying33 rfl Tryd.infoGFrame w1.heap.size _ rfl H2.out.1 rfl ?_)
        | (refine wpList_store_bk 33 rfl (.tmp 2) _ rfl Tryd.infoGFrame N _ _ rfl rfl H2.out.2.1 rfl rfl (own_one _ H2.out.2.2.2) ?_; intro w4 h4 h4g; have H4 : Hid (Bk 33 w4 N #[.int .i64 TP, u] ∧ Below N w w4 ∧ Own N w4 u (fbd xs).length (fbd xs)) := ⟨h4, H2.out.2.2.1.grown h4g (Nat.le_of_lt (lt_of_block H2.out.2.1)) (fun k hk => by cases hk; omega), Own.store H2.out.2.2.2 h4g H1.out.2.2.1⟩; clear h4 h4g))
      refine bodyPost_ret (results_cell2 Tryd.results17 _ _ _ ⟨N, 0, none⟩ _ _ rfl rfl (bk_load Tryd.underlying33 rfl Tryd.infoGFrame H4.out.1 rfl)) rfl ?_
      rw [← HNW.out]
      exact ⟨_, rfl, H4.out.2.2, H4.out.2.1⟩
    · obtain ⟨E, hE⟩ : ∃ E : Nat, E = fdec xs := ⟨_, rfl⟩
      rw [hTP, (HNO.out h1).1, (HNO.out h1).2]
      rw [← hE] at h1 HDC ⊢
      replace hE : Hid _ := hE
      have q0 : (((E : Nat) : Int) == 0) = false := by simp; omega
      clear h0 HF HNN HNO hlen hTP
      clear hs hx
      go_enter Tryd.func17, Tryd.ntmps17
      go_wp2_with fail
      rw [← hN]
      generalize hW0 : World.alloc w _ = W0
      have H0 : Hid (Bk 33 W0 N #[.int .i64 0, .slice none 0 0] ∧ Below N w W0 ∧ W0.heap.size = N + 1) := by rw [← hW0, hN]; exact ⟨(gfr_new w).1, (gfr_new w).2, by simp⟩
      have HNW : Hid (N = w.heap.size) := hN
      clear hW0 hN
      refine (HDC.out W0 (HNW.out ▸ H0.out.2.1)).mono ?_
      rintro e w1 ⟨u, rfl, hu, hb1⟩
      have H1 : Hid (Bk 33 w1 N #[.int .i64 0, .slice none 0 0] ∧ Below N w w1 ∧ N < W0.heap.size ∧ Own W0.heap.size w1 u (fbd xs).length (fbd xs)) := ⟨H0.out.1.below hb1 (by rw [H0.out.2.2]; omega), H0.out.2.1.trans (hb1.mono (by rw [H0.out.2.2]; omega)), by rw [H0.out.2.2]; omega, hu⟩
      clear hu hb1 H0 HDC
      go_wp2_with (first
        | (refine wpList_store_bk 33 rfl (.tmp 4) (.tmp 10) rfl Tryd.infoGFrame w1.heap.size _ _ rfl rfl (heap_new w1 _) rfl rfl (own_one _ H1.out.2.2.2) ?_; intro w2 h2 h2g; have H2 : Hid (Bk 33 w2 w1.heap.size #[.int .i64 TP, u] ∧ Bk 33 w2 N #[.int .i64 0, .slice none 0 0] ∧ Below N w w2 ∧ Own W0.heap.size w2 u (fbd xs).length (fbd xs)) := gone_mid H1.out.1 H1.out.2.1 H1.out.2.2.2 h2 h2g; clear h2 h2g)
        | (refine wpList_store_bk 33 rfl (.tmp 2) _ rfl Tryd.infoGFrame N _ _ rfl rfl H2.out.2.1 rfl rfl (by simp [Value.oneCell']) ?_; intro w4 h4 h4g; have H4 : Hid (Bk 33 w4 N #[.int .i64 0, .slice none 0 0] ∧ Below N w w4) := ⟨h4, H2.out.2.2.1.grown h4g (Nat.le_of_lt (lt_of_block H2.out.2.1)) (fun k hk => by cases hk; omega)⟩; clear h4 h4g))
      refine bodyPost_ret (results_cell2 Tryd.results17 _ _ _ ⟨N, 0, none⟩ _ _ rfl rfl (bk_load Tryd.underlying33 rfl Tryd.infoGFrame H4.out.1 rfl)) rfl ?_
      rw [← HNW.out]
      exact ⟨_, rfl, own_nil _ _, H4.out.2⟩
end Go.Proofs.YtdgoncpebfkbdabDoor
