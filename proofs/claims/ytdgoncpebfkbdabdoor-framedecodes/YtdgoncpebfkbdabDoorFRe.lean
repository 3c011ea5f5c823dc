/-
  What the document's front, length, Decode, One and Encode of frames answer, called with whatever bytes. Condition: the bytes can be read, and are at most 2^47.
-/
import Derived.Test.YtdgoncpebfkbdabDoorRows
import Derived.Test.YtdgoncpebfkbdabDoorFEn
import Derived.Test.YtdgoncpebfkbdabDoorFDc
import Derived.Test.YtdgoncpebfkbdabDoorRHoldC
import Derived.Test.YtdgoncpebfkbdabDoorRSealC
import Derived.Deep.RegionHeld3
namespace Go.Proofs.YtdgoncpebfkbdabDoor
set_option linter.unusedVariables false
open Go.RowKit

set_option maxHeartbeats 1000000 in
theorem front_c (a : Option Addr) (len cap : Nat) (xs : List Int) (w : World) (hs : Seg .u8 w a len xs) :
    Calls Tryd.prog 24 #[.slice a len cap] w fun e w' => e = .returned (.bool (fmagic xs)) ∧ w' = w := by
  have hlen := hs.1
  by_cases l0 : len = 0
  · have HF : Hid (fmagic xs = true) := by show _ = _; unfold fmagic; rw [hlen, l0]; rfl
    subst l0
    clear hlen hs
    go_enter Tryd.func24, Tryd.ntmps24
    go_wp2
    go_ret
    rw [HF.out]; exact ⟨rfl, rfl⟩
  · obtain ⟨b, off, rfl, hbw, hc⟩ := hs.cells (by omega)
    have c0 : w.cell? ⟨b, off, none⟩ = some (.int .u8 (xs[0]?.getD 0)) := hc 0 (by omega)
    have l1 : ¬ len < 1 := by omega
    obtain ⟨X0, hX0⟩ : ∃ X, X = xs[0]?.getD 0 := ⟨_, rfl⟩
    rw [← hX0] at c0
    by_cases h0 : X0 = 72
    · subst h0
      by_cases l2 : len < 2
      · have HF : Hid (fmagic xs = true) := by show _ = _; unfold fmagic; rw [hlen, ← hX0]; simp [l2]
        obtain rfl : len = 1 := by omega
        clear hlen hs hc hX0
        go_enter Tryd.func24, Tryd.ntmps24
        go_wp2
        go_ret
        rw [HF.out]; exact ⟨rfl, rfl⟩
      · have c1 : w.cell? ⟨b, off + 1, none⟩ = some (.int .u8 (xs[1]?.getD 0)) := hc 1 (by omega)
        obtain ⟨X1, hX1⟩ : ∃ X, X = xs[1]?.getD 0 := ⟨_, rfl⟩
        rw [← hX1] at c1
        have l3 : 1 < len := by omega
        by_cases h1 : X1 = 87
        · subst h1
          have HF : Hid (fmagic xs = true) := by show _ = _; unfold fmagic; rw [hlen, ← hX0, ← hX1]; simp
          clear hlen hs hc hX0 hX1
          go_enter Tryd.func24, Tryd.ntmps24
          go_wp2
          go_ret
          rw [HF.out]; exact ⟨rfl, rfl⟩
        · have HF : Hid (fmagic xs = false) := by show _ = _; unfold fmagic; rw [hlen, ← hX0, ← hX1]; simp [h1]; omega
          have q1 : (X1 == 87) = false := by simp [h1]
          clear hlen hs hc hX0 hX1
          go_enter Tryd.func24, Tryd.ntmps24
          go_wp2
          go_ret
          rw [HF.out]; exact ⟨congrArg (fun b => Ending.returned (Value.bool b)) (decide_eq_false (p := (len : Int) < 2) (by omega)), rfl⟩
    · have HF : Hid (fmagic xs = false) := by show _ = _; unfold fmagic; rw [hlen, ← hX0]; simp [h0]; omega
      have q0 : (X0 == 72) = false := by simp [h0]
      have l3 : 0 < len := by omega
      clear hlen hs hc hX0
      go_enter Tryd.func24, Tryd.ntmps24
      go_wp2
      go_ret
      rw [HF.out]; exact ⟨rfl, rfl⟩

/-- The document's length: -1, if the head is none. -/
def glen (xs : List Int) : Int := if fhead xs = true then (flen xs : Int) else -1

set_option maxHeartbeats 1000000 in
theorem glength_c (a : Option Addr) (len cap : Nat) (xs : List Int) (w : World) (hlc : len ≤ cap) (hs : Seg .u8 w a len xs) (hx : Bytes xs) (hl : len ≤ 140737488355328) (h10 : 10 ≤ len) :
    Calls Tryd.prog 25 #[.slice a len cap] w fun e w' => e = .returned (.int .i64 (glen xs)) ∧ Below w.heap.size w w' := by
  have HS : Hid (Seg .u8 w a len xs) := hs
  have HS10 : Hid (Seg .u8 w a 10 (xs.take 10)) := hs.take 10 h10
  have HX10 : Hid (Bytes (xs.take 10)) := hx.take 10
  obtain ⟨b, off, rfl, hbw, hc⟩ := hs.cells (by omega)
  have c10 : 10 ≤ cap := by omega
  have HC : Hid (b < w.heap.size ∧ w.cell? ⟨b, off + 2, none⟩ = some (.int .u8 (xs[2]?.getD 0)) ∧ w.cell? ⟨b, off + 3, none⟩ = some (.int .u8 (xs[3]?.getD 0)) ∧ w.cell? ⟨b, off + 4, none⟩ = some (.int .u8 (xs[4]?.getD 0)) ∧ w.cell? ⟨b, off + 5, none⟩ = some (.int .u8 (xs[5]?.getD 0))) := ⟨hbw, hc 2 (by omega), hc 3 (by omega), hc 4 (by omega), hc 5 (by omega)⟩
  have hlen := hs.1
  have b3 := hx 3 (by omega)
  have b4 := hx 4 (by omega)
  have b5 := hx 5 (by omega)
  have HFL : Hid (((flen xs : Nat) : Int) = xs[3]?.getD 0 + 256 * xs[4]?.getD 0 + 65536 * xs[5]?.getD 0) := (flen_nn hx).1
  cases q2 : holds (xs.take 10) with
  | false =>
    have HF : Hid (glen xs = -1) := by show _ = _; unfold glen fhead; rw [q2]; rfl
    rw [HF.out]
    clear hs hx hc hlen b3 b4 b5
    go_enter Tryd.func25, Tryd.ntmps25
    go_wp2_with (go_at_call 26; go_must (refine (rholds_c _ 10 _ _ _ (by omega) HS10.out HX10.out (by omega)).mono ?_); rintro e w2 ⟨rfl, hb2⟩; rw [q2]; replace hb2 : Hid _ := hb2)
    go_ret
    exact ⟨rfl, hb2.out⟩
  | true =>
    by_cases q3 : xs[2]?.getD 0 = (0 : Int)
    · have HF : Hid (glen xs = -1) := by show _ = _; unfold glen fhead; rw [q2, q3]; rfl
      rw [HF.out]
      rw [q3] at HC
      clear hs hx hc hlen b3 b4 b5
      go_enter Tryd.func25, Tryd.ntmps25
      go_wp2_with (go_at_call 26; go_must (refine (rholds_c _ 10 _ _ _ (by omega) HS10.out HX10.out (by omega)).mono ?_); rintro e w2 ⟨rfl, hb2⟩; rw [q2]; have c2 : w2.cell? ⟨b, off + 2, none⟩ = some (.int .u8 0) := (hb2.cell (p := ⟨b, off + 2, none⟩) HC.out.1).trans HC.out.2.1; replace hb2 : Hid _ := hb2)
      go_ret
      exact ⟨rfl, hb2.out⟩
    · have HF : Hid (glen xs = ((flen xs : Nat) : Int)) := by show _ = _; unfold glen fhead; rw [q2, decide_eq_true q3]; rfl
      rw [HF.out, HFL.out]
      obtain ⟨X2, hX2⟩ : ∃ X, X = xs[2]?.getD (0 : Int) := ⟨_, rfl⟩
      obtain ⟨X3, hX3⟩ : ∃ X, X = xs[3]?.getD (0 : Int) := ⟨_, rfl⟩
      obtain ⟨X4, hX4⟩ : ∃ X, X = xs[4]?.getD (0 : Int) := ⟨_, rfl⟩
      obtain ⟨X5, hX5⟩ : ∃ X, X = xs[5]?.getD (0 : Int) := ⟨_, rfl⟩
      rw [← hX2] at HC q3
      rw [← hX3] at HC b3 ⊢
      rw [← hX4] at HC b4 ⊢
      rw [← hX5] at HC b5 ⊢
      have q3' : (X2 == 0) = false := by simpa using q3
      clear hs hx hc hlen hX2 hX3 hX4 hX5 HF HFL
      go_enter Tryd.func25, Tryd.ntmps25
      go_wp2_with (go_at_call 26; go_must (refine (rholds_c _ 10 _ _ _ (by omega) HS10.out HX10.out (by omega)).mono ?_); rintro e w2 ⟨rfl, hb2⟩; rw [q2]; have c2 : w2.cell? ⟨b, off + 2, none⟩ = some (.int .u8 X2) := (hb2.cell (p := ⟨b, off + 2, none⟩) HC.out.1).trans HC.out.2.1; have c3 : w2.cell? ⟨b, off + 3, none⟩ = some (.int .u8 X3) := (hb2.cell (p := ⟨b, off + 3, none⟩) HC.out.1).trans HC.out.2.2.1; have c4 : w2.cell? ⟨b, off + 4, none⟩ = some (.int .u8 X4) := (hb2.cell (p := ⟨b, off + 4, none⟩) HC.out.1).trans HC.out.2.2.2.1; have c5 : w2.cell? ⟨b, off + 5, none⟩ = some (.int .u8 X5) := (hb2.cell (p := ⟨b, off + 5, none⟩) HC.out.1).trans HC.out.2.2.2.2; replace hb2 : Hid _ := hb2)
      go_quiet (fail)
      go_wp2
      go_ret
      exact ⟨ret_int (by omega), belowDrew hb2.out _⟩

/-- append to nothing, as one step of a region that draws: nothing is handed on. -/
theorem step_append_none {ops : Array Oper} {o : Oper} {a : Act} {w : World} {K : Act → World → Prop} {Q : Exit → Act → World → Prop} {E : Prop} (hgd : o.guard = none) (s x : Operand)
    (hop : o.op = Op.call { callee := Callee.builtin Builtin.append, args := #[s, x], argTypes := #[24, 24] }) (ad : Addr) (c : Nat) (hs : a.eval s = .slice none 0 0) (hx : a.eval x = .slice (some ad) 0 c)
    (hK : ∀ w', Below w.heap.size w w' → K (a.put o.dst (.slice none 0 0)) w') :
    if Region.wanted o (yielded ops a.tmps) = true then Oper.wp Tryd.prog o a w K Q else E := by
  have hw : Region.wanted o (yielded ops a.tmps) = true := by simp [Region.wanted, hgd]
  rw [if_pos hw]
  obtain ⟨i, hi, hz, h4, h5⟩ := info_parts' Tryd.infoU8
  refine wp_append_own w s x 24 hop w.heap.size 5 i (.int .u8 0) 1 1 Tryd.underlying24 hi hz h4 h5 rfl (by decide) (.slice none 0 0) 0 [] hs (World.ownsRow_nil w _ _ _) ad 0 c [] hx rfl (fun j u h => by simp at h) (fun u hu => by cases hu) (by decide) (by decide) (Nat.le_refl _) ?_
  intro v' w' _ hg hv
  obtain rfl := hv.2 ⟨rfl, rfl⟩
  exact hK w' ((Below.refl _ _).grown hg (Nat.le_refl _) (fun k hk => by cases hk))
/-- append of some bytes to nothing, likewise. -/
theorem step_append_new {ops : Array Oper} {o : Oper} {a : Act} {w : World} {K : Act → World → Prop} {Q : Exit → Act → World → Prop} {E : Prop} (hgd : o.guard = none) (s x : Operand)
    (hop : o.op = Op.call { callee := Callee.builtin Builtin.append, args := #[s, x], argTypes := #[24, 24] }) (ad : Addr) (m c : Nat) (ys : List Int) (hs : a.eval s = .slice none 0 0) (hx : a.eval x = .slice (some ad) m c)
    (hy : Seg .u8 w (some ad) m ys) (hm : 0 < m) (hb : m ≤ 140737488355328)
    (hK : ∀ g k w', Own w.heap.size w' (.slice (some ⟨g, 0, none⟩) m k) m ys → Below w.heap.size w w' → K (a.put o.dst (.slice (some ⟨g, 0, none⟩) m k)) w') :
    if Region.wanted o (yielded ops a.tmps) = true then Oper.wp Tryd.prog o a w K Q else E := by
  have hw : Region.wanted o (yielded ops a.tmps) = true := by simp [Region.wanted, hgd]
  rw [if_pos hw]
  obtain ⟨i, hi, hz, h4, h5⟩ := info_parts' Tryd.infoU8
  refine wp_append_own w s x 24 hop w.heap.size 5 i (.int .u8 0) 1 1 Tryd.underlying24 hi hz h4 h5 rfl (by decide) (.slice none 0 0) 0 [] hs (World.ownsRow_nil w _ _ _) ad m c (ys.map (Value.int .u8)) hx (by simp [hy.1]) (seg_news' hy ad rfl) ?_ (by unfold maxLen; omega) (by omega) (Nat.le_refl _) ?_
  · intro u hu; obtain ⟨z, _, rfl⟩ := List.mem_map.1 hu; rfl
  · intro v' w' hown hg _
    have ho : Own w.heap.size w' v' m ys := by rw [Nat.zero_add, List.nil_append] at hown; exact hown
    obtain ⟨g, k, rfl, _, _⟩ := ho.form hm
    exact hK g k w' ho ((Below.refl _ _).grown hg (Nat.le_refl _) (fun k hk => by cases hk))
theorem cell_set2 {w : World} {b N i : Nat} {v u1 u2 : Value} (h : w.cell? ⟨b, i, none⟩ = some v) (hb : b < N) : ((w.setCell ⟨N, 0, none⟩ u1).setCell ⟨N, 1, none⟩ u2).cell? ⟨b, i, none⟩ = some v := by
  rw [World.cell?_setCell_far _ _ _ _ (by show N ≠ b; omega), World.cell?_setCell_far _ _ _ _ (by show N ≠ b; omega)]; exact h
theorem grownBy_cell2 (w : World) (g : Nat) (u v : Value) : w.grownBy ((w.setCell ⟨g, 0, none⟩ u).setCell ⟨g, 1, none⟩ v) (some g) :=
  ⟨rfl, rfl, rfl, by simp [World.setCell], fun k _ hk => (Below.heap_setCell _ _ _ _ (fun e => hk (by rw [e]))).trans (Below.heap_setCell _ _ _ _ (fun e => hk (by rw [e])))⟩
theorem gstored {w w3 : World} {T : TypeId} {N n B : Nat} {u v : Value} {ys : List Int} (h : Bk T w3 N #[.int .i64 0, .slice none 0 0]) (hb : Below N w w3) (ho : Own B w3 u n ys) (hN : N < B) :
    Bk T ((w3.setCell ⟨N, 0, none⟩ v).setCell ⟨N, 1, none⟩ u) N #[v, u] ∧ Below N w ((w3.setCell ⟨N, 0, none⟩ v).setCell ⟨N, 1, none⟩ u) ∧ Own N ((w3.setCell ⟨N, 0, none⟩ v).setCell ⟨N, 1, none⟩ u) u n ys :=
  ⟨(h.set 0 v).set 1 u, hb.grown (grownBy_cell2 w3 N v u) (Nat.le_of_lt (lt_of_block h)) (fun k hk => by cases hk; omega), Own.store ho (grownBy_cell2 w3 N v u) hN⟩
theorem Bk.free {T w b cs} (h : Bk T w b cs) (i : Nat) : w.frozen? ⟨b, i, none⟩ = false := frozen_of_row w b i cs T h

theorem Tryd.infoGFrame : (Tryd.prog.info? 33).map (·.size) = some 2 := by kernel_rfl
theorem gfr_new (w : World) : Bk 33 (w.alloc (.cells #[.int .i64 0, .slice none 0 0] 33)) w.heap.size #[.int .i64 0, .slice none 0 0] ∧ Below w.heap.size w (w.alloc (.cells #[.int .i64 0, .slice none 0 0] 33)) := ⟨heap_new w _, (Below.refl _ _).alloc (Nat.le_refl _) _⟩

set_option maxHeartbeats 4000000 in
theorem gdecode_c (a : Option Addr) (len cap : Nat) (xs : List Int) (w : World) (hlc : len ≤ cap) (hs : Seg .u8 w a len xs) (hx : Bytes xs) (hl : len ≤ 140737488355328) :
    Calls Tryd.prog 14 #[.slice a len cap] w fun e w' => ∃ u, e = .returned (.tuple #[.agg #[.int .i64 (ftp xs), u], .int .i64 ((fnn xs : Nat) : Int), .int .i64 ((fdec xs : Nat) : Int)]) ∧ Own w.heap.size w' u (fbd xs).length (fbd xs) ∧ Below w.heap.size w w' := by
  have hlen := hs.1
  have HS : Hid (Seg .u8 w a len xs) := hs
  have HX : Hid (Bytes xs) := hx
  have HLN : Hid (xs.length = len) := hlen
  obtain ⟨N, hN⟩ : ∃ N, N = w.heap.size := ⟨_, rfl⟩
  have HNO : Hid (fdec xs ≠ 0 → ftp xs = 0 ∧ fnn xs = 0 ∧ fbd xs = []) := fun h => by unfold ftp fnn fbd; rw [if_neg h, if_neg h, if_neg h]; exact ⟨rfl, rfl, rfl⟩
  cases q1 : fmagic xs with
  | false =>
      have HF : Hid (fdec xs = 41) := by show _ = _; unfold fdec fmeet fbeg; rw [q1]; rfl
      have HR : Hid (ftp xs = 0 ∧ fnn xs = 0 ∧ fbd xs = []) := HNO.out (by rw [HF.out]; decide)
      rw [HF.out, HR.out.1, HR.out.2.1, HR.out.2.2]
      clear hs hx hlen HF HR HNO
      go_enter Tryd.func14, Tryd.ntmps14
      go_wp2_with (first
        | (go_at_call 24; rw [← hN]; generalize hW0 : World.alloc w _ = W0; have H0 : Hid (Bk 33 W0 N #[.int .i64 0, .slice none 0 0] ∧ Below N w W0 ∧ W0.heap.size = N + 1) := by (rw [← hW0, hN]; exact ⟨(gfr_new w).1, (gfr_new w).2, by simp⟩)
           have HNW : Hid (N = w.heap.size) := hN
           clear hW0 hN
           go_must (refine (front_c a len cap xs W0 (HS.out.below (HNW.out ▸ H0.out.2.1))).mono ?_); rintro e w' ⟨rfl, rfl⟩; rw [q1])
        | (refine wpList_store_bk 33 rfl _ _ rfl Tryd.infoGFrame N _ _ rfl rfl H0.out.1 rfl rfl (by simp [Value.oneCell']) ?_; intro w4 h4 h4g; have H4 : Hid (Bk 33 w4 N #[.int .i64 0, .slice none 0 0] ∧ Below N w w4) := ⟨h4, H0.out.2.1.grown h4g (Nat.le_of_lt (lt_of_block H0.out.1)) (fun k hk => by cases hk; omega)⟩; clear h4 h4g))
      refine bodyPost_ret (results_cell3 Tryd.results14 _ _ _ ⟨N, 0, none⟩ _ _ _ rfl rfl rfl (bk_load Tryd.underlying33 rfl Tryd.infoGFrame H4.out.1 rfl)) rfl ?_
      rw [← HNW.out]
      exact ⟨_, rfl, own_nil _ _, H4.out.2⟩
  | true =>
    by_cases l10 : len < 10
    ·
      have HF : Hid (fdec xs = 40) := by show _ = _; unfold fdec fmeet fbeg; rw [q1, hlen, if_pos l10]; rfl
      have HR : Hid (ftp xs = 0 ∧ fnn xs = 0 ∧ fbd xs = []) := HNO.out (by rw [HF.out]; decide)
      rw [HF.out, HR.out.1, HR.out.2.1, HR.out.2.2]
      clear hs hx hlen HF HR HNO
      go_enter Tryd.func14, Tryd.ntmps14
      go_wp2_with (first
        | (go_at_call 24; rw [← hN]; generalize hW0 : World.alloc w _ = W0; have H0 : Hid (Bk 33 W0 N #[.int .i64 0, .slice none 0 0] ∧ Below N w W0 ∧ W0.heap.size = N + 1) := by (rw [← hW0, hN]; exact ⟨(gfr_new w).1, (gfr_new w).2, by simp⟩)
           have HNW : Hid (N = w.heap.size) := hN
           clear hW0 hN
           go_must (refine (front_c a len cap xs W0 (HS.out.below (HNW.out ▸ H0.out.2.1))).mono ?_); rintro e w' ⟨rfl, rfl⟩; rw [q1])
        | (refine wpList_store_bk 33 rfl _ _ rfl Tryd.infoGFrame N _ _ rfl rfl H0.out.1 rfl rfl (by simp [Value.oneCell']) ?_; intro w4 h4 h4g; have H4 : Hid (Bk 33 w4 N #[.int .i64 0, .slice none 0 0] ∧ Below N w w4) := ⟨h4, H0.out.2.1.grown h4g (Nat.le_of_lt (lt_of_block H0.out.1)) (fun k hk => by cases hk; omega)⟩; clear h4 h4g))
      refine bodyPost_ret (results_cell3 Tryd.results14 _ _ _ ⟨N, 0, none⟩ _ _ _ rfl rfl rfl (bk_load Tryd.underlying33 rfl Tryd.infoGFrame H4.out.1 rfl)) rfl ?_
      rw [← HNW.out]
      exact ⟨_, rfl, own_nil _ _, H4.out.2⟩
    · cases q3 : fhead xs with
      | false =>
        have HG : Hid (glen xs = -1) := by show _ = _; unfold glen; rw [q3]; rfl
        have HF : Hid (fdec xs = 42) := by show _ = _; unfold fdec fmeet fbeg; simp [q1, hlen, q3, l10]
        have HR : Hid (ftp xs = 0 ∧ fnn xs = 0 ∧ fbd xs = []) := HNO.out (by rw [HF.out]; decide)
        rw [HF.out, HR.out.1, HR.out.2.1, HR.out.2.2]
        clear hs hx hlen HF HR HNO
        go_enter Tryd.func14, Tryd.ntmps14
        go_wp2_with (first
          | (go_at_call 24; rw [← hN]; generalize hW0 : World.alloc w _ = W0; have H0 : Hid (Bk 33 W0 N #[.int .i64 0, .slice none 0 0] ∧ Below N w W0 ∧ W0.heap.size = N + 1) := by (rw [← hW0, hN]; exact ⟨(gfr_new w).1, (gfr_new w).2, by simp⟩)
             have HNW : Hid (N = w.heap.size) := hN
             clear hW0 hN
             go_must (refine (front_c a len cap xs W0 (HS.out.below (HNW.out ▸ H0.out.2.1))).mono ?_); rintro e w' ⟨rfl, rfl⟩; rw [q1])
          | (go_at_call 25; go_must (refine (glength_c a len cap xs _ hlc (HS.out.below (HNW.out ▸ H0.out.2.1)) HX.out hl (by omega)).mono ?_); rintro e w1 ⟨rfl, hb1⟩; rw [HG.out]; have H1 : Hid (Bk 33 w1 N #[.int .i64 0, .slice none 0 0] ∧ Below N w w1) := ⟨H0.out.1.below hb1 (lt_of_block H0.out.1), H0.out.2.1.trans (hb1.mono (Nat.le_of_lt (lt_of_block H0.out.1)))⟩; clear hb1)
          | (refine wpList_store_bk 33 rfl _ _ rfl Tryd.infoGFrame N _ _ rfl rfl H1.out.1 rfl rfl (by simp [Value.oneCell']) ?_; intro w4 h4 h4g; have H4 : Hid (Bk 33 w4 N #[.int .i64 0, .slice none 0 0] ∧ Below N w w4) := ⟨h4, H1.out.2.grown h4g (Nat.le_of_lt (lt_of_block H1.out.1)) (fun k hk => by cases hk; omega)⟩; clear h4 h4g))
        refine bodyPost_ret (results_cell3 Tryd.results14 _ _ _ ⟨N, 0, none⟩ _ _ _ rfl rfl rfl (bk_load Tryd.underlying33 rfl Tryd.infoGFrame H4.out.1 rfl)) rfl ?_
        rw [← HNW.out]
        exact ⟨_, rfl, own_nil _ _, H4.out.2⟩
      | true =>
        obtain ⟨n, hn⟩ : ∃ n, n = flen xs := ⟨_, rfl⟩
        have HG : Hid (glen xs = (n : Int)) := by show _ = _; unfold glen; rw [q3, hn]; rfl
        have HFL : Hid (flen xs = n ∧ n < 16777216) := ⟨hn.symm, by rw [hn]; exact (flen_nn hx).2⟩
        have hfl := HFL.out.2
        clear hn
        by_cases q4 : 1048576 < n
        ·
          have HF : Hid (fdec xs = 43) := by show _ = _; unfold fdec fmeet fbeg; simp [q1, hlen, q3, l10, HFL.out.1, q4]
          have HR : Hid (ftp xs = 0 ∧ fnn xs = 0 ∧ fbd xs = []) := HNO.out (by rw [HF.out]; decide)
          rw [HF.out, HR.out.1, HR.out.2.1, HR.out.2.2]
          clear hs hx hlen HF HR HNO
          go_enter Tryd.func14, Tryd.ntmps14
          go_wp2_with (first
            | (go_at_call 24; rw [← hN]; generalize hW0 : World.alloc w _ = W0; have H0 : Hid (Bk 33 W0 N #[.int .i64 0, .slice none 0 0] ∧ Below N w W0 ∧ W0.heap.size = N + 1) := by (rw [← hW0, hN]; exact ⟨(gfr_new w).1, (gfr_new w).2, by simp⟩)
               have HNW : Hid (N = w.heap.size) := hN
               clear hW0 hN
               go_must (refine (front_c a len cap xs W0 (HS.out.below (HNW.out ▸ H0.out.2.1))).mono ?_); rintro e w' ⟨rfl, rfl⟩; rw [q1])
            | (go_at_call 25; go_must (refine (glength_c a len cap xs _ hlc (HS.out.below (HNW.out ▸ H0.out.2.1)) HX.out hl (by omega)).mono ?_); rintro e w1 ⟨rfl, hb1⟩; rw [HG.out]; have H1 : Hid (Bk 33 w1 N #[.int .i64 0, .slice none 0 0] ∧ Below N w w1) := ⟨H0.out.1.below hb1 (lt_of_block H0.out.1), H0.out.2.1.trans (hb1.mono (Nat.le_of_lt (lt_of_block H0.out.1)))⟩; clear hb1)
            | (refine wpList_store_bk 33 rfl _ _ rfl Tryd.infoGFrame N _ _ rfl rfl H1.out.1 rfl rfl (by simp [Value.oneCell']) ?_; intro w4 h4 h4g; have H4 : Hid (Bk 33 w4 N #[.int .i64 0, .slice none 0 0] ∧ Below N w w4) := ⟨h4, H1.out.2.grown h4g (Nat.le_of_lt (lt_of_block H1.out.1)) (fun k hk => by cases hk; omega)⟩; clear h4 h4g))
          refine bodyPost_ret (results_cell3 Tryd.results14 _ _ _ ⟨N, 0, none⟩ _ _ _ rfl rfl rfl (bk_load Tryd.underlying33 rfl Tryd.infoGFrame H4.out.1 rfl)) rfl ?_
          rw [← HNW.out]
          exact ⟨_, rfl, own_nil _ _, H4.out.2⟩
        · by_cases q5 : len < n + 14
          ·
            have HF : Hid (fdec xs = 40) := by show _ = _; unfold fdec fmeet fbeg; simp [q1, hlen, q3, l10, HFL.out.1, q4, q5]
            have HR : Hid (ftp xs = 0 ∧ fnn xs = 0 ∧ fbd xs = []) := HNO.out (by rw [HF.out]; decide)
            rw [HF.out, HR.out.1, HR.out.2.1, HR.out.2.2]
            clear hs hx hlen HF HR HNO
            go_enter Tryd.func14, Tryd.ntmps14
            go_wp2_with (first
              | (go_at_call 24; rw [← hN]; generalize hW0 : World.alloc w _ = W0; have H0 : Hid (Bk 33 W0 N #[.int .i64 0, .slice none 0 0] ∧ Below N w W0 ∧ W0.heap.size = N + 1) := by (rw [← hW0, hN]; exact ⟨(gfr_new w).1, (gfr_new w).2, by simp⟩)
                 have HNW : Hid (N = w.heap.size) := hN
                 clear hW0 hN
                 go_must (refine (front_c a len cap xs W0 (HS.out.below (HNW.out ▸ H0.out.2.1))).mono ?_); rintro e w' ⟨rfl, rfl⟩; rw [q1])
              | (go_at_call 25; go_must (refine (glength_c a len cap xs _ hlc (HS.out.below (HNW.out ▸ H0.out.2.1)) HX.out hl (by omega)).mono ?_); rintro e w1 ⟨rfl, hb1⟩; rw [HG.out]; have H1 : Hid (Bk 33 w1 N #[.int .i64 0, .slice none 0 0] ∧ Below N w w1) := ⟨H0.out.1.below hb1 (lt_of_block H0.out.1), H0.out.2.1.trans (hb1.mono (Nat.le_of_lt (lt_of_block H0.out.1)))⟩; clear hb1)
              | (refine wpList_store_bk 33 rfl _ _ rfl Tryd.infoGFrame N _ _ rfl rfl H1.out.1 rfl rfl (by simp [Value.oneCell']) ?_; intro w4 h4 h4g; have H4 : Hid (Bk 33 w4 N #[.int .i64 0, .slice none 0 0] ∧ Below N w w4) := ⟨h4, H1.out.2.grown h4g (Nat.le_of_lt (lt_of_block H1.out.1)) (fun k hk => by cases hk; omega)⟩; clear h4 h4g))
            refine bodyPost_ret (results_cell3 Tryd.results14 _ _ _ ⟨N, 0, none⟩ _ _ _ rfl rfl rfl (bk_load Tryd.underlying33 rfl Tryd.infoGFrame H4.out.1 rfl)) rfl ?_
            rw [← HNW.out]
            exact ⟨_, rfl, own_nil _ _, H4.out.2⟩
          · have HS2 : Hid (Seg .u8 w a (n + 14) (xs.take (n + 14))) := hs.take _ (by omega)
            have HX2 : Hid (Bytes (xs.take (n + 14))) := hx.take _
            have H0E : Hid (fbeg 1048576 xs = 0) := by show _ = _; unfold fbeg; rw [q1, hlen, q3, HFL.out.1, if_neg (by decide), if_neg l10, if_neg (by decide), if_neg q4, if_neg q5]
            cases q6 : holds (xs.take (n + 14)) with
            | false =>
              have HF : Hid (fdec xs = 44) := by show _ = _; unfold fdec fmeet; rw [H0E.out, if_pos rfl, HFL.out.1, q6]; rfl
              have HR : Hid (ftp xs = 0 ∧ fnn xs = 0 ∧ fbd xs = []) := HNO.out (by rw [HF.out]; decide)
              rw [HF.out, HR.out.1, HR.out.2.1, HR.out.2.2]
              clear hs hx hlen HF HR HNO
              go_enter Tryd.func14, Tryd.ntmps14
              go_wp2_with (first
                | (go_at_call 24; rw [← hN]; generalize hW0 : World.alloc w _ = W0; have H0 : Hid (Bk 33 W0 N #[.int .i64 0, .slice none 0 0] ∧ Below N w W0 ∧ W0.heap.size = N + 1) := by (rw [← hW0, hN]; exact ⟨(gfr_new w).1, (gfr_new w).2, by simp⟩)
                   have HNW : Hid (N = w.heap.size) := hN
                   clear hW0 hN
                   go_must (refine (front_c a len cap xs W0 (HS.out.below (HNW.out ▸ H0.out.2.1))).mono ?_); rintro e w' ⟨rfl, rfl⟩; rw [q1])
                | (go_at_call 25; go_must (refine (glength_c a len cap xs _ hlc (HS.out.below (HNW.out ▸ H0.out.2.1)) HX.out hl (by omega)).mono ?_); rintro e w1 ⟨rfl, hb1⟩; rw [HG.out]; have H1 : Hid (Bk 33 w1 N #[.int .i64 0, .slice none 0 0] ∧ Below N w w1) := ⟨H0.out.1.below hb1 (lt_of_block H0.out.1), H0.out.2.1.trans (hb1.mono (Nat.le_of_lt (lt_of_block H0.out.1)))⟩; clear hb1)
                | (go_at_call 26; go_must (refine (rholds_c a (n + 14) cap (xs.take (n + 14)) w1 (by omega) (HS2.out.below (HNW.out ▸ H1.out.2)) HX2.out (by omega)).mono ?_); rintro e w2 ⟨rfl, hb2⟩; rw [q6]; have H2 : Hid (Bk 33 w2 N #[.int .i64 0, .slice none 0 0] ∧ Below N w w2 ∧ N < w2.heap.size) := ⟨H1.out.1.below hb2 (lt_of_block H1.out.1), H1.out.2.trans (hb2.mono (Nat.le_of_lt (lt_of_block H1.out.1))), Nat.lt_of_lt_of_le (lt_of_block H1.out.1) hb2.size⟩; clear hb2)
                | (refine wpList_store_bk 33 rfl _ _ rfl Tryd.infoGFrame N _ _ rfl rfl H2.out.1 rfl rfl (by simp [Value.oneCell']) ?_; intro w4 h4 h4g; have H4 : Hid (Bk 33 w4 N #[.int .i64 0, .slice none 0 0] ∧ Below N w w4) := ⟨h4, H2.out.2.1.grown h4g (Nat.le_of_lt (lt_of_block H2.out.1)) (fun k hk => by cases hk; omega)⟩; clear h4 h4g))
              refine bodyPost_ret (results_cell3 Tryd.results14 _ _ _ ⟨N, 0, none⟩ _ _ _ rfl rfl rfl (bk_load Tryd.underlying33 rfl Tryd.infoGFrame H4.out.1 rfl)) rfl ?_
              rw [← HNW.out]
              exact ⟨_, rfl, own_nil _ _, H4.out.2⟩
            | true =>
              have HF : Hid (fdec xs = 0) := by show _ = _; unfold fdec fmeet; rw [H0E.out, if_pos rfl, HFL.out.1, q6]; rfl
              have HR : Hid (ftp xs = xs[2]?.getD 0 ∧ fnn xs = n + 14 ∧ fbd xs = (xs.drop 10).take n) := by unfold ftp fnn fbd fbody; rw [HF.out, HFL.out.1]; exact ⟨rfl, rfl, rfl⟩
              obtain ⟨b, off, rfl, hbw, hc⟩ := hs.cells (by omega)
              have HSB : Hid (Seg .u8 w (some ⟨b, off + 10, none⟩) n ((xs.drop 10).take n)) := (hs.drop 10 (by omega) (by omega)).take n (by omega)
              have HC2 : Hid (w.cell? ⟨b, off + 2, none⟩ = some (.int .u8 (xs[2]?.getD 0)) ∧ b < w.heap.size) := ⟨hc 2 (by omega), hbw⟩
              have HSL : Hid (((xs.drop 10).take n).length = n) := HSB.out.1
              rw [HF.out, HR.out.1, HR.out.2.1, HR.out.2.2, HSL.out]
              obtain ⟨X2, hX2⟩ : ∃ X, X = xs[2]?.getD (0 : Int) := ⟨_, rfl⟩
              obtain ⟨ys, hys⟩ : ∃ ys, ys = (xs.drop 10).take n := ⟨_, rfl⟩
              rw [← hys] at HSB HSL ⊢
              rw [← hX2] at HC2 ⊢
              have b2 : 0 ≤ X2 ∧ X2 < 256 := by rw [hX2]; exact hx 2 (by omega)
              have j1 : 10 ≤ n + 14 := by omega
              have j2 : ¬ cap = 10 := by omega
              have j3 : 10 + n ≤ cap := by omega
              clear hs hx hlen HF HR hc hbw hX2 hys HNO H0E
              go_enter Tryd.func14, Tryd.ntmps14
              go_wp2_with (first
                | (go_at_call 24; rw [← hN]; generalize hW0 : World.alloc w _ = W0; have H0 : Hid (Bk 33 W0 N #[.int .i64 0, .slice none 0 0] ∧ Below N w W0 ∧ W0.heap.size = N + 1) := by (rw [← hW0, hN]; exact ⟨(gfr_new w).1, (gfr_new w).2, by simp⟩)
                   have HNW : Hid (N = w.heap.size) := hN
                   clear hW0 hN
                   go_must (refine (front_c (some ⟨b, off, none⟩) len cap xs W0 (HS.out.below (HNW.out ▸ H0.out.2.1))).mono ?_); rintro e w' ⟨rfl, rfl⟩; rw [q1])
                | (go_at_call 25; go_must (refine (glength_c (some ⟨b, off, none⟩) len cap xs _ hlc (HS.out.below (HNW.out ▸ H0.out.2.1)) HX.out hl (by omega)).mono ?_); rintro e w1 ⟨rfl, hb1⟩; rw [HG.out]; have H1 : Hid (Bk 33 w1 N #[.int .i64 0, .slice none 0 0] ∧ Below N w w1) := ⟨H0.out.1.below hb1 (lt_of_block H0.out.1), H0.out.2.1.trans (hb1.mono (Nat.le_of_lt (lt_of_block H0.out.1)))⟩; clear hb1)
                | (go_at_call 26; go_must (refine (rholds_c (some ⟨b, off, none⟩) (n + 14) cap (xs.take (n + 14)) w1 (by omega) (HS2.out.below (HNW.out ▸ H1.out.2)) HX2.out (by omega)).mono ?_); rintro e w2 ⟨rfl, hb2⟩; rw [q6]; have H2 : Hid (Bk 33 w2 N #[.int .i64 0, .slice none 0 0] ∧ Below N w w2 ∧ N < w2.heap.size) := ⟨H1.out.1.below hb2 (lt_of_block H1.out.1), H1.out.2.trans (hb2.mono (Nat.le_of_lt (lt_of_block H1.out.1))), Nat.lt_of_lt_of_le (lt_of_block H1.out.1) hb2.size⟩; have c2 : w2.cell? ⟨b, off + 2, none⟩ = some (.int .u8 X2) := (H2.out.2.1.cell (p := ⟨b, off + 2, none⟩) (by rw [HNW.out]; exact HC2.out.2)).trans HC2.out.1; clear hb2))
              have e1 : (2 : Int) < (len : Int) := by omega
              have z1 : IntKind.i64.wrap 10 = 10 := by decide
              have z2 : IntKind.i64.wrap 14 = 14 := by decide
              have z3 : IntKind.i64.wrap X2 = X2 := IntWalk.i64_in _ ⟨by omega, by omega⟩
              have z4 : IntKind.i64.wrap (10 + (n : Int)) = 10 + (n : Int) := IntWalk.i64_in _ ⟨by omega, by omega⟩
              have z5 : IntKind.i64.wrap ((n : Int) + 14) = (n : Int) + 14 := IntWalk.i64_in _ ⟨by omega, by omega⟩
              have z6 : max (10 + (n : Int)) 0 = 10 + (n : Int) := by omega
              have z7 : (0 : Int) ≤ 10 + (n : Int) := by omega
              have z8 : (10 + (n : Int)).toNat - 10 = n := by omega
              have e3 : (10 : Int) ≤ (cap : Int) := by omega
              have HB2 : Hid (b < N ∧ b < w2.heap.size) := ⟨by rw [HNW.out]; exact HC2.out.2, Nat.lt_of_lt_of_le HC2.out.2 (HNW.out ▸ H2.out.2.1).size⟩
              by_cases hn0 : n = 0
              · have HY0 : Hid (ys = []) := List.eq_nil_of_length_eq_zero (HSL.out.trans hn0)
                subst hn0
                have HD : Hid (Bk 33 w2.drew N #[.int .i64 0, .slice none 0 0] ∧ Below N w w2.drew) := ⟨H2.out.1, H2.out.2.1.drew⟩
                have cD : w2.drew.cell? ⟨b, off + 2, none⟩ = some (.int .u8 X2) := c2
                go_region_held3 (fun wr => wr.cell? ⟨b, off + 2, none⟩ = some (.int .u8 X2)) (first | assumption | exact cell_set2 (by assumption) HB2.out.1) (first
                  | (refine step_append_none rfl _ _ rfl ⟨b, off + 10, none⟩ _ rfl rfl ?_; intro w3 hb3; have H3 : Hid (Bk 33 w3 N #[.int .i64 0, .slice none 0 0] ∧ Below N w w3) := ⟨HD.out.1.below hb3 (lt_of_block HD.out.1), HD.out.2.trans (hb3.mono (Nat.le_of_lt (lt_of_block HD.out.1)))⟩; have f0 := H3.out.1.cell 0; have f1 := H3.out.1.cell 1; have g0 := H3.out.1.free 0; have g1 := H3.out.1.free 1; have c3 : w3.cell? ⟨b, off + 2, none⟩ = some (.int .u8 X2) := (H3.out.2.cell (p := ⟨b, off + 2, none⟩) HB2.out.1).trans HC2.out.1; clear hb3))
                generalize hW4 : World.setCell (World.setCell w3 _ _) _ _ = w4
                have H4 : Hid (Bk 33 w4 N #[.int .i64 X2, .slice none 0 0] ∧ Below N w w4 ∧ Own N w4 (.slice none 0 0) 0 ys) := by rw [← hW4]; exact gstored H3.out.1 H3.out.2 (B := N + 1) (by rw [HY0.out]; exact own_nil _ _) (by omega)
                clear hW4 f0 f1 g0 g1 c3
                go_wp2
                refine bodyPost_ret (results_cell3 Tryd.results14 _ _ _ ⟨N, 0, none⟩ _ _ _ rfl rfl rfl (bk_load Tryd.underlying33 rfl Tryd.infoGFrame H4.out.1 rfl)) rfl ?_
                rw [← HNW.out]
                exact ⟨_, rfl, H4.out.2.2, H4.out.2.1⟩
              · have e2 : (10 : Int) ≤ 10 + (n : Int) := by omega
                have e4 : (10 : Int) + (n : Int) ≤ (cap : Int) := by omega
                have e5 : 10 + n - 10 = n := by omega
                have HD : Hid (Bk 33 w2.drew N #[.int .i64 0, .slice none 0 0] ∧ Below N w w2.drew) := ⟨H2.out.1, H2.out.2.1.drew⟩
                have cD : w2.drew.cell? ⟨b, off + 2, none⟩ = some (.int .u8 X2) := c2
                go_region_held3 (fun wr => wr.cell? ⟨b, off + 2, none⟩ = some (.int .u8 X2)) (first | assumption | exact cell_set2 (by assumption) HB2.out.1) (first
                  | (refine step_append_new rfl _ _ rfl ⟨b, off + 10, none⟩ n _ ys rfl rfl (HSB.out.below (HNW.out ▸ HD.out.2)) (by omega) (by omega) ?_; intro gu ku w3 ho3 hb3; have H3 : Hid (Bk 33 w3 N #[.int .i64 0, .slice none 0 0] ∧ Below N w w3 ∧ Own w2.drew.heap.size w3 (.slice (some ⟨gu, 0, none⟩) n ku) n ys) := ⟨HD.out.1.below hb3 (lt_of_block HD.out.1), HD.out.2.trans (hb3.mono (Nat.le_of_lt (lt_of_block HD.out.1))), ho3⟩; have f0 := H3.out.1.cell 0; have f1 := H3.out.1.cell 1; have g0 := H3.out.1.free 0; have g1 := H3.out.1.free 1; have c3 : w3.cell? ⟨b, off + 2, none⟩ = some (.int .u8 X2) := (H3.out.2.1.cell (p := ⟨b, off + 2, none⟩) HB2.out.1).trans HC2.out.1; clear hb3 ho3))
                generalize hW4 : World.setCell (World.setCell w3 _ _) _ _ = w4
                have H4 : Hid (Bk 33 w4 N #[.int .i64 X2, .slice (some ⟨gu, 0, none⟩) n ku] ∧ Below N w w4 ∧ Own N w4 (.slice (some ⟨gu, 0, none⟩) n ku) n ys) := by rw [← hW4]; exact gstored H3.out.1 H3.out.2.1 H3.out.2.2 (lt_of_block HD.out.1)
                clear hW4 f0 f1 g0 g1 c3
                go_wp2
                refine bodyPost_ret (results_cell3 Tryd.results14 _ _ _ ⟨N, 0, none⟩ _ _ _ rfl rfl rfl (bk_load Tryd.underlying33 rfl Tryd.infoGFrame H4.out.1 rfl)) rfl ?_
                rw [← HNW.out]
                exact ⟨_, rfl, H4.out.2.2, H4.out.2.1⟩
end Go.Proofs.YtdgoncpebfkbdabDoor
