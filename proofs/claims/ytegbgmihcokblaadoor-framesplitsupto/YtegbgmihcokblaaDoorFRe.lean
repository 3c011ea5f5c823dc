/-
  What the document's front, length, Decode, One and Encode of frames answer, called with whatever bytes. Condition: the bytes can be read, and are at most 2^47.
-/
import Derived.Test.YtegbgmihcokblaaDoorRows
import Derived.Test.YtegbgmihcokblaaDoorFEn
import Derived.Test.YtegbgmihcokblaaDoorFDc
import Derived.Test.YtegbgmihcokblaaDoorRHoldC
import Derived.Test.YtegbgmihcokblaaDoorRSealC
import Derived.Deep.RegionHeld3
namespace Go.Proofs.YtegbgmihcokblaaDoor
set_option linter.unusedVariables false
open Go.RowKit

set_option maxHeartbeats 1000000 in
theorem front_c (a : Option Addr) (len cap : Nat) (xs : List Int) (w : World) (hs : Seg .u8 w a len xs) :
    Calls Tryd.prog 38 #[.slice a len cap] w fun e w' => e = .returned (.bool (fmagic xs)) ∧ w' = w := by
  have hlen := hs.1
  by_cases l0 : len = 0
  · have HF : Hid (fmagic xs = true) := by show _ = _; unfold fmagic; rw [hlen, l0]; rfl
    subst l0
    clear hlen hs
    go_enter Tryd.func38, Tryd.ntmps38
    go_wp2
    go_ret
    rw [HF.out]; exact ⟨rfl, rfl⟩
  · obtain ⟨b, off, rfl, hbw, hc⟩ := hs.cells (by omega)
    have c0 : w.cell? ⟨b, off, none⟩ = some (.int .u8 (xs[0]?.getD 0)) := hc 0 (by omega)
    have l1 : ¬ len < 1 := by omega
    obtain ⟨X0, hX0⟩ : ∃ X, X = xs[0]?.getD 0 := ⟨_, rfl⟩
    rw [← hX0] at c0
    by_cases h0 : X0 = 72
    · subst h0
      by_cases l2 : len < 2
      · have HF : Hid (fmagic xs = true) := by show _ = _; unfold fmagic; rw [hlen, ← hX0]; simp [l2]
        obtain rfl : len = 1 := by omega
        clear hlen hs hc hX0
        go_enter Tryd.func38, Tryd.ntmps38
        go_wp2
        go_ret
        rw [HF.out]; exact ⟨rfl, rfl⟩
      · have c1 : w.cell? ⟨b, off + 1, none⟩ = some (.int .u8 (xs[1]?.getD 0)) := hc 1 (by omega)
        obtain ⟨X1, hX1⟩ : ∃ X, X = xs[1]?.getD 0 := ⟨_, rfl⟩
        rw [← hX1] at c1
        have l3 : 1 < len := by omega
        by_cases h1 : X1 = 87
        · subst h1
          have HF : Hid (fmagic xs = true) := by show _ = _; unfold fmagic; rw [hlen, ← hX0, ← hX1]; simp
          clear hlen hs hc hX0 hX1
          go_enter Tryd.func38, Tryd.ntmps38
          go_wp2
          go_ret
          rw [HF.out]; exact ⟨rfl, rfl⟩
        · have HF : Hid (fmagic xs = false) := by show _ = _; unfold fmagic; rw [hlen, ← hX0, ← hX1]; simp [h1]; omega
          have q1 : (X1 == 87) = false := by simp [h1]
          clear hlen hs hc hX0 hX1
          go_enter Tryd.func38, Tryd.ntmps38
          go_wp2
          go_ret
          rw [HF.out]; exact ⟨congrArg (fun b => Ending.returned (Value.bool b)) (decide_eq_false (p := (len : Int) < 2) (by omega)), rfl⟩
    · have HF : Hid (fmagic xs = false) := by show _ = _; unfold fmagic; rw [hlen, ← hX0]; simp [h0]; omega
      have q0 : (X0 == 72) = false := by simp [h0]
      have l3 : 0 < len := by omega
      clear hlen hs hc hX0
      go_enter Tryd.func38, Tryd.ntmps38
      go_wp2
      go_ret
      rw [HF.out]; exact ⟨rfl, rfl⟩

/-- The document's length: -1, if the head is none. -/
def glen (xs : List Int) : Int := if fhead xs = true then (flen xs : Int) else -1

set_option maxHeartbeats 1000000 in
theorem glength_c (a : Option Addr) (len cap : Nat) (xs : List Int) (w : World) (hlc : len ≤ cap) (hs : Seg .u8 w a len xs) (hx : Bytes xs) (hl : len ≤ 140737488355328) (h10 : 10 ≤ len) :
    Calls Tryd.prog 39 #[.slice a len cap] w fun e w' => e = .returned (.int .i64 (glen xs)) ∧ Below w.heap.size w w' := by
  have HS : Hid (Seg .u8 w a len xs) := hs
  have HS10 : Hid (Seg .u8 w a 10 (xs.take 10)) := hs.take 10 h10
  have HX10 : Hid (Bytes (xs.take 10)) := hx.take 10
  obtain ⟨b, off, rfl, hbw, hc⟩ := hs.cells (by omega)
  have c10 : 10 ≤ cap := by omega
  have HC : Hid (b < w.heap.size ∧ w.cell? ⟨b, off + 2, none⟩ = some (.int .u8 (xs[2]?.getD 0)) ∧ w.cell? ⟨b, off + 3, none⟩ = some (.int .u8 (xs[3]?.getD 0)) ∧ w.cell? ⟨b, off + 4, none⟩ = some (.int .u8 (xs[4]?.getD 0)) ∧ w.cell? ⟨b, off + 5, none⟩ = some (.int .u8 (xs[5]?.getD 0))) := ⟨hbw, hc 2 (by omega), hc 3 (by omega), hc 4 (by omega), hc 5 (by omega)⟩
  have hlen := hs.1
  have b3 := hx 3 (by omega)
  have b4 := hx 4 (by omega)
  have b5 := hx 5 (by omega)
  have HFL : Hid (((flen xs : Nat) : Int) = xs[3]?.getD 0 + 256 * xs[4]?.getD 0 + 65536 * xs[5]?.getD 0) := (flen_nn hx).1
  cases q2 : holds (xs.take 10) with
  | false =>
    have HF : Hid (glen xs = -1) := by show _ = _; unfold glen fhead; rw [q2]; rfl
    rw [HF.out]
    clear hs hx hc hlen b3 b4 b5
    go_enter Tryd.func39, Tryd.ntmps39
    go_wp2_with (go_at_call 40; go_must (refine (rholds_c _ 10 _ _ _ (by omega) HS10.out HX10.out (by omega)).mono ?_); rintro e w2 ⟨rfl, hb2⟩; rw [q2]; replace hb2 : Hid _ := hb2)
    go_ret
    exact ⟨rfl, hb2.out⟩
  | true =>
    by_cases q3 : xs[2]?.getD 0 = (0 : Int)
    · have HF : Hid (glen xs = -1) := by show _ = _; unfold glen fhead; rw [q2, q3]; rfl
      rw [HF.out]
      rw [q3] at HC
      clear hs hx hc hlen b3 b4 b5
      go_enter Tryd.func39, Tryd.ntmps39
      go_wp2_with (go_at_call 40; go_must (refine (rholds_c _ 10 _ _ _ (by omega) HS10.out HX10.out (by omega)).mono ?_); rintro e w2 ⟨rfl, hb2⟩; rw [q2]; have c2 : w2.cell? ⟨b, off + 2, none⟩ = some (.int .u8 0) := (hb2.cell (p := ⟨b, off + 2, none⟩) HC.out.1).trans HC.out.2.1; replace hb2 : Hid _ := hb2)
      go_ret
      exact ⟨rfl, hb2.out⟩
    · have HF : Hid (glen xs = ((flen xs : Nat) : Int)) := by show _ = _; unfold glen fhead; rw [q2, decide_eq_true q3]; rfl
      rw [HF.out, HFL.out]
      obtain ⟨X2, hX2⟩ : ∃ X, X = xs[2]?.getD (0 : Int) := ⟨_, rfl⟩
      obtain ⟨X3, hX3⟩ : ∃ X, X = xs[3]?.getD (0 : Int) := ⟨_, rfl⟩
      obtain ⟨X4, hX4⟩ : ∃ X, X = xs[4]?.getD (0 : Int) := ⟨_, rfl⟩
      obtain ⟨X5, hX5⟩ : ∃ X, X = xs[5]?.getD (0 : Int) := ⟨_, rfl⟩
      rw [← hX2] at HC q3
      rw [← hX3] at HC b3 ⊢
      rw [← hX4] at HC b4 ⊢
      rw [← hX5] at HC b5 ⊢
      have q3' : (X2 == 0) = false := by simpa using q3
      clear hs hx hc hlen hX2 hX3 hX4 hX5 HF HFL
      go_enter Tryd.func39, Tryd.ntmps39
      go_wp2_with (go_at_call 40; go_must (refine (rholds_c _ 10 _ _ _ (by omega) HS10.out HX10.out (by omega)).mono ?_); rintro e w2 ⟨rfl, hb2⟩; rw [q2]; have c2 : w2.cell? ⟨b, off + 2, none⟩ = some (.int .u8 X2) := (hb2.cell (p := ⟨b, off + 2, none⟩) HC.out.1).trans HC.out.2.1; have c3 : w2.cell? ⟨b, off + 3, none⟩ = some (.int .u8 X3) := (hb2.cell (p := ⟨b, off + 3, none⟩) HC.out.1).trans HC.out.2.2.1; have c4 : w2.cell? ⟨b, off + 4, none⟩ = some (.int .u8 X4) := (hb2.cell (p := ⟨b, off + 4, none⟩) HC.out.1).trans HC.out.2.2.2.1; have c5 : w2.cell? ⟨b, off + 5, none⟩ = some (.int .u8 X5) := (hb2.cell (p := ⟨b, off + 5, none⟩) HC.out.1).trans HC.out.2.2.2.2; replace hb2 : Hid _ := hb2)
      go_quiet (fail)
      go_wp2
      go_ret
      exact ⟨ret_int (by omega), belowDrew hb2.out _⟩

/-- append to nothing, as one step of a region that draws: nothing is handed on. -/
theorem step_append_none {ops : Array Oper} {o : Oper} {a : Act} {w : World} {K : Act → World → Prop} {Q : Exit → Act → World → Prop} {E : Prop} (hgd : o.guard = none) (s x : Operand)
    (hop : o.op = Op.call { callee := Callee.builtin Builtin.append, args := #[s, x], argTypes := #[28, 28] }) (ad : Addr) (c : Nat) (hs : a.eval s = .slice none 0 0) (hx : a.eval x = .slice (some ad) 0 c)
    (hK : ∀ w', Below w.heap.size w w' → K (a.put o.dst (.slice none 0 0)) w') :
    if Region.wanted o (yielded ops a.tmps) = true then Oper.wp Tryd.prog o a w K Q else E := by
  have hw : Region.wanted o (yielded ops a.tmps) = true := by simp [Region.wanted, hgd]
  rw [if_pos hw]
  obtain ⟨i, hi, hz, h4, h5⟩ := info_parts' Tryd.infoU8
  refine wp_append_own w s x 28 hop w.heap.size 5 i (.int .u8 0) 1 1 Tryd.underlying28 hi hz h4 h5 rfl (by decide) (.slice none 0 0) 0 [] hs (World.ownsRow_nil w _ _ _) ad 0 c [] hx rfl (fun j u h => by simp at h) (fun u hu => by cases hu) (by decide) (by decide) (Nat.le_refl _) ?_
  intro v' w' _ hg hv
  obtain rfl := hv.2 ⟨rfl, rfl⟩
  exact hK w' ((Below.refl _ _).grown hg (Nat.le_refl _) (fun k hk => by cases hk))
/-- append of some bytes to nothing, likewise. -/
theorem step_append_new {ops : Array Oper} {o : Oper} {a : Act} {w : World} {K : Act → World → Prop} {Q : Exit → Act → World → Prop} {E : Prop} (hgd : o.guard = none) (s x : Operand)
    (hop : o.op = Op.call { callee := Callee.builtin Builtin.append, args := #[s, x], argTypes := #[28, 28] }) (ad : Addr) (m c : Nat) (ys : List Int) (hs : a.eval s = .slice none 0 0) (hx : a.eval x = .slice (some ad) m c)
    (hy : Seg .u8 w (some ad) m ys) (hm : 0 < m) (hb : m ≤ 140737488355328)
    (hK : ∀ g k w', Own w.heap.size w' (.slice (some ⟨g, 0, none⟩) m k) m ys → Below w.heap.size w w' → K (a.put o.dst (.slice (some ⟨g, 0, none⟩) m k)) w') :
    if Region.wanted o (yielded ops a.tmps) = true then Oper.wp Tryd.prog o a w K Q else E := by
  have hw : Region.wanted o (yielded ops a.tmps) = true := by simp [Region.wanted, hgd]
  rw [if_pos hw]
  obtain ⟨i, hi, hz, h4, h5⟩ := info_parts' Tryd.infoU8
  refine wp_append_own w s x 28 hop w.heap.size 5 i (.int .u8 0) 1 1 Tryd.underlying28 hi hz h4 h5 rfl (by decide) (.slice none 0 0) 0 [] hs (World.ownsRow_nil w _ _ _) ad m c (ys.map (Value.int .u8)) hx (by simp [hy.1]) (seg_news' hy ad rfl) ?_ (by unfold maxLen; omega) (by omega) (Nat.le_refl _) ?_
  · intro u hu; obtain ⟨z, _, rfl⟩ := List.mem_map.1 hu; rfl
  · intro v' w' hown hg _
    have ho : Own w.heap.size w' v' m ys := by rw [Nat.zero_add, List.nil_append] at hown; exact hown
    obtain ⟨g, k, rfl, _, _⟩ := ho.form hm
    exact hK g k w' ho ((Below.refl _ _).grown hg (Nat.le_refl _) (fun k hk => by cases hk))
theorem cell_set2 {w : World} {b N i : Nat} {v u1 u2 : Value} (h : w.cell? ⟨b, i, none⟩ = some v) (hb : b < N) : ((w.setCell ⟨N, 0, none⟩ u1).setCell ⟨N, 1, none⟩ u2).cell? ⟨b, i, none⟩ = some v := by
  rw [World.cell?_setCell_far _ _ _ _ (by show N ≠ b; omega), World.cell?_setCell_far _ _ _ _ (by show N ≠ b; omega)]; exact h
theorem grownBy_cell2 (w : World) (g : Nat) (u v : Value) : w.grownBy ((w.setCell ⟨g, 0, none⟩ u).setCell ⟨g, 1, none⟩ v) (some g) :=
  ⟨rfl, rfl, rfl, by simp [World.setCell], fun k _ hk => (Below.heap_setCell _ _ _ _ (fun e => hk (by rw [e]))).trans (Below.heap_setCell _ _ _ _ (fun e => hk (by rw [e])))⟩
theorem gstored {w w3 : World} {T : TypeId} {N n B : Nat} {u v : Value} {ys : List Int} (h : Bk T w3 N #[.int .i64 0, .slice none 0 0]) (hb : Below N w w3) (ho : Own B w3 u n ys) (hN : N < B) :
    Bk T ((w3.setCell ⟨N, 0, none⟩ v).setCell ⟨N, 1, none⟩ u) N #[v, u] ∧ Below N w ((w3.setCell ⟨N, 0, none⟩ v).setCell ⟨N, 1, none⟩ u) ∧ Own N ((w3.setCell ⟨N, 0, none⟩ v).setCell ⟨N, 1, none⟩ u) u n ys :=
  ⟨(h.set 0 v).set 1 u, hb.grown (grownBy_cell2 w3 N v u) (Nat.le_of_lt (lt_of_block h)) (fun k hk => by cases hk; omega), Own.store ho (grownBy_cell2 w3 N v u) hN⟩
theorem Bk.free {T w b cs} (h : Bk T w b cs) (i : Nat) : w.frozen? ⟨b, i, none⟩ = false := frozen_of_row w b i cs T h

theorem Tryd.infoGFrame : (Tryd.prog.info? 43).map (·.size) = some 2 := by kernel_rfl
theorem gfr_new (w : World) : Bk 43 (w.alloc (.cells #[.int .i64 0, .slice none 0 0] 43)) w.heap.size #[.int .i64 0, .slice none 0 0] ∧ Below w.heap.size w (w.alloc (.cells #[.int .i64 0, .slice none 0 0] 43)) := ⟨heap_new w _, (Below.refl _ _).alloc (Nat.le_refl _) _⟩

end Go.Proofs.YtegbgmihcokblaaDoor
