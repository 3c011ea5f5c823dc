/-
  What frame.magic, told, begins, cut, Encode, Decode and One answer, called with whatever bytes. Condition: the table of package crc lies in memory as the program's text lays it; the bytes can be read, and are at most 2^47.
-/
import Derived.Test.YtbfbehjldloeoaaDoorRows
import Derived.Test.YtbfbehjldloeoaaDoorFPu
import Derived.Deep.RegionHeld3
import Derived.BigQuiet
namespace Go.Proofs.YtbfbehjldloeoaaDoor
set_option linter.unusedVariables false
open Go.RowKit

/-- The first cells of bytes that can be read. -/
theorem Seg.cells {w : World} {a : Option Addr} {len : Nat} {xs : List Int} (h : Seg .u8 w a len xs) (h0 : 0 < len) : ∃ b off, a = some ⟨b, off, none⟩ ∧ b < w.heap.size ∧ ∀ i, i < len → w.cell? ⟨b, off + i, none⟩ = some (.int .u8 (xs[i]?.getD 0)) := by
  obtain ⟨b, off, h1, h2, h3⟩ := h.2.resolve_left (by omega)
  exact ⟨b, off, h1, h2, h3⟩
theorem belowDrew {B : Nat} {a w : World} (h : Below B a w) (n : Nat) : Below B a (w.drewN n) := ⟨h.os, h.tape, h.output, h.size, h.block⟩
theorem seg_len {w : World} {a : Option Addr} {len : Nat} {xs : List Int} (h : Seg .u8 w a len xs) : xs.length = len := h.1

set_option maxHeartbeats 1000000 in
theorem magic_c (a : Option Addr) (len cap : Nat) (xs : List Int) (w : World) (hs : Seg .u8 w a len xs) :
    Calls Tryd.prog 35 #[.slice a len cap] w fun e w' => e = .returned (.bool (fmagic xs)) ∧ w' = w := by
  have hlen := hs.1
  by_cases l0 : len = 0
  · have HF : Hid (fmagic xs = true) := by show _ = _; unfold fmagic; rw [hlen, l0]; rfl
    subst l0
    clear hlen hs
    go_enter Tryd.func35, Tryd.ntmps35
    go_wp2
    go_ret
    rw [HF.out]; exact ⟨rfl, rfl⟩
  · obtain ⟨b, off, rfl, hbw, hc⟩ := hs.cells (by omega)
    have c0 : w.cell? ⟨b, off, none⟩ = some (.int .u8 (xs[0]?.getD 0)) := hc 0 (by omega)
    have l1 : ¬ len < 1 := by omega
    obtain ⟨X0, hX0⟩ : ∃ X, X = xs[0]?.getD 0 := ⟨_, rfl⟩
    rw [← hX0] at c0
    by_cases h0 : X0 = 72
    · subst h0
      by_cases l2 : len < 2
      · have HF : Hid (fmagic xs = true) := by show _ = _; unfold fmagic; rw [hlen, ← hX0]; simp [l2]
        obtain rfl : len = 1 := by omega
        clear hlen hs hc hX0
        go_enter Tryd.func35, Tryd.ntmps35
        go_wp2
        go_ret
        rw [HF.out]; exact ⟨rfl, rfl⟩
      · have c1 : w.cell? ⟨b, off + 1, none⟩ = some (.int .u8 (xs[1]?.getD 0)) := hc 1 (by omega)
        obtain ⟨X1, hX1⟩ : ∃ X, X = xs[1]?.getD 0 := ⟨_, rfl⟩
        rw [← hX1] at c1
        have l3 : 1 < len := by omega
        by_cases h1 : X1 = 87
        · subst h1
          have HF : Hid (fmagic xs = true) := by show _ = _; unfold fmagic; rw [hlen, ← hX0, ← hX1]; simp
          clear hlen hs hc hX0 hX1
          go_enter Tryd.func35, Tryd.ntmps35
          go_wp2
          go_ret
          rw [HF.out]; exact ⟨rfl, rfl⟩
        · have HF : Hid (fmagic xs = false) := by show _ = _; unfold fmagic; rw [hlen, ← hX0, ← hX1]; simp [h1]; omega
          have q1 : (X1 == 87) = false := by simp [h1]
          clear hlen hs hc hX0 hX1
          go_enter Tryd.func35, Tryd.ntmps35
          go_wp2
          go_ret
          rw [HF.out]; exact ⟨congrArg (fun b => Ending.returned (Value.bool b)) (decide_eq_false (p := (len : Int) < 2) (by omega)), rfl⟩
    · have HF : Hid (fmagic xs = false) := by show _ = _; unfold fmagic; rw [hlen, ← hX0]; simp [h0]; omega
      have q0 : (X0 == 72) = false := by simp [h0]
      have l3 : 0 < len := by omega
      clear hlen hs hc hX0
      go_enter Tryd.func35, Tryd.ntmps35
      go_wp2
      go_ret
      rw [HF.out]; exact ⟨rfl, rfl⟩

set_option maxHeartbeats 1000000 in
theorem told_c (a : Option Addr) (len cap : Nat) (xs : List Int) (w : World) (hs : Seg .u8 w a len xs) (hx : Bytes xs) (hl : 10 ≤ len) :
    Calls Tryd.prog 23 #[.slice a len cap] w fun e w' => e = .returned (.int .i64 ((flen xs + 14 : Nat) : Int)) ∧ Below w.heap.size w w' := by
  have hlen := hs.1
  obtain ⟨b, off, rfl, hbw, hc⟩ := hs.cells (by omega)
  have c3 := hc 3 (by omega)
  have c4 := hc 4 (by omega)
  have c5 := hc 5 (by omega)
  have b3 := hx 3 (by omega)
  have b4 := hx 4 (by omega)
  have b5 := hx 5 (by omega)
  have HF : Hid (((flen xs : Nat) : Int) = xs[3]?.getD 0 + 256 * xs[4]?.getD 0 + 65536 * xs[5]?.getD 0) := (flen_nn hx).1
  obtain ⟨X3, hX3⟩ : ∃ X, X = xs[3]?.getD 0 := ⟨_, rfl⟩
  obtain ⟨X4, hX4⟩ : ∃ X, X = xs[4]?.getD 0 := ⟨_, rfl⟩
  obtain ⟨X5, hX5⟩ : ∃ X, X = xs[5]?.getD 0 := ⟨_, rfl⟩
  rw [← hX3] at c3 b3 HF
  rw [← hX4] at c4 b4 HF
  rw [← hX5] at c5 b5 HF
  clear hlen hs hc hX3 hX4 hX5 hx
  go_enter Tryd.func23, Tryd.ntmps23
  go_wp2
  go_quiet (fail)
  go_wp2
  go_ret
  refine ⟨ret_int ?_, belowDrew (Below.refl _ _) _⟩
  have := HF.out
  push_cast
  omega

set_option maxHeartbeats 2000000 in
theorem begins_c (a : Option Addr) (len cap : Nat) (xs : List Int) (most : Nat) (w : World) (hlc : len ≤ cap) (hs : Seg .u8 w a len xs) (hx : Bytes xs) (hl : len ≤ 140737488355328) (hm : most ≤ 1048576) (ht : Tab w) :
    Calls Tryd.prog 22 #[.slice a len cap, .int .i64 (most : Int)] w fun e w' => e = .returned (.int .i64 ((fbeg most xs : Nat) : Int)) ∧ Below w.heap.size w w' := by
  have HS : Hid (Seg .u8 w a len xs) := hs
  have HX : Hid (Bytes xs) := hx
  have HT : Hid (Tab w) := ht
  have HLN : Hid (xs.length = len) := hs.1
  cases q1 : fmagic xs with
  | false =>
    have HF : Hid (fbeg most xs = 41) := by show _ = _; unfold fbeg; rw [q1, if_pos rfl]
    clear hs hx ht
    go_enter Tryd.func22, Tryd.ntmps22
    go_wp2_with (go_at_call 35; go_must (refine (magic_c _ _ _ _ _ HS.out).mono ?_); rintro e w1 ⟨rfl, rfl⟩; rw [q1])
    go_ret
    rw [HF.out]; exact ⟨rfl, Below.refl _ _⟩
  | true =>
    by_cases l10 : len < 10
    · have HF : Hid (fbeg most xs = 40) := by show _ = _; unfold fbeg; rw [q1, HLN.out, if_neg (by decide), if_pos l10]
      clear hs hx ht
      go_enter Tryd.func22, Tryd.ntmps22
      go_wp2_with (go_at_call 35; go_must (refine (magic_c _ _ _ _ _ HS.out).mono ?_); rintro e w1 ⟨rfl, rfl⟩; rw [q1])
      go_ret
      rw [HF.out]; exact ⟨rfl, Below.refl _ _⟩
    · obtain ⟨b, off, rfl, hbw, hc⟩ := hs.cells (by omega)
      have HC2 : Hid (w.cell? ⟨b, off + 2, none⟩ = some (.int .u8 (xs[2]?.getD 0)) ∧ b < w.heap.size) := ⟨hc 2 (by omega), hbw⟩
      have HS10 : Hid (Seg .u8 w (some ⟨b, off, none⟩) 10 (xs.take 10)) := hs.take 10 (by omega)
      have HX10 : Hid (Bytes (xs.take 10)) := hx.take 10
      have l10' : 10 ≤ len := by omega
      have c10 : 10 ≤ cap := by omega
      clear hs hx ht hc hbw
      cases q2 : holds (xs.take 10) with
      | false =>
        have HF : Hid (fbeg most xs = 42) := by show _ = _; unfold fbeg fhead; rw [q1, q2, HLN.out, if_neg (by decide), if_neg l10]; rfl
        go_enter Tryd.func22, Tryd.ntmps22
        go_wp2_with (first
          | (go_at_call 35; go_must (refine (magic_c _ _ _ _ _ HS.out).mono ?_); rintro e w1 ⟨rfl, rfl⟩; rw [q1])
          | (go_at_call 24; go_must (refine (holds_c _ 10 _ _ _ (by omega) HS10.out HX10.out (by omega) HT.out).mono ?_); rintro e w2 ⟨rfl, hb2⟩; rw [q2]; replace hb2 : Hid _ := hb2))
        go_ret
        rw [HF.out]; exact ⟨rfl, hb2.out⟩
      | true =>
        by_cases q3 : xs[2]?.getD 0 = (0 : Int)
        · have HF : Hid (fbeg most xs = 42) := by show _ = _; unfold fbeg fhead; rw [q1, q2, q3, HLN.out, if_neg (by decide), if_neg l10]; rfl
          rw [q3] at HC2
          go_enter Tryd.func22, Tryd.ntmps22
          go_wp2_with (first
            | (go_at_call 35; go_must (refine (magic_c _ _ _ _ _ HS.out).mono ?_); rintro e w1 ⟨rfl, rfl⟩; rw [q1])
            | (go_at_call 24; go_must (refine (holds_c _ 10 _ _ _ (by omega) HS10.out HX10.out (by omega) HT.out).mono ?_); rintro e w2 ⟨rfl, hb2⟩; rw [q2]; have c2 : w2.cell? ⟨b, off + 2, none⟩ = some (.int .u8 0) := (hb2.cell (p := ⟨b, off + 2, none⟩) HC2.out.2).trans HC2.out.1; replace hb2 : Hid _ := hb2))
          go_ret
          rw [HF.out]; exact ⟨rfl, hb2.out⟩
        · obtain ⟨X2, hX2⟩ : ∃ X, X = xs[2]?.getD (0 : Int) := ⟨_, rfl⟩
          have q3' : (X2 == 0) = false := by rw [hX2]; simpa using q3
          have QH : Hid (fhead xs = true) := by show _ = _; unfold fhead; rw [q2, decide_eq_true q3]; rfl
          have HFL : Hid (flen xs < 16777216) := (flen_nn HX.out).2
          rw [← hX2] at HC2
          clear hX2 q3
          have hfl := HFL.out
          by_cases q4 : most < flen xs
          · have HF : Hid (fbeg most xs = 43) := by show _ = _; unfold fbeg; rw [q1, QH.out, HLN.out, if_neg (by decide), if_neg l10, if_neg (by decide), if_pos q4]
            obtain ⟨n, hn⟩ : ∃ n, n = flen xs := ⟨_, rfl⟩
            rw [← hn] at q4 hfl
            replace hn : Hid _ := hn
            go_enter Tryd.func22, Tryd.ntmps22
            go_wp2_with (first
              | (go_at_call 35; go_must (refine (magic_c _ _ _ _ _ HS.out).mono ?_); rintro e w1 ⟨rfl, rfl⟩; rw [q1])
              | (go_at_call 23; go_must (refine (told_c _ _ _ xs _ (HS.out.below hb2.out) HX.out l10').mono ?_); rintro e w3 ⟨rfl, hb3⟩; rw [← hn.out]; replace hb3 : Hid _ := hb3)
              | (go_at_call 24; go_must (refine (holds_c _ 10 _ _ _ (by omega) HS10.out HX10.out (by omega) HT.out).mono ?_); rintro e w2 ⟨rfl, hb2⟩; rw [q2]; have c2 : w2.cell? ⟨b, off + 2, none⟩ = some (.int .u8 X2) := (hb2.cell (p := ⟨b, off + 2, none⟩) HC2.out.2).trans HC2.out.1; replace hb2 : Hid _ := hb2))
            go_ret
            rw [HF.out]; exact ⟨rfl, hb2.out.trans (hb3.out.mono hb2.out.size)⟩
          · by_cases q5 : len < flen xs + 14
            · have HF : Hid (fbeg most xs = 40) := by show _ = _; unfold fbeg; rw [q1, QH.out, HLN.out, if_neg (by decide), if_neg l10, if_neg (by decide), if_neg q4, if_pos q5]
              obtain ⟨n, hn⟩ : ∃ n, n = flen xs := ⟨_, rfl⟩
              rw [← hn] at q4 hfl q5
              replace hn : Hid _ := hn
              go_enter Tryd.func22, Tryd.ntmps22
              go_wp2_with (first
                | (go_at_call 35; go_must (refine (magic_c _ _ _ _ _ HS.out).mono ?_); rintro e w1 ⟨rfl, rfl⟩; rw [q1])
                | (go_at_call 23; refine (told_c _ _ _ xs _ (HS.out.below (hb2.out.trans (hb3.out.mono hb2.out.size))) HX.out l10').mono ?_; rintro e w4 ⟨rfl, hb4⟩; rw [← hn.out]; replace hb4 : Hid _ := hb4)
                | (go_at_call 23; go_must (refine (told_c _ _ _ xs _ (HS.out.below hb2.out) HX.out l10').mono ?_); rintro e w3 ⟨rfl, hb3⟩; rw [← hn.out]; replace hb3 : Hid _ := hb3)
                | (go_at_call 24; go_must (refine (holds_c _ 10 _ _ _ (by omega) HS10.out HX10.out (by omega) HT.out).mono ?_); rintro e w2 ⟨rfl, hb2⟩; rw [q2]; have c2 : w2.cell? ⟨b, off + 2, none⟩ = some (.int .u8 X2) := (hb2.cell (p := ⟨b, off + 2, none⟩) HC2.out.2).trans HC2.out.1; replace hb2 : Hid _ := hb2))
              go_ret
              rw [HF.out]; exact ⟨rfl, (hb2.out.trans (hb3.out.mono hb2.out.size)).trans (hb4.out.mono (Nat.le_trans hb2.out.size hb3.out.size))⟩
            · have HF : Hid (fbeg most xs = 0) := by show _ = _; unfold fbeg; rw [q1, QH.out, HLN.out, if_neg (by decide), if_neg l10, if_neg (by decide), if_neg q4, if_neg q5]
              obtain ⟨n, hn⟩ : ∃ n, n = flen xs := ⟨_, rfl⟩
              rw [← hn] at q4 hfl q5
              replace hn : Hid _ := hn
              go_enter Tryd.func22, Tryd.ntmps22
              go_wp2_with (first
                | (go_at_call 35; go_must (refine (magic_c _ _ _ _ _ HS.out).mono ?_); rintro e w1 ⟨rfl, rfl⟩; rw [q1])
                | (go_at_call 23; refine (told_c _ _ _ xs _ (HS.out.below (hb2.out.trans (hb3.out.mono hb2.out.size))) HX.out l10').mono ?_; rintro e w4 ⟨rfl, hb4⟩; rw [← hn.out]; replace hb4 : Hid _ := hb4)
                | (go_at_call 23; go_must (refine (told_c _ _ _ xs _ (HS.out.below hb2.out) HX.out l10').mono ?_); rintro e w3 ⟨rfl, hb3⟩; rw [← hn.out]; replace hb3 : Hid _ := hb3)
                | (go_at_call 24; go_must (refine (holds_c _ 10 _ _ _ (by omega) HS10.out HX10.out (by omega) HT.out).mono ?_); rintro e w2 ⟨rfl, hb2⟩; rw [q2]; have c2 : w2.cell? ⟨b, off + 2, none⟩ = some (.int .u8 X2) := (hb2.cell (p := ⟨b, off + 2, none⟩) HC2.out.2).trans HC2.out.1; replace hb2 : Hid _ := hb2))
              go_ret
              rw [HF.out]; exact ⟨rfl, (hb2.out.trans (hb3.out.mono hb2.out.size)).trans (hb4.out.mono (Nat.le_trans hb2.out.size hb3.out.size))⟩

end Go.Proofs.YtbfbehjldloeoaaDoor
