/-
  What bytes.Equal and crc.Holds answer, called with whatever bytes. Condition: the table lies in memory as the program's text lays it; the bytes can be read, and are at most 2^47.
-/
import Derived.Test.YtegbgmihcokblaaDoorRows
import Derived.Test.YtegbgmihcokblaaDoorFa
import Derived.Deep.RegionHeld3
namespace Go.Proofs.YtegbgmihcokblaaDoor
set_option linter.unusedVariables false
open Go.RowKit

theorem beq_c (a b : Option Addr) (la ca lb cb : Nat) (xs ys : List Int) (w : World) (h1 : Seg .u8 w a la xs) (h2 : Seg .u8 w b lb ys) (hx : Bytes xs) (hy : Bytes ys) :
    Calls Tryd.prog 59 #[.slice a la ca, .slice b lb cb] w fun e w' => e = .returned (.bool (decide (xs = ys))) ∧ w' = w := by
  have r1 := seg_string (P := Tryd.prog) 28 9 5 ca h1 Tryd.underlying28 Tryd.underlying5 Tryd.underlying9
  have r2 := seg_string (P := Tryd.prog) 28 9 5 cb h2 Tryd.underlying28 Tryd.underlying5 Tryd.underlying9
  have HE : Hid (((strOfNums xs).toList == (strOfNums ys).toList) = decide (xs = ys)) := str_eq hx hy
  clear h1 h2 hx hy
  go_enter Tryd.func59, Tryd.ntmps59
  go_wp2
  go_ret
  exact ⟨by rw [← HE.out]; rfl, rfl⟩

/-- Do bytes end with the sum of those ahead? -/
def holds (xs : List Int) : Bool := decide (4 ≤ xs.length ∧ xs.drop (xs.length - 4) = by4 (sum (xs.take (xs.length - 4))))
theorem Seg.take {w : World} {a : Option Addr} {len : Nat} {xs : List Int} (h : Seg .u8 w a len xs) (n : Nat) (hn : n ≤ len) : Seg .u8 w a n (xs.take n) := by
  refine ⟨by have := h.1; simp; omega, ?_⟩
  rcases h.2 with h0 | ⟨b, off, ha, hw, hc⟩
  · left; omega
  · exact .inr ⟨b, off, ha, hw, fun i hi => by rw [hc i (by omega), List.getElem?_take_of_lt hi]⟩
theorem Seg.drop {w : World} {b off : Nat} {len : Nat} {xs : List Int} (h : Seg .u8 w (some ⟨b, off, none⟩) len xs) (n : Nat) (hn : n ≤ len) (h0 : 0 < len) : Seg .u8 w (some ⟨b, off + n, none⟩) (len - n) (xs.drop n) := by
  refine ⟨by have := h.1; simp; omega, ?_⟩
  rcases h.2 with h0 | ⟨b', off', ha, hw, hc⟩
  · omega
  · cases ha
    exact .inr ⟨b, off + n, rfl, hw, fun i hi => by rw [show off + n + i = off + (n + i) from by omega, hc (n + i) (by omega), List.getElem?_drop]⟩
theorem Bytes.take {xs : List Int} (h : Bytes xs) (n : Nat) : Bytes (xs.take n) := bytes_of_mem fun z hz => h.mem z (List.mem_of_mem_take hz)
theorem Bytes.drop {xs : List Int} (h : Bytes xs) (n : Nat) : Bytes (xs.drop n) := bytes_of_mem fun z hz => h.mem z (List.mem_of_mem_drop hz)

theorem Seg.held {w w3 wr : World} {a : Option Addr} {len : Nat} {xs : List Int} (h : Seg .u8 w a len xs) (hw : Below w.heap.size w w3) (hh : Hid (Below w3.heap.size w3 wr)) : Seg .u8 wr a len xs := h.below (hw.trans (hh.out.mono hw.size))

set_option maxHeartbeats 1000000 in
theorem holds_c (a : Option Addr) (len cap : Nat) (xs : List Int) (w : World) (hlc : len ≤ cap) (hs : Seg .u8 w a len xs) (hx : Bytes xs) (hl : len ≤ 140737488355328) (ht : Tab w) :
    Calls Tryd.prog 46 #[.slice a len cap] w fun e w' => e = .returned (.bool (holds xs)) ∧ Below w.heap.size w w' := by
  have HLN : Hid (xs.length = len) := hs.1
  by_cases h4 : len < 4
  · have HF : Hid (holds xs = false) := by
      show holds xs = false
      unfold holds
      rw [HLN.out]
      exact decide_eq_false (by omega)
    clear hs
    go_enter Tryd.func46, Tryd.ntmps46
    go_wp2
    go_ret
    rw [HF.out]
    exact ⟨rfl, Below.refl _ _⟩
  · obtain ⟨b, off, rfl, hseg2⟩ := hs.2.resolve_left (by omega)
    obtain ⟨n, hn⟩ : ∃ n, len = n + 4 := ⟨len - 4, by omega⟩
    have HF : Hid (holds xs = decide (xs.drop n = by4 (sum (xs.take n)))) := by
      show _ = _
      unfold holds
      rw [HLN.out, hn]
      simp
    have HS1 : Hid (Seg .u8 w (some ⟨b, off, none⟩) n (xs.take n)) := hs.take n (by omega)
    have HS2 : Hid (Seg .u8 w (some ⟨b, off + n, none⟩) 4 (xs.drop n)) := by
      have := hs.drop n (by omega) (by omega)
      rw [show len - n = 4 from by omega] at this; exact this
    have HX1 : Hid (Bytes (xs.take n)) := hx.take n
    have HX2 : Hid (Bytes (xs.drop n)) := hx.drop n
    have HT : Hid (Tab w) := ht
    obtain ⟨ys, hys⟩ : ∃ ys, ys = xs.take n := ⟨_, rfl⟩
    rw [← hys] at HF HS1 HX1
    obtain ⟨b0, b1, b2, b3, hA, hB⟩ := arr4_ex (sum ys)
    have HB4 : Hid (Bytes [b0, b1, b2, b3]) := by rw [← hB]; exact bytes_of_mem (by4_bytes _)
    rw [hB] at HF
    replace hA : Hid _ := hA
    subst hn
    clear hs hx hys hB h4 HLN ht hseg2
    go_enter Tryd.func46, Tryd.ntmps46
    go_wp2_with (first
      | (go_at_call 57; refine (sum_c _ 1 1 [ys] _ ?_ (HT.out.below ((Below.refl _ _).alloc (Nat.le_refl _) _)) (by omega)).mono ?_; exact segs_at _ _ rfl HS1.out HX1.out (by omega); rintro e w1 ⟨rfl, rfl⟩; rw [show [ys].flatten = ys from by simp])
      | (go_at_call 56; go_must (refine (laid_c _ _).mono ?_); rintro e w2 ⟨rfl, hb2⟩; rw [hA.out]; replace hb2 : Hid _ := hb2))
    have HW : Hid (Below w.heap.size w (w2.alloc (Obj.cells #[.int .u8 b0, .int .u8 b1, .int .u8 b2, .int .u8 b3] 94))) := by
      have h1 : Below w.heap.size w w2 := ((Below.refl _ _).alloc (Nat.le_refl _) _).trans (hb2.out.mono (by simp))
      exact h1.alloc h1.size _
    have HG : Hid (Seg .u8 (w2.alloc (Obj.cells #[.int .u8 b0, .int .u8 b1, .int .u8 b2, .int .u8 b3] 94)) (some ⟨w2.heap.size, 0, none⟩) 4 [b0, b1, b2, b3]) := seg_new w2 .u8 _ 94 4 [b0, b1, b2, b3] rfl rfl
    clear hb2
    generalize (w2.alloc (Obj.cells #[.int .u8 b0, .int .u8 b1, .int .u8 b2, .int .u8 b3] 94)) = w3 at HW HG ⊢
    generalize w2.heap.size = g at HG ⊢
    have hS : Hid (Below w3.heap.size w3 w3) := Below.refl _ _
    have hSd : Hid (Below w3.heap.size w3 w3.drew) := (Below.refl _ _).drew
    have i1 : (0 : Int) ≤ (n : Int) := by omega
    have i2 : (n : Int) ≤ ((n + 4 : Nat) : Int) := by omega
    have i3 : n + 4 - n = 4 := by omega
    have i4 : ¬ cap = n := by omega
    have i5 : (n : Int) ≤ (n : Int) + 4 := by omega
    have i6 : (n : Int) + 4 ≤ (cap : Int) := by omega
    go_region_held3 (fun wr => Hid (Below w3.heap.size w3 wr)) (assumption) (first
      | (go_at_call 59; refine (beq_c _ _ _ _ _ _ (xs.drop n) [b0, b1, b2, b3] _ (HS2.out.held HW.out (by assumption)) (HG.out.held (Below.refl _ _) (by assumption)) HX2.out HB4.out).mono ?_; rintro e w5 ⟨rfl, rfl⟩; rw [← HF.out]))
    go_wp2
    go_ret
    exact ⟨rfl, HW.out.drew⟩

end Go.Proofs.YtegbgmihcokblaaDoor
