/-
  What the document's taken answers of bytes. Condition: at most 2^47 bytes.
-/
import Derived.Test.YtmpedbddbknndaaDGr
namespace Go.Proofs.Ytmpedbddbknndaa.Dl
open Go.RowKit
set_option linter.unusedVariables false

theorem enc9 (n : Nat) (h : n < 9223372036854775808) : (enc n).length ≤ 9 := by
  rw [enc_length n (by omega)]
  unfold sz
  have h0 : st 9223372036854775808 (n : Int) = 0 := by unfold st; rw [if_neg (by omega)]
  have h1 := st_le 128 (n : Int)
  have h2 := st_le 16384 (n : Int)
  have h3 := st_le 2097152 (n : Int)
  have h4 := st_le 268435456 (n : Int)
  have h5 := st_le 34359738368 (n : Int)
  have h6 := st_le 4398046511104 (n : Int)
  have h7 := st_le 562949953421312 (n : Int)
  have h8 := st_le 72057594037927936 (n : Int)
  omega
theorem gtk_text (s : ByteArray) (hs : s.size ≤ 1099511627776) (rest : List Int) : gtk ((enc s.size ++ sb s) ++ rest) = (sb s, (enc s.size ++ sb s).length) := by
  have hl := enc_leN s.size (by omega)
  have hl9 : (enc s.size).length ≤ 9 := enc9 s.size (by omega)
  have h := grd_enc 9 s.size (sb s ++ rest) 0 0 hl9 (by omega) (by omega) (.inl rfl)
  unfold gtk
  rw [List.append_assoc, h]
  simp only [Nat.zero_add, Nat.pow_zero, Nat.mul_one]
  have hp := enc_pos s.size
  rw [if_neg]
  · rw [List.drop_left, List.take_append_of_le_length (by rw [sb_length]; exact Nat.le_refl _), List.take_of_length_le (by rw [sb_length]; exact Nat.le_refl _), List.length_append, sb_length]
  · rintro (z | z)
    · omega
    · rw [List.length_append, List.length_append, sb_length] at z
      omega
theorem gtk_bd (xs : List Int) : (gtk xs).2 ≤ xs.length ∧ ((gtk xs).2 = 0 → (gtk xs).1 = []) ∧ (gtk xs).1.length ≤ xs.length := by
  have h := grd_bd xs 0 0
  unfold gtk
  split
  · simp
  · rename_i z
    refine ⟨by simp only; omega, fun q => by simp only at q; omega, by simp; omega⟩
/-- Where a list that is cut begins. -/
def cutA (a : Option Addr) (cap p : Nat) : Option Addr := if cap = p then a else a.map (·.add p)
theorem slice_l (a : Option Addr) (len cap p : Nat) (hp : p ≤ len) (W : World) : (Instr.slice 27 (.slice a len cap) (some (.int .i64 (p : Int))) none none).run Try.prog W = .ok (.slice (cutA a cap p) (len - p) (cap - p)) W := by
  obtain ⟨i0, hi, hz0, hz1, hz2⟩ := info_parts Try.infoU8
  have hel : Try.prog.elem 27 = 5 := by simp [Program.elem]
  rw [run_slice_l W 27 a len cap (by rw [hel]; exact Try.underlying27) .i64 p (by omega) (by omega)]
  rw [hel]
  simp [sizeOf, typeInfo, hi, sliced, hz1, cutA]
theorem slice_lh (a : Option Addr) (len cap p n : Nat) (hp : p + n ≤ cap) (W : World) : (Instr.slice 27 (.slice a len cap) (some (.int .i64 (p : Int))) (some (.int .i64 ((p : Int) + (n : Int)))) none).run Try.prog W = .ok (.slice (cutA a cap p) n (cap - p)) W := by
  obtain ⟨i0, hi, hz0, hz1, hz2⟩ := info_parts Try.infoU8
  have hel : Try.prog.elem 27 = 5 := by simp [Program.elem]
  rw [run_slice_lh W 27 a len cap (by rw [hel]; exact Try.underlying27) .i64 .i64 p ((p : Int) + (n : Int)) (by omega) (by omega) (by omega)]
  rw [hel]
  have e : ((p : Int) + (n : Int)).toNat - p = n := by omega
  simp [sizeOf, typeInfo, hi, sliced, hz1, cutA, e]
theorem seg_cutA {w : World} {a : Option Addr} {len cap : Nat} {xs : List Int} (h : Seg .u8 w a len xs) (p : Nat) (hlc : len ≤ cap) : Seg .u8 w (cutA a cap p) (len - p) (xs.drop p) := by
  unfold cutA
  by_cases hc : cap = p
  · rw [if_pos hc]; exact ⟨by simp [h.1], .inl (by omega)⟩
  · rw [if_neg hc]; exact seg_from h p
theorem seg_takeA {w : World} {a : Option Addr} {len : Nat} {xs : List Int} (h : Seg .u8 w a len xs) (n : Nat) (hn : n ≤ len) : Seg .u8 w a n (xs.take n) := by
  refine ⟨by simp [h.1]; omega, ?_⟩
  rcases h.2 with h0 | ⟨b, off, ha, hw, hc⟩
  · exact .inl (by omega)
  · exact .inr ⟨b, off, ha, hw, fun i hi => by rw [hc i (by omega), List.getElem?_take_of_lt hi]⟩
set_option maxRecDepth 20000 in
theorem gtaken_c (a : Option Addr) (len cap : Nat) (xs : List Int) (w : World) (h : Seg .u8 w a len xs) (hx : Bytes xs) (hl : len ≤ 140737488355328) (hlc : len ≤ cap) :
    Calls Try.prog 37 #[.slice a len cap] w fun r w' => r = .returned (.tuple #[.string (strOfNums (gtk xs).1), .int .i64 ((gtk xs).2 : Int)]) ∧ w' = w := by
  obtain ⟨n, hn⟩ : ∃ R, R = (grd xs 0 0).1 := ⟨_, rfl⟩
  obtain ⟨k, hk⟩ : ∃ R, R = (grd xs 0 0).2 := ⟨_, rfl⟩
  have HR : Hid (Calls Try.prog 36 #[.slice a len cap] w fun r w' => r = .returned (.tuple #[.int .i64 (n : Int), .int .i64 (k : Int)]) ∧ w' = w) := by
    have := gread_c a len cap xs w h hx hl
    rw [← hn, ← hk] at this
    exact this
  have hb := grd_bd xs 0 0
  rw [← hn, ← hk, h.1] at hb
  have hg : gtk xs = if k = 0 ∨ len - k < n then ([], 0) else ((xs.drop k).take n, k + n) := by unfold gtk; rw [← hn, ← hk, h.1]
  have hlm : (len : Int) ≤ 140737488355328 := by omega
  have hkl : (k : Int) ≤ len := by omega
  have hnb : (n : Int) ≤ 4611686018427387904 := by omega
  rw [hg]
  by_cases h0 : k = 0
  · rw [if_pos (.inl h0)]
    have hk0 : ((k : Int) == 0) = true := by simp [h0]
    clear h0 hb hg hn hk
    go_enter Try.func37, Try.ntmps37
    go_wp2_with (go_at_call 36; go_must (refine (Calls.mono HR.out ?_)); rintro r wq ⟨rfl, hq⟩; obtain rfl := hq.symm)
    go_ret2
    exact ⟨rfl, rfl⟩
  · have hk0 : ((k : Int) == 0) = false := by simp; omega
    by_cases h1 : len - k < n
    · rw [if_pos (.inr h1)]
      have h2 : (len : Int) - (k : Int) < (n : Int) := by omega
      clear h0 hb hg hn hk h1
      go_enter Try.func37, Try.ntmps37
      go_wp2_with (go_at_call 36; go_must (refine (Calls.mono HR.out ?_)); rintro r wq ⟨rfl, hq⟩; obtain rfl := hq.symm)
      go_ret2
      exact ⟨rfl, rfl⟩
    · rw [if_neg (by omega)]
      have h2 : ¬ (len : Int) - (k : Int) < (n : Int) := by omega
      have hs1 := slice_lh a len cap k n (by omega)
      have hs2 := seg_string (P := Try.prog) 27 9 5 (cap - k) (seg_takeA (seg_cutA h k hlc) n (by omega)) Try.underlying27 Try.underlying5 Try.underlying9
      generalize strOfNums ((xs.drop k).take n) = S at *
      clear h0 hb hg hn hk h1
      go_enter Try.func37, Try.ntmps37
      go_wp2_with (go_at_call 36; go_must (refine (Calls.mono HR.out ?_)); rintro r wq ⟨rfl, hq⟩; obtain rfl := hq.symm)
      go_ret2
      exact ⟨by simp, rfl⟩
end Go.Proofs.Ytmpedbddbknndaa.Dl
