/-
  The table of package crc as memory holds it, and what crc.More answers, called with whatever word and bytes. Condition: the table lies in memory as the program's text lays it; the bytes can be read.
-/
import Derived.Test.YtegbgmihcokblaaDoorRows
import Derived.Test.YtegbgmihcokblaaDoorSeg
import Derived.Test.YtegbgmihcokblaaDoorReg
import Derived.Below
namespace Go.Proofs.YtegbgmihcokblaaDoor
set_option linter.unusedVariables false
open Go.RowKit

/-- The table's cells. -/
def Tab (w : World) : Prop := ∀ i, i < 16 → w.cell? ⟨0, i, none⟩ = some (.int .u32 (tabl.getD i 0))
theorem Tab.pos {w : World} (h : Tab w) : 0 < w.heap.size := by
  have := h 0 (by omega)
  rcases Nat.lt_or_ge 0 w.heap.size with h | h
  · exact h
  · simp [World.cell?, Nat.le_zero.1 h] at this
theorem Tab.below {w w' : World} (h : Tab w) (hb : Below w.heap.size w w') : Tab w' := fun i hi =>
  (hb.cell (p := ⟨0, i, none⟩) h.pos).trans (h i hi)
theorem tab_word : ∀ i, i < 16 → tabl.getD i 0 = W (tab4 i) := by decide +kernel
theorem Tab.cell {w : World} (h : Tab w) (r : Wd) : w.cell? ⟨0, (W r % (16 : Int)).toNat, none⟩ = some (.int .u32 (W (tab4 (r.toNat % 16)))) := by
  have e : (W r % (16 : Int)).toNat = r.toNat % 16 := by unfold W; omega
  rw [e, h _ (by omega), tab_word _ (by omega)]
theorem Tab.at {w : World} (h : Tab w) (r : Wd) : ∃ I : Int, (W r).tmod (16 : Int) = I ∧ 0 ≤ I ∧ I < 16 ∧ w.cell? ⟨0, I.toNat, none⟩ = some (.int .u32 (W (tab4 (r.toNat % 16)))) := by
  have e : (W r).tmod (16 : Int) = W r % 16 := Int.tmod_eq_emod_of_nonneg (W_nn r)
  exact ⟨W r % 16, e, by omega, by omega, h.cell r⟩
theorem W_sixteenth (a : Wd) : W a / (16 : Int) = W (a >>> 4) := by
  unfold W; rw [BitVec.toNat_ushiftRight, Nat.shiftRight_eq_div_pow]; omega
theorem W_byte (a : Wd) (z : Int) (h0 : 0 ≤ z) (h1 : z < 256) : bits .xor .u32 (W a) z = W (a ^^^ wb z) := by
  have e : z = W (wb z) := by
    obtain ⟨n, rfl⟩ := Int.eq_ofNat_of_zero_le h0
    unfold W
    rw [wb_nat, BitVec.toNat_ofNat]
    omega
  rw [e, W_xor, ← e]

theorem more_c (c : Wd) (a : Option Addr) (len cap : Nat) (xs : List Int) (w : World) (hseg : Seg .u8 w a len xs) (hx : Bytes xs) (ht : Tab w) (hl : len ≤ 1125899906842624) :
    Calls Tryd.prog 66 #[.int .u32 (W c), .slice a len cap] w fun e w' => e = .returned (.int .u32 (W (~~~ (reg (~~~ c) xs)))) ∧ w' = w := by
  obtain ⟨hlen, hseg⟩ := hseg
  have HL : Hid (xs.length = len) := hlen
  have hn := W_neg c
  go_enter Tryd.func66, Tryd.ntmps66
  go_wp2
  go_loop [5, 12] (fun r i => ∃ k : Nat, k ≤ len ∧ i = .int .i64 k ∧ r = .int .u32 (W (reg (~~~ c) (xs.take k)))) (fun _ i => len - (intOf i).toNat)
  case atStart => exact ⟨0, Nat.zero_le _, rfl, rfl⟩
  case round =>
    obtain ⟨k, hk, rfl, rfl⟩ := hrel
    by_cases hlt : k < len
    · obtain ⟨b, off, rfl, hbw, hc⟩ := hseg.resolve_left (by omega)
      have hcell := hc k hlt
      have hxk := hx k (by omega)
      have HS : Hid (reg (~~~ c) (xs.take (k + 1)) = stp (reg (~~~ c) (xs.take k)) (xs[k]?.getD 0)) := by
        rw [take_snoc xs k (by omega)]; exact reg_snoc _ _ _
      obtain ⟨R, hR⟩ : ∃ R, R = reg (~~~ c) (xs.take k) := ⟨_, rfl⟩
      rw [← hR] at HS ⊢
      obtain ⟨R1, hR1⟩ : ∃ R1, R1 = R ^^^ wb (xs[k]?.getD 0) := ⟨_, rfl⟩
      obtain ⟨R2, hR2⟩ : ∃ R2, R2 = txn 4 R1 := ⟨_, rfl⟩
      obtain ⟨R3, hR3⟩ : ∃ R3, R3 = txn 4 R2 := ⟨_, rfl⟩
      have hb1 := W_byte R (xs[k]?.getD 0) hxk.1 hxk.2
      rw [← hR1] at hb1
      obtain ⟨I1, hi1, hp1, hq1', hc1⟩ := ht.at R1
      obtain ⟨I2, hi2, hp2, hq2', hc2⟩ := ht.at R2
      have hx1 := W_xor (R1 >>> 4) (tab4 (R1.toNat % 16))
      have hx2 := W_xor (R2 >>> 4) (tab4 (R2.toNat % 16))
      rw [← txn4, ← hR2] at hx1
      rw [← txn4, ← hR3] at hx2
      have HE : Hid (stp R (xs[k]?.getD 0) = R3) := by
        show txn 8 (R ^^^ wb _) = R3
        rw [hR3, hR2, hR1, ← txn_add]
      have hq1 := W_sixteenth R1
      have hq2 := W_sixteenth R2
      obtain ⟨Q1, hQ1⟩ : ∃ Q, Q = R1 >>> 4 := ⟨_, rfl⟩
      obtain ⟨Q2, hQ2⟩ : ∃ Q, Q = R2 >>> 4 := ⟨_, rfl⟩
      obtain ⟨T1, hT1⟩ : ∃ Q, Q = tab4 (R1.toNat % 16) := ⟨_, rfl⟩
      obtain ⟨T2, hT2⟩ : ∃ Q, Q = tab4 (R2.toNat % 16) := ⟨_, rfl⟩
      rw [← hQ1] at hq1 hx1
      rw [← hQ2] at hq2 hx2
      rw [← hT1] at hx1 hc1
      rw [← hT2] at hx2 hc2
      clear hR hR1 hR2 hR3 hQ1 hQ2 hT1 hT2 hc hx hlen ht hseg hn
      go_wp2
      go_round
      case rel => exact ⟨k + 1, by omega, by go_num, congrArg (Value.int .u32) (by rw [HS.out, HE.out])⟩
      case measure => simp [intOf]; omega
    · have HK : Hid (xs.take k = xs) := by
        show xs.take k = xs
        exact List.take_of_length_le (by omega)
      have hm := W_neg (reg (~~~ c) xs)
      rw [HK.out]
      clear hseg hx hlen ht hn
      go_wp2
      go_ret
      exact ⟨rfl, rfl⟩

end Go.Proofs.YtegbgmihcokblaaDoor
