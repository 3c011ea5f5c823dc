/-
  What the laws' run answers: bytes of its own, with another register wherever it says that any bit was turned. Condition: the bytes can be read, and are at most 2^47 - 4096.
-/
import Derived.Test.YtlfijnegmnploacDoorRows
import Derived.Test.YtlfijnegmnploacDoorTold
namespace Go.Proofs.YtlfijnegmnploacDoor
set_option linter.unusedVariables false
open Go.RowKit

/-- What run leaves. -/
def Ran (w : World) (len : Nat) (xs : List Int) (e : Ending) (w' : World) : Prop :=
  ∃ u ys any, e = .returned (.tuple #[u, .bool any]) ∧ Own w.heap.size w' u len ys ∧ Bytes ys ∧ (any = true → ∀ r, reg r ys ≠ reg r xs) ∧ Below w.heap.size w w'

set_option maxHeartbeats 1000000 in
theorem run_c (a : Option Addr) (len cap : Nat) (xs : List Int) (f : Int) (v : Wd) (w : World) (hn : a = none → cap = 0) (hs : Seg .u8 w a len xs) (hx : Bytes xs) (hl : len ≤ 140737488351232 + 4) (f0 : 0 ≤ f) (f1 : f < 18446744073709551616) :
    Calls Tryd.prog 13 #[.slice a len cap, .int .u64 f, .int .u32 (W v)] w (Ran w len xs) := by
  have HN : Hid (a = none → cap = 0) := hn
  have HS : Hid (Seg .u8 w a len xs) := hs
  have HX : Hid (Bytes xs) := hx
  have HLN : Hid (xs.length = len) := hs.1
  clear hn hs hx
  by_cases h0 : len = 0
  · have hc : ((len : Int) == 0) = true := by rw [h0]; rfl
    have H0 : Hid (len = 0) := h0
    clear h0
    go_enter Tryd.func13, Tryd.ntmps13
    go_wp2_with (at_builtin; go_must (refine wpList_append_grow _ rfl _ _ rfl w.heap.size 0 _ [] rfl (own_nil _ _) a len cap xs rfl HN.out HS.out (by omega) (Nat.le_refl _) ?_); intro v1 w1 hown hb1; rw [Nat.zero_add, List.nil_append] at hown; replace hown : Hid _ := hown; replace hb1 : Hid _ := hb1)
    go_ret2
    exact ⟨_, xs, false, rfl, hown.out, HX.out, (fun h => by cases h), hb1.out⟩
  · have hc : ((len : Int) == 0) = false := by simpa using h0
    obtain ⟨F, hF⟩ : ∃ F : Int, f.tmod (8 * (len : Int)) = F := ⟨_, rfl⟩
    have hF2 : F = f % (8 * (len : Int)) := by rw [← hF]; exact Int.tmod_eq_emod_of_nonneg f0
    have hF0 : 0 ≤ F := by rw [hF2]; exact Int.emod_nonneg _ (by omega)
    have hF1 : F < 8 * (len : Int) := by rw [hF2]; exact Int.emod_lt_of_pos _ (by omega)
    have H0 : Hid (len ≠ 0) := h0
    clear h0 hF2
    go_enter Tryd.func13, Tryd.ntmps13
    go_wp2_with (at_builtin; go_must (refine wpList_append_grow _ rfl _ _ rfl w.heap.size 0 _ [] rfl (own_nil _ _) a len cap xs rfl HN.out HS.out (by omega) (Nat.le_refl _) ?_); intro v1 w1 hown hb1; rw [Nat.zero_add, List.nil_append] at hown; obtain ⟨g, c1, rfl, hBg, hnc⟩ := hown.form (Nat.pos_of_ne_zero H0.out); replace hown : Hid _ := hown; replace hb1 : Hid _ := hb1)
    go_loopw [9, 10] (fun any i wr => ∃ (k : Nat) (ys : List Int) (A : Bool), k ≤ 32 ∧ F + (k : Int) ≤ 8 * (len : Int) ∧ i = .int .u64 k ∧ any = .bool A ∧ Hid (A = true → low v k ≠ 0) ∧ Hid (Own w.heap.size wr (.slice (some ⟨g, 0, none⟩) len c1) len ys) ∧ Hid (Bytes ys) ∧ Hid (∀ r, reg r ys = reg r xs ^^^ txn (8 * len - F.toNat) (low v k)) ∧ Hid (Below w.heap.size w wr)) (fun _ i _ => 32 - (intOf i).toNat)
    case atStart => exact ⟨0, xs, false, Nat.zero_le _, by omega, rfl, rfl, (fun h => by cases h), hown.out, HX.out, fun r => by rw [show low v 0 = 0 from rfl, txn_zero]; exact BitVec.xor_zero.symm, hb1.out⟩
    case round =>
      obtain ⟨k, ys, A, hk, hFk, rfl, rfl, hA, ho, hy, hr, hb⟩ := hrel
      by_cases hlt : k < 32 ∧ F + (k : Int) < 8 * (len : Int)
      · obtain ⟨hk1, hk2⟩ := hlt
        have hbit := W_bit v k hk1
        cases hv : v.getLsbD k with
        | false =>
          have hc2 : (bits .and .u32 (W v / (2 : Int) ^ k) 1 == 1) = false := by rw [hbit, hv]; rfl
          have HL : Hid (low v (k + 1) = low v k) := by
            show _ = _
            show low v k ^^^ _ = _
            rw [hv]; exact BitVec.xor_zero
          clear hbit hv
          go_wp2
          go_roundw
          case rel => exact ⟨k + 1, ys, A, by omega, by omega, by go_num, rfl, by rw [HL.out]; exact hA, ho, hy, by rw [HL.out]; exact hr, hb⟩
          case measure => simp [intOf]; omega
        | true =>
          have hc2 : (bits .and .u32 (W v / (2 : Int) ^ k) 1 == 1) = true := by rw [hbit, hv]; rfl
          have HL : Hid (low v (k + 1) = low v k ^^^ 1#32 <<< k) := by
            show _ = _
            show low v k ^^^ _ = _
            rw [hv]; rfl
          have HNZ : Hid (low v (k + 1) ≠ 0) := by
            exact (low_ne v (k + 1) (by omega)).2 ⟨k, by omega, hv⟩
          obtain ⟨J, hJ⟩ : ∃ J : Int, F + (k : Int) = J := ⟨_, rfl⟩
          have hJ0 : 0 ≤ J := by omega
          have hJ1 : J < 8 * (len : Int) := by omega
          obtain ⟨hcell, hfree⟩ := ho.out.cell (J / 8).toNat (by omega)
          have HJ : Hid (F.toNat + k = J.toNat) := by show _ = _; omega
          have HJL : Hid (J.toNat < 8 * len) := by show _ < _; omega
          have HYL : Hid (ys.length = len) := by have := ho.out.1; show _ = _; simpa using this
          have hyj := hy.out (J / 8).toNat (by rw [HYL.out]; omega)
          have HVV : Hid (bits .xor .u8 (ys[(J / 8).toNat]?.getD 0) ((2 : Int) ^ (J % 8).toNat % 256) = bx (ys[J.toNat / 8]?.getD 0) ((2 ^ (J.toNat % 8) : Nat) : Int)) := by
            have e1 : (J / 8).toNat = J.toNat / 8 := by omega
            have e2 : (J % 8).toNat = J.toNat % 8 := by omega
            have e3 : ((2 : Int) ^ (J.toNat % 8) % 256) = ((2 ^ (J.toNat % 8) : Nat) : Int) := by
              have := pow8 (J.toNat % 8) (by omega)
              rw [Int.natCast_pow]; exact Int.emod_eq_of_lt (Int.le_of_lt (Int.pow_pos (by decide))) (by have h2 : ((2 ^ (J.toNat % 8) : Nat) : Int) < 256 := by omega
                                                                                                         rw [Int.natCast_pow] at h2; exact h2)
            have h2 := pow8 (J.toNat % 8) (by omega)
            show _ = _
            rw [e1, e2, e3]
            rw [e1] at hyj
            exact u8_xor _ _ hyj.1 hyj.2 (Int.natCast_nonneg _) (by omega)
          have HO2 : Hid (Own w.heap.size (wr.setCell ⟨g, (J / 8).toNat, none⟩ (.int .u8 (bits .xor .u8 (ys[(J / 8).toNat]?.getD 0) ((2 : Int) ^ (J % 8).toNat % 256)))) (.slice (some ⟨g, 0, none⟩) len c1) len (flip ys J.toNat)) := by
            show Own _ _ _ _ _
            rw [HVV.out]
            have := ho.out.set (J / 8).toNat (by omega) (bx (ys[J.toNat / 8]?.getD 0) ((2 ^ (J.toNat % 8) : Nat) : Int))
            rw [show (J / 8).toNat = J.toNat / 8 from by omega] at this ⊢
            exact this
          have HB2 : Hid (Below w.heap.size w (wr.setCell ⟨g, (J / 8).toNat, none⟩ (.int .u8 (bits .xor .u8 (ys[(J / 8).toNat]?.getD 0) ((2 : Int) ^ (J % 8).toNat % 256))))) := hb.out.setCell hBg _
          have HY2 : Hid (Bytes (flip ys J.toNat)) := bytes_of_mem (flip_bytes ys _ hy.out.mem)
          have HR2 : Hid (∀ r, reg r (flip ys J.toNat) = reg r xs ^^^ txn (8 * len - F.toNat) (low v (k + 1))) := fun r => by
            rw [reg_flip ys r J.toNat (by rw [HYL.out]; exact HJL.out) hy.out.mem, hr.out, HL.out, txn_lin, BitVec.xor_assoc]
            congr 2
            rw [bit_pw k hk1, ← txn_add, HYL.out]
            unfold pw
            congr 1
            have := HJ.out
            have := HJL.out
            omega
          clear hbit hv hyj
          go_wp2
          go_roundw
          case rel => exact ⟨k + 1, flip ys J.toNat, true, by omega, by omega, by go_num, rfl, fun _ => HNZ.out, HO2, HY2, HR2, HB2⟩
          case measure => simp [intOf]; omega
      · have HE : Hid (low v k ≠ 0 → ∀ r, reg r ys ≠ reg r xs) := fun hne r h => by
          have h1 := hr.out r
          rw [h] at h1
          have h2 := congrArg (fun t => reg r xs ^^^ t) h1
          simp only [← BitVec.xor_assoc, BitVec.xor_self] at h2
          rw [show ∀ t : Wd, (0#32 : Wd) ^^^ t = t from fun t => BitVec.zero_xor] at h2
          exact hne (txn_inj0 _ _ h2.symm)
        by_cases hk3 : k < 32
        · have hge : 8 * (len : Int) ≤ F + (k : Int) := by omega
          clear hlt
          go_wp2
          go_ret2
          exact ⟨_, ys, A, rfl, ho.out, hy.out, fun h => HE.out (hA.out h), hb.out⟩
        · have hge : 32 ≤ k := by omega
          clear hlt hk3
          go_wp2
          go_ret2
          exact ⟨_, ys, A, rfl, ho.out, hy.out, fun h => HE.out (hA.out h), hb.out⟩

end Go.Proofs.YtlfijnegmnploacDoor
