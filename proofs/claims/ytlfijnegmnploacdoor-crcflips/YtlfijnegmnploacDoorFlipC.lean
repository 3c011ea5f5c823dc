/-
  What the laws' flipped answers: bytes of its own, with another register wherever it says that some bit was turned. Condition: the bytes can be read, and are at most 2^27; the bits' numbers can be read, and are at most three.
-/
import Derived.Test.YtlfijnegmnploacDoorRows
import Derived.Test.YtlfijnegmnploacDoorFlips
import Derived.BigQuiet
namespace Go.Proofs.YtlfijnegmnploacDoor
set_option linter.unusedVariables false
open Go.RowKit

/-- What flipped leaves. -/
def Flipped (w : World) (len : Nat) (xs : List Int) (e : Ending) (w' : World) : Prop :=
  ∃ u ys n, e = .returned (.tuple #[u, .int .i64 n]) ∧ Own w.heap.size w' u len ys ∧ Bytes ys ∧ (0 < n → ∀ r, reg r ys ≠ reg r xs) ∧ Below w.heap.size w w'
theorem u8_bit' (z : Int) (h0 : 0 ≤ z) (h1 : z < 256) (j : Nat) : bits .and .u8 (z / (2 : Int) ^ j) 1 = (if z.toNat.testBit j then 1 else 0) := by
  have h2 : 0 ≤ z / (2 : Int) ^ j := Int.ediv_nonneg h0 (Int.le_of_lt (Int.pow_pos (by decide)))
  have h3 : z / (2 : Int) ^ j < 256 := Int.lt_of_le_of_lt (Int.ediv_le_self _ h0) h1
  have h := u8_and (z / (2 : Int) ^ j) 1 h2 h3 (by decide) (by decide)
  rw [h, show (1 : Int).toNat = 1 from rfl, Nat.and_one_is_mod, ← bit_int z h0 j]; omega

theorem belowN {B : Nat} {a w : World} (h : Below B a w) (n : Nat) : Below B a (w.drewN n) :=
  ⟨h.os, h.tape, h.output, h.size, h.block⟩

set_option maxHeartbeats 1000000 in
theorem flipped_c (a : Option Addr) (len cap : Nat) (xs : List Int) (gb lb cb : Nat) (bs : List Int) (w : World) (hn : a = none → cap = 0) (hs : Seg .u8 w a len xs) (hx : Bytes xs) (hl : len ≤ 134217728)
    (hsb : Seg .u64 w (some ⟨gb, 0, none⟩) lb bs) (hbb : ∀ i, i < lb → 0 ≤ bs[i]?.getD 0 ∧ bs[i]?.getD 0 < 18446744073709551616) (hlb : lb ≤ 3) :
    Calls Tryd.prog 12 #[.slice a len cap, .slice (some ⟨gb, 0, none⟩) lb cb] w (Flipped w len xs) := by
  have HN : Hid (a = none → cap = 0) := hn
  have HS : Hid (Seg .u8 w a len xs) := hs
  have HX : Hid (Bytes xs) := hx
  have HLN : Hid (xs.length = len) := hs.1
  have HSB : Hid (Seg .u64 w (some ⟨gb, 0, none⟩) lb bs) := hsb
  have HBB : Hid (∀ i, i < lb → 0 ≤ bs[i]?.getD 0 ∧ bs[i]?.getD 0 < 18446744073709551616) := hbb
  clear hn hs hx hsb hbb
  by_cases h0 : len = 0
  · have hz : ¬ ((0 : Int) < (len : Int)) := by omega
    have H0 : Hid (len = 0) := h0
    clear h0
    go_enter Tryd.func12, Tryd.ntmps12
    go_wp2_with (at_builtin; go_must (refine wpList_append_grow _ rfl _ _ rfl w.heap.size 0 _ [] rfl (own_nil _ _) a len cap xs rfl HN.out HS.out (by omega) (Nat.le_refl _) ?_); intro v1 w1 hown hb1; rw [Nat.zero_add, List.nil_append] at hown; replace hown : Hid _ := hown; replace hb1 : Hid _ := hb1)
    refine wp_loop_rounds 1 ?_
    rw [rounds_succ]
    go_wp2
    all_goals go_ret2
    all_goals exact ⟨_, xs, 0, rfl, hown.out, HX.out, (fun h => by omega), hb1.out⟩
  · have hz : (0 : Int) < (len : Int) := by omega
    have H0 : Hid (len ≠ 0) := h0
    clear h0
    go_enter Tryd.func12, Tryd.ntmps12
    go_wp2_with (at_builtin; go_must (refine wpList_append_grow _ rfl _ _ rfl w.heap.size 0 _ [] rfl (own_nil _ _) a len cap xs rfl HN.out HS.out (by omega) (Nat.le_refl _) ?_); intro v1 w1 hown hb1; rw [Nat.zero_add, List.nil_append] at hown; obtain ⟨g, c1, rfl, hBg, hnc⟩ := hown.form (Nat.pos_of_ne_zero H0.out); replace hown : Hid _ := hown; replace hb1 : Hid _ := hb1)
    go_loopw [7, 8] (fun n i wr => ∃ (k : Nat) (ys : List Int) (T : List Nat), k ≤ lb ∧ i = .int .i64 k ∧ n = .int .i64 (T.length : Int) ∧ T.length ≤ k ∧ Hid (Own w.heap.size wr (.slice (some ⟨g, 0, none⟩) len c1) len ys) ∧ Hid (Turnt xs ys T) ∧ Hid (Below w.heap.size w wr)) (fun _ i _ => lb - (intOf i).toNat)
    case atStart => exact ⟨0, xs, [], Nat.zero_le _, rfl, rfl, Nat.le_refl _, hown.out, Turnt.start xs HX.out.mem, hb1.out⟩
    case round =>
      obtain ⟨k, ys, T, hk, rfl, rfl, hTk, ho, ht, hb⟩ := hrel
      by_cases hlt : k < lb
      · obtain ⟨gb', off', hgb, hgbw, hgc⟩ := HSB.out.2.resolve_left (by omega)
        cases hgb
        have hcb : wr.cell? ⟨gb, k, none⟩ = some (.int .u64 (bs[k]?.getD 0)) := by
          have := (hb.out.cell (p := ⟨gb, 0 + k, none⟩) hgbw).trans (hgc k hlt)
          rw [Nat.zero_add] at this; exact this
        have hbk := HBB.out k hlt
        obtain ⟨F, hF⟩ : ∃ F : Int, (bs[k]?.getD 0).tmod (8 * (len : Int)) = F := ⟨_, rfl⟩
        have hF2 : F = bs[k]?.getD 0 % (8 * (len : Int)) := by rw [← hF]; exact Int.tmod_eq_emod_of_nonneg hbk.1
        have hF0 : 0 ≤ F := by rw [hF2]; exact Int.emod_nonneg _ (by omega)
        have hF1 : F < 8 * (len : Int) := by rw [hF2]; exact Int.emod_lt_of_pos _ (by omega)
        obtain ⟨pb, poff, rfl, hpw, hpc⟩ := HS.out.2.resolve_left (by have := H0.out; omega)
        obtain ⟨D, hD⟩ : ∃ D : Int, F / (8 : Int) = D := ⟨_, rfl⟩
        obtain ⟨E, hE⟩ : ∃ E : Int, F % (8 : Int) = E := ⟨_, rfl⟩
        have hD' : F.tdiv (8 : Int) = D := by rw [← hD]; exact Int.tdiv_eq_ediv_of_nonneg hF0
        have hE' : F.tmod (8 : Int) = E := by rw [← hE]; exact Int.tmod_eq_emod_of_nonneg hF0
        have hD0 : (0 : Int) ≤ D := by omega
        have hD1 : D < (len : Int) := by omega
        have hE0 : (0 : Int) ≤ E := by omega
        have hE1 : E < 8 := by omega
        have e1 : D.toNat = F.toNat / 8 := by omega
        have e2 : E.toNat = F.toNat % 8 := by omega
        have hcp : wr.cell? ⟨pb, poff + D.toNat, none⟩ = some (.int .u8 (xs[D.toNat]?.getD 0)) := (hb.out.cell (p := ⟨pb, poff + D.toNat, none⟩) hpw).trans (hpc D.toNat (by omega))
        obtain ⟨hco, hfree⟩ := ho.out.cell D.toNat (by omega)
        have HYL : Hid (ys.length = len) := by have := ho.out.1; show _ = _; simpa using this
        have hxj := HX.out D.toNat (by rw [HLN.out]; omega)
        have hyj : 0 ≤ ys[D.toNat]?.getD 0 ∧ ys[D.toNat]?.getD 0 < 256 := (bytes_of_mem ht.out.bytes) D.toNat (by rw [HYL.out]; omega)
        have q1 := u8_bit' (ys[D.toNat]?.getD 0) hyj.1 hyj.2 E.toNat
        have q2 := u8_bit' (xs[D.toNat]?.getD 0) hxj.1 hxj.2 E.toNat
        have p1 : (ys[D.toNat]?.getD 0).toNat.testBit E.toNat = bt ys F.toNat := by rw [e1, e2]; rfl
        have p2 : (xs[D.toNat]?.getD 0).toNat.testBit E.toNat = bt xs F.toNat := by rw [e1, e2]; rfl
        rw [p1] at q1
        rw [p2] at q2
        replace e1 : Hid _ := e1
        replace e2 : Hid _ := e2
        clear p1 p2 hgc hpc hF2
        obtain ⟨Y, hY⟩ : ∃ Y, Y = ys[D.toNat]?.getD 0 := ⟨_, rfl⟩
        obtain ⟨X, hX⟩ : ∃ X, X = xs[D.toNat]?.getD 0 := ⟨_, rfl⟩
        rw [← hY] at hco q1 hyj
        rw [← hX] at hcp q2 hxj
        replace hY : Hid _ := hY
        clear hX
        by_cases heq : bt ys F.toNat = bt xs F.toNat
        · have hcond : (bits .and .u8 (Y / (2 : Int) ^ E.toNat) 1 == bits .and .u8 (X / (2 : Int) ^ E.toNat) 1) = true := by
            rw [q1, q2, heq]; simp
          have HT2 : Hid (Turnt xs (flip ys F.toNat) (F.toNat :: T)) := ht.out.step F.toNat (by rw [HLN.out]; omega) heq
          have HVV : Hid (bits .xor .u8 Y ((2 : Int) ^ E.toNat % 256) = bx (ys[F.toNat / 8]?.getD 0) ((2 ^ (F.toNat % 8) : Nat) : Int)) := by
            have e3 : ((2 : Int) ^ (F.toNat % 8) % 256) = ((2 ^ (F.toNat % 8) : Nat) : Int) := by
              have := pow8 (F.toNat % 8) (by omega)
              have h2 : ((2 ^ (F.toNat % 8) : Nat) : Int) < 256 := by omega
              rw [Int.natCast_pow] at h2 ⊢
              exact Int.emod_eq_of_lt (Int.le_of_lt (Int.pow_pos (by decide))) h2
            have h2 := pow8 (F.toNat % 8) (by omega)
            show _ = _
            rw [e2.out, e3, ← e1.out, ← hY.out]
            exact u8_xor _ _ hyj.1 hyj.2 (Int.natCast_nonneg _) (by omega)
          have HO2 : Hid (∀ n, Own w.heap.size ((wr.drewN n).setCell ⟨g, D.toNat, none⟩ (.int .u8 (bits .xor .u8 Y ((2 : Int) ^ E.toNat % 256)))) (.slice (some ⟨g, 0, none⟩) len c1) len (flip ys F.toNat)) := fun n => by
            rw [HVV.out]
            have := (ho.out.below (belowN (Below.refl _ _) n)).set D.toNat (by omega) (bx (ys[F.toNat / 8]?.getD 0) ((2 ^ (F.toNat % 8) : Nat) : Int))
            rw [e1.out] at this ⊢
            exact this
          have HB2 : Hid (∀ n, Below w.heap.size w ((wr.drewN n).setCell ⟨g, D.toNat, none⟩ (.int .u8 (bits .xor .u8 Y ((2 : Int) ^ E.toNat % 256))))) := fun n => (belowN hb.out n).setCell hBg _
          clear q1 q2 heq
          go_wp2
          go_quiet (fail)
          go_wp2
          go_roundw
          case rel => exact ⟨k + 1, flip ys F.toNat, F.toNat :: T, by omega, by go_num, congrArg (Value.int .i64) (by simp), by simp; omega, HO2.out _, HT2, HB2.out _⟩
          case measure => simp [intOf]; omega
        · have hcond : (bits .and .u8 (Y / (2 : Int) ^ E.toNat) 1 == bits .and .u8 (X / (2 : Int) ^ E.toNat) 1) = false := by
            rw [q1, q2]
            cases h1 : bt ys F.toNat <;> cases h2 : bt xs F.toNat <;> simp [h1, h2] at heq ⊢
          have HO2 : Hid (∀ n, Own w.heap.size (wr.drewN n) (.slice (some ⟨g, 0, none⟩) len c1) len ys) := fun n => ho.out.below (belowN (Below.refl _ _) n)
          have HB2 : Hid (∀ n, Below w.heap.size w (wr.drewN n)) := fun n => belowN hb.out n
          clear q1 q2 heq
          go_wp2
          go_quiet (fail)
          go_wp2
          go_roundw
          case rel => exact ⟨k + 1, ys, T, by omega, by go_num, rfl, by omega, HO2.out _, ht, HB2.out _⟩
          case measure => simp [intOf]; omega
      · have HE : Hid (0 < (T.length : Int) → ∀ r, reg r ys ≠ reg r xs) := fun h => ht.out.told (by omega) (by omega) (by rw [HLN.out]; exact hl)
        go_wp2
        go_ret2
        exact ⟨_, ys, _, rfl, ho.out, bytes_of_mem ht.out.bytes, HE.out, hb.out⟩

end Go.Proofs.YtlfijnegmnploacDoor
