/-
  What the laws' place answers; bytes of one's own of which one is set. Condition: numbers of 64 bits.
-/
import Derived.Test.YtcdgfghcmeadgaaDoorIFp
import Derived.Test.YtcdgfghcmeadgaaDoorCopyC
namespace Go.Proofs.YtcdgfghcmeadgaaDoor
open Go.RowKit
set_option linter.unusedVariables false

theorem tmod_bd (k : Int) (n : Nat) (hn : 0 < n) : -(n : Int) < k.tmod n ∧ k.tmod n < n := by
  rcases Int.le_total 0 k with h | h
  · rw [Int.tmod_eq_emod_of_nonneg h]
    have := Int.emod_nonneg k (show (n : Int) ≠ 0 by omega)
    have := Int.emod_lt_of_pos k (show (0 : Int) < n by omega)
    omega
  · have e : k.tmod n = -((-k).tmod n) := by rw [Int.neg_tmod, Int.neg_neg]
    rw [e, Int.tmod_eq_emod_of_nonneg (by omega)]
    have := Int.emod_nonneg (-k) (show (n : Int) ≠ 0 by omega)
    have := Int.emod_lt_of_pos (-k) (show (0 : Int) < n by omega)
    omega
theorem place_c (k : Int) (n : Nat) (w : World) (hk : -9223372036854775808 ≤ k ∧ k ≤ 9223372036854775807) (hn : 0 < n) (hn2 : n ≤ 4611686018427387904) :
    Calls Tryd.prog 33 #[.int .i64 k, .int .i64 (n : Int)] w fun r w' => ∃ F : Nat, F < n ∧ r = .returned (.int .i64 (F : Int)) ∧ w' = w := by
  obtain ⟨h1, h2⟩ := tmod_bd k n hn
  obtain ⟨T, hT⟩ : ∃ T, k.tmod n = T := ⟨_, rfl⟩
  rw [hT] at h1 h2
  have hz : ((n : Int) == 0) = false := by simp; omega
  by_cases hlt : T < 0
  · obtain ⟨F, hF⟩ : ∃ F : Nat, T + n = F := ⟨(T + n).toNat, by omega⟩
    go_enter Tryd.func33, Tryd.ntmps33
    go_wp2
    go_ret
    exact ⟨F, by omega, by rw [← hF]; rfl, rfl⟩
  · obtain ⟨F, hF⟩ : ∃ F : Nat, T = F := ⟨T.toNat, by omega⟩
    go_enter Tryd.func33, Tryd.ntmps33
    go_wp2
    go_ret
    exact ⟨F, by omega, by rw [← hF]; rfl, rfl⟩
theorem Mine.set {w : World} {B b n cap : Nat} {xs : List Int} (h : Mine w B b n cap xs) (i : Nat) (hi : i < n) (y : Int) : Mine (w.setCell ⟨b, i, none⟩ (.int .u8 y)) B b n cap (xs.set i y) := by
  have hc : ∀ j, j ≠ i → (w.setCell ⟨b, i, none⟩ (.int .u8 y)).cell? ⟨b, j, none⟩ = w.cell? ⟨b, j, none⟩ := fun j hj => World.cell?_setCell_other _ _ _ _ (fun e => hj (by injection e with _ e2 _; exact e2.symm))
  have hs : (w.setCell ⟨b, i, none⟩ (.int .u8 y)).cell? ⟨b, i, none⟩ = some (.int .u8 y) := World.cell?_setCell_same _ _ _ (h.cell i hi)
  refine ⟨by rw [List.length_set]; exact h.len, h.le, h.max, h.lo, Nat.lt_of_lt_of_le h.lt (grownBy_cell w b i (.int .u8 y)).size, fun j hj => ?_, fun j hj => ?_, fun j hj => ?_⟩
  · by_cases e : j = i
    · subst e
      rw [hs, List.getElem?_set_self (by rw [h.len]; exact hi)]
      rfl
    · rw [hc j e, h.cell j hj, List.getElem?_set_ne (fun q => e q.symm)]
  · by_cases e : j = i
    · subst e; rw [hs]; rfl
    · rw [hc j e]; exact h.there j hj
  · rw [World.frozen?_setCell]; exact h.free j hj
theorem Mine.drew {w : World} {B b n cap : Nat} {xs : List Int} (h : Mine w B b n cap xs) : Mine w.drew B b n cap xs := h.keep (k := w.heap.size) ⟨rfl, rfl, rfl, Nat.le_refl _, fun _ _ => rfl⟩ h.lt
/-- A byte turned, as the program reckons it. -/
theorem flip_val {ys : List Int} (F : Nat) (Y : Int) (hY : Y = ys[F / 8]?.getD 0) (hy : 0 ≤ Y ∧ Y < 256) : bits .xor .u8 Y ((2 : Int) ^ (F % 8) % 256) = Cr.bx (ys[F / 8]?.getD 0) ((2 ^ (F % 8) : Nat) : Int) := by
  have h2 := Cr.pow8 (F % 8) (by omega)
  have e3 : ((2 : Int) ^ (F % 8) % 256) = ((2 ^ (F % 8) : Nat) : Int) := by
    have h3 : ((2 ^ (F % 8) : Nat) : Int) < 256 := by omega
    rw [Int.natCast_pow] at h3 ⊢
    exact Int.emod_eq_of_lt (Int.le_of_lt (Int.pow_pos (by decide))) h3
  rw [e3, ← hY]
  exact u8_xor _ _ hy.1 hy.2 (Int.natCast_nonneg _) (by omega)
end Go.Proofs.YtcdgfghcmeadgaaDoor
