/-
  What the laws' put and the document's Copy answer; bytes that were copied, of which one is set. Condition: numbers of 64 bits; the bytes can be read.
-/
import Derived.Test.YtbfbehjldloeoaaDoorFRq
import Derived.Test.YtbfbehjldloeoaaDoorFa
import Derived.Test.YtbfbehjldloeoaaDoorFGr
import Derived.Laws.IdiomStrings
namespace Go.Proofs.YtbfbehjldloeoaaDoor
open Go.RowKit
set_option linter.unusedVariables false

theorem bytesRow_size (s : ByteArray) (cap : Nat) (h : s.size ≤ cap) : (bytesRow s cap).size = cap := by
  unfold bytesRow
  rw [Array.size_append, Array.size_map, Array.size_replicate]
  have e : s.data.size = s.size := rfl
  omega
theorem strOfNums_at (xs : List Int) (hx : Bytes xs) (cap i : Nat) (hi : i < xs.length) : (bytesRow (strOfNums xs) cap)[i]? = some (.int .u8 (xs[i]?.getD 0)) := by
  rw [bytesRow_at _ _ _ (by simpa [strOfNums] using hi)]
  have := hx i hi
  simp [hi] at this
  simp [strOfNums, hi, UInt8.toNat_ofNat']
  omega
theorem tmod_bd (k : Int) (n : Nat) (hn : 0 < n) : -(n : Int) < k.tmod n ∧ k.tmod n < n := by
  rcases Int.le_total 0 k with h | h
  · rw [Int.tmod_eq_emod_of_nonneg h]
    have := Int.emod_nonneg k (show (n : Int) ≠ 0 by omega)
    have := Int.emod_lt_of_pos k (show (0 : Int) < n by omega)
    omega
  · have e : k.tmod n = -((-k).tmod n) := by rw [Int.neg_tmod, Int.neg_neg]
    rw [e, Int.tmod_eq_emod_of_nonneg (by omega)]
    have := Int.emod_nonneg (-k) (show (n : Int) ≠ 0 by omega)
    have := Int.emod_lt_of_pos (-k) (show (0 : Int) < n by omega)
    omega
theorem put_c (k : Int) (n : Nat) (w : World) (hk : -9223372036854775808 ≤ k ∧ k ≤ 9223372036854775807) (hn : 0 < n) (hn2 : n ≤ 4611686018427387904) :
    Calls Tryd.prog 4 #[.int .i64 k, .int .i64 (n : Int)] w fun r w' => ∃ F : Nat, F < n ∧ r = .returned (.int .i64 (F : Int)) ∧ w' = w := by
  obtain ⟨h1, h2⟩ := tmod_bd k n hn
  obtain ⟨T, hT⟩ : ∃ T, k.tmod n = T := ⟨_, rfl⟩
  rw [hT] at h1 h2
  have hz : ((n : Int) == 0) = false := by simp; omega
  by_cases hlt : T < 0
  · obtain ⟨F, hF⟩ : ∃ F : Nat, T + n = F := ⟨(T + n).toNat, by omega⟩
    go_enter Tryd.func4, Tryd.ntmps4
    go_wp2
    go_ret
    exact ⟨F, by omega, by rw [← hF]; rfl, rfl⟩
  · obtain ⟨F, hF⟩ : ∃ F : Nat, T = F := ⟨T.toNat, by omega⟩
    go_enter Tryd.func4, Tryd.ntmps4
    go_wp2
    go_ret
    exact ⟨F, by omega, by rw [← hF]; rfl, rfl⟩
/-- Bytes that were copied: they may be written. -/
structure Tn (w : World) (B g L c : Nat) (ys : List Int) : Prop where
  len : ys.length = L
  le : L ≤ c
  lo : B ≤ g
  lt : g < w.heap.size
  cell : ∀ i, i < L → w.cell? ⟨g, i, none⟩ = some (.int .u8 (ys[i]?.getD 0))
  free : ∀ i, i < L → w.frozen? ⟨g, i, none⟩ = false
theorem Tn.seg {w : World} {B g L c : Nat} {ys : List Int} (h : Tn w B g L c ys) : Seg .u8 w (some ⟨g, 0, none⟩) L ys :=
  ⟨h.len, .inr ⟨g, 0, rfl, h.lt, fun i hi => by rw [Nat.zero_add]; exact h.cell i hi⟩⟩
theorem Tn.gb {w w' : World} {B g L c : Nat} {ys : List Int} (h : Tn w B g L c ys) (hg : w.grownBy w' none) : Tn w' B g L c ys :=
  ⟨h.len, h.le, h.lo, Nat.lt_of_lt_of_le h.lt hg.size, fun i hi => ((gb_below hg).cell (p := ⟨g, i, none⟩) h.lt).trans (h.cell i hi), fun i hi => ((gb_below hg).frozen (p := ⟨g, i, none⟩) h.lt).trans (h.free i hi)⟩
theorem Tn.set {w : World} {B g L c : Nat} {ys : List Int} (h : Tn w B g L c ys) (i : Nat) (hi : i < L) (y : Int) : Tn (w.setCell ⟨g, i, none⟩ (.int .u8 y)) B g L c (ys.set i y) := by
  have hc : ∀ j, j ≠ i → (w.setCell ⟨g, i, none⟩ (.int .u8 y)).cell? ⟨g, j, none⟩ = w.cell? ⟨g, j, none⟩ := fun j hj => World.cell?_setCell_other _ _ _ _ (fun e => hj (by injection e with _ e2 _; exact e2.symm))
  have hs : (w.setCell ⟨g, i, none⟩ (.int .u8 y)).cell? ⟨g, i, none⟩ = some (.int .u8 y) := World.cell?_setCell_same _ _ _ (h.cell i hi)
  refine ⟨by rw [List.length_set]; exact h.len, h.le, h.lo, Nat.lt_of_lt_of_le h.lt (grown_set w g i (.int .u8 y)).size, fun j hj => ?_, fun j hj => ?_⟩
  · by_cases e : j = i
    · subst e
      rw [hs, List.getElem?_set_self (by rw [h.len]; exact hi)]
      rfl
    · rw [hc j e, h.cell j hj, List.getElem?_set_ne (fun q => e q.symm)]
  · rw [World.frozen?_setCell]; exact h.free j hj
set_option maxHeartbeats 400000 in
theorem copyW_c (a : Option Addr) (len cap : Nat) (xs : List Int) (w : World) (h : Seg .u8 w a len xs) (hx : Bytes xs) (hl : len ≤ 140737488355328) :
    Calls Tryd.prog 13 #[.slice a len cap] w fun e w' => ∃ g cap', e = .returned (.slice (some ⟨g, 0, none⟩) len cap') ∧ Tn w' w.heap.size g len cap' xs ∧ Below w.heap.size w w' := by
  have r1 := seg_string (P := Tryd.prog) 22 9 5 cap h Tryd.underlying22 Tryd.underlying5 Tryd.underlying9
  have r2 := run_bytes_of_string (P := Tryd.prog) w 9 22 5 (strOfNums xs) Tryd.underlying9 Tryd.underlying22 Tryd.underlying5
  have hsz := strOfNums_size xs
  rw [h.1] at hsz
  obtain ⟨C, hC⟩ : ∃ C, C = grownCap w (strOfNums xs).size 0 5 := ⟨_, rfl⟩
  have hge : len ≤ C := by rw [hC, ← hsz]; exact grownCap_ge _ _ _ _
  rw [← hC, hsz, bytesRow_size _ _ (by rw [hsz]; exact hge)] at r2
  have HC : Hid (Tn (w.drew.alloc (.cells (bytesRow (strOfNums xs) C) 5 (C, C + 1))) w.heap.size w.heap.size len C xs) := by
    have hcl : ∀ i, (w.drew.alloc (.cells (bytesRow (strOfNums xs) C) 5 (C, C + 1))).cell? ⟨w.heap.size, i, none⟩ = (bytesRow (strOfNums xs) C)[i]? := fun i => World.cell?_alloc_mark w.drew _ _ _ i
    refine ⟨h.1, hge, Nat.le_refl _, by simp, fun i hi => ?_, fun i hi => ?_⟩
    · rw [hcl, strOfNums_at xs hx C i (by rw [h.1]; exact hi)]
    · have := World.frozen?_alloc_mark w.drew (bytesRow (strOfNums xs) C) 5 C (C + 1) i
      refine Eq.trans this ?_
      simp; omega
  clear hC hsz h hx
  go_enter Tryd.func13, Tryd.ntmps13
  go_wp2
  go_ret
  exact ⟨_, C, rfl, HC.out, (Below.refl _ _).drew.alloc (Nat.le_refl _) _⟩
/-- A byte turned, as the program reckons it. -/
theorem flip_val {ys : List Int} (F : Nat) (Y : Int) (hY : Y = ys[F / 8]?.getD 0) (hy : 0 ≤ Y ∧ Y < 256) : bits .xor .u8 Y ((2 : Int) ^ (F % 8) % 256) = bx (ys[F / 8]?.getD 0) ((2 ^ (F % 8) : Nat) : Int) := by
  have h2 := pow8 (F % 8) (by omega)
  have e3 : ((2 : Int) ^ (F % 8) % 256) = ((2 ^ (F % 8) : Nat) : Int) := by
    have h3 : ((2 ^ (F % 8) : Nat) : Int) < 256 := by omega
    rw [Int.natCast_pow] at h3 ⊢
    exact Int.emod_eq_of_lt (Int.le_of_lt (Int.pow_pos (by decide))) h3
  rw [e3, ← hY]
  exact u8_xor _ _ hy.1 hy.2 (Int.natCast_nonneg _) (by omega)
end Go.Proofs.YtbfbehjldloeoaaDoor
