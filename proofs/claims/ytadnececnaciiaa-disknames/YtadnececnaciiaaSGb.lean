/-
  What the document's turn, rounds, begin and block answer. Condition of block: 64 bytes that can be read.
-/
import Derived.Test.YtadnececnaciiaaSBe
namespace Go.Proofs.Ytadnececnaciiaa
set_option linter.unusedVariables false
open Go.RowKit

theorem gturn_w (x : Wd) (n : Nat) (h : n < 32) : bits .or .u32 (W x / (2 : Int) ^ n) (W x * (2 : Int) ^ (32 - n) % (4294967296 : Int)) = W (rot n x) := by
  rw [W_shl, W_shr, W_or, rot]
/-- The bytes of a block can be read. -/
def Rd64 (w : World) (b off : Nat) (bs : List Int) : Prop := b < w.heap.size ∧ ∀ i, i < 64 → w.cell? ⟨b, off + i, none⟩ = some (.int .u8 (bs.getD i 0))
theorem Rd64.gb {w w' b off bs} (h : Rd64 w b off bs) (hg : w.grownBy w' none) : Rd64 w' b off bs :=
  ⟨Nat.lt_of_lt_of_le h.1 hg.size, fun i hi => ((gb_below hg).cell (p := ⟨b, off + i, none⟩) h.1).trans (h.2 i hi)⟩
theorem word_add (z0 z1 z2 z3 : Int) (h0 : 0 ≤ z0 ∧ z0 < 256) (h1 : 0 ≤ z1 ∧ z1 < 256) (h2 : 0 ≤ z2 ∧ z2 < 256) (h3 : 0 ≤ z3 ∧ z3 < 256) :
    z0 * 16777216 + z1 * 65536 + z2 * 256 + z3 = W (BitVec.ofNat 32 (z0.toNat * 16777216 + z1.toNat * 65536 + z2.toNat * 256 + z3.toNat)) := by
  unfold W; rw [BitVec.toNat_ofNat]; omega
theorem rd_set {w : World} {b j c i : Nat} {u v : Value} (h : w.cell? ⟨b, j, none⟩ = some v) (hc : b ≠ c) : (w.setCell ⟨c, i, none⟩ u).cell? ⟨b, j, none⟩ = some v :=
  (World.cell?_setCell_other _ _ _ _ (fun e => hc (by injection e with e1; exact e1.symm))).trans h

/-- The cells that a round reads. -/
def GCs (wr : World) (N M P k : Nat) (a b c d e f g h K X : Wd) : Prop :=
  wr.cell? ⟨P, 0, none⟩ = some (.int .u32 (W a)) ∧ wr.cell? ⟨P, 1, none⟩ = some (.int .u32 (W b)) ∧ wr.cell? ⟨P, 2, none⟩ = some (.int .u32 (W c)) ∧ wr.cell? ⟨P, 3, none⟩ = some (.int .u32 (W d)) ∧ wr.cell? ⟨P, 4, none⟩ = some (.int .u32 (W e)) ∧ wr.cell? ⟨P, 5, none⟩ = some (.int .u32 (W f)) ∧ wr.cell? ⟨P, 6, none⟩ = some (.int .u32 (W g)) ∧ wr.cell? ⟨P, 7, none⟩ = some (.int .u32 (W h)) ∧ wr.cell? ⟨M, k, none⟩ = some (.int .u32 (W K)) ∧ wr.cell? ⟨N + 1 + 1, k, none⟩ = some (.int .u32 (W X))
/-- The words of the state and of the rounds' end, the first k of them added. -/
def adl (xs ys : List Wd) (k : Nat) : List Wd := (List.zipWith (fun x y => y + x) xs ys).take k ++ ys.drop k
theorem adl_zero (xs ys : List Wd) : adl xs ys 0 = ys := by simp [adl]
theorem adl_len (xs ys : List Wd) (hx : xs.length = 8) (hy : ys.length = 8) (k : Nat) (hk : k ≤ 8) : (adl xs ys k).length = 8 := by simp [adl, hx, hy]; omega
theorem adl_get (xs ys : List Wd) (hx : xs.length = 8) (hy : ys.length = 8) (k : Nat) (hk : k < 8) : (adl xs ys k).getD k 0 = ys.getD k 0 := by
  unfold adl
  simp only [List.getD_eq_getElem?_getD]
  rw [List.getElem?_append_right (by simp; omega)]
  simp [hx, hy, Nat.min_eq_left (Nat.le_of_lt hk)]
theorem adl_set (xs ys : List Wd) (hx : xs.length = 8) (hy : ys.length = 8) (k : Nat) (hk : k < 8) : (adl xs ys k).set k (ys.getD k 0 + xs.getD k 0) = adl xs ys (k + 1) := by
  unfold adl
  have hl : ((List.zipWith (fun x y => y + x) xs ys).take k).length = k := by simp [hx, hy]; omega
  rw [List.set_append_right _ _ (by rw [hl]; exact Nat.le_refl _), hl, Nat.sub_self, List.drop_eq_getElem_cons (by omega), List.set_cons_zero, List.take_succ_eq_append_getElem (by simp [hx, hy]; omega)]
  simp [hx, hy, hk]
theorem adl_end (s t : St) : adl s.words t.words 8 = (s.add t).words := by
  simp [adl, St.words, St.add, BitVec.add_comm]
end Go.Proofs.Ytadnececnaciiaa
