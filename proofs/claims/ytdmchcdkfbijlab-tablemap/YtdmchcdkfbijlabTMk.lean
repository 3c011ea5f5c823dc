/-
  What a law over one table keeps hold of: the table's rows, the row that is looked for, and memory. No condition.
-/
import Derived.Test.YtdmchcdkfbijlabTPb
import Derived.Test.YtdmchcdkfbijlabTCg
import Derived.Test.YtdmchcdkfbijlabTOp
namespace Go.Proofs.Ytdmchcdkfbijlab
open Go.RowKit
set_option linter.unusedVariables false

structure MK (w : World) (g V : Nat) (xs : List Rw) (G : Option Rw) (wr : World) : Prop where
  tbl : Tbl (fun b => b ≠ g ∧ b ≠ V) wr g xs
  want : Bk 28 wr V (rvR G)
  gb : w.grownBy wr none
  hg : w.heap.size ≤ g
  hV : g < V
theorem MK.lt {w g V xs G wr} (h : MK w g V xs G wr) : V < wr.heap.size := lt_of_block h.want
theorem MK.grow {w g V xs G wr w'} (h : MK w g V xs G wr) (hg : wr.grownBy w' none) : MK w g V xs G w' := ⟨h.tbl.gb0 hg, h.want.grew hg (by simp), gb_trans h.gb hg, h.hg, h.hV⟩
theorem MK.ob {w g V xs G wr} (h : MK w g V xs G wr) : ∀ b, wr.heap.size ≤ b → (b ≠ g ∧ b ≠ V) := fun b hb => ⟨by have := h.tbl.lt; omega, by have := h.lt; omega⟩
theorem MK.did {w g V xs xs' G wr w'} (h : MK w g V xs G wr) (ht : Tbl (fun b => b ≠ g ∧ b ≠ V) w' g xs') (hg : wr.grownBy w' (some g)) : MK w g V xs' G w' :=
  ⟨ht, h.want.grew hg (fun e => by have := Option.some.inj e; have := h.hV; omega), gb_newer h.gb hg h.hg, h.hg, h.hV⟩
theorem MK.put {w g V xs G wr w'} {G' : Option Rw} (h : MK w g V xs G wr) (hb : Bk 28 w' V (rvR G')) (hg : wr.grownBy w' (some V)) : MK w g V xs G' w' :=
  ⟨h.tbl.gb hg (fun e => by have := Option.some.inj e; have := h.hV; omega) (fun n e => by cases e; exact fun h => h.2 rfl), hb, gb_newer h.gb hg (by have := h.hg; have := h.hV; omega), h.hg, h.hV⟩
theorem rvR_size (G : Option Rw) : (rvR G).size = 3 := by cases G <;> rfl
theorem rvR_one (G : Option Rw) : (rvR G).all (·.oneCell') = true := by
  cases G with
  | none => exact zRow_one
  | some x => exact ivs_one x
def zOp : Array Value := #[.int .i64 0, .int .i64 0, .int .i64 0, .string .empty, .string .empty, .int .i64 0, .string .empty, .string .empty, .string .empty, .slice none 0 0, .int .i64 0]
theorem zO (w : World) : (zeroValue 34).run Try.prog w = .ok (.agg zOp) w := by
  have h : (Try.prog.info? 34).map (fun i => (i.zero, i.size)) = some (some (.agg zOp), 11) := by kernel_rfl
  exact (zero_of_info h).1 w
theorem infoOp : (Try.prog.info? 34).map (·.size) = some 11 := by kernel_rfl
theorem ops_one (q : OpT) : q.cells.toArray.all (·.oneCell') = true := by
  simp [OpT.cells, Value.oneCell']
theorem getR_putS {x : Rw} {k : ByteArray} {xs : List Rw} (h : Rises xs) : getR k (putS x xs) = if putE x xs = 0 ∧ x.1 = k then some x else getR k xs := by
  unfold putS
  by_cases h1 : putE x xs = 0
  · rw [if_pos h1, getR_put h]
    by_cases h2 : x.1 = k
    · rw [if_pos h2, if_pos ⟨h1, h2⟩]
    · rw [if_neg h2, if_neg (fun h => h2 h.2)]
  · rw [if_neg h1, if_neg (fun h => h1 h.1)]
theorem putE_full {x : Rw} {xs : List Rw} (h : putE x xs ≠ 0) (hx : rowE x = 0) : (putS x xs).length = 1048576 := by
  have h2 : putS x xs = xs := by unfold putS; rw [if_neg h]
  rw [h2]
  unfold putE at h
  rw [if_neg (by simp [hx])] at h
  by_cases h3 : xs.length = 1048576 ∧ getR x.1 xs = none
  · exact h3.1
  · rw [if_neg h3] at h; exact absurd rfl h
theorem MK.rises {w g V xs G wr} (h : MK w g V xs G wr) : Rises xs := by
  obtain ⟨p, hh, _, _, hR, _⟩ := h.tbl
  exact hR
theorem eq_row3 (k v : ByteArray) (n : Int) (w : World) : (Op.equalIn 10000 28 (.agg #[.string k, .string v, .int .i64 n]) (.agg #[.string k, .string v, .int .i64 n])).run Try.prog w = .ok true w := by
  go_simp
theorem eq_rows (G : Option Rw) (w : World) : (Op.equalIn 10000 28 (.agg (rvR G)) (.agg (rvR G))).run Try.prog w = .ok true w := by
  cases G with
  | none => exact eq_row3 _ _ _ w
  | some x => exact eq_row3 _ _ _ w
end Go.Proofs.Ytdmchcdkfbijlab
