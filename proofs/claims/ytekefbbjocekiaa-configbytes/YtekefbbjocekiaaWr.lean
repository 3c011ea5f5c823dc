/-
  The Writer's block in memory, as plain data, and a law for copy into its part. Condition: the part has room.
-/
import Derived.Test.YtekefbbjocekiaaCatC
import Derived.Test.YtekefbbjocekiaaBk
import Derived.Laws.CopyOwn
namespace Go.Proofs.Ytekefbbjocekiaa
open Go.RowKit
set_option linter.unusedVariables false

/-- The Writer's block: the first error, the blocks laid aside, the bytes of its part, how many of them are used, how many were laid down. -/
def wcells (e : Int) (d : Value) (ps : List Int) (u n : Int) : List Value := .int .i64 e :: d :: (ps.map (Value.int .u8) ++ [.int .i64 u, .int .i64 n])
def Wr (w : World) (g : Nat) (e : Int) (d : Value) (ps : List Int) (u n : Int) : Prop := w.heap[g]? = some (.cells (wcells e d ps u n).toArray 70 (0, 0)) ∧ ps.length = 256
theorem wcells_at {e d ps u n} (hl : ps.length = 256) : (wcells e d ps u n)[258]? = some (.int .i64 u) ∧ (wcells e d ps u n)[259]? = some (.int .i64 n) := by
  unfold wcells
  constructor
  · rw [List.getElem?_cons_succ, List.getElem?_cons_succ, List.getElem?_append_right (by simp [hl])]; simp [hl]
  · rw [List.getElem?_cons_succ, List.getElem?_cons_succ, List.getElem?_append_right (by simp [hl])]; simp [hl]
theorem wcells_part {e d ps u n} (i : Nat) (hi : i < ps.length) : (wcells e d ps u n)[2 + i]? = some (.int .u8 (ps[i]?.getD 0)) := by
  unfold wcells
  rw [show 2 + i = i + 1 + 1 from by omega, List.getElem?_cons_succ, List.getElem?_cons_succ, List.getElem?_append_left (by simpa using hi)]
  simp [hi]
theorem wcells_set {e d ps u n} (hl : ps.length = 256) (x : Int) : (wcells e d ps u n).set 258 (.int .i64 x) = wcells e d ps x n ∧ (wcells e d ps u n).set 259 (.int .i64 x) = wcells e d ps u x := by
  unfold wcells
  constructor
  · rw [List.set_cons_succ, List.set_cons_succ, List.set_append_right _ _ (by simp [hl])]; simp [hl]
  · rw [List.set_cons_succ, List.set_cons_succ, List.set_append_right _ _ (by simp [hl])]; simp [hl]
theorem wcells_len {e d ps u n} : (wcells e d ps u n).length = ps.length + 4 := by simp [wcells]
theorem wcells_splice {e d ps u n} (k : Nat) (xs : List Int) (h : k + xs.length ≤ ps.length) : splice (wcells e d ps u n) (2 + k) (xs.map (Value.int .u8)) = wcells e d (splice ps k xs) u n := by
  unfold splice wcells
  rw [show 2 + k = k + 1 + 1 from by omega, show k + 1 + 1 + (xs.map (Value.int .u8)).length = k + xs.length + 1 + 1 from by simp; omega]
  simp only [List.take_succ_cons, List.drop_succ_cons, List.cons_append, List.map_append, List.map_take, List.map_drop]
  rw [List.take_append_of_le_length (by simp; omega), List.drop_append_of_le_length (by simpa using h)]
  simp
theorem Wr.c0 {w g e d ps u n} (h : Wr w g e d ps u n) : w.cell? ⟨g, 0, none⟩ = some (.int .i64 e) := by rw [cell_of_row w g 0 _ _ _ h.1]; rfl
theorem Wr.c1 {w g e d ps u n} (h : Wr w g e d ps u n) : w.cell? ⟨g, 1, none⟩ = some d := by rw [cell_of_row w g 1 _ _ _ h.1]; rfl
theorem Wr.cU {w g e d ps u n} (h : Wr w g e d ps u n) : w.cell? ⟨g, 258, none⟩ = some (.int .i64 u) := by rw [cell_of_row w g 258 _ _ _ h.1, List.getElem?_toArray]; exact (wcells_at h.2).1
theorem Wr.cN {w g e d ps u n} (h : Wr w g e d ps u n) : w.cell? ⟨g, 259, none⟩ = some (.int .i64 n) := by rw [cell_of_row w g 259 _ _ _ h.1, List.getElem?_toArray]; exact (wcells_at h.2).2
theorem Wr.cP {w g e d ps u n} (h : Wr w g e d ps u n) (i : Nat) (hi : i < 256) : w.cell? ⟨g, 2 + i, none⟩ = some (.int .u8 (ps[i]?.getD 0)) := by rw [cell_of_row w g _ _ _ _ h.1, List.getElem?_toArray]; exact wcells_part i (by have := h.2; omega)
theorem Wr.free {w g e d ps u n} (h : Wr w g e d ps u n) (i : Nat) : w.frozen? ⟨g, i, none⟩ = false := frozen_of_row w g i _ _ h.1
theorem Wr.lt {w g e d ps u n} (h : Wr w g e d ps u n) : g < w.heap.size := lt_of_block h.1
theorem Wr.setE {w g e d ps u n} (h : Wr w g e d ps u n) (x : Int) : Wr (w.setCell ⟨g, 0, none⟩ (.int .i64 x)) g x d ps u n := by
  refine ⟨?_, h.2⟩; rw [heap_setCell_same w g 0 _ _ _ h.1]; rfl
theorem Wr.setD {w g e d ps u n} (h : Wr w g e d ps u n) (x : Value) : Wr (w.setCell ⟨g, 1, none⟩ x) g e x ps u n := by
  refine ⟨?_, h.2⟩; rw [heap_setCell_same w g 1 _ _ _ h.1]; rfl
theorem Wr.setU {w g e d ps u n} (h : Wr w g e d ps u n) (x : Int) : Wr (w.setCell ⟨g, 258, none⟩ (.int .i64 x)) g e d ps x n := by
  refine ⟨?_, h.2⟩; rw [heap_setCell_same w g 258 _ _ _ h.1, List.setIfInBounds_toArray, (wcells_set h.2 x).1]
theorem Wr.setN {w g e d ps u n} (h : Wr w g e d ps u n) (x : Int) : Wr (w.setCell ⟨g, 259, none⟩ (.int .i64 x)) g e d ps u x := by
  refine ⟨?_, h.2⟩; rw [heap_setCell_same w g 259 _ _ _ h.1, List.setIfInBounds_toArray, (wcells_set h.2 x).2]
theorem Wr.gr {G : Nat → Prop} {w w' g e d ps u n} (h : Wr w g e d ps u n) (hg : Gr G w w') (hn : ¬ G g) : Wr w' g e d ps u n := ⟨(hg.block g h.lt hn).trans h.1, h.2⟩
theorem Wr.part {w g e d ps u n} (h : Wr w g e d ps u n) (k : Nat) (hk : k ≤ 256) : Seg .u8 w (some ⟨g, 2, none⟩) k (ps.take k) := by
  refine ⟨by simp [h.2]; omega, .inr ⟨g, 2, rfl, h.lt, fun i hi => ?_⟩⟩
  rw [h.cP i (by omega), List.getElem?_take_of_lt hi]

/-- copy into the part, as one step of a region that draws. -/
theorem step_lay {ops : Array Oper} {o : Oper} {a : Act} {w : World} {K : Act → World → Prop} {Q : Exit → Act → World → Prop} {E : Prop} (hgd : o.guard = none) (dO sO : Operand)
    (ho : o.op = .call { callee := .builtin .copy, args := #[dO, sO], argTypes := #[49, 49] }) (dp sp : Option Addr) (dLen dCap sLen sCap : Nat) (hd : a.eval dO = .slice dp dLen dCap) (hs : a.eval sO = .slice sp sLen sCap)
    (g k : Nat) (e : Int) (d : Value) (ps xs : List Int) (u n : Int) (hw : Wr w g e d ps u n) (hx : Seg .u8 w sp sLen xs) (hle : k + sLen ≤ 256) (hdl : dLen = 256 - k) (hdp : 0 < sLen → dp = some ⟨g, 2 + k, none⟩)
    (h : ∀ w', Wr w' g e d (splice ps k xs) u n → w.grownBy w' (some g) → K (a.put o.dst (.int .i64 (sLen : Int))) w') :
    if Region.wanted o (yielded ops a.tmps) = true then Oper.wp Try.prog o a w K Q else E := by
  have hwt : Region.wanted o (yielded ops a.tmps) = true := by simp [Region.wanted, hgd]
  rw [if_pos hwt]
  obtain ⟨i0, hi, hz0, hz1, hz2⟩ := info_parts Try.infoU8
  have hsz : (Try.prog.info? 5).map (·.size) = some 1 := by rw [hi]; simp [hz1]
  have hlx := hx.1
  by_cases h0 : sLen = 0
  · subst h0
    obtain rfl : xs = [] := List.eq_nil_of_length_eq_zero hlx
    have hrun := run_copy_none (P := Try.prog) w 49 49 o.type 5 dp sp dLen dCap 0 sCap Try.underlying49 hsz (by simp)
    unfold Oper.wp
    simp [execOp, ho, resolve, invoke, builtin, hd, hs, hrun, Result.andThen]
    exact h w (by simpa [splice] using hw) (World.grownBy.refl _ _)
  · obtain rfl := hdp (by omega)
    rcases hx.2 with h' | ⟨b, off, rfl, hb, hc⟩
    · omega
    · have hmin : Nat.min sLen dLen = sLen := by rw [hdl]; exact Nat.min_eq_left (by omega)
      have hrun := run_copy_row (P := Try.prog) w 49 49 o.type 5 g (2 + k) dLen dCap ⟨b, off, none⟩ sLen sCap (wcells e d ps u n).toArray 70 (xs.map (Value.int .u8)) Try.underlying49 hsz hw.1 (by rw [hmin]; simpa using hlx) (seg_news' hx _ rfl) (by have := hw.2; simp [wcells_len]; omega) (by intro v hv; obtain ⟨z, _, rfl⟩ := List.mem_map.1 hv; rfl)
      unfold Oper.wp
      simp only [execOp, ho, resolve, invoke, builtin, hd, hs, hrun, Result.andThen, Sem.run_bind, Sem.run_pure, List.map_toArray, List.map_cons, List.map_nil]
      have hln : goInt ((xs.map (Value.int .u8)).length : Int) = .int .i64 (sLen : Int) := by simp [goInt, hlx]
      rw [hln]
      refine h _ ⟨?_, ?_⟩ ?_
      · have e1 := setRow_heap w g _ ((wcells e d ps u n).toArray.toList.take (2 + k) ++ xs.map (Value.int .u8) ++ (wcells e d ps u n).toArray.toList.drop (2 + k + (xs.map (Value.int .u8)).length)).toArray 70 _ hw.1
        rw [e1, List.append_assoc]
        rw [show (wcells e d ps u n).toArray.toList = wcells e d ps u n from rfl]
        have e2 := wcells_splice (e := e) (d := d) (ps := ps) (u := u) (n := n) k xs (by have := hw.2; omega)
        unfold splice at e2
        rw [e2]; rfl
      · rw [length_splice _ _ _ (by have := hw.2; omega)]; exact hw.2
      · exact ⟨rfl, rfl, rfl, by simp [World.setRow], fun k _ hk => setRow_other w g k _ (fun e => hk (by rw [e]))⟩
end Go.Proofs.Ytekefbbjocekiaa
