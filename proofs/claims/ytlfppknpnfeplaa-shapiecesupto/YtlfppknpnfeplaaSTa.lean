/-
  A digest's state in memory, as plain data: the words, what stands behind the last whole block, how many bytes were taken; in a block of its own or behind other cells of one. What over answers; a law for copy into the rest.
-/
import Derived.Test.YtlfppknpnfeplaaSBe
import Derived.Test.YtlfppknpnfeplaaSFi
import Derived.Test.YtlfppknpnfeplaaSPr
namespace Go.Proofs.Ytlfppknpnfeplaa
set_option linter.unusedVariables false
open Go.RowKit

def stc (s : St) (rs : List Int) (n : Int) : List Value := (s.words.map fun x => Value.int .u32 (W x)) ++ (rs.map (Value.int .u8) ++ [.int .i64 n])
/-- A state behind the cells pre of block g. -/
def Sta (T : TypeId) (pre : List Value) (w : World) (g : Nat) (s : St) (rs : List Int) (n : Int) : Prop := w.heap[g]? = some (.cells (pre ++ stc s rs n).toArray T (0, 0)) ∧ rs.length = 64
theorem words_len (s : St) : s.words.length = 8 := rfl
theorem Sta.lt {T pre w g s rs n} (h : Sta T pre w g s rs n) : g < w.heap.size := lt_of_block h.1
theorem Sta.free {T pre w g s rs n} (h : Sta T pre w g s rs n) (i : Nat) : w.frozen? ⟨g, i, none⟩ = false := frozen_of_row w g i _ _ h.1
theorem Sta.word {T pre w g s rs n} (h : Sta T pre w g s rs n) (i : Nat) (hi : i < 8) : w.cell? ⟨g, pre.length + i, none⟩ = some (.int .u32 (W (s.words.getD i 0))) := by
  rw [cell_of_row w g _ _ _ _ h.1, List.getElem?_toArray, List.getElem?_append_right (by omega), Nat.add_sub_cancel_left]
  unfold stc
  rw [List.getElem?_append_left (by simpa [words_len] using hi), List.getElem?_map, List.getElem?_eq_getElem (show i < s.words.length from hi)]
  simp only [Option.map_some, List.getD_eq_getElem?_getD, List.getElem?_eq_getElem (show i < s.words.length from hi), Option.getD_some]
theorem Sta.rest {T pre w g s rs n} (h : Sta T pre w g s rs n) (i : Nat) (hi : i < 64) : w.cell? ⟨g, pre.length + 8 + i, none⟩ = some (.int .u8 (rs.getD i 0)) := by
  rw [cell_of_row w g _ _ _ _ h.1, List.getElem?_toArray, List.getElem?_append_right (by omega), show pre.length + 8 + i - pre.length = 8 + i from by omega]
  unfold stc
  rw [List.getElem?_append_right (by simp [words_len]), List.length_map, words_len, Nat.add_sub_cancel_left, List.getElem?_append_left (by simpa [h.2] using hi)]
  simp [h.2, hi]
theorem Sta.size {T pre w g s rs n} (h : Sta T pre w g s rs n) : w.cell? ⟨g, pre.length + 72, none⟩ = some (.int .i64 n) := by
  rw [cell_of_row w g _ _ _ _ h.1, List.getElem?_toArray, List.getElem?_append_right (by omega), show pre.length + 72 - pre.length = 8 + 64 from by omega]
  unfold stc
  rw [List.getElem?_append_right (by simp [words_len]), List.length_map, words_len, Nat.add_sub_cancel_left, List.getElem?_append_right (by simp [h.2]), List.length_map, h.2]
  rfl
theorem Sta.setSize {T pre w g s rs n} (h : Sta T pre w g s rs n) (x : Int) : Sta T pre (w.setCell ⟨g, pre.length + 72, none⟩ (.int .i64 x)) g s rs x := by
  refine ⟨?_, h.2⟩
  rw [heap_setCell_same w g _ _ _ _ h.1, List.setIfInBounds_toArray]
  congr 3
  unfold stc
  rw [List.set_append_right _ _ (by omega), show pre.length + 72 - pre.length = 8 + 64 from by omega, List.set_append_right _ _ (by simp [words_len]), List.length_map, words_len, Nat.add_sub_cancel_left, List.set_append_right _ _ (by simp [h.2]), List.length_map, h.2]
  rfl
theorem Sta.gb {T pre w w' g s rs n} (h : Sta T pre w g s rs n) (hg : w.grownBy w' none) : Sta T pre w' g s rs n := ⟨(hg.block g h.lt (by simp)).trans h.1, h.2⟩
theorem Sta.drewN {T pre w g s rs n} (h : Sta T pre w g s rs n) (k : Nat) : Sta T pre (w.drewN k) g s rs n := h
theorem stc_splice (s : St) (rs : List Int) (n : Int) (pre : List Value) (k : Nat) (xs : List Int) (hr : rs.length = 64) (h : k + xs.length ≤ 64) : (pre ++ stc s rs n).take (pre.length + 8 + k) ++ xs.map (Value.int .u8) ++ (pre ++ stc s rs n).drop (pre.length + 8 + k + (xs.map (Value.int .u8)).length) = pre ++ stc s (rs.take k ++ xs ++ rs.drop (k + xs.length)) n := by
  unfold stc
  rw [show pre.length + 8 + k = pre.length + (8 + k) from by omega, List.take_length_add_append, show pre.length + (8 + k) + (xs.map (Value.int .u8)).length = pre.length + (8 + (k + xs.length)) from by simp; omega, List.drop_length_add_append]
  have e : (s.words.map fun x => Value.int .u32 (W x)).length = 8 := by simp [words_len]
  have e1 : ∀ (A B : List Value) (m : Nat), A.length = 8 → (A ++ B).take (8 + m) = A ++ B.take m := fun A B m hA => by rw [← hA, List.take_length_add_append]
  have e2 : ∀ (A B : List Value) (m : Nat), A.length = 8 → (A ++ B).drop (8 + m) = B.drop m := fun A B m hA => by rw [← hA, List.drop_length_add_append]
  rw [e1 _ _ _ e, e2 _ _ _ e, List.take_append_of_le_length (by simp [hr]; omega), List.drop_append_of_le_length (by simp [hr]; omega)]
  simp [List.map_append, List.map_take, List.map_drop]
set_option maxHeartbeats 400000 in
theorem over_c (T : TypeId) (pre : List Value) (g : Nat) (s : St) (rs : List Int) (n m : Nat) (hm : m = n % 64) (w : World) (h : Sta T pre w g s rs n) (hn : n < 4611686018427387904) :
    Calls Try.prog 45 #[.pointer (some ⟨g, pre.length, none⟩)] w fun r w' => r = .returned (.int .i64 (m : Int)) ∧ w' = w := by
  have c := h.size
  have q1 : (n : Int).tmod (64 : Int) = (m : Int) := by rw [Int.tmod_eq_emod_of_nonneg (by omega)]; omega
  have q2 : (n : Int) % (64 : Int) = (m : Int) := by omega
  clear h hm
  generalize pre.length = o at *
  go_enter Try.func45, Try.ntmps45
  go_wp2
  go_ret
  exact ⟨rfl, rfl⟩
/-- copy into the rest, as one step of a region that draws. -/
theorem step_rest {ops : Array Oper} {o : Oper} {a : Act} {w : World} {K : Act → World → Prop} {Q : Exit → Act → World → Prop} {E : Prop} (hgd : o.guard = none) (dO sO : Operand)
    (ho : o.op = .call { callee := .builtin .copy, args := #[dO, sO], argTypes := #[29, 29] }) (dp : Option Addr) (dLen dCap sCap : Nat) (b off sLen : Nat) (hd : a.eval dO = .slice dp dLen dCap) (hs : a.eval sO = .slice (some ⟨b, off, none⟩) sLen sCap)
    (T : TypeId) (pre : List Value) (g k m : Nat) (s : St) (rs xs : List Int) (n : Int) (hw : Sta T pre w g s rs n) (hx : Seg .u8 w (some ⟨b, off, none⟩) sLen xs) (hm : Nat.min sLen dLen = m) (hle : k + m ≤ 64) (hdp : dp = some ⟨g, pre.length + 8 + k, none⟩)
    (h : ∀ w', Sta T pre w' g s (rs.take k ++ xs.take m ++ rs.drop (k + m)) n → w.grownBy w' (some g) → K (a.put o.dst (.int .i64 (m : Int))) w') :
    if Region.wanted o (yielded ops a.tmps) = true then Oper.wp Try.prog o a w K Q else E := by
  have hwt : Region.wanted o (yielded ops a.tmps) = true := by simp [Region.wanted, hgd]
  rw [if_pos hwt]
  obtain ⟨i0, hi, hz0, hz1, hz2⟩ := info_parts Try.infoU8
  have hsz : (Try.prog.info? 5).map (·.size) = some 1 := by rw [hi]; simp [hz1]
  have hml : m ≤ sLen := by rw [← hm]; exact Nat.min_le_left _ _
  have hxl : (xs.take m).length = m := by rw [List.length_take, hx.1]; omega
  subst hdp
  have hrun := run_copy_row (P := Try.prog) w 29 29 o.type 5 g (pre.length + 8 + k) dLen dCap ⟨b, off, none⟩ sLen sCap (pre ++ stc s rs n).toArray T ((xs.take m).map (Value.int .u8)) Try.underlying29 hsz hw.1 (by rw [hm]; simpa using hxl)
    (fun j u hj => by
      have hj' := seg_news' hx _ rfl j u
      apply hj'
      rw [List.map_take] at hj
      rw [List.getElem?_take] at hj
      split at hj
      · exact hj
      · cases hj)
    (by have := hw.2; simp [stc, words_len]; omega) (by intro v hv; obtain ⟨z, _, rfl⟩ := List.mem_map.1 hv; rfl)
  unfold Oper.wp
  simp only [execOp, ho, resolve, invoke, builtin, hd, hs, hrun, Result.andThen, Sem.run_bind, Sem.run_pure, List.map_toArray, List.map_cons, List.map_nil]
  have hln : goInt (((xs.take m).map (Value.int .u8)).length : Int) = .int .i64 (m : Int) := by simp only [goInt, List.length_map, hxl]
  rw [hln]
  refine h _ ⟨?_, ?_⟩ ?_
  · have e1 := setRow_heap w g _ ((pre ++ stc s rs n).toArray.toList.take (pre.length + 8 + k) ++ (xs.take m).map (Value.int .u8) ++ (pre ++ stc s rs n).toArray.toList.drop (pre.length + 8 + k + ((xs.take m).map (Value.int .u8)).length)).toArray T _ hw.1
    rw [e1]
    have e2 := stc_splice s rs n pre k (xs.take m) hw.2 (by rw [hxl]; exact hle)
    rw [hxl] at e2
    show some (Obj.cells ((pre ++ stc s rs n).take _ ++ _ ++ (pre ++ stc s rs n).drop _).toArray _ _) = _
    rw [e2]
  · have := hw.2
    simp only [List.length_append, List.length_take, List.length_drop, hx.1, this]; omega
  · exact ⟨rfl, rfl, rfl, by simp [World.setRow], fun k _ hk => setRow_other w g k _ (fun e => hk (by rw [e]))⟩
end Go.Proofs.Ytlfppknpnfeplaa
