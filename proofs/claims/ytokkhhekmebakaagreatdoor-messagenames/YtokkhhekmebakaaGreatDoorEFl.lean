/-
  What message.fields answers: memory of its own that says which fields each kind has. No condition.
-/
import Derived.Test.YtokkhhekmebakaaGreatDoorEMp
namespace Go.Proofs.YtokkhhekmebakaaGreatDoor
open Go.RowKit
set_option linter.unusedVariables false

def fnV (f : FuncId) : Value := .func (.func f) #[] #[]
def fnOf : Value → FuncId
  | .func (.func f) _ _ => f
  | _ => 0
def fnsOf (cs : Array Value) : List FuncId := cs.toList.map fnOf
/-- Kinds 1 .. so far have their lists. -/
structure FInv (w : World) (N : Nat) (xs : List (List FuncId)) (W : World) : Prop where
  mp : MpI W N (fun n => if 1 ≤ n ∧ n ≤ (xs.length : Int) then some (.slice (some ⟨N + n.toNat, 0, none⟩) (xs.getD (n.toNat - 1) []).length (xs.getD (n.toNat - 1) []).length) else none)
  cell : ∀ j, j < xs.length → ∀ i, i < (xs.getD j []).length → W.cell? ⟨N + (j + 1), i, none⟩ = some (fnV ((xs.getD j []).getD i 0))
  size : W.heap.size = N + 1 + xs.length
  gb : w.grownBy W none
  lt : w.heap.size ≤ N
theorem finv_new (w : World) : FInv w w.heap.size [] (w.alloc (.map #[] 0)) := by
  refine ⟨?_, fun j hj => absurd hj (by simp), by simp [World.size_alloc], World.grownBy_alloc _ _ _, Nat.le_refl _⟩
  have h := mpi_new w
  have e : (fun n : Int => if 1 ≤ n ∧ n ≤ (([] : List (List FuncId)).length : Int) then some (Value.slice (some ⟨w.heap.size + n.toNat, 0, none⟩) (([] : List (List FuncId)).getD (n.toNat - 1) []).length (([] : List (List FuncId)).getD (n.toNat - 1) []).length) else none) = fun _ => none := by
    funext n
    rw [if_neg (by simp; omega)]
  rw [e]; exact h
theorem finv_step {w W : World} {N : Nat} {xs : List (List FuncId)} (h : FInv w N xs W) (cs : Array Value) (hcs : ((fnsOf cs).map fnV).toArray = cs) :
    ∃ w', (Instr.mapUpdate 165 (.map (some N)) (.int .i64 ((xs.length : Int) + 1)) (.slice (some ⟨W.heap.size, 0, none⟩) cs.size cs.size)).run Tryz.prog (W.alloc (.cells cs 167)) = .ok () w' ∧ FInv w N (xs ++ [fnsOf cs]) w' := by
  have hN : N < W.heap.size := h.mp.lt
  have h1 : MpI (W.alloc (.cells cs 167)) N _ := h.mp.gr (G := fun _ => False) (Gr.of (World.grownBy_alloc W (.cells cs 167) none) (by simp)) (by simp)
  obtain ⟨w', hu, hm, hg, hz⟩ := mpi_upd (P := Tryz.prog) Tryz.underlying165 Tryz.underlying25 h1 ((xs.length : Int) + 1) (.slice (some ⟨W.heap.size, 0, none⟩) cs.size cs.size)
  refine ⟨w', hu, ?_, ?_, ?_, ?_, h.lt⟩
  · have e : fset (fun n : Int => if 1 ≤ n ∧ n ≤ (xs.length : Int) then some (Value.slice (some ⟨N + n.toNat, 0, none⟩) (xs.getD (n.toNat - 1) []).length (xs.getD (n.toNat - 1) []).length) else none) ((xs.length : Int) + 1) (some (.slice (some ⟨W.heap.size, 0, none⟩) cs.size cs.size)) = fun n : Int => if 1 ≤ n ∧ n ≤ ((xs ++ [fnsOf cs]).length : Int) then some (Value.slice (some ⟨N + n.toNat, 0, none⟩) ((xs ++ [fnsOf cs]).getD (n.toNat - 1) []).length ((xs ++ [fnsOf cs]).getD (n.toNat - 1) []).length) else none := by
      funext n
      by_cases hn : n = (xs.length : Int) + 1
      · subst hn
        rw [fset_same, if_pos (by simp; omega)]
        have e1 : ((xs.length : Int) + 1).toNat = xs.length + 1 := by omega
        rw [e1, h.size, Nat.add_sub_cancel]
        have e2 : (xs ++ [fnsOf cs]).getD xs.length [] = fnsOf cs := by simp [List.getD]
        have e3 : (fnsOf cs).length = cs.size := by simp [fnsOf]
        rw [e2, e3, show N + 1 + xs.length = N + (xs.length + 1) by omega]
      · rw [fset_other _ _ _ _ hn]
        by_cases hc : 1 ≤ n ∧ n ≤ (xs.length : Int)
        · rw [if_pos hc, if_pos (by simp; omega)]
          have e2 : (xs ++ [fnsOf cs]).getD (n.toNat - 1) [] = xs.getD (n.toNat - 1) [] := by
            simp only [List.getD_eq_getElem?_getD]
            rw [List.getElem?_append_left (by omega)]
          rw [e2]
        · rw [if_neg hc, if_neg (by simp; omega)]
    rw [← e]; exact hm
  · intro j hj i hi
    have hb : w'.heap[N + (j + 1)]? = (W.alloc (.cells cs 167)).heap[N + (j + 1)]? := hg.block _ (by rw [World.size_alloc, h.size]; simp at hj; omega) (by omega)
    rw [World.cell?_of_block (w := W.alloc (.cells cs 167)) (a := ⟨N + (j + 1), i, none⟩) hb]
    by_cases hc : j < xs.length
    · have e2 : (xs ++ [fnsOf cs]).getD j [] = xs.getD j [] := by
        simp only [List.getD_eq_getElem?_getD]
        rw [List.getElem?_append_left hc]
      rw [e2] at hi ⊢
      have hb2 := World.cell?_alloc_lt W (.cells cs 167) ⟨N + (j + 1), i, none⟩ (by rw [h.size]; show N + (j + 1) < _; omega)
      exact hb2.trans (h.cell j hc i hi)
    · have hj' : j = xs.length := by simp at hj; omega
      subst hj'
      have e2 : (xs ++ [fnsOf cs]).getD xs.length [] = fnsOf cs := by simp [List.getD]
      rw [e2] at hi ⊢
      rw [show N + (xs.length + 1) = W.heap.size by rw [h.size]; omega, World.cell?_alloc_new]
      have e4 : cs[i]? = (((fnsOf cs).map fnV).toArray)[i]? := by rw [hcs]
      rw [e4]
      simp [List.getD, hi]
  · rw [hz, World.size_alloc, h.size]; simp; omega
  · have g2 : w.grownBy (W.alloc (.cells cs 167)) none := gb_trans h.gb (World.grownBy_alloc _ _ _)
    exact ⟨hg.os.trans g2.os, hg.tape.trans g2.tape, hg.output.trans g2.output, Nat.le_trans g2.size hg.size, fun i hi hn => (hg.block i (Nat.lt_of_lt_of_le hi g2.size) (by have := h.lt; omega)).trans (g2.block i hi hn)⟩
theorem wpList_ins {ops : Array Oper} {rest : List Oper} {op : Oper} {a : Act} {Q : Exit → Act → World → Prop} (hgd : op.guard = none) (m k x : Operand) (ho : op.op = .insert 165 m k x) {w W : World} {N : Nat} {xs : List (List FuncId)} (h : Hid (FInv w N xs W)) {cs : Array Value} (hcs : ((fnsOf cs).map fnV).toArray = cs)
    (hm : a.eval m = .map (some N)) (hk : a.eval k = .int .i64 ((xs.length : Int) + 1)) (hx : a.eval x = .slice (some ⟨W.heap.size, 0, none⟩) cs.size cs.size)
    (K : ∀ w', Hid (FInv w N (xs ++ [fnsOf cs]) w') → wpList Tryz.prog ops Q rest (a.put op.dst undef) w') : wpList Tryz.prog ops Q (op :: rest) a (W.alloc (.cells cs 167)) := by
  obtain ⟨w', hu, hi⟩ := finv_step h.out cs hcs
  refine wpList_plain hgd fun K' hK => ?_
  unfold Oper.wp execOp
  simp only [ho, hm, hk, hx, Sem.run_bind, Sem.run_pure, Result.andThen_ok, hu]
  exact hK _ _ (K _ hi)
/-- The fields of kinds 1, 2 .. -/
def FL : List (List FuncId) := [[126, 127, 128], [129, 126, 127, 130], [126, 127, 131], [129, 126, 127, 132], [126, 127, 133], [134, 135], [133], [129], [129, 136], [129, 137, 138], [129, 126, 127], [129, 126, 127, 137], [139], [140, 139, 133], [129, 140, 139, 141], [140, 139, 142, 143], [140, 144, 145], [140, 144, 145, 146], [140, 147], [140, 148], [140, 137], [140, 136], [140, 139, 137], [140], [140, 139, 137], [129, 140, 149], [129, 140, 137], [129, 140]]
set_option maxRecDepth 20000 in
set_option maxHeartbeats 4000000 in
theorem fields_c (w : World) : Calls Tryz.prog 90 #[] w fun r w' => r = .returned (.map (some w.heap.size)) ∧ FInv w w.heap.size FL w' := by
  obtain ⟨W0, N, hmk, HN, HI⟩ : ∃ W0 N, (Instr.makeMap 165 none).run Tryz.prog w = .ok (.map (some N)) W0 ∧ Hid (N = w.heap.size) ∧ Hid (FInv w N [] W0) := ⟨_, _, rfl, rfl, finv_new w⟩
  rw [← HN.out]
  go_enter Tryz.func90, Tryz.ntmps90
  go_wp2_with (refine wpList_ins rfl _ _ _ rfl HI rfl rfl rfl rfl ?_; clear HI; intro wn HI)
  go_ret
  exact ⟨rfl, HI.out⟩
/-- A kind's fields; whether a field's work lies in memory as that. -/
def flK (n : Nat) : List FuncId := FL.getD (n - 1) []
theorem fields_at {w W : World} {N : Nat} (h : FInv w N FL W) (n : Nat) (h1 : 1 ≤ n) (h2 : n ≤ 28) :
    (Instr.lookup 165 (.map (some N)) (.int .i64 (n : Int)) false).run Tryz.prog W = .ok (.slice (some ⟨N + n, 0, none⟩) (flK n).length (flK n).length) W := by
  have hl := mpi_look (P := Tryz.prog) Tryz.underlying165 Tryz.underlying25 h.mp (.slice none 0 0) (Tryz.zeroValue164 W) (n : Int) false
  have hc : (1 : Int) ≤ (n : Int) ∧ (n : Int) ≤ (FL.length : Int) := ⟨by omega, by show (n : Int) ≤ 28; omega⟩
  rw [if_pos hc] at hl
  unfold flK
  simpa using hl
theorem fields_cell {w W : World} {N : Nat} (h : FInv w N FL W) (n : Nat) (h1 : 1 ≤ n) (h2 : n ≤ 28) (i : Nat) (hi : i < (flK n).length) : W.cell? ⟨N + n, i, none⟩ = some (fnV ((flK n).getD i 0)) := by
  have := h.cell (n - 1) (by show n - 1 < 28; omega) i hi
  rw [show n - 1 + 1 = n by omega] at this
  exact this
end Go.Proofs.YtokkhhekmebakaaGreatDoor
