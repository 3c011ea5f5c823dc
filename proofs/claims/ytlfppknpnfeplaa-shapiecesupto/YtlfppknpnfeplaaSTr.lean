/-
  take's region that goes on with a whole block, in whatever order: the words are those behind the block. Condition: the block has 64 bytes.
-/
import Derived.Test.YtlfppknpnfeplaaRRe
import Derived.Test.YtlfppknpnfeplaaSTk
namespace Go.Proofs.Ytlfppknpnfeplaa
open Go.RowKit
set_option linter.unusedVariables false

theorem step_pure {P : Program} {ops : Array Oper} {o : Oper} {a : Act} {w : World} {K : Act → World → Prop} {Q : Exit → Act → World → Prop} {E : Prop} (hgd : o.guard = none) (v : Value) (hr : (execOp a.eval o).run P w = .ok (.value v) w) (k : K (a.put o.dst v) w) :
    if Region.wanted o (yielded ops a.tmps) = true then Oper.wp P o a w K Q else E := by
  have hwt : Region.wanted o (yielded ops a.tmps) = true := by simp [Region.wanted, hgd]
  rw [if_pos hwt]
  unfold Oper.wp
  rw [hr]
  exact k
def tkAct (x0 x1 x2 x3 x4 x5 x6 x7 x8 x9 x10 x11 x12 x13 x14 x15 x16 x17 x18 x19 x20 x21 x22 x23 x24 x25 x26 x27 x28 x29 v30 v31 v32 v33 v34 v35 v36 v37 v38 v39 v40 v41 y42 y43 y44 y45 : Value) : Act := { tmps := #[x0, x1, x2, x3, x4, x5, x6, x7, x8, x9, x10, x11, x12, x13, x14, x15, x16, x17, x18, x19, x20, x21, x22, x23, x24, x25, x26, x27, x28, x29, v30, v31, v32, v33, v34, v35, v36, v37, v38, v39, v40, v41, y42, y43, y44, y45], defers := [] }
def tkInv (T : TypeId) (pre : List Value) (g : Nat) (s S' : St) (hs : List Int) (n : Int) (w0 : World) (x1 x2 x3 x4 x5 x6 x7 x8 x9 x10 x11 x12 x13 x14 x15 x16 x17 x18 x19 x20 x21 x22 x23 x24 x25 x26 x27 x28 x29 y42 y43 y44 y45 : Value) (p : List Bool) (a : Act) (w : World) : Prop :=
  ∃ v30 v31 v32 v33 v34 v35 v36 v37 v38 v39 v40 v41, a = tkAct (.pointer (some ⟨g, pre.length, none⟩)) x1 x2 x3 x4 x5 x6 x7 x8 x9 x10 x11 x12 x13 x14 x15 x16 x17 x18 x19 x20 x21 x22 x23 x24 x25 x26 x27 x28 x29 v30 v31 v32 v33 v34 v35 v36 v37 v38 v39 v40 v41 y42 y43 y44 y45
    ∧ (p.getD 0 false = true → v30 = (.pointer (some ⟨g, pre.length, none⟩)))
    ∧ (p.getD 1 false = true → v31 = (.pointer (some ⟨g, pre.length, none⟩)))
    ∧ (p.getD 2 false = true → v32 = (.pointer (some ⟨g, pre.length, none⟩)))
    ∧ (p.getD 3 false = true → v33 = (.pointer (some ⟨g, pre.length, none⟩)))
    ∧ (p.getD 4 false = true → v34 = (.agg (wds s.words)))
    ∧ (p.getD 5 false = true → v35 = (.pointer (some ⟨g, pre.length, none⟩)))
    ∧ (p.getD 6 false = true → v36 = (.pointer (some ⟨g, pre.length, none⟩)))
    ∧ (p.getD 7 false = true → v37 = (.pointer (some ⟨g, pre.length + 8, none⟩)))
    ∧ (p.getD 8 false = true → v38 = (.agg (u8s hs)))
    ∧ (p.getD 9 false = true → v39 = (.agg (wds S'.words)))
    ∧ (p.getD 10 false = true → v40 = (.pointer (some ⟨g, pre.length, none⟩)))
    ∧ (p.getD 11 false = true → v41 = (.pointer (some ⟨g, pre.length, none⟩)))
    ∧ (p.getD 9 false = false → p.getD 12 false = false) ∧ (p.getD 4 false = false → p.getD 9 false = false) ∧ (p.getD 8 false = false → p.getD 9 false = false) ∧ Sta T pre w g (if p.getD 12 false = true then S' else s) hs n ∧ w0.grownBy w (some g)
theorem Sta.words8 {T pre w g s rs n} (h : Sta T pre w g s rs n) : w.rangeAt g pre.length (wds s.words).toList := fun j v hj => by
  have hj8 : j < 8 := by
    rcases Nat.lt_or_ge j 8 with h' | h'
    · exact h'
    · rw [List.getElem?_eq_none (by simpa [wds, words_len] using h')] at hj; cases hj
  rw [h.word j hj8, ← hj]
  simp only [wds, List.getElem?_map, List.getElem?_eq_getElem (show j < s.words.length from hj8), Option.map_some, List.getD_eq_getElem?_getD, Option.getD_some]
theorem Sta.rest64 {T pre w g s rs n} (h : Sta T pre w g s rs n) : w.rangeAt g (pre.length + 8) (u8s rs).toList := fun j v hj => by
  have hj8 : j < 64 := by
    rcases Nat.lt_or_ge j 64 with h' | h'
    · exact h'
    · rw [List.getElem?_eq_none (by simpa [u8s, h.2] using h')] at hj; cases hj
  rw [h.rest j hj8, ← hj]
  simp only [u8s, List.getElem?_map, List.getElem?_eq_getElem (show j < rs.length from by rw [h.2]; exact hj8), Option.map_some, List.getD_eq_getElem?_getD, Option.getD_some]
theorem step_load_mid {ops : Array Oper} {o : Oper} {a : Act} {w : World} {K : Act → World → Prop} {Q : Exit → Act → World → Prop} {E : Prop} (hgd : o.guard = none) (T : TypeId) (x : Operand) (ho : o.op = .load T x)
    {d : TypeDesc} (hu : Try.prog.underlying T = some d) (hd : d.isRow = true) (b off : Nat) (cs : Array Value) (hi : (Try.prog.info? T).map (·.size) = some cs.size) (hx : a.eval x = .pointer (some ⟨b, off, none⟩)) (h : w.rangeAt b off cs.toList)
    (k : K (a.put o.dst (.agg cs)) w) : if Region.wanted o (yielded ops a.tmps) = true then Oper.wp Try.prog o a w K Q else E := by
  have hwt : Region.wanted o (yielded ops a.tmps) = true := by simp [Region.wanted, hgd]
  rw [if_pos hwt]
  exact wp_load_mid T x ho b off hx cs.toList d h hu hd (by rw [hi]; simp) (by simpa using k)
theorem step_store_eq {ops : Array Oper} {o : Oper} {a : Act} {w : World} {K : Act → World → Prop} {Q : Exit → Act → World → Prop} {E : Prop} (hgd : o.guard = none) (T : TypeId) (x y : Operand) (ho : o.op = .store T x y) (ad : Addr) (v : Value) (hx : a.eval x = .pointer (some ad)) (hy : a.eval y = v)
    (w' : World) (hst : (storeVar T ad v).run Try.prog w = .ok () w') (k : K (a.put o.dst undef) w') : if Region.wanted o (yielded ops a.tmps) = true then Oper.wp Try.prog o a w K Q else E := by
  have hwt : Region.wanted o (yielded ops a.tmps) = true := by simp [Region.wanted, hgd]
  rw [if_pos hwt]
  unfold Oper.wp execOp
  simp only [ho, hx, hy, Instr.storeAt, Instr.sureAddr, Sem.run_bind, Sem.run_pure, Result.andThen_ok, hst]
  exact k
theorem Sta.putWords {T pre w g s rs n} (h : Sta T pre w g s rs n) (s' : St) : ∃ w', Sem.run Try.prog (storeVar 64 ⟨g, pre.length, none⟩ (.agg (wds s'.words))) w = .ok () w' ∧ Sta T pre w' g s' rs n ∧ w.grownBy w' (some g) := by
  obtain ⟨w', h1, h2, h3⟩ := h.setWords s' pre.length rfl
  refine ⟨w', ?_, h2, h3⟩
  have hth : w.there g pre.length (wds s'.words).size := fun j hj => ⟨by rw [h.word j (by simpa [wds, words_len] using hj)]; rfl, h.free _⟩
  have q1 := run_storeVar_mid (P := Try.prog) w g pre.length 64 (wds s'.words) hth info8 (wds_one _)
  have q2 := run_storeCells_cells (P := Try.prog) g pre.length (wds s'.words).toList 0 w (fun j hj => (hth j (by simpa using hj)).1) (fun j hj => (hth j (by simpa using hj)).2) (by intro v hv; simp only [wds, List.toList_toArray, List.mem_map] at hv; obtain ⟨z, _, rfl⟩ := hv; rfl)
  rw [q1]
  have q3 : Sem.run Try.prog (storeCells ⟨g, pre.length, none⟩ (wds s'.words).toList) w = _ := q2
  rw [h1] at q3
  rw [q3]; rfl
theorem rep_false (k i : Nat) : (List.replicate k false).getD i false = false := by
  simp only [List.getD_eq_getElem?_getD, List.getElem?_replicate]; split <;> rfl
theorem tk_start {P : Program} {ops : Array Oper} {Q : Exit → Act → World → Prop} {id : Nat} {w w0 : World} {T : TypeId} {pre : List Value} {g : Nat} {s S' : St} {hs : List Int} {n : Int} {x1 x2 x3 x4 x5 x6 x7 x8 x9 x10 x11 x12 x13 x14 x15 x16 x17 x18 x19 x20 x21 x22 x23 x24 x25 x26 x27 x28 x29 v30 v31 v32 v33 v34 v35 v36 v37 v38 v39 v40 v41 y42 y43 y44 y45 : Value} (hm : P.follows .mixedOrders = true) (hc : rcheckR ops (reaches ops) tkCond = true) (hS : Sta T pre w.drew g s hs n) (hG : w0.grownBy w.drew (some g))
    (step : ∀ p a w i o, p.length = ops.size → tkInv T pre g s S' hs n w0 x1 x2 x3 x4 x5 x6 x7 x8 x9 x10 x11 x12 x13 x14 x15 x16 x17 x18 x19 x20 x21 x22 x23 x24 x25 x26 x27 x28 x29 y42 y43 y44 y45 p a w → ops[i]? = some o → p.getD i true = false → tkCond i p = true → ∀ K' : Act → World → Prop, (∀ a w, tkInv T pre g s S' hs n w0 x1 x2 x3 x4 x5 x6 x7 x8 x9 x10 x11 x12 x13 x14 x15 x16 x17 x18 x19 x20 x21 x22 x23 x24 x25 x26 x27 x28 x29 y42 y43 y44 y45 (p.set i true) a w → K' a w) → if Region.wanted o (yielded ops a.tmps) = true then Oper.wp P o a w K' Q else K' (a.put o.dst undef) w)
    (fin : ∀ a w, tkInv T pre g s S' hs n w0 x1 x2 x3 x4 x5 x6 x7 x8 x9 x10 x11 x12 x13 x14 x15 x16 x17 x18 x19 x20 x21 x22 x23 x24 x25 x26 x27 x28 x29 y42 y43 y44 y45 (List.replicate ops.size true) a w → Q .normal a w) : (Code.region id ops true).wp P Q (tkAct (.pointer (some ⟨g, pre.length, none⟩)) x1 x2 x3 x4 x5 x6 x7 x8 x9 x10 x11 x12 x13 x14 x15 x16 x17 x18 x19 x20 x21 x22 x23 x24 x25 x26 x27 x28 x29 v30 v31 v32 v33 v34 v35 v36 v37 v38 v39 v40 v41 y42 y43 y44 y45) w := by
  refine wp_region_reach hm tkCond hc (tkInv T pre g s S' hs n w0 x1 x2 x3 x4 x5 x6 x7 x8 x9 x10 x11 x12 x13 x14 x15 x16 x17 x18 x19 x20 x21 x22 x23 x24 x25 x26 x27 x28 x29 y42 y43 y44 y45) ⟨v30, v31, v32, v33, v34, v35, v36, v37, v38, v39, v40, v41, rfl, ?_, ?_, ?_, ?_, ?_, ?_, ?_, ?_, ?_, ?_, ?_, ?_, fun _ => rep_false _ _, fun _ => rep_false _ _, fun _ => rep_false _ _, ?_, hG⟩ step fin
  all_goals first
    | (intro h; rw [rep_false] at h; cases h)
    | (rw [rep_false]; exact hS)
end Go.Proofs.Ytlfppknpnfeplaa
