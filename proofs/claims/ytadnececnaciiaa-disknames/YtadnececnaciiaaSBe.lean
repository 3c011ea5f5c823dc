/-
  What sha's behind answers: the words behind one more block. Condition: the block has 64 bytes.
-/
import Derived.Test.YtadnececnaciiaaSSp
import Derived.Test.YtadnececnaciiaaRInv
namespace Go.Proofs.Ytadnececnaciiaa
set_option linter.unusedVariables false
open Go.RowKit

theorem W_addw (a b : Wd) : IntKind.u32.wrap (W a + W b) = W (a + b) := by rw [IntKind.wrap_u32, W_add]
theorem Bk.gb {T w w' b cs} (h : Bk T w b cs) (hg : w.grownBy w' none) : Bk T w' b cs := h.grew hg (by simp)
theorem step_load_bk {ops : Array Oper} {o : Oper} {a : Act} {w : World} {K : Act → World → Prop} {Q : Exit → Act → World → Prop} {E : Prop} (hgd : o.guard = none) (T : TypeId) (x : Operand) (ho : o.op = .load T x)
    {d : TypeDesc} (hu : Try.prog.underlying T = some d) (hd : d.isRow = true) {n : Nat} (hi : (Try.prog.info? T).map (·.size) = some n) (b : Nat) (cs : Array Value) (hx : a.eval x = .pointer (some ⟨b, 0, none⟩)) (h : Bk T w b cs) (hl : cs.size = n)
    (k : K (a.put o.dst (.agg cs)) w) : if Region.wanted o (yielded ops a.tmps) = true then Oper.wp Try.prog o a w K Q else E := by
  have hwt : Region.wanted o (yielded ops a.tmps) = true := by simp [Region.wanted, hgd]
  rw [if_pos hwt]
  exact wp_load_mid T x ho b 0 hx cs.toList d (fun j v hv => by rw [Nat.zero_add, cell_of_row w b j _ _ _ h]; simpa using hv) hu hd (by rw [hi, ← hl]; simp) (by simpa using k)
theorem step_store_bk {ops : Array Oper} {o : Oper} {a : Act} {w : World} {K : Act → World → Prop} {Q : Exit → Act → World → Prop} {E : Prop} (hgd : o.guard = none) (T : TypeId) (x y : Operand) (ho : o.op = .store T x y)
    {n : Nat} (hi : (Try.prog.info? T).map (·.size) = some n) (b : Nat) (cs es : Array Value) (hx : a.eval x = .pointer (some ⟨b, 0, none⟩)) (hy : a.eval y = .agg es) (h : Bk T w b cs) (hl : cs.size = n) (hl2 : es.size = n) (h1 : es.all (·.oneCell') = true)
    (k : ∀ w', Bk T w' b es → w.grownBy w' (some b) → K (a.put o.dst undef) w') : if Region.wanted o (yielded ops a.tmps) = true then Oper.wp Try.prog o a w K Q else E := by
  have hwt : Region.wanted o (yielded ops a.tmps) = true := by simp [Region.wanted, hgd]
  rw [if_pos hwt]
  have hst := run_storeVar_row (P := Try.prog) w b T T cs es h (by rw [hi, hl2]) (by rw [hl, hl2]) h1
  unfold Oper.wp execOp
  simp only [ho, hx, hy, Instr.storeAt, Instr.sureAddr, Sem.run_bind, Sem.run_pure, Result.andThen_ok, hst]
  refine k _ ?_ ?_
  · unfold Bk World.setRow
    simp only [Array.getElem?_modify]
    rw [if_pos trivial, h]; rfl
  · exact ⟨rfl, rfl, rfl, by simp [World.setRow], fun k _ hk => setRow_other w b k _ (fun e => hk (by rw [e]))⟩
/-- The slots at the first region that draws. -/
def beAct (x0 x1 x2 x3 x4 v5 v6 v18 v19 v20 : Value) : Act := { tmps := #[x0, x1, x2, x3, x4, v5, v6, undef, undef, undef, undef, undef, undef, undef, undef, undef, undef, undef, v18, v19, v20, undef, undef, undef, undef, undef, undef, undef, undef, undef, undef, undef, undef, undef, undef, undef, undef, undef, undef, undef, undef, undef, undef, undef, undef, undef, undef, undef, undef, undef, undef, undef, undef, undef, undef, undef, undef, undef, undef, undef, undef, undef, undef, undef, undef, undef, undef, undef, undef, undef, undef, undef, undef, undef, undef, undef, undef, undef, undef, undef, undef, undef, undef, undef, undef, undef, undef, undef, undef, undef, undef, undef, undef, undef, undef, undef, undef, undef, undef, undef, undef, undef, undef, undef, undef, undef, undef, undef, undef, undef, undef, undef, undef, undef, undef, undef, undef, undef, undef, undef, undef, undef, undef, undef, undef, undef, undef, undef, undef, undef, undef, undef, undef], defers := [] }
def beCond (i : Nat) (p : List Bool) : Bool := match i with
  | 2 => p.getD 1 false
  | 5 => p.getD 3 false && p.getD 0 false && p.getD 4 false
  | 6 => p.getD 4 false && p.getD 2 false && p.getD 3 false
  | _ => true

end Go.Proofs.Ytadnececnaciiaa
