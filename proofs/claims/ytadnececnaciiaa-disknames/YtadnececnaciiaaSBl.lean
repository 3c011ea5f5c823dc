/-
  What sha's numbers, first and spread answer. Condition: the block has 64 bytes.
-/
import Derived.Test.YtadnececnaciiaaSRo
import Derived.Test.YtadnececnaciiaaFBk
import Derived.Deep.RegionHeld3
namespace Go.Proofs.Ytadnececnaciiaa
set_option linter.unusedVariables false
open Go.RowKit

def wds (l : List Wd) : Array Value := (l.map fun x => Value.int .u32 (W x)).toArray
theorem wds_size (l : List Wd) : (wds l).size = l.length := by simp [wds]
theorem wds_one (l : List Wd) : (wds l).all (·.oneCell') = true := by
  rw [Array.all_eq_true_iff_forall_mem]
  intro v hv
  simp only [wds, List.mem_toArray, List.mem_map] at hv
  obtain ⟨z, _, rfl⟩ := hv
  rfl
theorem wds_at (l : List Wd) (i : Nat) (h : i < l.length) : (wds l)[i]? = some (.int .u32 (W (l.getD i 0))) := by
  simp [wds, h]
theorem wds_set (l : List Wd) (i : Nat) (x : Wd) : (wds l).setIfInBounds i (.int .u32 (W x)) = wds (l.set i x) := by
  simp [wds, List.map_set]
/-- Bytes as cells. -/
def u8s (xs : List Int) : Array Value := (xs.map (Value.int .u8)).toArray
theorem u8s_size (xs : List Int) : (u8s xs).size = xs.length := by simp [u8s]
theorem u8s_one (xs : List Int) : (u8s xs).all (·.oneCell') = true := by
  rw [Array.all_eq_true_iff_forall_mem]
  intro v hv
  simp only [u8s, List.mem_toArray, List.mem_map] at hv
  obtain ⟨z, _, rfl⟩ := hv
  rfl
theorem u8s_at (l : List Int) (i : Nat) (h : i < l.length) : (u8s l)[i]? = some (.int .u8 (l.getD i 0)) := by
  simp [u8s, h]
/-- The numbers of the rounds. -/
def kws : List Wd := kk.map (BitVec.ofNat 32)
theorem gb_new {a b c : World} (h : a.grownBy b none) (k : b.grownBy c (some a.heap.size)) : a.grownBy c none :=
  ⟨k.os.trans h.os, k.tape.trans h.tape, k.output.trans h.output, Nat.le_trans h.size k.size, fun i hi hn => (k.block i (Nat.lt_of_lt_of_le hi h.size) (fun e => by cases e; omega)).trans (h.block i hi hn)⟩
theorem gb_newer {a b c : World} {N : Nat} (h : a.grownBy b none) (k : b.grownBy c (some N)) (hN : a.heap.size ≤ N) : a.grownBy c none :=
  ⟨k.os.trans h.os, k.tape.trans h.tape, k.output.trans h.output, Nat.le_trans h.size k.size, fun i hi hn => (k.block i (Nat.lt_of_lt_of_le hi h.size) (fun e => by cases e; omega)).trans (h.block i hi hn)⟩
theorem gb_trans {a b c : World} {row : Option Nat} (h : a.grownBy b row) (k : b.grownBy c row) : a.grownBy c row :=
  ⟨k.os.trans h.os, k.tape.trans h.tape, k.output.trans h.output, Nat.le_trans h.size k.size, fun i hi hn => (k.block i (Nat.lt_of_lt_of_le hi h.size) hn).trans (h.block i hi hn)⟩
theorem gb_below {a b : World} (h : a.grownBy b none) : Below a.heap.size a b := ⟨h.os, h.tape, h.output, h.size, fun i hi => h.block i hi (fun e => by cases e)⟩
theorem gb_wide {a b : World} (h : a.grownBy b none) (row : Option Nat) : a.grownBy b row := ⟨h.os, h.tape, h.output, h.size, fun i hi _ => h.block i hi (fun e => by cases e)⟩
theorem wpList_build_run {ops : Array Oper} {rest : List Oper} {op : Oper} {a : Act} {w : World} {Q : Exit → Act → World → Prop} (hgd : op.guard = none) (T : TypeId) (parts : Array (Nat × Operand)) (ho : op.op = .build T parts)
    (v : Value) (hr : (Instr.build T (parts.map fun p => (p.1, a.eval p.2))).run Try.prog w = .ok v w)
    (K : wpList Try.prog ops Q rest (a.put op.dst v) w) : wpList Try.prog ops Q (op :: rest) a w := by
  refine wpList_plain hgd fun K' hK => ?_
  unfold Oper.wp execOp
  simp only [ho, hr, Sem.run_bind, Sem.run_pure, Result.andThen_ok]
  exact hK _ _ K
def wz64 : List Wd := List.replicate 64 0
theorem gb_drewN {a b : World} {row : Option Nat} (h : a.grownBy b row) (n : Nat) : a.grownBy (b.drewN n) row := gb_trans h ⟨rfl, rfl, rfl, Nat.le_refl _, fun _ _ _ => rfl⟩
end Go.Proofs.Ytadnececnaciiaa
