/-
  What sha's numbers, first and spread answer. Condition: the block has 64 bytes.
-/
import Derived.Test.YtlfppknpnfeplaaSRo
import Derived.Test.YtlfppknpnfeplaaFBk
import Derived.Deep.RegionHeld3
namespace Go.Proofs.Ytlfppknpnfeplaa
set_option linter.unusedVariables false
open Go.RowKit

def wds (l : List Wd) : Array Value := (l.map fun x => Value.int .u32 (W x)).toArray
theorem wds_size (l : List Wd) : (wds l).size = l.length := by simp [wds]
theorem wds_one (l : List Wd) : (wds l).all (·.oneCell') = true := by
  rw [Array.all_eq_true_iff_forall_mem]
  intro v hv
  simp only [wds, List.mem_toArray, List.mem_map] at hv
  obtain ⟨z, _, rfl⟩ := hv
  rfl
theorem wds_at (l : List Wd) (i : Nat) (h : i < l.length) : (wds l)[i]? = some (.int .u32 (W (l.getD i 0))) := by
  simp [wds, h]
theorem wds_set (l : List Wd) (i : Nat) (x : Wd) : (wds l).setIfInBounds i (.int .u32 (W x)) = wds (l.set i x) := by
  simp [wds, List.map_set]
/-- Bytes as cells. -/
def u8s (xs : List Int) : Array Value := (xs.map (Value.int .u8)).toArray
theorem u8s_size (xs : List Int) : (u8s xs).size = xs.length := by simp [u8s]
theorem u8s_one (xs : List Int) : (u8s xs).all (·.oneCell') = true := by
  rw [Array.all_eq_true_iff_forall_mem]
  intro v hv
  simp only [u8s, List.mem_toArray, List.mem_map] at hv
  obtain ⟨z, _, rfl⟩ := hv
  rfl
theorem u8s_at (l : List Int) (i : Nat) (h : i < l.length) : (u8s l)[i]? = some (.int .u8 (l.getD i 0)) := by
  simp [u8s, h]
theorem info64 : (Try.prog.info? 92).map (·.size) = some 64 := by kernel_rfl
theorem info8 : (Try.prog.info? 64).map (·.size) = some 8 := by kernel_rfl
theorem info64b : (Try.prog.info? 65).map (·.size) = some 64 := by kernel_rfl

/-- The numbers of the rounds. -/
def kws : List Wd := kk.map (BitVec.ofNat 32)
theorem gb_new {a b c : World} (h : a.grownBy b none) (k : b.grownBy c (some a.heap.size)) : a.grownBy c none :=
  ⟨k.os.trans h.os, k.tape.trans h.tape, k.output.trans h.output, Nat.le_trans h.size k.size, fun i hi hn => (k.block i (Nat.lt_of_lt_of_le hi h.size) (fun e => by cases e; omega)).trans (h.block i hi hn)⟩
theorem gb_newer {a b c : World} {N : Nat} (h : a.grownBy b none) (k : b.grownBy c (some N)) (hN : a.heap.size ≤ N) : a.grownBy c none :=
  ⟨k.os.trans h.os, k.tape.trans h.tape, k.output.trans h.output, Nat.le_trans h.size k.size, fun i hi hn => (k.block i (Nat.lt_of_lt_of_le hi h.size) (fun e => by cases e; omega)).trans (h.block i hi hn)⟩
theorem gb_trans {a b c : World} {row : Option Nat} (h : a.grownBy b row) (k : b.grownBy c row) : a.grownBy c row :=
  ⟨k.os.trans h.os, k.tape.trans h.tape, k.output.trans h.output, Nat.le_trans h.size k.size, fun i hi hn => (k.block i (Nat.lt_of_lt_of_le hi h.size) hn).trans (h.block i hi hn)⟩
theorem gb_below {a b : World} (h : a.grownBy b none) : Below a.heap.size a b := ⟨h.os, h.tape, h.output, h.size, fun i hi => h.block i hi (fun e => by cases e)⟩
theorem gb_wide {a b : World} (h : a.grownBy b none) (row : Option Nat) : a.grownBy b row := ⟨h.os, h.tape, h.output, h.size, fun i hi _ => h.block i hi (fun e => by cases e)⟩
theorem wpList_build_run {ops : Array Oper} {rest : List Oper} {op : Oper} {a : Act} {w : World} {Q : Exit → Act → World → Prop} (hgd : op.guard = none) (T : TypeId) (parts : Array (Nat × Operand)) (ho : op.op = .build T parts)
    (v : Value) (hr : (Instr.build T (parts.map fun p => (p.1, a.eval p.2))).run Try.prog w = .ok v w)
    (K : wpList Try.prog ops Q rest (a.put op.dst v) w) : wpList Try.prog ops Q (op :: rest) a w := by
  refine wpList_plain hgd fun K' hK => ?_
  unfold Oper.wp execOp
  simp only [ho, hr, Sem.run_bind, Sem.run_pure, Result.andThen_ok]
  exact hK _ _ K
theorem part_type64 : Try.prog.underlying 65 = some (.array 64 5) := Try.underlying65
theorem slice_from64 (g o u : Nat) (hu : u ≤ 64) (z : Int) (hz : z = u) (W : World) : Sem.run Try.prog (Instr.sliceAt 65 (.pointer (some ⟨g, o, none⟩)) (some (.int .i64 z)) none none) W = .ok (.slice (if 64 = u then some ⟨g, o, none⟩ else some ⟨g, o + u, none⟩) (64 - u) (64 - u)) W := by
  obtain ⟨i0, hi, hz0, hz1, hz2⟩ := info_parts Try.infoU8
  have hel : Try.prog.elem 65 = 5 := by kernel_rfl
  have hal : Try.prog.arrayLen 65 = 64 := by kernel_rfl
  rw [hz]
  rw [run_sliceAt_array_l W 65 ⟨g, o, none⟩ (by rw [hal, hel]; exact part_type64) .i64 u (by omega) (by rw [hal]; omega)]
  rw [hal, hel]
  by_cases h : u = 64
  · subst h; simp [sizeOf, typeInfo, hi, slicedAt]
  · have h' : ¬ 64 = u := fun e => h e.symm
    simp [sizeOf, typeInfo, hi, slicedAt, hz1, h', Go.WideShapes.add_plain]
def wz64 : List Wd := List.replicate 64 0
theorem gb_drewN {a b : World} {row : Option Nat} (h : a.grownBy b row) (n : Nat) : a.grownBy (b.drewN n) row := gb_trans h ⟨rfl, rfl, rfl, Nat.le_refl _, fun _ _ _ => rfl⟩
theorem zz64 (w : World) : (zeroValue 92).run Try.prog w = .ok (.agg (wds wz64)) w := by
  have h : (Try.prog.info? 92).map (fun i => (i.zero, i.size)) = some (some (.agg (wds wz64)), 64) := by kernel_rfl
  exact (zero_of_info h).1 w
set_option maxRecDepth 20000 in
theorem numbers_c (w : World) : Calls Try.prog 57 #[] w fun r w' => r = .returned (.agg (wds kws)) ∧ w.grownBy w' none := by
  obtain ⟨N, hN⟩ : ∃ N, N = w.heap.size := ⟨_, rfl⟩
  have HN : Hid (N = w.heap.size) := hN
  have HKL : Hid (kws.length = 64) := rfl
  have HZ := blk_new w 92 (wds wz64)
  have hz := zz64
  go_enter Try.func57, Try.ntmps57
  go_wp2_with (first
    | (refine wpList_build_run rfl 92 _ rfl (.agg (wds kws)) (by kernel_rfl) ?_)
    | (refine wpList_store_bk 92 rfl (.tmp 0) (.tmp 1) rfl info64 w.heap.size (wds wz64) (wds kws) rfl rfl HZ.1 rfl rfl (wds_one _) ?_; intro w2 h1 h2; have H2 : Hid (Bk 92 w2 w.heap.size (wds kws) ∧ w.grownBy w2 none) := ⟨h1, gb_new HZ.2 h2⟩; clear h1 h2))
  refine bodyPost_ret (results_cell1 Try.results57 _ _ _ ⟨w.heap.size, 0, none⟩ (.agg (wds kws)) rfl (bk_load (T := 92) Try.underlying92 rfl info64 H2.out.1 rfl)) rfl ?_
  exact ⟨rfl, H2.out.2⟩
set_option maxRecDepth 20000 in
theorem first_c (w : World) : Calls Try.prog 44 #[] w fun r w' => r = .returned (.agg (wds st0.words)) ∧ w.grownBy w' none := by
  go_enter Try.func44, Try.ntmps44
  go_wp2_with fail
  refine bodyPost_ret (results_cell1 Try.results44 _ _ _ ⟨w.heap.size, 0, none⟩ (.agg (wds st0.words)) rfl (bk_load (T := 64) Try.underlying64 rfl info8 (heap_new w _) rfl)) rfl ?_
  exact ⟨rfl, World.grownBy_alloc _ _ _⟩
end Go.Proofs.Ytlfppknpnfeplaa
