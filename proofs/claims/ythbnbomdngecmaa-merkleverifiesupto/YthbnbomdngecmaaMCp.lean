/-
  Digests in a block of bytes: one stored in the middle, some copied in; lists of digests are their bytes. No condition of its own.
-/
import Derived.Test.YthbnbomdngecmaaMNd
import Derived.Laws.CopyOwn
import Derived.Laws.CopyRow
import Derived.Deep.RegionLaw
namespace Go.Proofs.Ythbnbomdngecmaa
set_option linter.unusedVariables false
open Go.RowKit

/-- Bytes laid over others from a place on. -/
def lay (cur : List Int) (off : Nat) (xs : List Int) : List Int := cur.take off ++ xs ++ cur.drop (off + xs.length)
theorem lay_len (cur xs : List Int) (off : Nat) (h : off + xs.length ≤ cur.length) : (lay cur off xs).length = cur.length := by simp [lay]; omega
theorem lay_none (cur : List Int) (off : Nat) : lay cur off [] = cur := by simp [lay]
theorem bk_lay {T : TypeId} {w : World} {g : Nat} {cur : List Int} (h : Bk T w g (u8s cur)) (off : Nat) (xs : List Int) (hf : off + xs.length ≤ cur.length) :
    ∃ w', (storeCells ⟨g, off, none⟩ (u8s xs).toList).run Try.prog w = .ok () w' ∧ Bk T w' g (u8s (lay cur off xs)) ∧ w.grownBy w' (some g) := by
  have hr := run_storeCells_at (P := Try.prog) g off T (u8s xs).toList 0 _ w h (by simpa [u8s] using hf) (by intro v hv; simp only [u8s, List.toList_toArray, List.mem_map] at hv; obtain ⟨z, _, rfl⟩ := hv; rfl)
  refine ⟨_, hr, ?_, ⟨rfl, rfl, rfl, by simp [World.setRow], fun k _ hk => setRow_other w g k _ (fun e => hk (by rw [e]))⟩⟩
  unfold Bk
  rw [setRow_heap w g _ _ T _ h]
  congr 2
  apply Array.toList_inj.1
  simp [u8s, lay]
theorem infoDs : (Try.prog.info? 25).map (·.size) = some 32 := by kernel_rfl
/-- A digest stored within a block of bytes. -/
theorem wpList_store_dg {ops : Array Oper} {rest : List Oper} {op : Oper} {a : Act} {w : World} {Q : Exit → Act → World → Prop} (hgd : op.guard = none) (x y : Operand) (ho : op.op = .store 25 x y)
    (T : TypeId) (b off : Nat) (cur d : List Int) (hx : a.eval x = .pointer (some ⟨b, off, none⟩)) (hy : a.eval y = .agg (u8s d)) (h : Bk T w b (u8s cur)) (hl : d.length = 32) (hf : off + 32 ≤ cur.length)
    (K : ∀ w', Bk T w' b (u8s (lay cur off d)) → w.grownBy w' (some b) → wpList Try.prog ops Q rest (a.put op.dst undef) w') : wpList Try.prog ops Q (op :: rest) a w := by
  obtain ⟨w', h1, h2, h3⟩ := bk_lay h off d (by omega)
  have hst : (storeVar 25 ⟨b, off, none⟩ (.agg (u8s d))).run Try.prog w = .ok () w' := by
    have hi := infoDs
    cases hq : Try.prog.info? 25 with
    | none => rw [hq] at hi; cases hi
    | some i =>
      have hs : i.size = 32 := by simpa [hq] using hi
      simp [storeVar, sizeOf, typeInfo, hq, hs, Value.cells, u8s_size, hl, h1]
  refine wpList_plain hgd fun K' hK => ?_
  unfold Oper.wp execOp
  simp only [ho, hx, hy, Instr.storeAt, Instr.sureAddr, Sem.run_bind, Sem.run_pure, Result.andThen_ok, hst]
  exact hK _ _ (K _ h2 h3)
theorem seg_load {w : World} {a : Addr} {n : Nat} {xs : List Int} (h : Seg .u8 w (some a) n xs) (m : Nat) (hm : m ≤ n) : (loadCells a m).run Try.prog w = .ok (u8s (xs.take m)) w := by
  have h1 := run_loadCells_list (P := Try.prog) w a ((xs.take m).map (Value.int .u8)) (fun j v hj => by
    rcases h.2 with h0 | ⟨b, off, ha, _, hc⟩
    · have e : xs.take m = [] := by rw [show m = 0 by omega]; rfl
      rw [e] at hj; simp at hj
    · cases ha
      have hj' : j < m ∧ j < xs.length := by
        have := (List.getElem?_eq_some_iff.1 hj).1
        simp at this; omega
      have h2 := h.1
      rw [show (⟨b, off, none⟩ : Addr).add j = ⟨b, off + j, none⟩ from by unfold Addr.add; split <;> simp_all, hc j (by omega)]
      simp [hj'.1] at hj
      simpa [hj'.2] using hj)
  have h2 : ((xs.take m).map (Value.int .u8)).length = m := by have := h.1; simp; omega
  rw [h2] at h1
  exact h1
theorem run_copy_dg (w : World) (ty : TypeId) (T : TypeId) (g off dLen dCap : Nat) (dp sp : Option Addr) (sLen sCap : Nat) (cur ps : List Int) (hg : Bk T w g (u8s cur)) (hs : Seg .u8 w sp (32 * sLen) ps)
    (hdp : 0 < Nat.min sLen dLen → dp = some ⟨g, off, none⟩) (hfit : off + 32 * Nat.min sLen dLen ≤ cur.length) :
    ∃ w', (Builtin.copy_ #[37, 37] ty #[.slice dp dLen dCap, .slice sp sLen sCap]).run Try.prog w = .ok (goInt (Nat.min sLen dLen)) w' ∧ Bk T w' g (u8s (lay cur off (ps.take (32 * Nat.min sLen dLen)))) ∧ w.grownBy w' (some g) := by
  have hi := infoDs
  have hml : Nat.min sLen dLen ≤ sLen := Nat.min_le_left _ _
  obtain ⟨n, hn⟩ : ∃ n, n = Nat.min sLen dLen := ⟨_, rfl⟩
  rw [← hn] at hdp hfit hml ⊢
  have hu : Try.prog.underlying 37 = some (.slice 25) := by kernel_rfl
  cases hq : Try.prog.info? 25 with
  | none => rw [hq] at hi; cases hi
  | some i =>
    have hsz : i.size = 32 := by simpa [hq] using hi
    by_cases h0 : n = 0
    · subst h0
      refine ⟨w, ?_, by rw [Nat.mul_zero, List.take_zero, lay_none]; exact hg, World.grownBy.refl _ _⟩
      cases dp <;> cases sp <;> simp [Builtin.copy_, run_underlying hu, Builtin.lenOf, Builtin.firstCells, sizeOf, typeInfo, hq, ← hn, loadCells, loadCellsFrom, storeCells]
    · rw [hdp (by omega)]
      have hsl : 32 * sLen ≠ 0 := by omega
      obtain ⟨b, o, rfl, _⟩ := hs.2.resolve_left hsl
      have hl := seg_load hs (n * 32) (by omega)
      have hpl := hs.1
      obtain ⟨w', h1, h2, h3⟩ := bk_lay hg off (ps.take (32 * n)) (by simp; omega)
      refine ⟨w', ?_, h2, h3⟩
      rw [Nat.mul_comm 32 n] at h1
      simp [Builtin.copy_, run_underlying hu, Builtin.lenOf, Builtin.firstCells, sizeOf, typeInfo, hq, hsz, ← hn, hl, h1]
theorem wpList_copy_dg {ops : Array Oper} {rest : List Oper} {o : Oper} {a : Act} {w : World} {Q : Exit → Act → World → Prop} (hgd : o.guard = none) (d s : Operand)
    (ho : o.op = .call { callee := .builtin .copy, args := #[d, s], argTypes := #[37, 37] })
    (T : TypeId) (g off dLen dCap : Nat) (dp sp : Option Addr) (sLen sCap : Nat) (hd : a.eval d = .slice dp dLen dCap) (hs' : a.eval s = .slice sp sLen sCap) (cur ps : List Int) (hg : Bk T w g (u8s cur)) (hs : Seg .u8 w sp (32 * sLen) ps)
    (hdp : 0 < Nat.min sLen dLen → dp = some ⟨g, off, none⟩) (hfit : off + 32 * Nat.min sLen dLen ≤ cur.length)
    (K : ∀ w', Bk T w' g (u8s (lay cur off (ps.take (32 * Nat.min sLen dLen)))) → w.grownBy w' (some g) → wpList Try.prog ops Q rest (a.put o.dst (goInt (Nat.min sLen dLen))) w') : wpList Try.prog ops Q (o :: rest) a w := by
  obtain ⟨w', h1, h2, h3⟩ := run_copy_dg w o.type T g off dLen dCap dp sp sLen sCap cur ps hg hs hdp hfit
  refine wpList_plain hgd fun K' hK => ?_
  unfold Oper.wp
  simp [execOp, ho, resolve, invoke, builtin, hd, hs', h1, Result.andThen]
  exact hK _ _ (K _ h2 h3)
theorem step_copy_dg {ops : Array Oper} {o : Oper} {a : Act} {w : World} {K : Act → World → Prop} {Q : Exit → Act → World → Prop} {E : Prop} (hgd : o.guard = none) (d s : Operand)
    (ho : o.op = .call { callee := .builtin .copy, args := #[d, s], argTypes := #[37, 37] })
    (T : TypeId) (g off dLen dCap : Nat) (dp sp : Option Addr) (sLen sCap : Nat) (hd : a.eval d = .slice dp dLen dCap) (hs' : a.eval s = .slice sp sLen sCap) (cur ps : List Int) (hg : Bk T w g (u8s cur)) (hs : Seg .u8 w sp (32 * sLen) ps)
    (hdp : 0 < Nat.min sLen dLen → dp = some ⟨g, off, none⟩) (hfit : off + 32 * Nat.min sLen dLen ≤ cur.length)
    (h : ∀ w', Bk T w' g (u8s (lay cur off (ps.take (32 * Nat.min sLen dLen)))) → w.grownBy w' (some g) → K (a.put o.dst (goInt (Nat.min sLen dLen))) w') :
    if Region.wanted o (yielded ops a.tmps) = true then Oper.wp Try.prog o a w K Q else E := by
  have hw : Region.wanted o (yielded ops a.tmps) = true := by simp [Region.wanted, hgd]
  rw [if_pos hw]
  obtain ⟨w', h1, h2, h3⟩ := run_copy_dg w o.type T g off dLen dCap dp sp sLen sCap cur ps hg hs hdp hfit
  unfold Oper.wp
  simp [execOp, ho, resolve, invoke, builtin, hd, hs', h1, Result.andThen]
  exact h _ h2 h3
end Go.Proofs.Ythbnbomdngecmaa
