/-
  What the Writer's lay comes to.
-/
import Derived.Test.YtekefbbjocekiaaWr
import Derived.Deep.RegionLaw
import Derived.Deep.RegionHeld3
namespace Go.Proofs.Ytekefbbjocekiaa
open Go.RowKit
set_option linter.unusedVariables false

theorem part_type : Try.prog.underlying 68 = some (.array 256 5) := by kernel_rfl
theorem slice_from (g u : Nat) (hu : u ≤ 256) (W : World) : Sem.run Try.prog (Instr.sliceAt 68 (.pointer (some ⟨g, 2, none⟩)) (some (.int .i64 (u : Int))) none none) W = .ok (.slice (if 256 = u then some ⟨g, 2, none⟩ else some ⟨g, 2 + u, none⟩) (256 - u) (256 - u)) W := by
  obtain ⟨i0, hi, hz0, hz1, hz2⟩ := info_parts Try.infoU8
  have hal : Try.prog.arrayLen 68 = 256 := by simp [Program.arrayLen]
  have hel : Try.prog.elem 68 = 5 := by simp [Program.elem]
  rw [run_sliceAt_array_l W 68 ⟨g, 2, none⟩ (by rw [hal, hel]; exact part_type) .i64 u (by omega) (by rw [hal]; omega)]
  rw [hal, hel]
  by_cases h : 256 = u
  · subst h; simp [sizeOf, typeInfo, hi, slicedAt]
  · simp [sizeOf, typeInfo, hi, slicedAt, hz1, h, Go.WideShapes.add_plain]
theorem slice_to (g u : Nat) (hu : u ≤ 256) (W : World) : Sem.run Try.prog (Instr.sliceAt 68 (.pointer (some ⟨g, 2, none⟩)) none (some (.int .i64 (u : Int))) none) W = .ok (.slice (some ⟨g, 2, none⟩) u 256) W := by
  obtain ⟨i0, hi, hz0, hz1, hz2⟩ := info_parts Try.infoU8
  have hal : Try.prog.arrayLen 68 = 256 := by simp [Program.arrayLen]
  have hel : Try.prog.elem 68 = 5 := by simp [Program.elem]
  rw [run_sliceAt_array_h W 68 ⟨g, 2, none⟩ (by rw [hal, hel]; exact part_type) .i64 u (by omega) (by rw [hal]; omega)]
  rw [hal, hel]
  simp [sizeOf, typeInfo, hi, slicedAt, Go.WideShapes.add_plain]

set_option maxRecDepth 20000 in
set_option maxHeartbeats 2000000 in
theorem lay_part (g u n : Nat) (e : Int) (d : Value) (a : Option Addr) (len cap : Nat) (ps xs : List Int) (w : World) (hw : Wr w g e d ps u n) (hx : Seg .u8 w a len xs) (ho : Off a g) (hl : n + len ≤ 140737488355328) (hle : u + len ≤ 256) :
    Calls Try.prog 56 #[.pointer (some ⟨g, 0, none⟩), .slice a len cap] w fun r w' => r = .returned (.tuple #[]) ∧ Wr w' g e d (splice ps u xs) ((u + len : Nat) : Int) ((n + len : Nat) : Int) ∧ w.grownBy w' (some g) := by
  have h0 := hw.cU
  have h1 := hw.cN
  have hf := hw.free 259
  have HW : Hid (Wr (w.setCell ⟨g, 259, none⟩ (.int .i64 ((n : Int) + (len : Int)))) g e d ps u ((n : Int) + (len : Int))) := hw.setN _
  have HG : Hid (w.grownBy (w.setCell ⟨g, 259, none⟩ (.int .i64 ((n : Int) + (len : Int)))) (some g)) := grownBy_cell _ _ _ _
  have HS : Hid (Seg .u8 (w.setCell ⟨g, 259, none⟩ (.int .i64 ((n : Int) + (len : Int)))) a len xs) := hx.grew HG (fun k hk => by cases hk; exact ho)
  clear hw hx ho
  go_enter Try.func56, Try.ntmps56
  go_wp2_with fail
  generalize hW1 : w.setCell ⟨g, 259, none⟩ (.int .i64 ((n : Int) + (len : Int))) = w1 at HW HG HS ⊢
  have k0 := HW.out.cU
  have kf := HW.out.free 258
  clear hW1 h0 h1 hf
  have hu : u ≤ 256 := by omega
  obtain ⟨dp, hdp, HD⟩ : ∃ dp, (if 256 = u then some (⟨g, 2, none⟩ : Addr) else some ⟨g, 2 + u, none⟩) = dp ∧ Hid (0 < len → dp = some ⟨g, 2 + u, none⟩) := ⟨_, rfl, fun h => by rw [if_neg (by omega)]⟩
  have hsl := slice_from g u hu
  rw [hdp] at hsl
  go_region_law (refine step_lay rfl (.tmp 32) (.tmp 33) rfl dp a (256 - u) (256 - u) len cap rfl rfl g u e d ps xs _ _ HW.out HS.out hle rfl HD.out ?_; intro w2 hw2 hg2; have j0 := hw2.cU; have jf := hw2.free 258; replace hw2 : Hid _ := hw2; replace hg2 : Hid _ := hg2)
  all_goals go_wp2
  all_goals first | (simp only [Exit.inBlock, Exit.then]; refine bodyPost_ret (results_none rfl _ _ _) rfl ?_) | refine bodyPost_ret (results_none rfl _ _ _) rfl ?_
  all_goals
    have hwr : IntKind.i64.wrap ((u : Int) + (len : Int)) = ((u + len : Nat) : Int) := by rw [IntKind.wrap_i64]; omega
    rw [hwr, Int.natCast_add n len]
    exact ⟨rfl, Wr.setU hw2.out _, gb_trans HG.out (gb_trans (gb_trans (gb_drewN (World.grownBy.refl _ _) 1) hg2.out) (grownBy_cell _ _ _ _))⟩

theorem block_end {w w1 w2 : World} {g : Nat} {e : Int} {d : Option Addr} {ps : List Int} {u N : Int} {v : Value} {m : Nat} {zs : List Int} (HG : w.grownBy w1 (some g)) (h1 : Own w1.heap.size w2 v m zs) (h2 : Wr w2 g e (.pointer d) ps u N) (h3 : Gr (fun _ => False) w1 w2) (kl : g < w1.heap.size) :
    Wr ((w2.setCell ⟨g, 1, none⟩ (.pointer (some ⟨w2.heap.size, 0, none⟩))).alloc (.cells #[.pointer d, v] 82)) g e (.pointer (some ⟨w2.heap.size, 0, none⟩)) ps u N ∧
    Bk 82 ((w2.setCell ⟨g, 1, none⟩ (.pointer (some ⟨w2.heap.size, 0, none⟩))).alloc (.cells #[.pointer d, v] 82)) w2.heap.size #[.pointer d, v] ∧
    Own w.heap.size ((w2.setCell ⟨g, 1, none⟩ (.pointer (some ⟨w2.heap.size, 0, none⟩))).alloc (.cells #[.pointer d, v] 82)) v m zs ∧
    Gr (fun k => k = g) w ((w2.setCell ⟨g, 1, none⟩ (.pointer (some ⟨w2.heap.size, 0, none⟩))).alloc (.cells #[.pointer d, v] 82)) ∧ w.heap.size ≤ w2.heap.size ∧ g < w2.heap.size := by
  generalize hw3 : w2.setCell ⟨g, 1, none⟩ (.pointer (some ⟨w2.heap.size, 0, none⟩)) = w3
  have hg3 : w2.grownBy w3 (some g) := by rw [← hw3]; exact grownBy_cell _ _ _ _
  have hs3 : w3.heap.size = w2.heap.size := by rw [← hw3]; simp [World.setCell]
  have h4 : Wr w3 g e (.pointer (some ⟨w2.heap.size, 0, none⟩)) ps u N := by rw [← hw3]; exact h2.setD _
  have hga : Gr (fun _ => False) w3 (w3.alloc (.cells #[.pointer d, v] 82)) := Gr.alloc (Gr.refl _ _) _
  have hwg : Gr (fun k => k = g) w w3 := (Gr.of HG (fun k hk => by cases hk; exact .inl rfl)).trans ((h3.wide (fun _ _ h => h.elim)).trans (Gr.of hg3 (fun k hk => by cases hk; exact .inl rfl)))
  have hs1 := HG.size
  have hs2 := h3.size
  refine ⟨h4.gr hga (fun h => h), ?_, ?_, hwg.trans (hga.wide (fun _ _ h => h.elim)), by omega, by omega⟩
  · rw [← hs3]; exact heap_new w3 _
  · refine ⟨h1.1, ?_⟩
    rcases h1.2 with h0 | ⟨b, cap, cur, rfl, hB, hb, r⟩
    · exact .inl h0
    · refine .inr ⟨b, cap, cur, rfl, by omega, ?_, r⟩
      have hlt := lt_of_block hb
      exact (hga.block b (by omega) (fun h => h)).trans ((hg3.block b hlt (fun e => by cases e; omega)).trans hb)

set_option maxRecDepth 20000 in
set_option maxHeartbeats 2000000 in
theorem lay_block (g u n : Nat) (e : Int) (d : Option Addr) (a : Option Addr) (len cap : Nat) (ps xs : List Int) (w : World) (hw : Wr w g e (.pointer d) ps u n) (hx : Seg .u8 w a len xs) (ho : Off a g) (ha : a = none → cap = 0) (hu : u ≤ 256) (hl : n + len ≤ 140737488355328) (hul : u + len ≤ 140737488355328) (hgt : 256 < u + len) :
    Calls Try.prog 56 #[.pointer (some ⟨g, 0, none⟩), .slice a len cap] w fun r w' => r = .returned (.tuple #[]) ∧ ∃ b v, Wr w' g e (.pointer (some ⟨b, 0, none⟩)) ps 0 ((n + len : Nat) : Int) ∧ w.heap.size ≤ b ∧ Bk 82 w' b #[.pointer d, v] ∧ Own w.heap.size w' v (u + len) (ps.take u ++ xs) ∧ Gr (fun k => k = g) w w' := by
  have hgw : Hid (g < w.heap.size) := hw.lt
  have h0 := hw.cU
  have h1 := hw.cN
  have hf := hw.free 259
  have HW : Hid (Wr (w.setCell ⟨g, 259, none⟩ (.int .i64 ((n : Int) + (len : Int)))) g e (.pointer d) ps u ((n : Int) + (len : Int))) := hw.setN _
  have HG : Hid (w.grownBy (w.setCell ⟨g, 259, none⟩ (.int .i64 ((n : Int) + (len : Int)))) (some g)) := grownBy_cell _ _ _ _
  have HS : Hid (Seg .u8 (w.setCell ⟨g, 259, none⟩ (.int .i64 ((n : Int) + (len : Int)))) a len xs) := hx.grew HG (fun k hk => by cases hk; exact ho)
  have HA : Hid (a = none → cap = 0) := ha
  have hno : ¬ ((u : Int) + (len : Int) ≤ 256) := by omega
  clear hw hx ho ha
  go_enter Try.func56, Try.ntmps56
  go_wp2_with fail
  generalize hW1 : w.setCell ⟨g, 259, none⟩ (.int .i64 ((n : Int) + (len : Int))) = w1 at HW HG HS ⊢
  have k0 := HW.out.cU
  have kf := HW.out.free 258
  have k1 := HW.out.c1
  have kf1 := HW.out.free 1
  clear hW1 h0 h1 hf
  have hsl := slice_to g u hu
  have HC : Hid (Calls Try.prog 58 #[.slice (some ⟨w1.heap.size, 0, none⟩) 2 2] (w1.alloc (Obj.cells #[.slice (some ⟨g, 2, none⟩) u 256, .slice a len cap] 49)).drew fun r w' => ∃ va vn vc, r = .returned (.slice va vn vc) ∧ Hid (Own w1.heap.size w' (.slice va vn vc) (u + len) (ps.take u ++ xs) ∧ Wr w' g e (.pointer d) ps u ((n : Int) + (len : Int)) ∧ Gr (fun _ => False) w1 w')) := by
    generalize hW2 : (w1.alloc (Obj.cells #[.slice (some ⟨g, 2, none⟩) u 256, .slice a len cap] 49)).drew = w2
    have hb2 : w2.heap[w1.heap.size]? = some (Obj.cells #[.slice (some ⟨g, 2, none⟩) u 256, .slice a len cap] 49 (0, 0)) := by rw [← hW2]; exact heap_new w1 _
    have hg2 : Gr (fun _ => False) w1 w2 := by rw [← hW2]; exact (Gr.alloc (Gr.refl _ _) _).drewN 1
    have hsz2 : w2.heap.size = w1.heap.size + 1 := by rw [← hW2]; show (w1.heap.push _).size = _; simp
    have := cat_c w1.heap.size u 256 len cap (some ⟨g, 2, none⟩) a (ps.take u) xs w2 (by rw [cell_of_row w2 _ 0 _ _ _ hb2]; rfl) (by rw [cell_of_row w2 _ 1 _ _ _ hb2]; rfl) (by omega) (fun h => by cases h) HA.out ((HW.out.part u hu).gr hg2 (fun _ h => h.elim)) (HS.out.gr hg2 (fun _ h => h.elim)) hul
    refine Calls.mono this ?_
    rintro r w' ⟨v, rfl, h1, h2⟩
    have hg3 : Gr (fun _ => False) w1 w' := hg2.trans ⟨h2.os, h2.tape, h2.output, h2.size, fun k hk _ => h2.block k hk⟩
    obtain ⟨va, vc, rfl, _⟩ := h1.seg
    exact ⟨va, _, vc, rfl, h1.base (by omega), HW.out.gr hg3 (fun h => h), hg3⟩
  have kA := fun o => (HW.out.gr (Gr.alloc (Gr.refl (fun _ => False) _) o) (fun h => h)).c1
  have kl := HW.out.lt
  go_region_with (go_at_call 58; refine (Calls.mono HC.out ?_); rintro _ w2 ⟨va, vn, vc, rfl, H2⟩; have j1 := H2.out.2.1.c1; have jf1 := H2.out.2.1.free 1; have jl := H2.out.2.1.lt; have ja := fun o => (H2.out.2.1.gr (Gr.alloc (Gr.refl (fun _ => False) _) o) (fun h => h)).c1; have jb := fun o => (H2.out.2.1.gr (Gr.alloc (Gr.refl (fun _ => False) _) o) (fun h => h)).free 1)
  all_goals
    clear kA ja jb
    have hE := block_end HG.out H2.out.1 H2.out.2.1 H2.out.2.2 kl
    generalize hB : w2.heap.size = b at hE ⊢
    generalize hW3 : (w2.setCell ⟨g, 1, none⟩ (.pointer (some ⟨b, 0, none⟩))).alloc (.cells #[.pointer d, .slice va vn vc] 82) = w3 at hE ⊢
    have q0 := hE.1.cU
    have qf := hE.1.free 258
    replace hE : Hid _ := hE
    clear hW3 hB HC H2 j1 jf1 jl k0 k1 kf kf1 kl hsl HW HG HS
    go_wp2
    go_end0
    refine ⟨rfl, b, .slice va vn vc, by rw [Int.natCast_add n len]; exact hE.out.1.setU 0, hE.out.2.2.2.2.1, ?_, ?_, ?_⟩
    · exact hE.out.2.1.grew (grownBy_cell w3 g 258 _) (fun e => by have := hE.out.2.2.2.2.2; cases e; omega)
    · exact hE.out.2.2.1.grown (grownBy_cell w3 g 258 _) (fun k hk e => by have := (hE.out.2.2.1.lo k hk).1; have := hgw.out; cases e; omega)
    · exact hE.out.2.2.2.1.trans (Gr.of (grownBy_cell w3 g 258 _) (fun k hk => by cases hk; exact .inl rfl))
end Go.Proofs.Ytekefbbjocekiaa
