/-
  What disk's do does with a create, on a disk without files. No condition of its own.
-/
import Derived.Test.YtadnececnaciiaaKNa
import Derived.Test.YtadnececnaciiaaRLs
import Derived.Test.YtadnececnaciiaaTSs
import Derived.Deep.AppendLies
namespace Go.Proofs.Ytadnececnaciiaa
open Go.RowKit
set_option linter.unusedVariables false

theorem infoStep : (Try.prog.info? 112).map (fun i => (i.zero, i.size, i.bytes)) = some (some .nilIface, 1, 16) := by kernel_rfl
theorem count_c (w : World) : Calls Try.prog 120 #[.agg #[]] w fun r w' => r = .returned (.int .i64 1) ∧ w.grownBy w' none := by
  go_enter Try.func120, Try.ntmps120
  go_wp2
  go_ret
  exact ⟨rfl, World.grownBy_alloc _ _ _⟩
theorem upd_map0 (w : World) (b : Nat) (s : ByteArray) (h : Mp0 w b) : ∃ w', (Instr.mapUpdate 49 (.map (some b)) (.string s) (.slice none 0 0)).run Try.prog w = .ok () w' ∧ w.grownBy w' (some b) := by
  obtain ⟨c, h⟩ := h
  have hk : (Instr.checkKey false 10000 9 (.string s)).run Try.prog w = .ok () w := MapKept.run_checkKey Try.underlying9 (by simp [MapKept.IsKey]) false 9999
  have hf : (Instr.findKey 9 (.string s) []).run Try.prog w = .ok none w := MapKept.run_findKey Try.underlying9 (by simp [Instr.findNow])
  have hs : (setObj b (.map (#[].push { key := .string s, val := .slice none 0 0, born := c }) (c + 1))).run Try.prog w = .ok () { w with heap := w.heap.setIfInBounds b (.map (#[].push { key := .string s, val := .slice none 0 0, born := c }) (c + 1)) } := by
    simp only [setObj, Sem.run, h]
  refine ⟨{ w with heap := w.heap.setIfInBounds b (.map (#[].push { key := .string s, val := .slice none 0 0, born := c }) (c + 1)) }, ?_, ?_⟩
  · simp [Instr.mapUpdate, run_underlying Try.underlying49, MapKept.run_getObj_map h, hk, hf] at hs ⊢
    exact hs
  · refine ⟨rfl, rfl, rfl, by simp, fun i hi hn => ?_⟩
    have hne : b ≠ i := fun e => hn (by rw [e])
    simp [hne]
set_option maxRecDepth 20000 in
theorem fdo_c (b : Nat) (s : ByteArray) (k : Int) (w : World) (h : Mp0 w b) : Calls Try.prog 70 #[.map (some b), .iface 87 (.agg #[.string s]), .int .i64 k] w fun r w' => r = .returned (.tuple #[]) ∧ w.grownBy w' (some b) := by
  have HU : Hid (∀ W, w.grownBy W none → ∃ w', (Instr.mapUpdate 49 (.map (some b)) (.string s) (.slice none 0 0)).run Try.prog W = .ok () w' ∧ W.grownBy w' (some b)) := fun W hg => upd_map0 W b s (h.grew hg)
  obtain ⟨W1, hW1⟩ : ∃ W1, W1 = w.alloc (.cells #[.string s] 87) := ⟨_, rfl⟩
  obtain ⟨w', hu, hg⟩ := HU.out W1 (by rw [hW1]; exact World.grownBy_alloc _ _ _)
  have HG : Hid (w.grownBy w' (some b)) := gbK_trans (by rw [hW1]; exact World.grownBy_alloc _ _ _) hg
  rw [hW1] at hu
  have hta : ∀ W, (Instr.typeAssert (.iface 87 (.agg #[.string s])) 112 87 true).run Try.prog W = .ok (.tuple #[.agg #[.string s], .bool true]) W := fun W => by kernel_rfl
  clear hg hW1 h HU
  go_enter Try.func70, Try.ntmps70
  go_wp2
  go_end0
  exact ⟨rfl, HG.out⟩
set_option maxRecDepth 20000 in
set_option maxHeartbeats 1000000 in
theorem do_c (B g b l : Nat) (s : ByteArray) (room free need pend acts : Int) (w : World) (h : Bk 52 w g (dcells room free (some b) (some l) (.slice none 0 0) pend acts 0 false)) (hm : Mp0 w b) (hn : b ≠ g) (hf : 0 ≤ need ∧ need ≤ 60 ∧ 0 ≤ free ∧ free ≤ 67108864) (hp : 0 ≤ pend ∧ pend ≤ 1000) (hB : B ≤ g ∧ B ≤ b ∧ B ≤ w.heap.size) :
    Calls Try.prog 41 #[.pointer (some ⟨g, 0, none⟩), .iface 87 (.agg #[.string s]), .int .i64 need] w fun r w' => r = .returned (.tuple #[]) ∧ Below B w w' ∧ ∃ st, Bk 52 w' g (dcells room (free - need) (some b) (some l) st (pend + 1) acts 0 false) := by
  have HD : Hid (Bk 52 w g (dcells room free (some b) (some l) (.slice none 0 0) pend acts 0 false)) := h
  have HM : Hid (Mp0 w b) := hm
  have HBB : Hid (B ≤ g ∧ B ≤ b ∧ B ≤ w.heap.size) := hB
  have HN : Hid (b ≠ g) := hn
  have HK2 : Hid (∀ W, w.grownBy W none → W.cell? ⟨g, 2, none⟩ = some (.map (some b))) := fun W hg => Bk.cell (h.grew hg (by simp)) 2
  have hw1 : wrap64 (free - need) = free - need := IntWalk.wrap64_in _ ⟨by omega, by omega⟩
  have hw2 : IntKind.i64.wrap (free - need) = free - need := IntWalk.i64_in _ ⟨by omega, by omega⟩
  have hw3 : wrap64 (pend + 1) = pend + 1 := IntWalk.wrap64_in _ ⟨by omega, by omega⟩
  have hw4 : IntKind.i64.wrap (pend + 1) = pend + 1 := IntWalk.i64_in _ ⟨by omega, by omega⟩
  have HW : Hid (wrap64 (pend + 1) = pend + 1 ∧ IntKind.i64.wrap (pend + 1) = pend + 1) := ⟨hw3, hw4⟩
  clear h hm hn hf hp hw3 hw4 hB
  go_enter Try.func41, Try.ntmps41
  go_wp2_with fail
  refine wp_region_last 7 rfl (by kernel_rfl) [6, 7, 8, 9, 10, 11, 12, 13] [[], [0], [1], [2], [], [], [5], [3, 4, 6]] (by kernel_rfl) (by kernel_rfl) [fun u W => u = .pointer (some ⟨g, 0, none⟩), fun u W => u = .pointer (some ⟨g, 0, none⟩), fun u W => u = .pointer (some ⟨g, 2, none⟩), fun u W => u = .map (some b), fun u W => u = .iface 87 (.agg #[.string s]), fun u W => u = .iface 87 (.agg #[.string s]), fun u W => u = .int .i64 1] ?stable ?step ?last
  case stable =>
    intro i v W W' h hg
    match i, h with
    | 0, h => exact h
    | 1, h => exact h
    | 2, h => exact h
    | 3, h => exact h
    | 4, h => exact h
    | 5, h => exact h
    | 6, h => exact h
    | i + 7, h => exact trivial
  case step =>
    intro f W A hA hg i o hin ho hu K hK
    match i, hin, ho, hu, hK with
    | 0, hin, ho, hu, hK =>
      cases ho
      have e0 : A.eval (.tmp 0) = .pointer (some ⟨g, 0, none⟩) := ev_out hA 0 rfl
      exact ph_move _ rfl rfl (.pointer (some ⟨g, 0, none⟩)) e0 (hK _ _ (gb_rr W _) rfl)
    | 1, hin, ho, hu, hK =>
      cases ho
      have e6 : A.eval (.tmp 6) = .pointer (some ⟨g, 0, none⟩) := (ev_in hA 6 0 rfl rfl rfl).trans (show f 0 = .pointer (some ⟨g, 0, none⟩) from hu 0 (by decide))
      exact ph_nil _ rfl rfl _ e6 (hK _ _ (gb_rr W _) rfl)
    | 2, hin, ho, hu, hK =>
      cases ho
      have e7 : A.eval (.tmp 7) = .pointer (some ⟨g, 0, none⟩) := (ev_in hA 7 1 rfl rfl rfl).trans (show f 1 = .pointer (some ⟨g, 0, none⟩) from hu 1 (by decide))
      exact ph_field _ _ _ rfl rfl _ (.pointer (some ⟨g, 2, none⟩)) e7 (by kernel_rfl) (hK _ _ (gb_rr W _) rfl)
    | 3, hin, ho, hu, hK =>
      cases ho
      have e8 : A.eval (.tmp 8) = .pointer (some ⟨g, 2, none⟩) := (ev_in hA 8 2 rfl rfl rfl).trans (show f 2 = .pointer (some ⟨g, 2, none⟩) from hu 2 (by decide))
      have hc : W.cell? ⟨g, 2, none⟩ = some (.map (some b)) := HK2.out W hg
      refine ph_sem rfl rfl (r := .ok (.value (.map (some b))) W) ?_ (hK _ _ (gb_rr W _) rfl)
      have eC : ∀ c, A.eval (.const c) = c := fun _ => rfl; have eF : ∀ g, A.eval (.func g) = .func (.func g) #[] #[] := fun _ => rfl; generalize A.eval = ρ at *
      clear hA hu hg
      go_simp
    | 4, hin, ho, hu, hK =>
      cases ho
      have e1 : A.eval (.tmp 1) = .iface 87 (.agg #[.string s]) := ev_out hA 1 rfl
      exact ph_move _ rfl rfl (.iface 87 (.agg #[.string s])) e1 (hK _ _ (gb_rr W _) rfl)
    | 5, hin, ho, hu, hK =>
      cases ho
      have e1 : A.eval (.tmp 1) = .iface 87 (.agg #[.string s]) := ev_out hA 1 rfl
      exact ph_move _ rfl rfl (.iface 87 (.agg #[.string s])) e1 (hK _ _ (gb_rr W _) rfl)
    | 6, hin, ho, hu, hK =>
      cases ho
      have e11 : A.eval (.tmp 11) = .iface 87 (.agg #[.string s]) := (ev_in hA 11 5 rfl rfl rfl).trans (show f 5 = .iface 87 (.agg #[.string s]) from hu 5 (by decide))
      refine ph_inv _ _ _ rfl rfl (.iface 87 (.agg #[.string s])) (e11) 120 #[.agg #[]] (by kernel_rfl) ?_
      refine (Calls.mono (count_c W) ?_)
      rintro e W' ⟨rfl, hq⟩
      exact ⟨_, rfl, hK _ _ hq rfl⟩
    | i + 7, hin, ho, hu, hK => omega
  case last =>
    intro f W A hA hg hu o ho K hK
    cases ho
    have e9 : A.eval (.tmp 9) = .map (some b) := (ev_in hA 9 3 rfl rfl rfl).trans (show f 3 = .map (some b) from hu 3 (by decide))
    have e10 : A.eval (.tmp 10) = .iface 87 (.agg #[.string s]) := (ev_in hA 10 4 rfl rfl rfl).trans (show f 4 = .iface 87 (.agg #[.string s]) from hu 4 (by decide))
    have e12 : A.eval (.tmp 12) = .int .i64 1 := (ev_in hA 12 6 rfl rfl rfl).trans (show f 6 = .int .i64 1 from hu 6 (by decide))
    refine ph_fn 70 _ _ rfl rfl #[.map (some b), .iface 87 (.agg #[.string s]), .int .i64 1] (by simp [e9, e10, e12]) (by kernel_rfl) ?_
    refine (Calls.mono (fdo_c b s 1 W (HM.out.grew hg)) ?_)
    rintro _ x1 ⟨rfl, h9⟩
    refine ⟨_, rfl, hK _ _ ?_⟩
    have A1 : Hid (Bk 52 x1 g (dcells room free (some b) (some l) (.slice none 0 0) pend acts 0 false)) := (HD.out.grew hg (by simp)).grew h9 (fun e => HN.out (Option.some.inj e))
    have B1 : Hid (Below B w x1 ∧ B ≤ x1.heap.size) := ⟨((Below.refl B w).grown hg HBB.out.2.2 (fun k e => by cases e)).grown h9 (Nat.le_trans HBB.out.2.2 hg.size) (fun k e => by cases e; exact HBB.out.2.1), Nat.le_trans HBB.out.2.2 (Nat.le_trans hg.size h9.size)⟩
    have c1 : x1.cell? ⟨g, 1, none⟩ = some (.int .i64 free) := Bk.cell A1.out 1
    have f1 : x1.frozen? ⟨g, 1, none⟩ = false := frozen_of_row x1 g 1 _ _ A1.out
    clear h9 hg e9 e10 e12
    have hA2 := hA.trans (putAll_lit [(.pointer (some ⟨g, 0, none⟩)), (.pointer (some ⟨g, 0, none⟩)), (.pointer (some ⟨g, 2, none⟩)), (.map (some b)), (.iface 87 (.agg #[.string s])), (.iface 87 (.agg #[.string s])), (.int .i64 1), (f 7)] (by
      intro j hj
      match j, hj with
      | 0, _ => exact hu 0 (by decide)
      | 1, _ => exact hu 1 (by decide)
      | 2, _ => exact hu 2 (by decide)
      | 3, _ => exact hu 3 (by decide)
      | 4, _ => exact hu 4 (by decide)
      | 5, _ => exact hu 5 (by decide)
      | 6, _ => exact hu 6 (by decide)
      | 7, _ => rfl
      | j + 8, hj => exact absurd hj (by simp)))
    clear hu hA
    subst hA2
    simp only [putAll, putL, List.mem_cons, List.not_mem_nil, List.idxOf_cons, Nat.reduceEqDiff, Nat.reduceBEq, Nat.reduceAdd, or_false, or_true, reduceIte, cond_true, cond_false, List.getD_cons_zero, List.getD_cons_succ, BEq.rfl]
    have A2 : Hid (Bk 52 (x1.setCell ⟨g, 1, none⟩ (.int .i64 (free - need))) g (dcells room (free - need) (some b) (some l) (.slice none 0 0) pend acts 0 false)) := bk_setK A1.out 1 _
    have B2 : Hid (Below B w (x1.setCell ⟨g, 1, none⟩ (.int .i64 (free - need)))) := B1.out.1.setCell (p := ⟨g, 1, none⟩) HBB.out.1 _
    have c4 : ∀ o, ((x1.setCell ⟨g, 1, none⟩ (.int .i64 (free - need))).alloc o).cell? ⟨g, 4, none⟩ = some (.slice none 0 0) := fun o => Bk.cell (A2.out.grew (World.grownBy_alloc _ _ none) (by simp)) 4
    have c4' : (x1.setCell ⟨g, 1, none⟩ (.int .i64 (free - need))).cell? ⟨g, 4, none⟩ = some (.slice none 0 0) := Bk.cell A2.out 4
    obtain ⟨i0, hi0, hz0, hs0, hb0⟩ := info_parts infoStep
    have hsz2 : (x1.setCell ⟨g, 1, none⟩ (.int .i64 (free - need))).heap.size = x1.heap.size := by simp [World.setCell]
    have HNB : Hid (((x1.setCell ⟨g, 1, none⟩ (.int .i64 (free - need))).alloc (.cells #[.iface 87 (.agg #[.string s])] 112)).heap[x1.heap.size]? = some (.cells #[.iface 87 (.agg #[.string s])] 112)) := by
      have z := heap_new (x1.setCell ⟨g, 1, none⟩ (.int .i64 (free - need))) (.cells #[.iface 87 (.agg #[.string s])] 112)
      rw [hsz2] at z
      exact z
    replace hsz2 : Hid _ := hsz2
    go_wp2_with (at_builtin; go_must (refine wpList_append_lies _ rfl (.tmp 26) (.tmp 28) 50 rfl x1.heap.size 112 i0 .nilIface 1 16 Try.underlying50 hi0 hz0 hs0 hb0 rfl (by decide) (.slice none 0 0) 0 [] rfl ⟨rfl, .inl ⟨rfl, rfl⟩⟩ ⟨x1.heap.size, 0, none⟩ 1 1 [.iface 87 (.agg #[.string s])] rfl rfl (World.news_of_block HNB.out) (by intro u hu; simp at hu; rcases hu with rfl; rfl) (by decide) (by decide) (by decide) (by rw [World.size_alloc, hsz2.out]; omega) _ rfl ?_); intro G C x3 k1 k2 k3 k4; have A3 : Hid (Bk 52 x3 g (dcells room (free - need) (some b) (some l) (.slice none 0 0) pend acts 0 false)) := (A2.out.grew (World.grownBy_alloc _ _ none) (by simp)).grew k2 (by simp [Value.ownBlock]); have d4 : x3.cell? ⟨g, 4, none⟩ = some (.slice none 0 0) := Bk.cell A3.out 4; have g4 : x3.frozen? ⟨g, 4, none⟩ = false := frozen_of_row x3 g 4 _ _ A3.out; have B3 : Hid (Below B w x3 ∧ B ≤ x3.heap.size) := ⟨(B2.out.grown (World.grownBy_alloc _ _ none) (by rw [hsz2.out]; exact B1.out.2) (by simp)).grown k2 (by rw [World.size_alloc, hsz2.out]; have := B1.out.2; omega) (fun k e => by simp [Value.ownBlock] at e), Nat.le_trans (by rw [World.size_alloc, hsz2.out]; have := B1.out.2; omega) k2.size⟩; clear k1 k2 k3 k4)
    generalize hW4 : x3.setCell ⟨g, 4, none⟩ _ = x4
    have A4 : Hid (Bk 52 x4 g (dcells room (free - need) (some b) (some l) (.slice (some ⟨G, 0, none⟩) 1 C) pend acts 0 false)) := by rw [← hW4]; exact bk_setK A3.out 4 _
    have B4 : Hid (Below B w x4 ∧ B ≤ x4.heap.size) := by rw [← hW4]; exact ⟨B3.out.1.setCell (p := ⟨g, 4, none⟩) HBB.out.1 _, by simpa [World.setCell] using B3.out.2⟩
    have HK5 : Hid (∀ W, x4.grownBy W none → W.cell? ⟨g, 5, none⟩ = some (.int .i64 pend)) := fun W hg => Bk.cell (A4.out.grew hg (by simp)) 5
    clear hW4 c4 c4' d4 g4 c1 f1
    refine wp_region_last 9 rfl (by kernel_rfl) [32, 33, 34, 35, 36, 37, 38, 39, 40, 100009] [[], [0], [1], [2], [], [4], [3, 5], [0], [7], [8, 6]] (by kernel_rfl) (by kernel_rfl) [fun u W => u = .pointer (some ⟨g, 0, none⟩), fun u W => u = .pointer (some ⟨g, 0, none⟩), fun u W => u = .pointer (some ⟨g, 5, none⟩), fun u W => u = .int .i64 pend, fun u W => u = .iface 87 (.agg #[.string s]), fun u W => u = .int .i64 1, fun u W => u = .int .i64 (pend + 1), fun u W => u = .pointer (some ⟨g, 0, none⟩), fun u W => u = .pointer (some ⟨g, 5, none⟩)] ?stable ?step ?last
    case stable =>
      intro i v W W' h hg
      match i, h with
      | 0, h => exact h
      | 1, h => exact h
      | 2, h => exact h
      | 3, h => exact h
      | 4, h => exact h
      | 5, h => exact h
      | 6, h => exact h
      | 7, h => exact h
      | 8, h => exact h
      | i + 9, h => exact trivial
    case step =>
      intro f W A hA hg i o hin ho hu K hK
      match i, hin, ho, hu, hK with
      | 0, hin, ho, hu, hK =>
        cases ho
        have e0 : A.eval (.tmp 0) = .pointer (some ⟨g, 0, none⟩) := ev_out hA 0 rfl
        exact ph_move _ rfl rfl (.pointer (some ⟨g, 0, none⟩)) e0 (hK _ _ (gb_rr W _) rfl)
      | 1, hin, ho, hu, hK =>
        cases ho
        have e32 : A.eval (.tmp 32) = .pointer (some ⟨g, 0, none⟩) := (ev_in hA 32 0 rfl rfl rfl).trans (show f 0 = .pointer (some ⟨g, 0, none⟩) from hu 0 (by decide))
        exact ph_nil _ rfl rfl _ e32 (hK _ _ (gb_rr W _) rfl)
      | 2, hin, ho, hu, hK =>
        cases ho
        have e33 : A.eval (.tmp 33) = .pointer (some ⟨g, 0, none⟩) := (ev_in hA 33 1 rfl rfl rfl).trans (show f 1 = .pointer (some ⟨g, 0, none⟩) from hu 1 (by decide))
        exact ph_field _ _ _ rfl rfl _ (.pointer (some ⟨g, 5, none⟩)) e33 (by kernel_rfl) (hK _ _ (gb_rr W _) rfl)
      | 3, hin, ho, hu, hK =>
        cases ho
        have e34 : A.eval (.tmp 34) = .pointer (some ⟨g, 5, none⟩) := (ev_in hA 34 2 rfl rfl rfl).trans (show f 2 = .pointer (some ⟨g, 5, none⟩) from hu 2 (by decide))
        have hc : W.cell? ⟨g, 5, none⟩ = some (.int .i64 pend) := HK5.out W hg
        refine ph_sem rfl rfl (r := .ok (.value (.int .i64 pend)) W) ?_ (hK _ _ (gb_rr W _) rfl)
        have eC : ∀ c, A.eval (.const c) = c := fun _ => rfl; have eF : ∀ g, A.eval (.func g) = .func (.func g) #[] #[] := fun _ => rfl; generalize A.eval = ρ at *
        clear hA hu hg
        go_simp
      | 4, hin, ho, hu, hK =>
        cases ho
        have e1 : A.eval (.tmp 1) = .iface 87 (.agg #[.string s]) := ev_out hA 1 rfl
        exact ph_move _ rfl rfl (.iface 87 (.agg #[.string s])) e1 (hK _ _ (gb_rr W _) rfl)
      | 5, hin, ho, hu, hK =>
        cases ho
        have e36 : A.eval (.tmp 36) = .iface 87 (.agg #[.string s]) := (ev_in hA 36 4 rfl rfl rfl).trans (show f 4 = .iface 87 (.agg #[.string s]) from hu 4 (by decide))
        refine ph_inv _ _ _ rfl rfl (.iface 87 (.agg #[.string s])) (e36) 120 #[.agg #[]] (by kernel_rfl) ?_
        refine (Calls.mono (count_c W) ?_)
        rintro e W' ⟨rfl, hq⟩
        exact ⟨_, rfl, hK _ _ hq rfl⟩
      | 6, hin, ho, hu, hK =>
        cases ho
        have e35 : A.eval (.tmp 35) = .int .i64 pend := (ev_in hA 35 3 rfl rfl rfl).trans (show f 3 = .int .i64 pend from hu 3 (by decide))
        have e37 : A.eval (.tmp 37) = .int .i64 1 := (ev_in hA 37 5 rfl rfl rfl).trans (show f 5 = .int .i64 1 from hu 5 (by decide))
        have hw3 := HW.out.1
        have hw4 := HW.out.2
        refine ph_sem rfl rfl (r := .ok (.value (.int .i64 (pend + 1))) W) ?_ (hK _ _ (gb_rr W _) rfl)
        have eC : ∀ c, A.eval (.const c) = c := fun _ => rfl; have eF : ∀ g, A.eval (.func g) = .func (.func g) #[] #[] := fun _ => rfl; generalize A.eval = ρ at *
        clear hA hu hg hK
        go_simp
      | 7, hin, ho, hu, hK =>
        cases ho
        have e32 : A.eval (.tmp 32) = .pointer (some ⟨g, 0, none⟩) := (ev_in hA 32 0 rfl rfl rfl).trans (show f 0 = .pointer (some ⟨g, 0, none⟩) from hu 0 (by decide))
        exact ph_nil _ rfl rfl _ e32 (hK _ _ (gb_rr W _) rfl)
      | 8, hin, ho, hu, hK =>
        cases ho
        have e39 : A.eval (.tmp 39) = .pointer (some ⟨g, 0, none⟩) := (ev_in hA 39 7 rfl rfl rfl).trans (show f 7 = .pointer (some ⟨g, 0, none⟩) from hu 7 (by decide))
        exact ph_field _ _ _ rfl rfl _ (.pointer (some ⟨g, 5, none⟩)) e39 (by kernel_rfl) (hK _ _ (gb_rr W _) rfl)
      | i + 9, hin, ho, hu, hK => omega
    case last =>
      intro f W A hA hg hu o ho K hK
      cases ho
      have e38 : A.eval (.tmp 38) = .int .i64 (pend + 1) := (ev_in hA 38 6 rfl rfl rfl).trans (show f 6 = .int .i64 (pend + 1) from hu 6 (by decide))
      have e40 : A.eval (.tmp 40) = .pointer (some ⟨g, 5, none⟩) := (ev_in hA 40 8 rfl rfl rfl).trans (show f 8 = .pointer (some ⟨g, 5, none⟩) from hu 8 (by decide))
      have hc : W.cell? ⟨g, 5, none⟩ = some (.int .i64 pend) := HK5.out W hg
      have hf5 : W.frozen? ⟨g, 5, none⟩ = false := frozen_of_row W g 5 _ _ (A4.out.grew hg (by simp))
      have A5 : Hid (Bk 52 (W.setCell ⟨g, 5, none⟩ (.int .i64 (pend + 1))) g (dcells room (free - need) (some b) (some l) (.slice (some ⟨G, 0, none⟩) 1 C) (pend + 1) acts 0 false)) := bk_setK (A4.out.grew hg (by simp)) 5 _
      have B5 : Hid (Below B w (W.setCell ⟨g, 5, none⟩ (.int .i64 (pend + 1)))) := (B4.out.1.grown hg B4.out.2 (fun k e => by cases e)).setCell (p := ⟨g, 5, none⟩) HBB.out.1 _
      refine ph_sem rfl rfl (r := .ok .skip (W.setCell ⟨g, 5, none⟩ (.int .i64 (pend + 1)))) ?_ (hK _ _ ?_)
      · have eC : ∀ c, A.eval (.const c) = c := fun _ => rfl
        generalize A.eval = ρ at *
        clear hA hu hg hK
        go_simp
      clear hg e38 e40 hc hf5
      have hA2 := hA.trans (putAll_lit [(.pointer (some ⟨g, 0, none⟩)), (.pointer (some ⟨g, 0, none⟩)), (.pointer (some ⟨g, 5, none⟩)), (.int .i64 pend), (.iface 87 (.agg #[.string s])), (.int .i64 1), (.int .i64 (pend + 1)), (.pointer (some ⟨g, 0, none⟩)), (.pointer (some ⟨g, 5, none⟩)), (f 9)] (by
        intro j hj
        match j, hj with
        | 0, _ => exact hu 0 (by decide)
        | 1, _ => exact hu 1 (by decide)
        | 2, _ => exact hu 2 (by decide)
        | 3, _ => exact hu 3 (by decide)
        | 4, _ => exact hu 4 (by decide)
        | 5, _ => exact hu 5 (by decide)
        | 6, _ => exact hu 6 (by decide)
        | 7, _ => exact hu 7 (by decide)
        | 8, _ => exact hu 8 (by decide)
        | 9, _ => rfl
        | j + 10, hj => exact absurd hj (by simp)))
      clear hu hA
      subst hA2
      simp only [putAll, putL, List.mem_cons, List.not_mem_nil, List.idxOf_cons, Nat.reduceEqDiff, Nat.reduceBEq, Nat.reduceAdd, or_false, or_true, reduceIte, cond_true, cond_false, List.getD_cons_zero, List.getD_cons_succ, BEq.rfl]
      go_wp2_with fail
      go_end0
      exact ⟨rfl, B5.out, _, A5.out⟩
end Go.Proofs.Ytadnececnaciiaa
