/-
  What the law's taken answers of a Reader at whose place stands what a call laid down: true, and the Reader is behind it. Condition: the call made no error.
-/
import Derived.Test.YtplelldomephaaaPBk
import Derived.Test.YtplelldomephaaaEqT
import Derived.Test.YtplelldomephaaaPFl
import Derived.Test.YtplelldomephaaaPDig
import Derived.Deep.RegionHeld3
namespace Go.Proofs.Ytplelldomephaaa
open Go.RowKit
set_option linter.unusedVariables false

theorem oerr_int {o : OpD} (h1 : o.call = 1) (he : oerr o = 0) : 0 ≤ o.n ∧ o.n ≤ o.most := by
  unfold oerr wie at he
  rw [if_pos h1] at he
  split at he
  · omega
  · split at he <;> omega
theorem oerr_text {o : OpD} (h2 : o.call = 2) (he : oerr o = 0) : (o.s.size : Int) ≤ o.most := by
  unfold oerr wte at he
  rw [if_neg (by omega), if_pos h2] at he
  split at he
  · omega
  · split at he <;> omega
theorem oerr_row {o : OpD} (h5 : o.call = 5) (he : oerr o = 0) : wre o.key o.val o.ver = 0 := by
  unfold oerr at he
  rw [if_neg (by omega), if_neg (by omega), if_pos h5] at he
  exact he
theorem step_load_mid {ops : Array Oper} {o : Oper} {a : Act} {w : World} {K : Act → World → Prop} {Q : Exit → Act → World → Prop} {E : Prop} (hgd : o.guard = none) (T : TypeId) (x : Operand) (ho : o.op = .load T x)
    {d : TypeDesc} (hu : Try.prog.underlying T = some d) (hd : d.isRow = true) (b off : Nat) (cs : List Value) (hi : (Try.prog.info? T).map (·.size) = some cs.length) (hx : a.eval x = .pointer (some ⟨b, off, none⟩)) (h : w.rangeAt b off cs)
    (k : K (a.put o.dst (.agg cs.toArray)) w) : if Region.wanted o (yielded ops a.tmps) = true then Oper.wp Try.prog o a w K Q else E := by
  have hwt : Region.wanted o (yielded ops a.tmps) = true := by simp [Region.wanted, hgd]
  rw [if_pos hwt]
  exact wp_load_mid T x ho b off hx cs d h hu hd hi k
/-- What a call of a Reader comes to. -/
def RStep (f : FuncId) (args : List Value) (g : Nat) (a : Option Addr) (len cap : Nat) (xs : List Int) (p : Nat) (v : Value) (p' : Nat) : Prop :=
  ∀ W, RS W g a len cap xs 0 p → Calls Try.prog f (Value.pointer (some ⟨g, 0, none⟩) :: args).toArray W fun r w' => r = .returned v ∧ RS w' g a len cap xs 0 p' ∧ W.grownBy w' (some g)
theorem bk_stay {T : TypeId} {w w' : World} {N g : Nat} {cs : Array Value} (h : Bk T w N cs) (hg : w.grownBy w' (some g)) (hne : N ≠ g) : Bk T w' N cs := h.grew hg (fun e => hne (Option.some.inj e).symm)
theorem rowV_sb (key val : ByteArray) (n : Int) : rowV (sb key) (sb val) n = #[.string key, .string val, .int .i64 n] := by unfold rowV; rw [strOfNums_sb, strOfNums_sb]
set_option maxRecDepth 20000 in
set_option maxHeartbeats 1000000 in
theorem tk0 (g : Nat) (a : Option Addr) (len cap : Nat) (xs : List Int) (p P' : Nat) (o : OpD) (O : Array Value) (V : Int) (w : World) (h : RS w g a len cap xs 0 p) (hO : O = o.cells.toArray) (hcall : o.cells[0]? = some (.int .i64 0)) (hc1 : o.cells[1]? = some (.int .u64 V)) (hD : RStep 20 [] g a len cap xs p (.int .u64 V) P') :
    Calls Try.prog 21 #[.pointer (some ⟨g, 0, none⟩), .agg O] w fun r w' => r = .returned (.bool true) ∧ RS w' g a len cap xs 0 P' ∧ w.grownBy w' (some g) := by
  have HR : Hid (RS w g a len cap xs 0 p) := h
  have HD : Hid (RStep 20 [] g a len cap xs p (.int .u64 V) P') := hD
  obtain ⟨N, hN⟩ : ∃ N, N = w.heap.size := ⟨_, rfl⟩
  have HNG : Hid (N ≠ g) := by
    have h3 := lt_of_block h.rdr
    show N ≠ g
    omega
  have HBB : Hid (Bk 49 (w.alloc (.cells O 49)) w.heap.size o.cells.toArray) := by rw [hO]; exact heap_new w _
  have b0 : (w.alloc (.cells O 49)).cell? ⟨w.heap.size, 0, none⟩ = some (.int .i64 0) := (HBB.out.cell 0).trans (by rw [List.getElem?_toArray]; exact hcall)
  have HO : Hid (O = o.cells.toArray) := hO
  have HC1 : Hid (o.cells[1]? = some (.int .u64 V)) := hc1
  have hq : (V == V) = true := by simp
  clear h hD hO hcall hc1
  go_enter Try.func21, Try.ntmps21
  go_wp2
  rw [← hN]
  generalize hW1 : World.alloc w _ = W1
  have H1 : Hid (RS W1 g a len cap xs 0 p ∧ Bk 49 W1 N o.cells.toArray ∧ w.grownBy W1 none) := by
    rw [← hW1, hN, HO.out]; exact ⟨HR.out.new (World.grownBy_alloc _ _ _), heap_new w _, World.grownBy_alloc _ _ _⟩
  clear hW1 hN b0 HBB
  have c1 : W1.drew.cell? ⟨N, 1, none⟩ = some (.int .u64 V) := ((show Bk 49 W1.drew N o.cells.toArray from H1.out.2.1).cell 1).trans (by rw [List.getElem?_toArray]; exact HC1.out)
  have HRd : Hid (RS W1.drew g a len cap xs 0 p) := H1.out.1.drewN 1
  go_region_held3 (fun w' => w'.cell? ⟨N, 1, none⟩ = some (.int .u64 V)) (assumption) (first
    | (go_at_call 20; go_must (refine (HD.out _ HRd.out).mono ?_); rintro r w2 ⟨rfl, h2, g2⟩; have H2 : Hid (RS w2 g a len cap xs 0 P' ∧ w.grownBy w2 (some g)) := ⟨h2, gb_trans (gb_trans (gb_wide H1.out.2.2 _) (gb_drewN (World.grownBy.refl _ _) 1)) g2⟩; have c2 : w2.cell? ⟨N, 1, none⟩ = some (.int .u64 V) := ((bk_stay (w := W1.drew) H1.out.2.1 g2 HNG.out).cell 1).trans (by rw [List.getElem?_toArray]; exact HC1.out); clear h2 g2))
  go_wp2
  go_ret
  exact ⟨rfl, H2.out⟩
set_option maxRecDepth 20000 in
set_option maxHeartbeats 1000000 in
theorem tk1 (g : Nat) (a : Option Addr) (len cap : Nat) (xs : List Int) (p P' : Nat) (o : OpD) (O : Array Value) (V : Int) (M : Int) (w : World) (h : RS w g a len cap xs 0 p) (hO : O = o.cells.toArray) (hcall : o.cells[0]? = some (.int .i64 1)) (hc3 : o.cells[3]? = some (.int .i64 M)) (hc2 : o.cells[2]? = some (.int .i64 V)) (hD : RStep 63 [.int .i64 M] g a len cap xs p (.int .i64 V) P') :
    Calls Try.prog 21 #[.pointer (some ⟨g, 0, none⟩), .agg O] w fun r w' => r = .returned (.bool true) ∧ RS w' g a len cap xs 0 P' ∧ w.grownBy w' (some g) := by
  have HR : Hid (RS w g a len cap xs 0 p) := h
  have HD : Hid (RStep 63 [.int .i64 M] g a len cap xs p (.int .i64 V) P') := hD
  obtain ⟨N, hN⟩ : ∃ N, N = w.heap.size := ⟨_, rfl⟩
  have HNG : Hid (N ≠ g) := by
    have h3 := lt_of_block h.rdr
    show N ≠ g
    omega
  have HBB : Hid (Bk 49 (w.alloc (.cells O 49)) w.heap.size o.cells.toArray) := by rw [hO]; exact heap_new w _
  have b0 : (w.alloc (.cells O 49)).cell? ⟨w.heap.size, 0, none⟩ = some (.int .i64 1) := (HBB.out.cell 0).trans (by rw [List.getElem?_toArray]; exact hcall)
  have HO : Hid (O = o.cells.toArray) := hO
  have HC3 : Hid (o.cells[3]? = some (.int .i64 M)) := hc3
  have HC2 : Hid (o.cells[2]? = some (.int .i64 V)) := hc2
  have hq : (V == V) = true := by simp
  clear h hD hO hcall hc3 hc2
  go_enter Try.func21, Try.ntmps21
  go_wp2
  rw [← hN]
  generalize hW1 : World.alloc w _ = W1
  have H1 : Hid (RS W1 g a len cap xs 0 p ∧ Bk 49 W1 N o.cells.toArray ∧ w.grownBy W1 none) := by
    rw [← hW1, hN, HO.out]; exact ⟨HR.out.new (World.grownBy_alloc _ _ _), heap_new w _, World.grownBy_alloc _ _ _⟩
  clear hW1 hN b0 HBB
  have c1 : W1.drew.cell? ⟨N, 3, none⟩ = some (.int .i64 M) ∧ W1.drew.cell? ⟨N, 2, none⟩ = some (.int .i64 V) := ⟨((show Bk 49 W1.drew N o.cells.toArray from H1.out.2.1).cell 3).trans (by rw [List.getElem?_toArray]; exact HC3.out), ((show Bk 49 W1.drew N o.cells.toArray from H1.out.2.1).cell 2).trans (by rw [List.getElem?_toArray]; exact HC2.out)⟩
  have HRd : Hid (RS W1.drew g a len cap xs 0 p) := H1.out.1.drewN 1
  go_region_held3 (fun w' => w'.cell? ⟨N, 3, none⟩ = some (.int .i64 M) ∧ w'.cell? ⟨N, 2, none⟩ = some (.int .i64 V)) (assumption) (first
    | (go_at_call 63; go_must (refine (HD.out _ HRd.out).mono ?_); rintro r w2 ⟨rfl, h2, g2⟩; have H2 : Hid (RS w2 g a len cap xs 0 P' ∧ w.grownBy w2 (some g)) := ⟨h2, gb_trans (gb_trans (gb_wide H1.out.2.2 _) (gb_drewN (World.grownBy.refl _ _) 1)) g2⟩; have c2 : w2.cell? ⟨N, 3, none⟩ = some (.int .i64 M) ∧ w2.cell? ⟨N, 2, none⟩ = some (.int .i64 V) := ⟨((bk_stay (w := W1.drew) H1.out.2.1 g2 HNG.out).cell 3).trans (by rw [List.getElem?_toArray]; exact HC3.out), ((bk_stay (w := W1.drew) H1.out.2.1 g2 HNG.out).cell 2).trans (by rw [List.getElem?_toArray]; exact HC2.out)⟩; clear h2 g2))
  go_wp2
  go_ret
  exact ⟨rfl, H2.out⟩
set_option maxRecDepth 20000 in
set_option maxHeartbeats 1000000 in
theorem tk2 (g : Nat) (a : Option Addr) (len cap : Nat) (xs : List Int) (p P' : Nat) (o : OpD) (O : Array Value) (V : ByteArray) (M : Int) (w : World) (h : RS w g a len cap xs 0 p) (hO : O = o.cells.toArray) (hcall : o.cells[0]? = some (.int .i64 2)) (hc3 : o.cells[3]? = some (.int .i64 M)) (hc4 : o.cells[4]? = some (.string V)) (hD : RStep 27 [.int .i64 M] g a len cap xs p (.string V) P') :
    Calls Try.prog 21 #[.pointer (some ⟨g, 0, none⟩), .agg O] w fun r w' => r = .returned (.bool true) ∧ RS w' g a len cap xs 0 P' ∧ w.grownBy w' (some g) := by
  have HR : Hid (RS w g a len cap xs 0 p) := h
  have HD : Hid (RStep 27 [.int .i64 M] g a len cap xs p (.string V) P') := hD
  obtain ⟨N, hN⟩ : ∃ N, N = w.heap.size := ⟨_, rfl⟩
  have HNG : Hid (N ≠ g) := by
    have h3 := lt_of_block h.rdr
    show N ≠ g
    omega
  have HBB : Hid (Bk 49 (w.alloc (.cells O 49)) w.heap.size o.cells.toArray) := by rw [hO]; exact heap_new w _
  have b0 : (w.alloc (.cells O 49)).cell? ⟨w.heap.size, 0, none⟩ = some (.int .i64 2) := (HBB.out.cell 0).trans (by rw [List.getElem?_toArray]; exact hcall)
  have HO : Hid (O = o.cells.toArray) := hO
  have HC3 : Hid (o.cells[3]? = some (.int .i64 M)) := hc3
  have HC4 : Hid (o.cells[4]? = some (.string V)) := hc4
  have hq : (V.toList == V.toList) = true := by simp
  clear h hD hO hcall hc3 hc4
  go_enter Try.func21, Try.ntmps21
  go_wp2
  rw [← hN]
  generalize hW1 : World.alloc w _ = W1
  have H1 : Hid (RS W1 g a len cap xs 0 p ∧ Bk 49 W1 N o.cells.toArray ∧ w.grownBy W1 none) := by
    rw [← hW1, hN, HO.out]; exact ⟨HR.out.new (World.grownBy_alloc _ _ _), heap_new w _, World.grownBy_alloc _ _ _⟩
  clear hW1 hN b0 HBB
  have c1 : W1.drew.cell? ⟨N, 3, none⟩ = some (.int .i64 M) ∧ W1.drew.cell? ⟨N, 4, none⟩ = some (.string V) := ⟨((show Bk 49 W1.drew N o.cells.toArray from H1.out.2.1).cell 3).trans (by rw [List.getElem?_toArray]; exact HC3.out), ((show Bk 49 W1.drew N o.cells.toArray from H1.out.2.1).cell 4).trans (by rw [List.getElem?_toArray]; exact HC4.out)⟩
  have HRd : Hid (RS W1.drew g a len cap xs 0 p) := H1.out.1.drewN 1
  go_region_held3 (fun w' => w'.cell? ⟨N, 3, none⟩ = some (.int .i64 M) ∧ w'.cell? ⟨N, 4, none⟩ = some (.string V)) (assumption) (first
    | (go_at_call 27; go_must (refine (HD.out _ HRd.out).mono ?_); rintro r w2 ⟨rfl, h2, g2⟩; have H2 : Hid (RS w2 g a len cap xs 0 P' ∧ w.grownBy w2 (some g)) := ⟨h2, gb_trans (gb_trans (gb_wide H1.out.2.2 _) (gb_drewN (World.grownBy.refl _ _) 1)) g2⟩; have c2 : w2.cell? ⟨N, 3, none⟩ = some (.int .i64 M) ∧ w2.cell? ⟨N, 4, none⟩ = some (.string V) := ⟨((bk_stay (w := W1.drew) H1.out.2.1 g2 HNG.out).cell 3).trans (by rw [List.getElem?_toArray]; exact HC3.out), ((bk_stay (w := W1.drew) H1.out.2.1 g2 HNG.out).cell 4).trans (by rw [List.getElem?_toArray]; exact HC4.out)⟩; clear h2 g2))
  go_wp2
  go_ret
  exact ⟨rfl, H2.out⟩
set_option maxRecDepth 20000 in
set_option maxHeartbeats 1000000 in
theorem tk3 (g : Nat) (a : Option Addr) (len cap : Nat) (xs : List Int) (p P' : Nat) (o : OpD) (O : Array Value) (V : Bool) (w : World) (h : RS w g a len cap xs 0 p) (hO : O = o.cells.toArray) (hcall : o.cells[0]? = some (.int .i64 3)) (hc5 : o.cells[5]? = some (.bool V)) (hD : RStep 29 [] g a len cap xs p (.bool V) P') :
    Calls Try.prog 21 #[.pointer (some ⟨g, 0, none⟩), .agg O] w fun r w' => r = .returned (.bool true) ∧ RS w' g a len cap xs 0 P' ∧ w.grownBy w' (some g) := by
  have HR : Hid (RS w g a len cap xs 0 p) := h
  have HD : Hid (RStep 29 [] g a len cap xs p (.bool V) P') := hD
  obtain ⟨N, hN⟩ : ∃ N, N = w.heap.size := ⟨_, rfl⟩
  have HNG : Hid (N ≠ g) := by
    have h3 := lt_of_block h.rdr
    show N ≠ g
    omega
  have HBB : Hid (Bk 49 (w.alloc (.cells O 49)) w.heap.size o.cells.toArray) := by rw [hO]; exact heap_new w _
  have b0 : (w.alloc (.cells O 49)).cell? ⟨w.heap.size, 0, none⟩ = some (.int .i64 3) := (HBB.out.cell 0).trans (by rw [List.getElem?_toArray]; exact hcall)
  have HO : Hid (O = o.cells.toArray) := hO
  have HC5 : Hid (o.cells[5]? = some (.bool V)) := hc5
  have hq : (V == V) = true := by simp
  clear h hD hO hcall hc5
  go_enter Try.func21, Try.ntmps21
  go_wp2
  rw [← hN]
  generalize hW1 : World.alloc w _ = W1
  have H1 : Hid (RS W1 g a len cap xs 0 p ∧ Bk 49 W1 N o.cells.toArray ∧ w.grownBy W1 none) := by
    rw [← hW1, hN, HO.out]; exact ⟨HR.out.new (World.grownBy_alloc _ _ _), heap_new w _, World.grownBy_alloc _ _ _⟩
  clear hW1 hN b0 HBB
  have c1 : W1.drew.cell? ⟨N, 5, none⟩ = some (.bool V) := ((show Bk 49 W1.drew N o.cells.toArray from H1.out.2.1).cell 5).trans (by rw [List.getElem?_toArray]; exact HC5.out)
  have HRd : Hid (RS W1.drew g a len cap xs 0 p) := H1.out.1.drewN 1
  go_region_held3 (fun w' => w'.cell? ⟨N, 5, none⟩ = some (.bool V)) (assumption) (first
    | (go_at_call 29; go_must (refine (HD.out _ HRd.out).mono ?_); rintro r w2 ⟨rfl, h2, g2⟩; have H2 : Hid (RS w2 g a len cap xs 0 P' ∧ w.grownBy w2 (some g)) := ⟨h2, gb_trans (gb_trans (gb_wide H1.out.2.2 _) (gb_drewN (World.grownBy.refl _ _) 1)) g2⟩; have c2 : w2.cell? ⟨N, 5, none⟩ = some (.bool V) := ((bk_stay (w := W1.drew) H1.out.2.1 g2 HNG.out).cell 5).trans (by rw [List.getElem?_toArray]; exact HC5.out); clear h2 g2))
  go_wp2
  go_ret
  exact ⟨rfl, H2.out⟩
set_option maxRecDepth 20000 in
set_option maxHeartbeats 1000000 in
theorem tk4 (g : Nat) (a : Option Addr) (len cap : Nat) (xs : List Int) (p P' : Nat) (o : OpD) (O : Array Value) (ds : List Int) (w : World) (h : RS w g a len cap xs 0 p) (hO : O = o.cells.toArray) (ho : o.Ok) (hcall : o.cells[0]? = some (.int .i64 4)) (hds : ds = o.ds) (hD : RStep 64 [] g a len cap xs p (.agg (u8s ds)) P') :
    Calls Try.prog 21 #[.pointer (some ⟨g, 0, none⟩), .agg O] w fun r w' => r = .returned (.bool true) ∧ RS w' g a len cap xs 0 P' ∧ w.grownBy w' (some g) := by
  have HR : Hid (RS w g a len cap xs 0 p) := h
  have HD : Hid (RStep 64 [] g a len cap xs p (.agg (u8s ds)) P') := hD
  obtain ⟨N, hN⟩ : ∃ N, N = w.heap.size := ⟨_, rfl⟩
  have HNG : Hid (N ≠ g) := by
    have h3 := lt_of_block h.rdr
    show N ≠ g
    omega
  have HBB : Hid (Bk 49 (w.alloc (.cells O 49)) w.heap.size o.cells.toArray) := by rw [hO]; exact heap_new w _
  have b0 : (w.alloc (.cells O 49)).cell? ⟨w.heap.size, 0, none⟩ = some (.int .i64 4) := (HBB.out.cell 0).trans (by rw [List.getElem?_toArray]; exact hcall)
  have HO : Hid (O = o.cells.toArray) := hO
  have HRG : Hid (∀ W : World, Bk 49 W N o.cells.toArray → W.rangeAt N 6 (ds.map (Value.int .u8))) := fun W hW => by rw [hds]; exact hW.opD ho
  have hu := Try.underlying45
  have hi : (Try.prog.info? 45).map (·.size) = some (ds.map (Value.int .u8)).length := by rw [List.length_map, hds, ho.len]; exact infoA32
  have hq : ∀ W, (Op.equalIn 10000 92 (.agg (u8s ds)) (.agg (ds.map (Value.int .u8)).toArray)).run Try.prog W = .ok true W := fun W => eqD ds (by rw [hds]; exact ho.bytes) (by rw [hds]; exact ho.len) W
  clear h hD hO hcall ho hds
  go_enter Try.func21, Try.ntmps21
  go_wp2
  rw [← hN]
  generalize hW1 : World.alloc w _ = W1
  have H1 : Hid (RS W1 g a len cap xs 0 p ∧ Bk 49 W1 N o.cells.toArray ∧ w.grownBy W1 none) := by
    rw [← hW1, hN, HO.out]; exact ⟨HR.out.new (World.grownBy_alloc _ _ _), heap_new w _, World.grownBy_alloc _ _ _⟩
  clear hW1 hN b0 HBB
  have c1 : W1.drew.rangeAt N 6 (ds.map (Value.int .u8)) := HRG.out W1.drew H1.out.2.1
  have HRd : Hid (RS W1.drew g a len cap xs 0 p) := H1.out.1.drewN 1
  go_region_held3 (fun w' => w'.rangeAt N 6 (ds.map (Value.int .u8))) (assumption) (first
    | (go_at_call 64; go_must (refine (HD.out _ HRd.out).mono ?_); rintro r w2 ⟨rfl, h2, g2⟩; have H2 : Hid (RS w2 g a len cap xs 0 P' ∧ w.grownBy w2 (some g)) := ⟨h2, gb_trans (gb_trans (gb_wide H1.out.2.2 _) (gb_drewN (World.grownBy.refl _ _) 1)) g2⟩; have c2 : w2.rangeAt N 6 (ds.map (Value.int .u8)) := HRG.out w2 (bk_stay (w := W1.drew) H1.out.2.1 g2 HNG.out); clear h2 g2))
  go_wp2
  go_ret
  exact ⟨rfl, H2.out⟩
set_option maxRecDepth 20000 in
set_option maxHeartbeats 1000000 in
theorem tk5 (g : Nat) (a : Option Addr) (len cap : Nat) (xs : List Int) (p P' : Nat) (o : OpD) (O : Array Value) (key val : ByteArray) (ver : Int) (w : World) (h : RS w g a len cap xs 0 p) (hO : O = o.cells.toArray) (ho : o.Ok) (hcall : o.cells[0]? = some (.int .i64 5)) (hk : key = o.key) (hv : val = o.val) (hn : ver = o.ver) (hD : RStep 31 [] g a len cap xs p (.agg #[.string key, .string val, .int .i64 ver]) P') :
    Calls Try.prog 21 #[.pointer (some ⟨g, 0, none⟩), .agg O] w fun r w' => r = .returned (.bool true) ∧ RS w' g a len cap xs 0 P' ∧ w.grownBy w' (some g) := by
  have HR : Hid (RS w g a len cap xs 0 p) := h
  have HD : Hid (RStep 31 [] g a len cap xs p (.agg #[.string key, .string val, .int .i64 ver]) P') := hD
  obtain ⟨N, hN⟩ : ∃ N, N = w.heap.size := ⟨_, rfl⟩
  have HNG : Hid (N ≠ g) := by
    have h3 := lt_of_block h.rdr
    show N ≠ g
    omega
  have HBB : Hid (Bk 49 (w.alloc (.cells O 49)) w.heap.size o.cells.toArray) := by rw [hO]; exact heap_new w _
  have b0 : (w.alloc (.cells O 49)).cell? ⟨w.heap.size, 0, none⟩ = some (.int .i64 5) := (HBB.out.cell 0).trans (by rw [List.getElem?_toArray]; exact hcall)
  have HO : Hid (O = o.cells.toArray) := hO
  have HRG : Hid (∀ W : World, Bk 49 W N o.cells.toArray → W.cell? ⟨N, 38, none⟩ = some (.string key) ∧ W.cell? ⟨N, 39, none⟩ = some (.string val) ∧ W.cell? ⟨N, 40, none⟩ = some (.int .i64 ver)) := fun W hW => by
    have := hW.opR ho
    rw [hk, hv, hn]
    exact ⟨this 0 _ rfl, this 1 _ rfl, this 2 _ rfl⟩
  have hq := fun W => eqRow (sb key) (sb val) ver W
  rw [rowV_sb] at hq
  clear h hD hO hcall ho hk hv hn
  go_enter Try.func21, Try.ntmps21
  go_wp2
  rw [← hN]
  generalize hW1 : World.alloc w _ = W1
  have H1 : Hid (RS W1 g a len cap xs 0 p ∧ Bk 49 W1 N o.cells.toArray ∧ w.grownBy W1 none) := by
    rw [← hW1, hN, HO.out]; exact ⟨HR.out.new (World.grownBy_alloc _ _ _), heap_new w _, World.grownBy_alloc _ _ _⟩
  clear hW1 hN b0 HBB
  have c1 : W1.drew.cell? ⟨N, 38, none⟩ = some (.string key) ∧ W1.drew.cell? ⟨N, 39, none⟩ = some (.string val) ∧ W1.drew.cell? ⟨N, 40, none⟩ = some (.int .i64 ver) := HRG.out W1.drew H1.out.2.1
  have HRd : Hid (RS W1.drew g a len cap xs 0 p) := H1.out.1.drewN 1
  go_region_held3 (fun w' => w'.cell? ⟨N, 38, none⟩ = some (.string key) ∧ w'.cell? ⟨N, 39, none⟩ = some (.string val) ∧ w'.cell? ⟨N, 40, none⟩ = some (.int .i64 ver)) (assumption) (first
    | (go_at_call 31; go_must (refine (HD.out _ HRd.out).mono ?_); rintro r w2 ⟨rfl, h2, g2⟩; have H2 : Hid (RS w2 g a len cap xs 0 P' ∧ w.grownBy w2 (some g)) := ⟨h2, gb_trans (gb_trans (gb_wide H1.out.2.2 _) (gb_drewN (World.grownBy.refl _ _) 1)) g2⟩; have c2 : w2.cell? ⟨N, 38, none⟩ = some (.string key) ∧ w2.cell? ⟨N, 39, none⟩ = some (.string val) ∧ w2.cell? ⟨N, 40, none⟩ = some (.int .i64 ver) := HRG.out w2 (bk_stay (w := W1.drew) H1.out.2.1 g2 HNG.out); clear h2 g2))
  go_wp2
  go_ret
  exact ⟨rfl, H2.out⟩
set_option maxRecDepth 20000 in
set_option maxHeartbeats 1000000 in
theorem tk6 (g : Nat) (a : Option Addr) (len cap : Nat) (xs : List Int) (p : Nat) (o : OpD) (O : Array Value) (c : Int) (w : World) (h : RS w g a len cap xs 0 p) (hO : O = o.cells.toArray) (hcall : o.cells[0]? = some (.int .i64 c)) (h0 : (c == 0) = false) (h1 : (c == 1) = false) (h2 : (c == 2) = false) (h3 : (c == 3) = false) (h4 : (c == 4) = false) (h5 : (c == 5) = false) :
    Calls Try.prog 21 #[.pointer (some ⟨g, 0, none⟩), .agg O] w fun r w' => r = .returned (.bool true) ∧ RS w' g a len cap xs 0 p ∧ w.grownBy w' (some g) := by
  have HR : Hid (RS w g a len cap xs 0 p) := h
  have b0 : (w.alloc (.cells O 49)).cell? ⟨w.heap.size, 0, none⟩ = some (.int .i64 c) := by
    rw [hO]
    exact ((show Bk 49 (w.alloc (.cells o.cells.toArray 49)) w.heap.size o.cells.toArray from heap_new w _).cell 0).trans (by rw [List.getElem?_toArray]; exact hcall)
  clear h hO hcall
  go_enter Try.func21, Try.ntmps21
  go_wp2
  go_ret
  exact ⟨rfl, HR.out.new (World.grownBy_alloc _ _ _), gb_wide (World.grownBy_alloc _ _ _) _⟩
theorem taken_c (g : Nat) (a : Option Addr) (len cap : Nat) (xs : List Int) (p : Nat) (o : OpD) (O : Array Value) (rest : List Int) (w : World) (h : RS w g a len cap xs 0 p) (hO : O = o.cells.toArray) (ho : o.Ok) (he : oerr o = 0) (hd : xs.drop p = lay o ++ rest) :
    Calls Try.prog 21 #[.pointer (some ⟨g, 0, none⟩), .agg O] w fun r w' => r = .returned (.bool true) ∧ RS w' g a len cap xs 0 (p + (lay o).length) ∧ w.grownBy w' (some g) := by
  have q1 := wf_u64 ho.v
  have q2 := bounds_i64 ho.n
  have q3 := bounds_i64 ho.most
  have q4 := bounds_i64 ho.ver
  by_cases h0 : o.call = 0
  · have hl : lay o = enc o.v.toNat := by unfold lay; rw [if_pos h0]
    rw [hl] at hd ⊢
    refine tk0 g a len cap xs p _ o O o.v w h hO (by rw [← h0]; rfl) rfl (fun W hW => ?_)
    have := uint_ok g a len cap xs p W hW
    rw [ru_lay xs p o.v.toNat (by omega) rest hd] at this
    simp only [show ((o.v.toNat : Nat) : Int) = o.v from by omega] at this
    exact this
  by_cases h1 : o.call = 1
  · have hl : lay o = enc o.n.toNat := by unfold lay; rw [if_neg h0, if_pos h1]
    rw [hl] at hd ⊢
    have hb := oerr_int h1 he
    refine tk1 g a len cap xs p _ o O o.n o.most w h hO (by rw [← h1]; rfl) rfl rfl (fun W hW => ?_)
    have := int_ok g a len cap xs p o.most W hW (by omega)
    rw [ri_lay xs p o.n o.most hb.1 hb.2 (by omega) rest hd] at this
    exact this
  by_cases h2 : o.call = 2
  · have hl : lay o = enc o.s.size ++ sb o.s := by unfold lay; rw [if_neg h0, if_neg h1, if_pos h2]
    rw [hl] at hd ⊢
    have hb := oerr_text h2 he
    refine tk2 g a len cap xs p _ o O o.s o.most w h hO (by rw [← h2]; rfl) rfl rfl (fun W hW => ?_)
    have := text_ok g a len cap xs p o.most W hW (by omega)
    rw [rt_lay xs p o.s o.most hb (by omega) rest hd, strOfNums_sb] at this
    exact this
  by_cases h3 : o.call = 3
  · have hl : lay o = [fb o.f] := by unfold lay; rw [if_neg h0, if_neg h1, if_neg h2, if_pos h3]
    rw [hl] at hd ⊢
    refine tk3 g a len cap xs p _ o O o.f w h hO (by rw [← h3]; rfl) rfl (fun W hW => ?_)
    have := flag_ok g a len cap xs p W hW
    rw [rf_lay xs p o.f rest hd] at this
    exact this
  by_cases h4 : o.call = 4
  · have hl : lay o = o.ds := by unfold lay; rw [if_neg h0, if_neg h1, if_neg h2, if_neg h3, if_pos h4]
    rw [hl] at hd ⊢
    refine tk4 g a len cap xs p _ o O o.ds w h hO ho (by rw [← h4]; rfl) rfl (fun W hW => ?_)
    have := digest_ok g a len cap xs p W hW
    rw [rg_lay xs p o.ds ho.len rest hd] at this
    rw [ho.len]
    exact this
  by_cases h5 : o.call = 5
  · have hl : lay o = rowB o.key o.val o.ver := by unfold lay; rw [if_neg h0, if_neg h1, if_neg h2, if_neg h3, if_neg h4, if_pos h5]
    rw [hl] at hd ⊢
    refine tk5 g a len cap xs p _ o O o.key o.val o.ver w h hO ho (by rw [← h5]; rfl) rfl rfl rfl (fun W hW => ?_)
    have := row_ok g a len cap xs p W hW
    rw [rr_lay xs p o.key o.val o.ver (oerr_row h5 he) rest hd, rowV_sb] at this
    exact this
  have hl : lay o = [] := by unfold lay; rw [if_neg h0, if_neg h1, if_neg h2, if_neg h3, if_neg h4, if_neg h5]
  rw [hl]
  exact tk6 g a len cap xs p o O o.call w h hO rfl (by simp [h0]) (by simp [h1]) (by simp [h2]) (by simp [h3]) (by simp [h4]) (by simp [h5])
end Go.Proofs.Ytplelldomephaaa
