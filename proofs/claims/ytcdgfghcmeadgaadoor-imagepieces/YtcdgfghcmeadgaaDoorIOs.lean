/-
  What the Opener's takeSum answers: whether the part is whole, or a panic where it is wrong. Condition: a list that can be read.
-/
import Derived.Test.YtcdgfghcmeadgaaDoorIOa
import Derived.Stop.BytesEq
namespace Go.Proofs.YtcdgfghcmeadgaaDoor
open Go.RowKit
set_option linter.unusedVariables false

theorem cell_ofI (b : Int) (h0 : 0 ≤ b) (h1 : b < 256) : Value.int .u8 b = Extern.Stop.cell (UInt8.ofNat b.toNat) := by
  have e : ((UInt8.ofNat b.toNat).toNat : Int) = b := by simp [UInt8.toNat_ofNat']; omega
  show _ = Value.int .u8 (((UInt8.ofNat b.toNat).toNat : Nat) : Int)
  rw [e]
theorem cells_ofI (ds : List Int) (h : Bytes ds) : (ds.map (Value.int .u8)).toArray = ((ds.map fun b => UInt8.ofNat b.toNat).map Extern.Stop.cell).toArray := by
  rw [List.map_map]
  congr 1
  apply List.map_congr_left
  intro b hb
  obtain ⟨i, hi, rfl⟩ := List.getElem_of_mem hb
  have := h i hi
  simp [hi] at this
  exact cell_ofI _ this.1 this.2
theorem u8_injI {a b : Int} (ha : 0 ≤ a ∧ a < 256) (hb : 0 ≤ b ∧ b < 256) (h : UInt8.ofNat a.toNat = UInt8.ofNat b.toNat) : a = b := by
  have e := congrArg UInt8.toNat h
  simp [UInt8.toNat_ofNat'] at e
  omega
theorem bytes_injI {xs ys : List Int} (hx : Bytes xs) (hy : Bytes ys) (h : (xs.map fun b => UInt8.ofNat b.toNat) = ys.map fun b => UInt8.ofNat b.toNat) : xs = ys := by
  have hl : xs.length = ys.length := by simpa using congrArg List.length h
  apply List.ext_getElem hl
  intro i h1 h2
  have e := congrArg (fun l => l[i]?) h
  simp [h1, h2] at e
  have a1 := hx i h1
  have a2 := hy i h2
  simp [h1] at a1
  simp [h2] at a2
  exact u8_injI a1 a2 e
theorem eq4 (xs ys : List Int) (hx : Bytes xs) (hy : Bytes ys) (hl : xs.length = 4) (hm : ys.length = 4) (W : World) : (Op.equalIn 10000 96 (.agg (xs.map (Value.int .u8)).toArray) (.agg (ys.map (Value.int .u8)).toArray)).run Tryd.prog W = .ok (decide (xs = ys)) W := by
  have := run_equalIn_bytes (P := Tryd.prog) W 9998 96 5 4 Tryd.underlying96 Tryd.underlying5 (fun _ => by kernel_rfl) (xs.map fun b => UInt8.ofNat b.toNat) (ys.map fun b => UInt8.ofNat b.toNat) (by simpa using hl) (by simpa using hm)
  rw [cells_ofI xs hx, cells_ofI ys hy, this]
  by_cases h : xs = ys
  · rw [h]; simp
  · rw [decide_eq_false h]
    have hne : (xs.map fun b => UInt8.ofNat b.toNat) ≠ ys.map fun b => UInt8.ofNat b.toNat := fun z => h (bytes_injI hx hy z)
    rw [beq_eq_false_iff_ne.2 hne]
theorem list4I {l : List Int} (h : l.length = 4) : ∃ a b c d, l = [a, b, c, d] := by
  match l, h with
  | [a, b, c, d], _ => exact ⟨a, b, c, d, rfl⟩
theorem osum_w (g : Nat) (a : Option Addr) (n c : Nat) (w : World) (hn : n < 4) : Calls Tryd.prog 126 #[.pointer (some ⟨g, 0, none⟩), .slice a n c] w fun r w' => r = .returned (.tuple #[.int .i64 0, .bool false]) ∧ w.grownBy w' none := by
  have hn1 : (n : Int) < 4 := by omega
  go_enter Tryd.func126, Tryd.ntmps126
  go_wp2
  go_ret2
  exact ⟨rfl, World.grownBy.refl _ _⟩
set_option maxRecDepth 20000 in
set_option maxHeartbeats 1000000 in
theorem osum_so (g : Nat) (o : Opn) (a : Option Addr) (n c : Nat) (xs : List Int) (t : Cr.Wd) (w : World) (h : OpB w g o) (hs : o.sum = Cr.W t) (hx : Seg .u8 w a n xs) (hb : Bytes xs) (hn : 4 ≤ n) (hm : decide (xs.take 4 = Cr.by4 t) = true) :
    Calls Tryd.prog 126 #[.pointer (some ⟨g, 0, none⟩), .slice a n c] w fun r w' => r = .returned (.tuple #[.int .i64 4, .bool true]) ∧ w.grownBy w' none := by
  obtain ⟨b, off, rfl, hbl, hc⟩ := hx.2.resolve_left (by omega)
  have hxl : xs.length = n := hx.1
  obtain ⟨y0, y1, y2, y3, hA, hB⟩ := Cr.arr4_ex t
  have hyb : Bytes [y0, y1, y2, y3] := by rw [← hB]; exact Cr.bytes_of_mem (Cr.by4_bytes _)
  rw [hB] at hm
  obtain ⟨x0, x1, x2, x3, hX⟩ := list4I (l := xs.take 4) (by rw [List.length_take]; omega)
  have hxb : Bytes [x0, x1, x2, x3] := by rw [← hX]; exact bytes_takeO hb 4
  have HR : Hid (∀ W, w.grownBy W none → W.rangeAt b off [.int .u8 x0, .int .u8 x1, .int .u8 x2, .int .u8 x3]) := fun W hg i v hv => by
    have hi : i < 4 := by
      have := (List.getElem?_eq_some_iff.1 hv).1
      simpa using this
    have q := hc i (by omega)
    have e : W.cell? ⟨b, off + i, none⟩ = w.cell? ⟨b, off + i, none⟩ := by simp only [World.cell?, hg.block b hbl (by simp)]
    rw [e, q, ← hv]
    have z : (xs.take 4)[i]? = xs[i]? := List.getElem?_take_of_lt hi
    rw [← z, hX]
    match i, hi with
    | 0, _ => rfl
    | 1, _ => rfl
    | 2, _ => rfl
    | 3, _ => rfl
  have HAR : Hid (∀ W, (Instr.arrayAt 96 (.slice (some ⟨b, off, none⟩) n c)).run Tryd.prog W = .ok (.pointer (some ⟨b, off, none⟩)) W) := fun W => by
    have hn2 : ¬ n < 4 := by omega
    simp [Instr.arrayAt, run_underlying Tryd.underlying96, hn2]
  have HSU : Hid (∀ W, Calls Tryd.prog 41 #[.int .u32 (Cr.W t)] W fun e w' => e = .returned (.agg #[.int .u8 y0, .int .u8 y1, .int .u8 y2, .int .u8 y3]) ∧ W.grownBy w' none) := fun W => by
    rw [← hA]
    exact sumOf_c t W
  have HEQ : Hid (∀ W, (Op.equalIn 10000 96 (.agg #[.int .u8 x0, .int .u8 x1, .int .u8 x2, .int .u8 x3]) (.agg #[.int .u8 y0, .int .u8 y1, .int .u8 y2, .int .u8 y3])).run Tryd.prog W = .ok true W) := fun W => by
    have := eq4 [x0, x1, x2, x3] [y0, y1, y2, y3] hxb hyb rfl rfl W
    rw [← hX, hm, hX] at this
    exact this
  have HO : Hid (∀ W, w.grownBy W none → OpB W g o) := fun W hg => opb_gb h hg
  have HK7 : Hid (∀ W, w.grownBy W none → W.cell? ⟨g, 7, none⟩ = some (.int .u32 (Cr.W t))) := fun W hg => by rw [← hs]; exact Bk.cell (opb_gb h hg) 7
  generalize Cr.W t = V at HSU HK7
  have hn1 : ¬ (n : Int) < 4 := by omega
  have hn3 : (4 : Int) ≤ (n : Int) := by omega
  clear h hs hx hb hm hc hbl hA hB hyb hxb hX hxl
  go_enter Tryd.func126, Tryd.ntmps126
  go_wp2_with fail
  refine wp_region_lastR (fun a b => World.grownBy a b none) (fun _ _ _ h k => gb_trans h k) ⟨rfl, rfl, rfl, Nat.le_refl _, fun _ _ _ => rfl⟩ 10 rfl (by kernel_rfl) [9, 10, 11, 12, 13, 14, 15, 16, 17, 18, 19] [[], [], [1], [2], [], [4], [5], [6], [7], [3, 8], [0, 9]] (by kernel_rfl) (by kernel_rfl) [fun u W => u = .pointer (some ⟨g, 0, none⟩), fun u W => u = .slice (some ⟨b, off, none⟩) n c, fun u W => u = .pointer (some ⟨b, off, none⟩), fun u W => u = .agg #[.int .u8 x0, .int .u8 x1, .int .u8 x2, .int .u8 x3], fun u W => u = .pointer (some ⟨g, 0, none⟩), fun u W => u = .pointer (some ⟨g, 0, none⟩), fun u W => u = .pointer (some ⟨g, 7, none⟩), fun u W => u = .int .u32 V, fun u W => u = .agg #[.int .u8 y0, .int .u8 y1, .int .u8 y2, .int .u8 y3], fun u W => u = .bool true] ?stable ?step ?last
  case stable =>
    intro i v W W' h hg
    match i, h with
    | 0, h => exact h
    | 1, h => exact h
    | 2, h => exact h
    | 3, h => exact h
    | 4, h => exact h
    | 5, h => exact h
    | 6, h => exact h
    | 7, h => exact h
    | 8, h => exact h
    | 9, h => exact h
    | i + 10, h => exact trivial
  case step =>
    intro f W A hA hg i o hin ho hu K hK
    match i, hin, ho, hu, hK with
    | 0, hin, ho, hu, hK =>
      cases ho
      have e0 : A.eval (.tmp 0) = .pointer (some ⟨g, 0, none⟩) := ev_out hA 0 rfl
      exact ph_move _ rfl rfl (.pointer (some ⟨g, 0, none⟩)) e0 (hK _ _ (gb_rr W _) rfl)
    | 1, hin, ho, hu, hK =>
      cases ho
      have e1 : A.eval (.tmp 1) = .slice (some ⟨b, off, none⟩) n c := ev_out hA 1 rfl
      exact ph_move _ rfl rfl (.slice (some ⟨b, off, none⟩) n c) e1 (hK _ _ (gb_rr W _) rfl)
    | 2, hin, ho, hu, hK =>
      cases ho
      have e10 : A.eval (.tmp 10) = .slice (some ⟨b, off, none⟩) n c := (ev_in hA 10 1 rfl rfl rfl).trans (show f 1 = .slice (some ⟨b, off, none⟩) n c from hu 1 (by decide))
      have har := HAR.out W
      refine ph_sem rfl rfl (r := .ok (.value (.pointer (some ⟨b, off, none⟩))) W) ?_ (hK _ _ (gb_rr W _) rfl)
      have eC : ∀ c, A.eval (.const c) = c := fun _ => rfl; have eF : ∀ g, A.eval (.func g) = .func (.func g) #[] #[] := fun _ => rfl; generalize A.eval = ρ at *
      clear hA hu hg hK
      go_simp
    | 3, hin, ho, hu, hK =>
      cases ho
      have e11 : A.eval (.tmp 11) = .pointer (some ⟨b, off, none⟩) := (ev_in hA 11 2 rfl rfl rfl).trans (show f 2 = .pointer (some ⟨b, off, none⟩) from hu 2 (by decide))
      exact ph_load rfl 96 _ rfl Tryd.underlying96 rfl b off [.int .u8 x0, .int .u8 x1, .int .u8 x2, .int .u8 x3] (by kernel_rfl) e11 (HR.out W hg) (hK _ _ (gb_rr W _) rfl)
    | 4, hin, ho, hu, hK =>
      cases ho
      have e0 : A.eval (.tmp 0) = .pointer (some ⟨g, 0, none⟩) := ev_out hA 0 rfl
      exact ph_move _ rfl rfl (.pointer (some ⟨g, 0, none⟩)) e0 (hK _ _ (gb_rr W _) rfl)
    | 5, hin, ho, hu, hK =>
      cases ho
      have e13 : A.eval (.tmp 13) = .pointer (some ⟨g, 0, none⟩) := (ev_in hA 13 4 rfl rfl rfl).trans (show f 4 = .pointer (some ⟨g, 0, none⟩) from hu 4 (by decide))
      exact ph_nil _ rfl rfl _ e13 (hK _ _ (gb_rr W _) rfl)
    | 6, hin, ho, hu, hK =>
      cases ho
      have e14 : A.eval (.tmp 14) = .pointer (some ⟨g, 0, none⟩) := (ev_in hA 14 5 rfl rfl rfl).trans (show f 5 = .pointer (some ⟨g, 0, none⟩) from hu 5 (by decide))
      exact ph_field _ _ _ rfl rfl _ (.pointer (some ⟨g, 7, none⟩)) e14 (by kernel_rfl) (hK _ _ (gb_rr W _) rfl)
    | 7, hin, ho, hu, hK =>
      cases ho
      have e15 : A.eval (.tmp 15) = .pointer (some ⟨g, 7, none⟩) := (ev_in hA 15 6 rfl rfl rfl).trans (show f 6 = .pointer (some ⟨g, 7, none⟩) from hu 6 (by decide))
      have hc : W.cell? ⟨g, 7, none⟩ = some (.int .u32 V) := HK7.out W hg
      refine ph_sem rfl rfl (r := .ok (.value (.int .u32 V)) W) ?_ (hK _ _ (gb_rr W _) rfl)
      have eC : ∀ c, A.eval (.const c) = c := fun _ => rfl; have eF : ∀ g, A.eval (.func g) = .func (.func g) #[] #[] := fun _ => rfl; generalize A.eval = ρ at *
      clear hA hu hg
      go_simp
    | 8, hin, ho, hu, hK =>
      cases ho
      have e16 : A.eval (.tmp 16) = .int .u32 V := (ev_in hA 16 7 rfl rfl rfl).trans (show f 7 = .int .u32 V from hu 7 (by decide))
      refine ph_fn 41 _ _ rfl rfl #[.int .u32 V] (by simp [e16]) (by kernel_rfl) ?_
      refine (Calls.mono (HSU.out W) ?_)
      rintro e W' ⟨rfl, hq⟩
      exact ⟨_, rfl, hK _ _ hq rfl⟩
    | 9, hin, ho, hu, hK =>
      cases ho
      have e12 : A.eval (.tmp 12) = .agg #[.int .u8 x0, .int .u8 x1, .int .u8 x2, .int .u8 x3] := (ev_in hA 12 3 rfl rfl rfl).trans (show f 3 = .agg #[.int .u8 x0, .int .u8 x1, .int .u8 x2, .int .u8 x3] from hu 3 (by decide))
      have e17 : A.eval (.tmp 17) = .agg #[.int .u8 y0, .int .u8 y1, .int .u8 y2, .int .u8 y3] := (ev_in hA 17 8 rfl rfl rfl).trans (show f 8 = .agg #[.int .u8 y0, .int .u8 y1, .int .u8 y2, .int .u8 y3] from hu 8 (by decide))
      have heq := HEQ.out W
      refine ph_sem rfl rfl (r := .ok (.value (.bool true)) W) ?_ (hK _ _ (gb_rr W _) rfl)
      have eC : ∀ c, A.eval (.const c) = c := fun _ => rfl; have eF : ∀ g, A.eval (.func g) = .func (.func g) #[] #[] := fun _ => rfl; generalize A.eval = ρ at *
      clear hA hu hg hK
      go_simp
    | i + 10, hin, ho, hu, hK => omega
  case last =>
    intro f W A hA hg hu o ho K hK
    cases ho
    have e9 : A.eval (.tmp 9) = .pointer (some ⟨g, 0, none⟩) := (ev_in hA 9 0 rfl rfl rfl).trans (show f 0 = .pointer (some ⟨g, 0, none⟩) from hu 0 (by decide))
    have e18 : A.eval (.tmp 18) = .bool true := (ev_in hA 18 9 rfl rfl rfl).trans (show f 9 = .bool true from hu 9 (by decide))
    refine ph_fn 58 _ _ rfl rfl #[.pointer (some ⟨g, 0, none⟩), .bool true, .int .i64 93] (by simp [e9, e18]; rfl) (by kernel_rfl) ?_
    refine (Calls.mono (omust_so g 93 W) ?_)
    rintro _ W9 ⟨rfl, hq⟩
    obtain rfl := hq.symm
    clear hq
    refine ⟨_, rfl, hK _ _ ?_⟩
    have HG : Hid (w.grownBy W none) := hg
    clear hg e9 e18
    have hA2 := hA.trans (putAll_lit [(.pointer (some ⟨g, 0, none⟩)), (.slice (some ⟨b, off, none⟩) n c), (.pointer (some ⟨b, off, none⟩)), (.agg #[.int .u8 x0, .int .u8 x1, .int .u8 x2, .int .u8 x3]), (.pointer (some ⟨g, 0, none⟩)), (.pointer (some ⟨g, 0, none⟩)), (.pointer (some ⟨g, 7, none⟩)), (.int .u32 V), (.agg #[.int .u8 y0, .int .u8 y1, .int .u8 y2, .int .u8 y3]), (.bool true), (f 10)] (by
      intro j hj
      match j, hj with
      | 0, _ => exact hu 0 (by decide)
      | 1, _ => exact hu 1 (by decide)
      | 2, _ => exact hu 2 (by decide)
      | 3, _ => exact hu 3 (by decide)
      | 4, _ => exact hu 4 (by decide)
      | 5, _ => exact hu 5 (by decide)
      | 6, _ => exact hu 6 (by decide)
      | 7, _ => exact hu 7 (by decide)
      | 8, _ => exact hu 8 (by decide)
      | 9, _ => exact hu 9 (by decide)
      | 10, _ => rfl
      | j + 11, hj => exact absurd hj (by simp)))
    clear hu hA
    subst hA2
    simp only [putAll, putL, List.mem_cons, List.not_mem_nil, List.idxOf_cons, Nat.reduceEqDiff, Nat.reduceBEq, Nat.reduceAdd, or_false, or_true, reduceIte, cond_true, cond_false, List.getD_cons_zero, List.getD_cons_succ, BEq.rfl]
    go_wp2
    go_ret2
    exact ⟨rfl, HG.out⟩
set_option maxRecDepth 20000 in
set_option maxHeartbeats 1000000 in
theorem osum_no (g : Nat) (o : Opn) (a : Option Addr) (n c : Nat) (xs : List Int) (t : Cr.Wd) (w : World) (h : OpB w g o) (hs : o.sum = Cr.W t) (hx : Seg .u8 w a n xs) (hb : Bytes xs) (hn : 4 ≤ n) (hm : decide (xs.take 4 = Cr.by4 t) = false) :
    Calls Tryd.prog 126 #[.pointer (some ⟨g, 0, none⟩), .slice a n c] w fun r w' => r = .panicked (chnE 93) ∧ OpB w' g { o with err := 93, rest := none } ∧ w.grownBy w' (some g) := by
  obtain ⟨b, off, rfl, hbl, hc⟩ := hx.2.resolve_left (by omega)
  have hxl : xs.length = n := hx.1
  obtain ⟨y0, y1, y2, y3, hA, hB⟩ := Cr.arr4_ex t
  have hyb : Bytes [y0, y1, y2, y3] := by rw [← hB]; exact Cr.bytes_of_mem (Cr.by4_bytes _)
  rw [hB] at hm
  obtain ⟨x0, x1, x2, x3, hX⟩ := list4I (l := xs.take 4) (by rw [List.length_take]; omega)
  have hxb : Bytes [x0, x1, x2, x3] := by rw [← hX]; exact bytes_takeO hb 4
  have HR : Hid (∀ W, w.grownBy W none → W.rangeAt b off [.int .u8 x0, .int .u8 x1, .int .u8 x2, .int .u8 x3]) := fun W hg i v hv => by
    have hi : i < 4 := by
      have := (List.getElem?_eq_some_iff.1 hv).1
      simpa using this
    have q := hc i (by omega)
    have e : W.cell? ⟨b, off + i, none⟩ = w.cell? ⟨b, off + i, none⟩ := by simp only [World.cell?, hg.block b hbl (by simp)]
    rw [e, q, ← hv]
    have z : (xs.take 4)[i]? = xs[i]? := List.getElem?_take_of_lt hi
    rw [← z, hX]
    match i, hi with
    | 0, _ => rfl
    | 1, _ => rfl
    | 2, _ => rfl
    | 3, _ => rfl
  have HAR : Hid (∀ W, (Instr.arrayAt 96 (.slice (some ⟨b, off, none⟩) n c)).run Tryd.prog W = .ok (.pointer (some ⟨b, off, none⟩)) W) := fun W => by
    have hn2 : ¬ n < 4 := by omega
    simp [Instr.arrayAt, run_underlying Tryd.underlying96, hn2]
  have HSU : Hid (∀ W, Calls Tryd.prog 41 #[.int .u32 (Cr.W t)] W fun e w' => e = .returned (.agg #[.int .u8 y0, .int .u8 y1, .int .u8 y2, .int .u8 y3]) ∧ W.grownBy w' none) := fun W => by
    rw [← hA]
    exact sumOf_c t W
  have HEQ : Hid (∀ W, (Op.equalIn 10000 96 (.agg #[.int .u8 x0, .int .u8 x1, .int .u8 x2, .int .u8 x3]) (.agg #[.int .u8 y0, .int .u8 y1, .int .u8 y2, .int .u8 y3])).run Tryd.prog W = .ok false W) := fun W => by
    have := eq4 [x0, x1, x2, x3] [y0, y1, y2, y3] hxb hyb rfl rfl W
    rw [← hX, hm, hX] at this
    exact this
  have HO : Hid (∀ W, w.grownBy W none → OpB W g o) := fun W hg => opb_gb h hg
  have HK7 : Hid (∀ W, w.grownBy W none → W.cell? ⟨g, 7, none⟩ = some (.int .u32 (Cr.W t))) := fun W hg => by rw [← hs]; exact Bk.cell (opb_gb h hg) 7
  generalize Cr.W t = V at HSU HK7
  have hn1 : ¬ (n : Int) < 4 := by omega
  have hn3 : (4 : Int) ≤ (n : Int) := by omega
  clear h hs hx hb hm hc hbl hA hB hyb hxb hX hxl
  go_enter Tryd.func126, Tryd.ntmps126
  go_wp2_with fail
  refine wp_region_lastR (fun a b => World.grownBy a b none) (fun _ _ _ h k => gb_trans h k) ⟨rfl, rfl, rfl, Nat.le_refl _, fun _ _ _ => rfl⟩ 10 rfl (by kernel_rfl) [9, 10, 11, 12, 13, 14, 15, 16, 17, 18, 19] [[], [], [1], [2], [], [4], [5], [6], [7], [3, 8], [0, 9]] (by kernel_rfl) (by kernel_rfl) [fun u W => u = .pointer (some ⟨g, 0, none⟩), fun u W => u = .slice (some ⟨b, off, none⟩) n c, fun u W => u = .pointer (some ⟨b, off, none⟩), fun u W => u = .agg #[.int .u8 x0, .int .u8 x1, .int .u8 x2, .int .u8 x3], fun u W => u = .pointer (some ⟨g, 0, none⟩), fun u W => u = .pointer (some ⟨g, 0, none⟩), fun u W => u = .pointer (some ⟨g, 7, none⟩), fun u W => u = .int .u32 V, fun u W => u = .agg #[.int .u8 y0, .int .u8 y1, .int .u8 y2, .int .u8 y3], fun u W => u = .bool false] ?stable ?step ?last
  case stable =>
    intro i v W W' h hg
    match i, h with
    | 0, h => exact h
    | 1, h => exact h
    | 2, h => exact h
    | 3, h => exact h
    | 4, h => exact h
    | 5, h => exact h
    | 6, h => exact h
    | 7, h => exact h
    | 8, h => exact h
    | 9, h => exact h
    | i + 10, h => exact trivial
  case step =>
    intro f W A hA hg i o hin ho hu K hK
    match i, hin, ho, hu, hK with
    | 0, hin, ho, hu, hK =>
      cases ho
      have e0 : A.eval (.tmp 0) = .pointer (some ⟨g, 0, none⟩) := ev_out hA 0 rfl
      exact ph_move _ rfl rfl (.pointer (some ⟨g, 0, none⟩)) e0 (hK _ _ (gb_rr W _) rfl)
    | 1, hin, ho, hu, hK =>
      cases ho
      have e1 : A.eval (.tmp 1) = .slice (some ⟨b, off, none⟩) n c := ev_out hA 1 rfl
      exact ph_move _ rfl rfl (.slice (some ⟨b, off, none⟩) n c) e1 (hK _ _ (gb_rr W _) rfl)
    | 2, hin, ho, hu, hK =>
      cases ho
      have e10 : A.eval (.tmp 10) = .slice (some ⟨b, off, none⟩) n c := (ev_in hA 10 1 rfl rfl rfl).trans (show f 1 = .slice (some ⟨b, off, none⟩) n c from hu 1 (by decide))
      have har := HAR.out W
      refine ph_sem rfl rfl (r := .ok (.value (.pointer (some ⟨b, off, none⟩))) W) ?_ (hK _ _ (gb_rr W _) rfl)
      have eC : ∀ c, A.eval (.const c) = c := fun _ => rfl; have eF : ∀ g, A.eval (.func g) = .func (.func g) #[] #[] := fun _ => rfl; generalize A.eval = ρ at *
      clear hA hu hg hK
      go_simp
    | 3, hin, ho, hu, hK =>
      cases ho
      have e11 : A.eval (.tmp 11) = .pointer (some ⟨b, off, none⟩) := (ev_in hA 11 2 rfl rfl rfl).trans (show f 2 = .pointer (some ⟨b, off, none⟩) from hu 2 (by decide))
      exact ph_load rfl 96 _ rfl Tryd.underlying96 rfl b off [.int .u8 x0, .int .u8 x1, .int .u8 x2, .int .u8 x3] (by kernel_rfl) e11 (HR.out W hg) (hK _ _ (gb_rr W _) rfl)
    | 4, hin, ho, hu, hK =>
      cases ho
      have e0 : A.eval (.tmp 0) = .pointer (some ⟨g, 0, none⟩) := ev_out hA 0 rfl
      exact ph_move _ rfl rfl (.pointer (some ⟨g, 0, none⟩)) e0 (hK _ _ (gb_rr W _) rfl)
    | 5, hin, ho, hu, hK =>
      cases ho
      have e13 : A.eval (.tmp 13) = .pointer (some ⟨g, 0, none⟩) := (ev_in hA 13 4 rfl rfl rfl).trans (show f 4 = .pointer (some ⟨g, 0, none⟩) from hu 4 (by decide))
      exact ph_nil _ rfl rfl _ e13 (hK _ _ (gb_rr W _) rfl)
    | 6, hin, ho, hu, hK =>
      cases ho
      have e14 : A.eval (.tmp 14) = .pointer (some ⟨g, 0, none⟩) := (ev_in hA 14 5 rfl rfl rfl).trans (show f 5 = .pointer (some ⟨g, 0, none⟩) from hu 5 (by decide))
      exact ph_field _ _ _ rfl rfl _ (.pointer (some ⟨g, 7, none⟩)) e14 (by kernel_rfl) (hK _ _ (gb_rr W _) rfl)
    | 7, hin, ho, hu, hK =>
      cases ho
      have e15 : A.eval (.tmp 15) = .pointer (some ⟨g, 7, none⟩) := (ev_in hA 15 6 rfl rfl rfl).trans (show f 6 = .pointer (some ⟨g, 7, none⟩) from hu 6 (by decide))
      have hc : W.cell? ⟨g, 7, none⟩ = some (.int .u32 V) := HK7.out W hg
      refine ph_sem rfl rfl (r := .ok (.value (.int .u32 V)) W) ?_ (hK _ _ (gb_rr W _) rfl)
      have eC : ∀ c, A.eval (.const c) = c := fun _ => rfl; have eF : ∀ g, A.eval (.func g) = .func (.func g) #[] #[] := fun _ => rfl; generalize A.eval = ρ at *
      clear hA hu hg
      go_simp
    | 8, hin, ho, hu, hK =>
      cases ho
      have e16 : A.eval (.tmp 16) = .int .u32 V := (ev_in hA 16 7 rfl rfl rfl).trans (show f 7 = .int .u32 V from hu 7 (by decide))
      refine ph_fn 41 _ _ rfl rfl #[.int .u32 V] (by simp [e16]) (by kernel_rfl) ?_
      refine (Calls.mono (HSU.out W) ?_)
      rintro e W' ⟨rfl, hq⟩
      exact ⟨_, rfl, hK _ _ hq rfl⟩
    | 9, hin, ho, hu, hK =>
      cases ho
      have e12 : A.eval (.tmp 12) = .agg #[.int .u8 x0, .int .u8 x1, .int .u8 x2, .int .u8 x3] := (ev_in hA 12 3 rfl rfl rfl).trans (show f 3 = .agg #[.int .u8 x0, .int .u8 x1, .int .u8 x2, .int .u8 x3] from hu 3 (by decide))
      have e17 : A.eval (.tmp 17) = .agg #[.int .u8 y0, .int .u8 y1, .int .u8 y2, .int .u8 y3] := (ev_in hA 17 8 rfl rfl rfl).trans (show f 8 = .agg #[.int .u8 y0, .int .u8 y1, .int .u8 y2, .int .u8 y3] from hu 8 (by decide))
      have heq := HEQ.out W
      refine ph_sem rfl rfl (r := .ok (.value (.bool false)) W) ?_ (hK _ _ (gb_rr W _) rfl)
      have eC : ∀ c, A.eval (.const c) = c := fun _ => rfl; have eF : ∀ g, A.eval (.func g) = .func (.func g) #[] #[] := fun _ => rfl; generalize A.eval = ρ at *
      clear hA hu hg hK
      go_simp
    | i + 10, hin, ho, hu, hK => omega
  case last =>
    intro f W A hA hg hu o ho K hK
    cases ho
    have e9 : A.eval (.tmp 9) = .pointer (some ⟨g, 0, none⟩) := (ev_in hA 9 0 rfl rfl rfl).trans (show f 0 = .pointer (some ⟨g, 0, none⟩) from hu 0 (by decide))
    have e18 : A.eval (.tmp 18) = .bool false := (ev_in hA 18 9 rfl rfl rfl).trans (show f 9 = .bool false from hu 9 (by decide))
    refine ph_fnP 58 _ _ rfl rfl #[.pointer (some ⟨g, 0, none⟩), .bool false, .int .i64 93] (by simp [e9, e18]; rfl) (by kernel_rfl) ?_
    refine (Calls.mono (omust_no g o 93 W (HO.out W hg)) ?_)
    rintro _ W9 ⟨rfl, h9, h8⟩
    refine ⟨_, rfl, ?_⟩
    have H9 : Hid _ := And.intro h9 (gb_trans (gb_wide hg _) h8)
    clear h9 h8 hg hK hu
    subst hA
    exact ⟨rfl, rfl, H9.out⟩
end Go.Proofs.YtcdgfghcmeadgaaDoor
