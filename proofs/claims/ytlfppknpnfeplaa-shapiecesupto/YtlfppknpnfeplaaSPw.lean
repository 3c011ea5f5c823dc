/-
  ShaPieces: whatever the pieces, and whatever is asked between, the digest is that of the whole. Condition: no more than 2^20 bytes.
-/
import Derived.Test.YtlfppknpnfeplaaSMk
import Derived.Test.YtlfppknpnfeplaaSEq
namespace Go.Proofs.Ytlfppknpnfeplaa
set_option linter.unusedVariables false
open Go.RowKit

theorem new_cell (w : World) (cs : Array Value) (T : TypeId) (j : Nat) (v : Value) (h : cs[j]? = some v) : (w.alloc (.cells cs T)).cell? ⟨w.heap.size, j, none⟩ = some v := by
  rw [(blk_new w T cs).1.cell j, h]
set_option maxRecDepth 20000 in
set_option maxHeartbeats 4000000 in
theorem pieces_w (a0 : Option Addr) (len0 cap0 : Nat) (zs : List Int) (a1 : Option Addr) (len1 cap1 : Nat) (cs : List Int) (w : World) (s0 : Seg .u8 w a0 len0 zs) (hz : Bytes zs) (lc0 : len0 ≤ cap0) (cr0 : cap0 ≤ 1048576) (s1 : Seg .i64 w a1 len1 cs) (hl1 : len1 ≤ 1048576) (hcs : ∀ c ∈ cs, -9223372036854775808 ≤ c ∧ c ≤ 9223372036854775807) :
    Calls Try.prog 5 #[.slice a0 len0 cap0, .slice a1 len1 cap1] w fun e w' => e = .returned (.bool true) ∧ Below w.heap.size w w' := by
  have HX : Hid (Seg .u8 w a0 len0 zs ∧ Bytes zs ∧ Seg .i64 w a1 len1 cs ∧ ∀ c ∈ cs, -9223372036854775808 ≤ c ∧ c ≤ 9223372036854775807) := ⟨s0, hz, s1, hcs⟩
  clear s0 hz s1 hcs
  go_enter Try.func5, Try.ntmps5
  go_wp2_with (first
    | (go_at_call 7; refine (Calls.mono (pc_new _) ?_); rintro r w1 ⟨g0, rfl, h1⟩; have H1 : Hid (PH w w1 g0 (zs.take 0)) := h1; clear h1))
  go_loopw [5, 6, 15] (fun h m i wr => ∃ (g at0 k : Nat), h = .pointer (some ⟨g, 0, none⟩) ∧ m = .int .i64 (at0 : Int) ∧ i = .int .i64 (k : Int) ∧ at0 ≤ len0 ∧ k ≤ len1 ∧ Hid (PH w wr g (zs.take at0))) (fun _ _ i _ => len1 - (intOf i).toNat)
  case atStart => exact ⟨g0, 0, 0, rfl, rfl, rfl, Nat.zero_le _, Nat.zero_le _, H1⟩
  case round =>
    obtain ⟨g, at0, k, rfl, rfl, rfl, ha, hk, hr⟩ := hrel
    clear H1
    by_cases hlt : k < len1
    · obtain ⟨b1, o1, rfl, hb1, hcell⟩ := HX.out.2.2.1.2.resolve_left (by omega)
      have hkc : wr.cell? ⟨b1, o1 + k, none⟩ = some (.int .i64 (cs[k]?.getD 0)) := ((gb_below hr.out.2.1).cell (p := ⟨b1, o1 + k, none⟩) hb1).trans (hcell k hlt)
      have hcb : -9223372036854775808 ≤ cs[k]?.getD 0 ∧ cs[k]?.getD 0 ≤ 9223372036854775807 := by
        have h1 : k < cs.length := by rw [HX.out.2.2.1.1]; exact hlt
        rw [List.getElem?_eq_getElem h1]
        exact HX.out.2.2.2 _ (List.getElem_mem h1)
      obtain ⟨c, hc⟩ : ∃ c, c = cs[k]?.getD 0 := ⟨_, rfl⟩
      rw [← hc] at hkc hcb
      clear hc hcell
      obtain ⟨N, hN⟩ : ∃ N : Nat, N = if 0 < c then (c % ((len0 : Int) - at0 + 1)).toNat else 0 := ⟨_, rfl⟩
      have hNl : at0 + N ≤ len0 := by
        rw [hN]
        split
        · have h1 := Int.emod_nonneg c (show ((len0 : Int) - at0 + 1) ≠ 0 by omega)
          have h2 := Int.emod_lt_of_pos c (show (0 : Int) < (len0 : Int) - at0 + 1 by omega)
          omega
        · omega
      obtain ⟨mm, hmm⟩ : ∃ mm, mm = at0 + N := ⟨_, rfl⟩
      have hmi : (at0 : Int) + (N : Int) = (mm : Int) := by omega
      have hml : mm ≤ len0 := by omega
      have hs1 : ∀ W, (Instr.slice 29 (.slice a0 len0 cap0) (some (.int .i64 (at0 : Int))) (some (.int .i64 (mm : Int))) none).run Try.prog W = .ok (.slice (cutB a0 cap0 at0) (mm - at0) (cap0 - at0)) W := fun W => slice_blh a0 len0 cap0 at0 mm (by omega) (by omega) W
      have hs2 : ∀ W, (Instr.slice 29 (.slice a0 len0 cap0) none (some (.int .i64 (mm : Int))) none).run Try.prog W = .ok (.slice a0 mm cap0) W := fun W => slice_bh a0 len0 cap0 mm (by omega) W
      have HWR : Hid (Calls Try.prog 10 #[.pointer (some ⟨g, 0, none⟩), .slice (cutB a0 cap0 at0) (mm - at0) (cap0 - at0)] wr fun r w' => r = .returned (.tuple #[]) ∧ PH w w' g (zs.take mm)) := by
        have h1 := pc_write hr.out (cutB a0 cap0 at0) (mm - at0) (cap0 - at0) ((zs.take mm).drop at0) (seg_cutB HX.out.1 at0 mm (by omega) hml lc0) (bytes_sub HX.out.2.1 fun z hz => List.mem_of_mem_take (List.mem_of_mem_drop hz)) (by omega) (by omega) (by simp; omega)
        have h2 : zs.take at0 ++ (zs.take mm).drop at0 = zs.take mm := by
          have h3 := List.take_append_drop at0 (zs.take mm)
          rw [List.take_take, Nat.min_eq_left (by omega)] at h3
          exact h3
        rw [h2] at h1
        exact h1
      have HTL : Hid ((zs.take mm).length = mm) := by show _ = _; rw [List.length_take, HX.out.1.1]; omega
      have HLE : Hid (∀ W, PH w W g (zs.take mm) → Calls Try.prog 15 #[.pointer (some ⟨g, 0, none⟩)] W fun r w' => r = .returned (.int .i64 (mm : Int)) ∧ w' = W) := fun W h => by have := pc_len h; rw [HTL.out] at this; exact this
      have HSU : Hid (∀ W, PH w W g (zs.take mm) → Calls Try.prog 13 #[.pointer (some ⟨g, 0, none⟩)] W fun r w' => r = .returned (.agg (u8s (sha (zs.take mm)))) ∧ W.grownBy w' none) := fun W h => pc_sum h
      have HS1 : Hid (∀ (W : World) (g1 : Nat), w.grownBy W none → W.cell? ⟨g1, 0, none⟩ = some (.slice a0 mm cap0) → g1 < W.heap.size → Calls Try.prog 24 #[.slice (some ⟨g1, 0, none⟩) 1 1] W fun r w' => r = .returned (.agg (u8s (sha (zs.take mm)))) ∧ W.grownBy w' none) := fun W g1 hW h1 h2 =>
        sum1_c g1 a0 mm cap0 (zs.take mm) W h1 h2 ((seg_headB HX.out.1 hml).below (gb_below hW)) (bytes_sub HX.out.2.1 fun z hz => List.mem_of_mem_take hz) (by omega) (by omega) (by rw [HTL.out]; omega)
      have heq := fun W => eqD (sha (zs.take mm)) (sha_bytes _) (sha_len _) W
      obtain ⟨D, hD⟩ : ∃ D, D = sha (zs.take mm) := ⟨_, rfl⟩
      rw [← hD] at HSU HS1 heq
      clear hD hmm
      by_cases hpos : 0 < c
      · have hN1 : c % ((len0 : Int) - at0 + 1) = (N : Int) := by
          rw [hN, if_pos hpos]
          have h1 := Int.emod_nonneg c (show ((len0 : Int) - at0 + 1) ≠ 0 by omega)
          omega
        have hN2 : c.tmod ((len0 : Int) - at0 + 1) = (N : Int) := by rw [Int.tmod_eq_emod_of_nonneg (by omega)]; exact hN1
        clear hN
        go_wp2_with (first
          | (go_at_call 10; refine (Calls.mono HWR.out ?_); rintro r w2 ⟨rfl, h2⟩; have H2 : Hid (PH w w2 g (zs.take mm)) := h2; clear h2))
        by_cases hE : k % 2 = 0
        · have hE1 : (k : Int) % 2 = 0 := by omega
          have hE2 : (k : Int).tmod 2 = 0 := by rw [Int.tmod_eq_emod_of_nonneg (by omega)]; exact hE1
          refine wp_region_phi none rfl (by kernel_rfl) [40, 41, 42, 43, 44, 45, 46, 47, 48, 49, 50, 51, 52, 53, 54, 55, 56, 57, 58] [[], [0], [1], [2], [3], [4, 3], [3], [3], [6, 7, 3], [8, 3], [9, 3], [5, 10, 3], [3, 11], [12], [13], [14, 13], [13], [15, 16, 13], [13, 17]] (by kernel_rfl) [fun u W => u = .int .i64 (k : Int), fun u W => u = .int .i64 0, fun u W => u = .bool true, fun u W => u = .bool true, fun u W => u = .pointer (some ⟨g, 0, none⟩), fun u W => u = .agg (u8s D), fun u W => u = .slice a0 len0 cap0, fun u W => u = .int .i64 (mm : Int), fun u W => u = .slice a0 mm cap0, fun u W => ∃ g1, u = .slice (some ⟨g1, 0, none⟩) 1 1 ∧ g1 < W.heap.size ∧ W.cell? ⟨g1, 0, none⟩ = some (.slice a0 mm cap0), fun u W => u = .agg (u8s D), fun u W => u = .bool false, fun u W => u = .bool false, fun u W => u = .bool false, fun u W => u = .pointer (some ⟨g, 0, none⟩), fun u W => u = .int .i64 (mm : Int), fun u W => u = .int .i64 (mm : Int), fun u W => u = .bool false, fun u W => u = .bool false] ?stable ?step ?fin
          case stable =>
            intro i v W W' h hg
            match i, h with
            | 0, h => exact h
            | 1, h => exact h
            | 2, h => exact h
            | 3, h => exact h
            | 4, h => exact h
            | 5, h => exact h
            | 6, h => exact h
            | 7, h => exact h
            | 8, h => exact h
            | 9, h => obtain ⟨g1, h1, h2, k0⟩ := h; exact ⟨g1, h1, Nat.lt_of_lt_of_le h2 hg.size, ((gb_below hg).cell (p := ⟨g1, 0, none⟩) h2).trans k0⟩
            | 10, h => exact h
            | 11, h => exact h
            | 12, h => exact h
            | 13, h => exact h
            | 14, h => exact h
            | 15, h => exact h
            | 16, h => exact h
            | 17, h => exact h
            | 18, h => exact h
            | i + 19, h => exact trivial
          case step =>
            intro f W A hA hg i o ho hu K hK
            match i, ho, hu, hK with
            | 0, ho, hu, hK =>
              cases ho
              have hw : PH w W g (zs.take mm) := H2.out.gb hg
              have e7 : A.eval (.tmp 7) = .int .i64 (k : Int) := ev_out hA 7 rfl
              exact ph_move _ rfl rfl (.int .i64 (k : Int)) e7 (hK _ _ (gb_rr W _) rfl)
            | 1, ho, hu, hK =>
              cases ho
              have hw : PH w W g (zs.take mm) := H2.out.gb hg
              have e40 : A.eval (.tmp 40) = .int .i64 (k : Int) := (ev_in hA 40 0 rfl rfl rfl).trans (show f 0 = .int .i64 (k : Int) from hu 0 (by decide))
              refine ph_sem rfl rfl (r := .ok (.value (.int .i64 0)) W) ?_ (hK _ _ (gb_rr W _) rfl)
              have eC : ∀ c, A.eval (.const c) = c := fun _ => rfl; have eF : ∀ g, A.eval (.func g) = .func (.func g) #[] #[] := fun _ => rfl; generalize A.eval = ρ at *
              clear hA hu
              go_simp
            | 2, ho, hu, hK =>
              cases ho
              have hw : PH w W g (zs.take mm) := H2.out.gb hg
              have e41 : A.eval (.tmp 41) = .int .i64 0 := (ev_in hA 41 1 rfl rfl rfl).trans (show f 1 = .int .i64 0 from hu 1 (by decide))
              refine ph_sem rfl rfl (r := .ok (.value (.bool true)) W) ?_ (hK _ _ (gb_rr W _) rfl)
              have eC : ∀ c, A.eval (.const c) = c := fun _ => rfl; have eF : ∀ g, A.eval (.func g) = .func (.func g) #[] #[] := fun _ => rfl; generalize A.eval = ρ at *
              clear hA hu
              go_simp
            | 3, ho, hu, hK =>
              cases ho
              have hw : PH w W g (zs.take mm) := H2.out.gb hg
              have e42 : A.eval (.tmp 42) = .bool true := (ev_in hA 42 2 rfl rfl rfl).trans (show f 2 = .bool true from hu 2 (by decide))
              exact ph_move _ rfl rfl (.bool true) e42 (hK _ _ (gb_rr W _) rfl)
            | 4, ho, hu, hK =>
              cases ho
              have hw : PH w W g (zs.take mm) := H2.out.gb hg
              have e5 : A.eval (.tmp 5) = .pointer (some ⟨g, 0, none⟩) := ev_out hA 5 rfl
              have e43 : A.eval (.tmp 43) = .bool true := (ev_in hA 43 3 rfl rfl rfl).trans (show f 3 = .bool true from hu 3 (by decide))
              exact ph_move _ rfl (wanted_in hA 3 true rfl 43 rfl rfl e43) (.pointer (some ⟨g, 0, none⟩)) e5 (hK _ _ (gb_rr W _) rfl)
            | 5, ho, hu, hK =>
              cases ho
              have hw : PH w W g (zs.take mm) := H2.out.gb hg
              have e44 : A.eval (.tmp 44) = .pointer (some ⟨g, 0, none⟩) := (ev_in hA 44 4 rfl rfl rfl).trans (show f 4 = .pointer (some ⟨g, 0, none⟩) from hu 4 (by decide))
              have e43 : A.eval (.tmp 43) = .bool true := (ev_in hA 43 3 rfl rfl rfl).trans (show f 3 = .bool true from hu 3 (by decide))
              refine ph_fn 13 _ _ rfl (wanted_in hA 3 true rfl 43 rfl rfl e43) #[.pointer (some ⟨g, 0, none⟩)] (by simp [e44]) (by kernel_rfl) ?_
              refine (Calls.mono (HSU.out W hw) ?_)
              rintro e W' ⟨rfl, hq⟩
              exact ⟨_, rfl, hK _ _ hq rfl⟩
            | 6, ho, hu, hK =>
              cases ho
              have hw : PH w W g (zs.take mm) := H2.out.gb hg
              have e0 : A.eval (.tmp 0) = .slice a0 len0 cap0 := ev_out hA 0 rfl
              have e43 : A.eval (.tmp 43) = .bool true := (ev_in hA 43 3 rfl rfl rfl).trans (show f 3 = .bool true from hu 3 (by decide))
              exact ph_move _ rfl (wanted_in hA 3 true rfl 43 rfl rfl e43) (.slice a0 len0 cap0) e0 (hK _ _ (gb_rr W _) rfl)
            | 7, ho, hu, hK =>
              cases ho
              have hw : PH w W g (zs.take mm) := H2.out.gb hg
              have e6 : A.eval (.tmp 6) = .int .i64 (mm : Int) := ev_out hA 6 rfl
              have e43 : A.eval (.tmp 43) = .bool true := (ev_in hA 43 3 rfl rfl rfl).trans (show f 3 = .bool true from hu 3 (by decide))
              exact ph_move _ rfl (wanted_in hA 3 true rfl 43 rfl rfl e43) (.int .i64 (mm : Int)) e6 (hK _ _ (gb_rr W _) rfl)
            | 8, ho, hu, hK =>
              cases ho
              have hw : PH w W g (zs.take mm) := H2.out.gb hg
              have e46 : A.eval (.tmp 46) = .slice a0 len0 cap0 := (ev_in hA 46 6 rfl rfl rfl).trans (show f 6 = .slice a0 len0 cap0 from hu 6 (by decide))
              have e47 : A.eval (.tmp 47) = .int .i64 (mm : Int) := (ev_in hA 47 7 rfl rfl rfl).trans (show f 7 = .int .i64 (mm : Int) from hu 7 (by decide))
              have e43 : A.eval (.tmp 43) = .bool true := (ev_in hA 43 3 rfl rfl rfl).trans (show f 3 = .bool true from hu 3 (by decide))
              refine ph_sem rfl (wanted_in hA 3 true rfl 43 rfl rfl e43) (r := .ok (.value (.slice a0 mm cap0)) W) ?_ (hK _ _ (gb_rr W _) rfl)
              have eC : ∀ c, A.eval (.const c) = c := fun _ => rfl; have eF : ∀ g, A.eval (.func g) = .func (.func g) #[] #[] := fun _ => rfl; generalize A.eval = ρ at *
              clear hA hu
              go_simp
            | 9, ho, hu, hK =>
              cases ho
              have hw : PH w W g (zs.take mm) := H2.out.gb hg
              have e48 : A.eval (.tmp 48) = .slice a0 mm cap0 := (ev_in hA 48 8 rfl rfl rfl).trans (show f 8 = .slice a0 mm cap0 from hu 8 (by decide))
              have e43 : A.eval (.tmp 43) = .bool true := (ev_in hA 43 3 rfl rfl rfl).trans (show f 3 = .bool true from hu 3 (by decide))
              refine ph_sem rfl (wanted_in hA 3 true rfl 43 rfl rfl e43) (r := .ok (.value (.slice (some ⟨W.heap.size, 0, none⟩) 1 1)) (W.alloc (.cells #[.slice a0 mm cap0] 29))) ?_ (hK _ _ (gb_alloc W _) ⟨W.heap.size, rfl, lt_of_block (blk_new W _ _).1, new_cell W _ _ 0 _ rfl⟩)
              have eC : ∀ c, A.eval (.const c) = c := fun _ => rfl; have eF : ∀ g, A.eval (.func g) = .func (.func g) #[] #[] := fun _ => rfl; generalize A.eval = ρ at *
              clear hA hu
              go_simp
            | 10, ho, hu, hK =>
              cases ho
              have hw : PH w W g (zs.take mm) := H2.out.gb hg
              obtain ⟨g9, hv9, l9, c9_0⟩ := hu 9 (by decide)
              have e49 : A.eval (.tmp 49) = .slice (some ⟨g9, 0, none⟩) 1 1 := (ev_in hA 49 9 rfl rfl rfl).trans hv9
              have e43 : A.eval (.tmp 43) = .bool true := (ev_in hA 43 3 rfl rfl rfl).trans (show f 3 = .bool true from hu 3 (by decide))
              refine ph_fn 24 _ _ rfl (wanted_in hA 3 true rfl 43 rfl rfl e43) #[.slice (some ⟨g9, 0, none⟩) 1 1] (by simp [e49]) (by kernel_rfl) ?_
              refine (Calls.mono (HS1.out W g9 hw.2.1 c9_0 l9) ?_)
              rintro e W' ⟨rfl, hq⟩
              exact ⟨_, rfl, hK _ _ hq rfl⟩
            | 11, ho, hu, hK =>
              cases ho
              have hw : PH w W g (zs.take mm) := H2.out.gb hg
              have e45 : A.eval (.tmp 45) = .agg (u8s D) := (ev_in hA 45 5 rfl rfl rfl).trans (show f 5 = .agg (u8s D) from hu 5 (by decide))
              have e50 : A.eval (.tmp 50) = .agg (u8s D) := (ev_in hA 50 10 rfl rfl rfl).trans (show f 10 = .agg (u8s D) from hu 10 (by decide))
              have e43 : A.eval (.tmp 43) = .bool true := (ev_in hA 43 3 rfl rfl rfl).trans (show f 3 = .bool true from hu 3 (by decide))
              refine ph_sem rfl (wanted_in hA 3 true rfl 43 rfl rfl e43) (r := .ok (.value (.bool false)) W) ?_ (hK _ _ (gb_rr W _) rfl)
              have eC : ∀ c, A.eval (.const c) = c := fun _ => rfl; have eF : ∀ g, A.eval (.func g) = .func (.func g) #[] #[] := fun _ => rfl; generalize A.eval = ρ at *
              clear hA hu
              go_simp
            | 12, ho, hu, hK =>
              cases ho
              have hw : PH w W g (zs.take mm) := H2.out.gb hg
              have e43 : A.eval (.tmp 43) = .bool true := (ev_in hA 43 3 rfl rfl rfl).trans (show f 3 = .bool true from hu 3 (by decide))
              have e51 : A.eval (.tmp 51) = .bool false := (ev_in hA 51 11 rfl rfl rfl).trans (show f 11 = .bool false from hu 11 (by decide))
              exact ph_pick _ _ _ rfl rfl true (.bool false) (.bool false) e43 e51 rfl (hK _ _ (gb_rr W _) rfl)
            | 13, ho, hu, hK =>
              cases ho
              have hw : PH w W g (zs.take mm) := H2.out.gb hg
              have e52 : A.eval (.tmp 52) = .bool false := (ev_in hA 52 12 rfl rfl rfl).trans (show f 12 = .bool false from hu 12 (by decide))
              exact ph_move _ rfl rfl (.bool false) e52 (hK _ _ (gb_rr W _) rfl)
            | 14, ho, hu, hK =>
              cases ho
              have hw : PH w W g (zs.take mm) := H2.out.gb hg
              have e5 : A.eval (.tmp 5) = .pointer (some ⟨g, 0, none⟩) := ev_out hA 5 rfl
              have e53 : A.eval (.tmp 53) = .bool false := (ev_in hA 53 13 rfl rfl rfl).trans (show f 13 = .bool false from hu 13 (by decide))
              exact ph_move _ rfl (wanted_in hA 13 false rfl 53 rfl rfl e53) (.pointer (some ⟨g, 0, none⟩)) e5 (hK _ _ (gb_rr W _) rfl)
            | 15, ho, hu, hK =>
              cases ho
              have hw : PH w W g (zs.take mm) := H2.out.gb hg
              have e54 : A.eval (.tmp 54) = .pointer (some ⟨g, 0, none⟩) := (ev_in hA 54 14 rfl rfl rfl).trans (show f 14 = .pointer (some ⟨g, 0, none⟩) from hu 14 (by decide))
              have e53 : A.eval (.tmp 53) = .bool false := (ev_in hA 53 13 rfl rfl rfl).trans (show f 13 = .bool false from hu 13 (by decide))
              refine ph_fn 15 _ _ rfl (wanted_in hA 13 false rfl 53 rfl rfl e53) #[.pointer (some ⟨g, 0, none⟩)] (by simp [e54]) (by kernel_rfl) ?_
              refine (Calls.mono (HLE.out W hw) ?_)
              rintro e W' ⟨rfl, hq⟩
              exact ⟨_, rfl, hK _ _ (by rw [hq]; exact gb_rr W _) rfl⟩
            | 16, ho, hu, hK =>
              cases ho
              have hw : PH w W g (zs.take mm) := H2.out.gb hg
              have e6 : A.eval (.tmp 6) = .int .i64 (mm : Int) := ev_out hA 6 rfl
              have e53 : A.eval (.tmp 53) = .bool false := (ev_in hA 53 13 rfl rfl rfl).trans (show f 13 = .bool false from hu 13 (by decide))
              exact ph_move _ rfl (wanted_in hA 13 false rfl 53 rfl rfl e53) (.int .i64 (mm : Int)) e6 (hK _ _ (gb_rr W _) rfl)
            | 17, ho, hu, hK =>
              cases ho
              have hw : PH w W g (zs.take mm) := H2.out.gb hg
              have e55 : A.eval (.tmp 55) = .int .i64 (mm : Int) := (ev_in hA 55 15 rfl rfl rfl).trans (show f 15 = .int .i64 (mm : Int) from hu 15 (by decide))
              have e56 : A.eval (.tmp 56) = .int .i64 (mm : Int) := (ev_in hA 56 16 rfl rfl rfl).trans (show f 16 = .int .i64 (mm : Int) from hu 16 (by decide))
              have e53 : A.eval (.tmp 53) = .bool false := (ev_in hA 53 13 rfl rfl rfl).trans (show f 13 = .bool false from hu 13 (by decide))
              refine ph_sem rfl (wanted_in hA 13 false rfl 53 rfl rfl e53) (r := .ok (.value (.bool false)) W) ?_ (hK _ _ (gb_rr W _) rfl)
              have eC : ∀ c, A.eval (.const c) = c := fun _ => rfl; have eF : ∀ g, A.eval (.func g) = .func (.func g) #[] #[] := fun _ => rfl; generalize A.eval = ρ at *
              clear hA hu
              go_simp
            | 18, ho, hu, hK =>
              cases ho
              have hw : PH w W g (zs.take mm) := H2.out.gb hg
              have e53 : A.eval (.tmp 53) = .bool false := (ev_in hA 53 13 rfl rfl rfl).trans (show f 13 = .bool false from hu 13 (by decide))
              have e57 : A.eval (.tmp 57) = .bool false := (ev_in hA 57 17 rfl rfl rfl).trans (show f 17 = .bool false from hu 17 (by decide))
              exact ph_pick _ _ _ rfl rfl false (.bool true) (.bool false) e53 rfl e57 (hK _ _ (gb_rr W _) rfl)
            | i + 19, ho, hu, hK => simp at ho
          case fin =>
            intro f W A hA hg hu
            have H3 : Hid (PH w W g (zs.take mm)) := H2.out.gb hg
            obtain ⟨g9, hv9, l9, c9_0⟩ := hu 9 (by decide)
            have hA2 := hA.trans (putAll_lit [(.int .i64 (k : Int)), (.int .i64 0), (.bool true), (.bool true), (.pointer (some ⟨g, 0, none⟩)), (.agg (u8s D)), (.slice a0 len0 cap0), (.int .i64 (mm : Int)), (.slice a0 mm cap0), (.slice (some ⟨g9, 0, none⟩) 1 1), (.agg (u8s D)), (.bool false), (.bool false), (.bool false), (.pointer (some ⟨g, 0, none⟩)), (.int .i64 (mm : Int)), (.int .i64 (mm : Int)), (.bool false), (.bool false)] (by
              intro j hj
              match j, hj with
              | 0, _ => exact hu 0 (by decide)
              | 1, _ => exact hu 1 (by decide)
              | 2, _ => exact hu 2 (by decide)
              | 3, _ => exact hu 3 (by decide)
              | 4, _ => exact hu 4 (by decide)
              | 5, _ => exact hu 5 (by decide)
              | 6, _ => exact hu 6 (by decide)
              | 7, _ => exact hu 7 (by decide)
              | 8, _ => exact hu 8 (by decide)
              | 9, _ => exact hv9
              | 10, _ => exact hu 10 (by decide)
              | 11, _ => exact hu 11 (by decide)
              | 12, _ => exact hu 12 (by decide)
              | 13, _ => exact hu 13 (by decide)
              | 14, _ => exact hu 14 (by decide)
              | 15, _ => exact hu 15 (by decide)
              | 16, _ => exact hu 16 (by decide)
              | 17, _ => exact hu 17 (by decide)
              | 18, _ => exact hu 18 (by decide)
              | j + 19, hj => exact absurd hj (by simp)))
            clear hu hA
            subst hA2
            simp only [putAll, putL, List.mem_cons, List.not_mem_nil, List.idxOf_cons, Nat.reduceEqDiff, Nat.reduceBEq, Nat.reduceAdd, or_false, or_true, reduceIte, cond_true, cond_false, List.getD_cons_zero, List.getD_cons_succ, BEq.rfl]
            clear hg
            by_cases h3 : k % 3 = 1
            · have h31 : (k : Int) % 3 = 1 := by omega
              have h32 : (k : Int).tmod 3 = 1 := by rw [Int.tmod_eq_emod_of_nonneg (by omega)]; exact h31
              go_wp2_with (first
                | (go_at_call 17; refine (Calls.mono (pc_save H3.out) ?_); rintro r w4 ⟨bs, ls, ks, rfl, q1, q2, q3, q4⟩; have H4 : Hid (Seg .u8 w4 (some ⟨bs, 0, none⟩) ls (svB (shz (st0, []) (zs.take mm)) (zs.take mm).length) ∧ ls ≤ ks ∧ ks ≤ maxLen ∧ PH w w4 g (zs.take mm)) := ⟨q1, q2, q3, q4⟩; clear q1 q2 q3 q4)
                | (go_at_call 20; refine (Calls.mono (pc_load H4.out.2.2.2 bs ls ks H4.out.1 H4.out.2.1 H4.out.2.2.1) ?_); rintro r w5 ⟨g5, rfl, h5⟩; have H5 : Hid (PH w w5 g5 (zs.take mm)) := h5; clear h5))
              go_roundw
              case rel => exact ⟨g5, mm, k + 1, rfl, rfl, by go_num, hml, by omega, H5⟩
              case measure => simp [intOf]; omega
            · have h31 : ¬ (k : Int) % 3 = 1 := by omega
              have h32 : ¬ (k : Int).tmod 3 = 1 := by rw [Int.tmod_eq_emod_of_nonneg (by omega)]; exact h31
              have h33 : ((k : Int) % 3 == 1) = false := beq_eq_false_iff_ne.2 h31
              have h34 : ((k : Int).tmod 3 == 1) = false := beq_eq_false_iff_ne.2 h32
              go_wp2
              go_roundw
              case rel => exact ⟨g, mm, k + 1, rfl, rfl, by go_num, hml, by omega, H3⟩
              case measure => simp [intOf]; omega
        · have hE1 : (k : Int) % 2 = 1 := by omega
          have hE2 : (k : Int).tmod 2 = 1 := by rw [Int.tmod_eq_emod_of_nonneg (by omega)]; exact hE1
          refine wp_region_phi none rfl (by kernel_rfl) [40, 41, 42, 43, 44, 45, 46, 47, 48, 49, 50, 51, 52, 53, 54, 55, 56, 57, 58] [[], [0], [1], [2], [3], [3], [3], [3], [3], [3], [3], [3], [3, 11], [12], [13], [14, 13], [13], [15, 16, 13], [13, 17]] (by kernel_rfl) [fun u W => u = .int .i64 (k : Int), fun u W => u = .int .i64 1, fun u W => u = .bool false, fun u W => u = .bool false, fun u W => u = undef, fun u W => u = undef, fun u W => u = undef, fun u W => u = undef, fun u W => u = undef, fun u W => u = undef, fun u W => u = undef, fun u W => u = undef, fun u W => u = .bool false, fun u W => u = .bool false, fun u W => u = .pointer (some ⟨g, 0, none⟩), fun u W => u = .int .i64 (mm : Int), fun u W => u = .int .i64 (mm : Int), fun u W => u = .bool false, fun u W => u = .bool false] ?stable ?step ?fin
          case stable =>
            intro i v W W' h hg
            match i, h with
            | 0, h => exact h
            | 1, h => exact h
            | 2, h => exact h
            | 3, h => exact h
            | 4, h => exact h
            | 5, h => exact h
            | 6, h => exact h
            | 7, h => exact h
            | 8, h => exact h
            | 9, h => exact h
            | 10, h => exact h
            | 11, h => exact h
            | 12, h => exact h
            | 13, h => exact h
            | 14, h => exact h
            | 15, h => exact h
            | 16, h => exact h
            | 17, h => exact h
            | 18, h => exact h
            | i + 19, h => exact trivial
          case step =>
            intro f W A hA hg i o ho hu K hK
            match i, ho, hu, hK with
            | 0, ho, hu, hK =>
              cases ho
              have hw : PH w W g (zs.take mm) := H2.out.gb hg
              have e7 : A.eval (.tmp 7) = .int .i64 (k : Int) := ev_out hA 7 rfl
              exact ph_move _ rfl rfl (.int .i64 (k : Int)) e7 (hK _ _ (gb_rr W _) rfl)
            | 1, ho, hu, hK =>
              cases ho
              have hw : PH w W g (zs.take mm) := H2.out.gb hg
              have e40 : A.eval (.tmp 40) = .int .i64 (k : Int) := (ev_in hA 40 0 rfl rfl rfl).trans (show f 0 = .int .i64 (k : Int) from hu 0 (by decide))
              refine ph_sem rfl rfl (r := .ok (.value (.int .i64 1)) W) ?_ (hK _ _ (gb_rr W _) rfl)
              have eC : ∀ c, A.eval (.const c) = c := fun _ => rfl; have eF : ∀ g, A.eval (.func g) = .func (.func g) #[] #[] := fun _ => rfl; generalize A.eval = ρ at *
              clear hA hu
              go_simp
            | 2, ho, hu, hK =>
              cases ho
              have hw : PH w W g (zs.take mm) := H2.out.gb hg
              have e41 : A.eval (.tmp 41) = .int .i64 1 := (ev_in hA 41 1 rfl rfl rfl).trans (show f 1 = .int .i64 1 from hu 1 (by decide))
              refine ph_sem rfl rfl (r := .ok (.value (.bool false)) W) ?_ (hK _ _ (gb_rr W _) rfl)
              have eC : ∀ c, A.eval (.const c) = c := fun _ => rfl; have eF : ∀ g, A.eval (.func g) = .func (.func g) #[] #[] := fun _ => rfl; generalize A.eval = ρ at *
              clear hA hu
              go_simp
            | 3, ho, hu, hK =>
              cases ho
              have hw : PH w W g (zs.take mm) := H2.out.gb hg
              have e42 : A.eval (.tmp 42) = .bool false := (ev_in hA 42 2 rfl rfl rfl).trans (show f 2 = .bool false from hu 2 (by decide))
              exact ph_move _ rfl rfl (.bool false) e42 (hK _ _ (gb_rr W _) rfl)
            | 4, ho, hu, hK =>
              cases ho
              have hw : PH w W g (zs.take mm) := H2.out.gb hg
              have e43 : A.eval (.tmp 43) = .bool false := (ev_in hA 43 3 rfl rfl rfl).trans (show f 3 = .bool false from hu 3 (by decide))
              exact ph_skip (wanted_out hA 3 true rfl 43 rfl rfl e43) (hK _ _ (gb_rr W _) rfl)
            | 5, ho, hu, hK =>
              cases ho
              have hw : PH w W g (zs.take mm) := H2.out.gb hg
              have e43 : A.eval (.tmp 43) = .bool false := (ev_in hA 43 3 rfl rfl rfl).trans (show f 3 = .bool false from hu 3 (by decide))
              exact ph_skip (wanted_out hA 3 true rfl 43 rfl rfl e43) (hK _ _ (gb_rr W _) rfl)
            | 6, ho, hu, hK =>
              cases ho
              have hw : PH w W g (zs.take mm) := H2.out.gb hg
              have e43 : A.eval (.tmp 43) = .bool false := (ev_in hA 43 3 rfl rfl rfl).trans (show f 3 = .bool false from hu 3 (by decide))
              exact ph_skip (wanted_out hA 3 true rfl 43 rfl rfl e43) (hK _ _ (gb_rr W _) rfl)
            | 7, ho, hu, hK =>
              cases ho
              have hw : PH w W g (zs.take mm) := H2.out.gb hg
              have e43 : A.eval (.tmp 43) = .bool false := (ev_in hA 43 3 rfl rfl rfl).trans (show f 3 = .bool false from hu 3 (by decide))
              exact ph_skip (wanted_out hA 3 true rfl 43 rfl rfl e43) (hK _ _ (gb_rr W _) rfl)
            | 8, ho, hu, hK =>
              cases ho
              have hw : PH w W g (zs.take mm) := H2.out.gb hg
              have e43 : A.eval (.tmp 43) = .bool false := (ev_in hA 43 3 rfl rfl rfl).trans (show f 3 = .bool false from hu 3 (by decide))
              exact ph_skip (wanted_out hA 3 true rfl 43 rfl rfl e43) (hK _ _ (gb_rr W _) rfl)
            | 9, ho, hu, hK =>
              cases ho
              have hw : PH w W g (zs.take mm) := H2.out.gb hg
              have e43 : A.eval (.tmp 43) = .bool false := (ev_in hA 43 3 rfl rfl rfl).trans (show f 3 = .bool false from hu 3 (by decide))
              exact ph_skip (wanted_out hA 3 true rfl 43 rfl rfl e43) (hK _ _ (gb_rr W _) rfl)
            | 10, ho, hu, hK =>
              cases ho
              have hw : PH w W g (zs.take mm) := H2.out.gb hg
              have e43 : A.eval (.tmp 43) = .bool false := (ev_in hA 43 3 rfl rfl rfl).trans (show f 3 = .bool false from hu 3 (by decide))
              exact ph_skip (wanted_out hA 3 true rfl 43 rfl rfl e43) (hK _ _ (gb_rr W _) rfl)
            | 11, ho, hu, hK =>
              cases ho
              have hw : PH w W g (zs.take mm) := H2.out.gb hg
              have e43 : A.eval (.tmp 43) = .bool false := (ev_in hA 43 3 rfl rfl rfl).trans (show f 3 = .bool false from hu 3 (by decide))
              exact ph_skip (wanted_out hA 3 true rfl 43 rfl rfl e43) (hK _ _ (gb_rr W _) rfl)
            | 12, ho, hu, hK =>
              cases ho
              have hw : PH w W g (zs.take mm) := H2.out.gb hg
              have e43 : A.eval (.tmp 43) = .bool false := (ev_in hA 43 3 rfl rfl rfl).trans (show f 3 = .bool false from hu 3 (by decide))
              have e51 : A.eval (.tmp 51) = undef := (ev_in hA 51 11 rfl rfl rfl).trans (show f 11 = undef from hu 11 (by decide))
              exact ph_pick _ _ _ rfl rfl false (undef) (.bool false) e43 e51 rfl (hK _ _ (gb_rr W _) rfl)
            | 13, ho, hu, hK =>
              cases ho
              have hw : PH w W g (zs.take mm) := H2.out.gb hg
              have e52 : A.eval (.tmp 52) = .bool false := (ev_in hA 52 12 rfl rfl rfl).trans (show f 12 = .bool false from hu 12 (by decide))
              exact ph_move _ rfl rfl (.bool false) e52 (hK _ _ (gb_rr W _) rfl)
            | 14, ho, hu, hK =>
              cases ho
              have hw : PH w W g (zs.take mm) := H2.out.gb hg
              have e5 : A.eval (.tmp 5) = .pointer (some ⟨g, 0, none⟩) := ev_out hA 5 rfl
              have e53 : A.eval (.tmp 53) = .bool false := (ev_in hA 53 13 rfl rfl rfl).trans (show f 13 = .bool false from hu 13 (by decide))
              exact ph_move _ rfl (wanted_in hA 13 false rfl 53 rfl rfl e53) (.pointer (some ⟨g, 0, none⟩)) e5 (hK _ _ (gb_rr W _) rfl)
            | 15, ho, hu, hK =>
              cases ho
              have hw : PH w W g (zs.take mm) := H2.out.gb hg
              have e54 : A.eval (.tmp 54) = .pointer (some ⟨g, 0, none⟩) := (ev_in hA 54 14 rfl rfl rfl).trans (show f 14 = .pointer (some ⟨g, 0, none⟩) from hu 14 (by decide))
              have e53 : A.eval (.tmp 53) = .bool false := (ev_in hA 53 13 rfl rfl rfl).trans (show f 13 = .bool false from hu 13 (by decide))
              refine ph_fn 15 _ _ rfl (wanted_in hA 13 false rfl 53 rfl rfl e53) #[.pointer (some ⟨g, 0, none⟩)] (by simp [e54]) (by kernel_rfl) ?_
              refine (Calls.mono (HLE.out W hw) ?_)
              rintro e W' ⟨rfl, hq⟩
              exact ⟨_, rfl, hK _ _ (by rw [hq]; exact gb_rr W _) rfl⟩
            | 16, ho, hu, hK =>
              cases ho
              have hw : PH w W g (zs.take mm) := H2.out.gb hg
              have e6 : A.eval (.tmp 6) = .int .i64 (mm : Int) := ev_out hA 6 rfl
              have e53 : A.eval (.tmp 53) = .bool false := (ev_in hA 53 13 rfl rfl rfl).trans (show f 13 = .bool false from hu 13 (by decide))
              exact ph_move _ rfl (wanted_in hA 13 false rfl 53 rfl rfl e53) (.int .i64 (mm : Int)) e6 (hK _ _ (gb_rr W _) rfl)
            | 17, ho, hu, hK =>
              cases ho
              have hw : PH w W g (zs.take mm) := H2.out.gb hg
              have e55 : A.eval (.tmp 55) = .int .i64 (mm : Int) := (ev_in hA 55 15 rfl rfl rfl).trans (show f 15 = .int .i64 (mm : Int) from hu 15 (by decide))
              have e56 : A.eval (.tmp 56) = .int .i64 (mm : Int) := (ev_in hA 56 16 rfl rfl rfl).trans (show f 16 = .int .i64 (mm : Int) from hu 16 (by decide))
              have e53 : A.eval (.tmp 53) = .bool false := (ev_in hA 53 13 rfl rfl rfl).trans (show f 13 = .bool false from hu 13 (by decide))
              refine ph_sem rfl (wanted_in hA 13 false rfl 53 rfl rfl e53) (r := .ok (.value (.bool false)) W) ?_ (hK _ _ (gb_rr W _) rfl)
              have eC : ∀ c, A.eval (.const c) = c := fun _ => rfl; have eF : ∀ g, A.eval (.func g) = .func (.func g) #[] #[] := fun _ => rfl; generalize A.eval = ρ at *
              clear hA hu
              go_simp
            | 18, ho, hu, hK =>
              cases ho
              have hw : PH w W g (zs.take mm) := H2.out.gb hg
              have e53 : A.eval (.tmp 53) = .bool false := (ev_in hA 53 13 rfl rfl rfl).trans (show f 13 = .bool false from hu 13 (by decide))
              have e57 : A.eval (.tmp 57) = .bool false := (ev_in hA 57 17 rfl rfl rfl).trans (show f 17 = .bool false from hu 17 (by decide))
              exact ph_pick _ _ _ rfl rfl false (.bool true) (.bool false) e53 rfl e57 (hK _ _ (gb_rr W _) rfl)
            | i + 19, ho, hu, hK => simp at ho
          case fin =>
            intro f W A hA hg hu
            have H3 : Hid (PH w W g (zs.take mm)) := H2.out.gb hg
            have hA2 := hA.trans (putAll_lit [(.int .i64 (k : Int)), (.int .i64 1), (.bool false), (.bool false), (undef), (undef), (undef), (undef), (undef), (undef), (undef), (undef), (.bool false), (.bool false), (.pointer (some ⟨g, 0, none⟩)), (.int .i64 (mm : Int)), (.int .i64 (mm : Int)), (.bool false), (.bool false)] (by
              intro j hj
              match j, hj with
              | 0, _ => exact hu 0 (by decide)
              | 1, _ => exact hu 1 (by decide)
              | 2, _ => exact hu 2 (by decide)
              | 3, _ => exact hu 3 (by decide)
              | 4, _ => exact hu 4 (by decide)
              | 5, _ => exact hu 5 (by decide)
              | 6, _ => exact hu 6 (by decide)
              | 7, _ => exact hu 7 (by decide)
              | 8, _ => exact hu 8 (by decide)
              | 9, _ => exact hu 9 (by decide)
              | 10, _ => exact hu 10 (by decide)
              | 11, _ => exact hu 11 (by decide)
              | 12, _ => exact hu 12 (by decide)
              | 13, _ => exact hu 13 (by decide)
              | 14, _ => exact hu 14 (by decide)
              | 15, _ => exact hu 15 (by decide)
              | 16, _ => exact hu 16 (by decide)
              | 17, _ => exact hu 17 (by decide)
              | 18, _ => exact hu 18 (by decide)
              | j + 19, hj => exact absurd hj (by simp)))
            clear hu hA
            subst hA2
            simp only [putAll, putL, List.mem_cons, List.not_mem_nil, List.idxOf_cons, Nat.reduceEqDiff, Nat.reduceBEq, Nat.reduceAdd, or_false, or_true, reduceIte, cond_true, cond_false, List.getD_cons_zero, List.getD_cons_succ, BEq.rfl]
            clear hg
            by_cases h3 : k % 3 = 1
            · have h31 : (k : Int) % 3 = 1 := by omega
              have h32 : (k : Int).tmod 3 = 1 := by rw [Int.tmod_eq_emod_of_nonneg (by omega)]; exact h31
              go_wp2_with (first
                | (go_at_call 17; refine (Calls.mono (pc_save H3.out) ?_); rintro r w4 ⟨bs, ls, ks, rfl, q1, q2, q3, q4⟩; have H4 : Hid (Seg .u8 w4 (some ⟨bs, 0, none⟩) ls (svB (shz (st0, []) (zs.take mm)) (zs.take mm).length) ∧ ls ≤ ks ∧ ks ≤ maxLen ∧ PH w w4 g (zs.take mm)) := ⟨q1, q2, q3, q4⟩; clear q1 q2 q3 q4)
                | (go_at_call 20; refine (Calls.mono (pc_load H4.out.2.2.2 bs ls ks H4.out.1 H4.out.2.1 H4.out.2.2.1) ?_); rintro r w5 ⟨g5, rfl, h5⟩; have H5 : Hid (PH w w5 g5 (zs.take mm)) := h5; clear h5))
              go_roundw
              case rel => exact ⟨g5, mm, k + 1, rfl, rfl, by go_num, hml, by omega, H5⟩
              case measure => simp [intOf]; omega
            · have h31 : ¬ (k : Int) % 3 = 1 := by omega
              have h32 : ¬ (k : Int).tmod 3 = 1 := by rw [Int.tmod_eq_emod_of_nonneg (by omega)]; exact h31
              have h33 : ((k : Int) % 3 == 1) = false := beq_eq_false_iff_ne.2 h31
              have h34 : ((k : Int).tmod 3 == 1) = false := beq_eq_false_iff_ne.2 h32
              go_wp2
              go_roundw
              case rel => exact ⟨g, mm, k + 1, rfl, rfl, by go_num, hml, by omega, H3⟩
              case measure => simp [intOf]; omega
      · obtain rfl : N = 0 := by rw [hN, if_neg hpos]
        obtain rfl : at0 = mm := by omega
        clear hN hmi
        rw [Nat.sub_self] at HWR
        have hs0 : ∀ W, (Instr.slice 29 (.slice a0 len0 cap0) (some (.int .i64 (at0 : Int))) (some (.int .i64 (at0 : Int))) none).run Try.prog W = .ok (.slice (cutB a0 cap0 at0) 0 (cap0 - at0)) W := fun W => by have := hs1 W; rw [Nat.sub_self] at this; exact this
        clear hs1
        go_wp2_with (first
          | (go_at_call 10; refine (Calls.mono HWR.out ?_); rintro r w2 ⟨rfl, h2⟩; have H2 : Hid (PH w w2 g (zs.take at0)) := h2; clear h2))
        by_cases hE : k % 2 = 0
        · have hE1 : (k : Int) % 2 = 0 := by omega
          have hE2 : (k : Int).tmod 2 = 0 := by rw [Int.tmod_eq_emod_of_nonneg (by omega)]; exact hE1
          refine wp_region_phi none rfl (by kernel_rfl) [40, 41, 42, 43, 44, 45, 46, 47, 48, 49, 50, 51, 52, 53, 54, 55, 56, 57, 58] [[], [0], [1], [2], [3], [4, 3], [3], [3], [6, 7, 3], [8, 3], [9, 3], [5, 10, 3], [3, 11], [12], [13], [14, 13], [13], [15, 16, 13], [13, 17]] (by kernel_rfl) [fun u W => u = .int .i64 (k : Int), fun u W => u = .int .i64 0, fun u W => u = .bool true, fun u W => u = .bool true, fun u W => u = .pointer (some ⟨g, 0, none⟩), fun u W => u = .agg (u8s D), fun u W => u = .slice a0 len0 cap0, fun u W => u = .int .i64 (at0 : Int), fun u W => u = .slice a0 at0 cap0, fun u W => ∃ g1, u = .slice (some ⟨g1, 0, none⟩) 1 1 ∧ g1 < W.heap.size ∧ W.cell? ⟨g1, 0, none⟩ = some (.slice a0 at0 cap0), fun u W => u = .agg (u8s D), fun u W => u = .bool false, fun u W => u = .bool false, fun u W => u = .bool false, fun u W => u = .pointer (some ⟨g, 0, none⟩), fun u W => u = .int .i64 (at0 : Int), fun u W => u = .int .i64 (at0 : Int), fun u W => u = .bool false, fun u W => u = .bool false] ?stable ?step ?fin
          case stable =>
            intro i v W W' h hg
            match i, h with
            | 0, h => exact h
            | 1, h => exact h
            | 2, h => exact h
            | 3, h => exact h
            | 4, h => exact h
            | 5, h => exact h
            | 6, h => exact h
            | 7, h => exact h
            | 8, h => exact h
            | 9, h => obtain ⟨g1, h1, h2, k0⟩ := h; exact ⟨g1, h1, Nat.lt_of_lt_of_le h2 hg.size, ((gb_below hg).cell (p := ⟨g1, 0, none⟩) h2).trans k0⟩
            | 10, h => exact h
            | 11, h => exact h
            | 12, h => exact h
            | 13, h => exact h
            | 14, h => exact h
            | 15, h => exact h
            | 16, h => exact h
            | 17, h => exact h
            | 18, h => exact h
            | i + 19, h => exact trivial
          case step =>
            intro f W A hA hg i o ho hu K hK
            match i, ho, hu, hK with
            | 0, ho, hu, hK =>
              cases ho
              have hw : PH w W g (zs.take at0) := H2.out.gb hg
              have e7 : A.eval (.tmp 7) = .int .i64 (k : Int) := ev_out hA 7 rfl
              exact ph_move _ rfl rfl (.int .i64 (k : Int)) e7 (hK _ _ (gb_rr W _) rfl)
            | 1, ho, hu, hK =>
              cases ho
              have hw : PH w W g (zs.take at0) := H2.out.gb hg
              have e40 : A.eval (.tmp 40) = .int .i64 (k : Int) := (ev_in hA 40 0 rfl rfl rfl).trans (show f 0 = .int .i64 (k : Int) from hu 0 (by decide))
              refine ph_sem rfl rfl (r := .ok (.value (.int .i64 0)) W) ?_ (hK _ _ (gb_rr W _) rfl)
              have eC : ∀ c, A.eval (.const c) = c := fun _ => rfl; have eF : ∀ g, A.eval (.func g) = .func (.func g) #[] #[] := fun _ => rfl; generalize A.eval = ρ at *
              clear hA hu
              go_simp
            | 2, ho, hu, hK =>
              cases ho
              have hw : PH w W g (zs.take at0) := H2.out.gb hg
              have e41 : A.eval (.tmp 41) = .int .i64 0 := (ev_in hA 41 1 rfl rfl rfl).trans (show f 1 = .int .i64 0 from hu 1 (by decide))
              refine ph_sem rfl rfl (r := .ok (.value (.bool true)) W) ?_ (hK _ _ (gb_rr W _) rfl)
              have eC : ∀ c, A.eval (.const c) = c := fun _ => rfl; have eF : ∀ g, A.eval (.func g) = .func (.func g) #[] #[] := fun _ => rfl; generalize A.eval = ρ at *
              clear hA hu
              go_simp
            | 3, ho, hu, hK =>
              cases ho
              have hw : PH w W g (zs.take at0) := H2.out.gb hg
              have e42 : A.eval (.tmp 42) = .bool true := (ev_in hA 42 2 rfl rfl rfl).trans (show f 2 = .bool true from hu 2 (by decide))
              exact ph_move _ rfl rfl (.bool true) e42 (hK _ _ (gb_rr W _) rfl)
            | 4, ho, hu, hK =>
              cases ho
              have hw : PH w W g (zs.take at0) := H2.out.gb hg
              have e5 : A.eval (.tmp 5) = .pointer (some ⟨g, 0, none⟩) := ev_out hA 5 rfl
              have e43 : A.eval (.tmp 43) = .bool true := (ev_in hA 43 3 rfl rfl rfl).trans (show f 3 = .bool true from hu 3 (by decide))
              exact ph_move _ rfl (wanted_in hA 3 true rfl 43 rfl rfl e43) (.pointer (some ⟨g, 0, none⟩)) e5 (hK _ _ (gb_rr W _) rfl)
            | 5, ho, hu, hK =>
              cases ho
              have hw : PH w W g (zs.take at0) := H2.out.gb hg
              have e44 : A.eval (.tmp 44) = .pointer (some ⟨g, 0, none⟩) := (ev_in hA 44 4 rfl rfl rfl).trans (show f 4 = .pointer (some ⟨g, 0, none⟩) from hu 4 (by decide))
              have e43 : A.eval (.tmp 43) = .bool true := (ev_in hA 43 3 rfl rfl rfl).trans (show f 3 = .bool true from hu 3 (by decide))
              refine ph_fn 13 _ _ rfl (wanted_in hA 3 true rfl 43 rfl rfl e43) #[.pointer (some ⟨g, 0, none⟩)] (by simp [e44]) (by kernel_rfl) ?_
              refine (Calls.mono (HSU.out W hw) ?_)
              rintro e W' ⟨rfl, hq⟩
              exact ⟨_, rfl, hK _ _ hq rfl⟩
            | 6, ho, hu, hK =>
              cases ho
              have hw : PH w W g (zs.take at0) := H2.out.gb hg
              have e0 : A.eval (.tmp 0) = .slice a0 len0 cap0 := ev_out hA 0 rfl
              have e43 : A.eval (.tmp 43) = .bool true := (ev_in hA 43 3 rfl rfl rfl).trans (show f 3 = .bool true from hu 3 (by decide))
              exact ph_move _ rfl (wanted_in hA 3 true rfl 43 rfl rfl e43) (.slice a0 len0 cap0) e0 (hK _ _ (gb_rr W _) rfl)
            | 7, ho, hu, hK =>
              cases ho
              have hw : PH w W g (zs.take at0) := H2.out.gb hg
              have e6 : A.eval (.tmp 6) = .int .i64 (at0 : Int) := ev_out hA 6 rfl
              have e43 : A.eval (.tmp 43) = .bool true := (ev_in hA 43 3 rfl rfl rfl).trans (show f 3 = .bool true from hu 3 (by decide))
              exact ph_move _ rfl (wanted_in hA 3 true rfl 43 rfl rfl e43) (.int .i64 (at0 : Int)) e6 (hK _ _ (gb_rr W _) rfl)
            | 8, ho, hu, hK =>
              cases ho
              have hw : PH w W g (zs.take at0) := H2.out.gb hg
              have e46 : A.eval (.tmp 46) = .slice a0 len0 cap0 := (ev_in hA 46 6 rfl rfl rfl).trans (show f 6 = .slice a0 len0 cap0 from hu 6 (by decide))
              have e47 : A.eval (.tmp 47) = .int .i64 (at0 : Int) := (ev_in hA 47 7 rfl rfl rfl).trans (show f 7 = .int .i64 (at0 : Int) from hu 7 (by decide))
              have e43 : A.eval (.tmp 43) = .bool true := (ev_in hA 43 3 rfl rfl rfl).trans (show f 3 = .bool true from hu 3 (by decide))
              refine ph_sem rfl (wanted_in hA 3 true rfl 43 rfl rfl e43) (r := .ok (.value (.slice a0 at0 cap0)) W) ?_ (hK _ _ (gb_rr W _) rfl)
              have eC : ∀ c, A.eval (.const c) = c := fun _ => rfl; have eF : ∀ g, A.eval (.func g) = .func (.func g) #[] #[] := fun _ => rfl; generalize A.eval = ρ at *
              clear hA hu
              go_simp
            | 9, ho, hu, hK =>
              cases ho
              have hw : PH w W g (zs.take at0) := H2.out.gb hg
              have e48 : A.eval (.tmp 48) = .slice a0 at0 cap0 := (ev_in hA 48 8 rfl rfl rfl).trans (show f 8 = .slice a0 at0 cap0 from hu 8 (by decide))
              have e43 : A.eval (.tmp 43) = .bool true := (ev_in hA 43 3 rfl rfl rfl).trans (show f 3 = .bool true from hu 3 (by decide))
              refine ph_sem rfl (wanted_in hA 3 true rfl 43 rfl rfl e43) (r := .ok (.value (.slice (some ⟨W.heap.size, 0, none⟩) 1 1)) (W.alloc (.cells #[.slice a0 at0 cap0] 29))) ?_ (hK _ _ (gb_alloc W _) ⟨W.heap.size, rfl, lt_of_block (blk_new W _ _).1, new_cell W _ _ 0 _ rfl⟩)
              have eC : ∀ c, A.eval (.const c) = c := fun _ => rfl; have eF : ∀ g, A.eval (.func g) = .func (.func g) #[] #[] := fun _ => rfl; generalize A.eval = ρ at *
              clear hA hu
              go_simp
            | 10, ho, hu, hK =>
              cases ho
              have hw : PH w W g (zs.take at0) := H2.out.gb hg
              obtain ⟨g9, hv9, l9, c9_0⟩ := hu 9 (by decide)
              have e49 : A.eval (.tmp 49) = .slice (some ⟨g9, 0, none⟩) 1 1 := (ev_in hA 49 9 rfl rfl rfl).trans hv9
              have e43 : A.eval (.tmp 43) = .bool true := (ev_in hA 43 3 rfl rfl rfl).trans (show f 3 = .bool true from hu 3 (by decide))
              refine ph_fn 24 _ _ rfl (wanted_in hA 3 true rfl 43 rfl rfl e43) #[.slice (some ⟨g9, 0, none⟩) 1 1] (by simp [e49]) (by kernel_rfl) ?_
              refine (Calls.mono (HS1.out W g9 hw.2.1 c9_0 l9) ?_)
              rintro e W' ⟨rfl, hq⟩
              exact ⟨_, rfl, hK _ _ hq rfl⟩
            | 11, ho, hu, hK =>
              cases ho
              have hw : PH w W g (zs.take at0) := H2.out.gb hg
              have e45 : A.eval (.tmp 45) = .agg (u8s D) := (ev_in hA 45 5 rfl rfl rfl).trans (show f 5 = .agg (u8s D) from hu 5 (by decide))
              have e50 : A.eval (.tmp 50) = .agg (u8s D) := (ev_in hA 50 10 rfl rfl rfl).trans (show f 10 = .agg (u8s D) from hu 10 (by decide))
              have e43 : A.eval (.tmp 43) = .bool true := (ev_in hA 43 3 rfl rfl rfl).trans (show f 3 = .bool true from hu 3 (by decide))
              refine ph_sem rfl (wanted_in hA 3 true rfl 43 rfl rfl e43) (r := .ok (.value (.bool false)) W) ?_ (hK _ _ (gb_rr W _) rfl)
              have eC : ∀ c, A.eval (.const c) = c := fun _ => rfl; have eF : ∀ g, A.eval (.func g) = .func (.func g) #[] #[] := fun _ => rfl; generalize A.eval = ρ at *
              clear hA hu
              go_simp
            | 12, ho, hu, hK =>
              cases ho
              have hw : PH w W g (zs.take at0) := H2.out.gb hg
              have e43 : A.eval (.tmp 43) = .bool true := (ev_in hA 43 3 rfl rfl rfl).trans (show f 3 = .bool true from hu 3 (by decide))
              have e51 : A.eval (.tmp 51) = .bool false := (ev_in hA 51 11 rfl rfl rfl).trans (show f 11 = .bool false from hu 11 (by decide))
              exact ph_pick _ _ _ rfl rfl true (.bool false) (.bool false) e43 e51 rfl (hK _ _ (gb_rr W _) rfl)
            | 13, ho, hu, hK =>
              cases ho
              have hw : PH w W g (zs.take at0) := H2.out.gb hg
              have e52 : A.eval (.tmp 52) = .bool false := (ev_in hA 52 12 rfl rfl rfl).trans (show f 12 = .bool false from hu 12 (by decide))
              exact ph_move _ rfl rfl (.bool false) e52 (hK _ _ (gb_rr W _) rfl)
            | 14, ho, hu, hK =>
              cases ho
              have hw : PH w W g (zs.take at0) := H2.out.gb hg
              have e5 : A.eval (.tmp 5) = .pointer (some ⟨g, 0, none⟩) := ev_out hA 5 rfl
              have e53 : A.eval (.tmp 53) = .bool false := (ev_in hA 53 13 rfl rfl rfl).trans (show f 13 = .bool false from hu 13 (by decide))
              exact ph_move _ rfl (wanted_in hA 13 false rfl 53 rfl rfl e53) (.pointer (some ⟨g, 0, none⟩)) e5 (hK _ _ (gb_rr W _) rfl)
            | 15, ho, hu, hK =>
              cases ho
              have hw : PH w W g (zs.take at0) := H2.out.gb hg
              have e54 : A.eval (.tmp 54) = .pointer (some ⟨g, 0, none⟩) := (ev_in hA 54 14 rfl rfl rfl).trans (show f 14 = .pointer (some ⟨g, 0, none⟩) from hu 14 (by decide))
              have e53 : A.eval (.tmp 53) = .bool false := (ev_in hA 53 13 rfl rfl rfl).trans (show f 13 = .bool false from hu 13 (by decide))
              refine ph_fn 15 _ _ rfl (wanted_in hA 13 false rfl 53 rfl rfl e53) #[.pointer (some ⟨g, 0, none⟩)] (by simp [e54]) (by kernel_rfl) ?_
              refine (Calls.mono (HLE.out W hw) ?_)
              rintro e W' ⟨rfl, hq⟩
              exact ⟨_, rfl, hK _ _ (by rw [hq]; exact gb_rr W _) rfl⟩
            | 16, ho, hu, hK =>
              cases ho
              have hw : PH w W g (zs.take at0) := H2.out.gb hg
              have e6 : A.eval (.tmp 6) = .int .i64 (at0 : Int) := ev_out hA 6 rfl
              have e53 : A.eval (.tmp 53) = .bool false := (ev_in hA 53 13 rfl rfl rfl).trans (show f 13 = .bool false from hu 13 (by decide))
              exact ph_move _ rfl (wanted_in hA 13 false rfl 53 rfl rfl e53) (.int .i64 (at0 : Int)) e6 (hK _ _ (gb_rr W _) rfl)
            | 17, ho, hu, hK =>
              cases ho
              have hw : PH w W g (zs.take at0) := H2.out.gb hg
              have e55 : A.eval (.tmp 55) = .int .i64 (at0 : Int) := (ev_in hA 55 15 rfl rfl rfl).trans (show f 15 = .int .i64 (at0 : Int) from hu 15 (by decide))
              have e56 : A.eval (.tmp 56) = .int .i64 (at0 : Int) := (ev_in hA 56 16 rfl rfl rfl).trans (show f 16 = .int .i64 (at0 : Int) from hu 16 (by decide))
              have e53 : A.eval (.tmp 53) = .bool false := (ev_in hA 53 13 rfl rfl rfl).trans (show f 13 = .bool false from hu 13 (by decide))
              refine ph_sem rfl (wanted_in hA 13 false rfl 53 rfl rfl e53) (r := .ok (.value (.bool false)) W) ?_ (hK _ _ (gb_rr W _) rfl)
              have eC : ∀ c, A.eval (.const c) = c := fun _ => rfl; have eF : ∀ g, A.eval (.func g) = .func (.func g) #[] #[] := fun _ => rfl; generalize A.eval = ρ at *
              clear hA hu
              go_simp
            | 18, ho, hu, hK =>
              cases ho
              have hw : PH w W g (zs.take at0) := H2.out.gb hg
              have e53 : A.eval (.tmp 53) = .bool false := (ev_in hA 53 13 rfl rfl rfl).trans (show f 13 = .bool false from hu 13 (by decide))
              have e57 : A.eval (.tmp 57) = .bool false := (ev_in hA 57 17 rfl rfl rfl).trans (show f 17 = .bool false from hu 17 (by decide))
              exact ph_pick _ _ _ rfl rfl false (.bool true) (.bool false) e53 rfl e57 (hK _ _ (gb_rr W _) rfl)
            | i + 19, ho, hu, hK => simp at ho
          case fin =>
            intro f W A hA hg hu
            have H3 : Hid (PH w W g (zs.take at0)) := H2.out.gb hg
            obtain ⟨g9, hv9, l9, c9_0⟩ := hu 9 (by decide)
            have hA2 := hA.trans (putAll_lit [(.int .i64 (k : Int)), (.int .i64 0), (.bool true), (.bool true), (.pointer (some ⟨g, 0, none⟩)), (.agg (u8s D)), (.slice a0 len0 cap0), (.int .i64 (at0 : Int)), (.slice a0 at0 cap0), (.slice (some ⟨g9, 0, none⟩) 1 1), (.agg (u8s D)), (.bool false), (.bool false), (.bool false), (.pointer (some ⟨g, 0, none⟩)), (.int .i64 (at0 : Int)), (.int .i64 (at0 : Int)), (.bool false), (.bool false)] (by
              intro j hj
              match j, hj with
              | 0, _ => exact hu 0 (by decide)
              | 1, _ => exact hu 1 (by decide)
              | 2, _ => exact hu 2 (by decide)
              | 3, _ => exact hu 3 (by decide)
              | 4, _ => exact hu 4 (by decide)
              | 5, _ => exact hu 5 (by decide)
              | 6, _ => exact hu 6 (by decide)
              | 7, _ => exact hu 7 (by decide)
              | 8, _ => exact hu 8 (by decide)
              | 9, _ => exact hv9
              | 10, _ => exact hu 10 (by decide)
              | 11, _ => exact hu 11 (by decide)
              | 12, _ => exact hu 12 (by decide)
              | 13, _ => exact hu 13 (by decide)
              | 14, _ => exact hu 14 (by decide)
              | 15, _ => exact hu 15 (by decide)
              | 16, _ => exact hu 16 (by decide)
              | 17, _ => exact hu 17 (by decide)
              | 18, _ => exact hu 18 (by decide)
              | j + 19, hj => exact absurd hj (by simp)))
            clear hu hA
            subst hA2
            simp only [putAll, putL, List.mem_cons, List.not_mem_nil, List.idxOf_cons, Nat.reduceEqDiff, Nat.reduceBEq, Nat.reduceAdd, or_false, or_true, reduceIte, cond_true, cond_false, List.getD_cons_zero, List.getD_cons_succ, BEq.rfl]
            clear hg
            by_cases h3 : k % 3 = 1
            · have h31 : (k : Int) % 3 = 1 := by omega
              have h32 : (k : Int).tmod 3 = 1 := by rw [Int.tmod_eq_emod_of_nonneg (by omega)]; exact h31
              go_wp2_with (first
                | (go_at_call 17; refine (Calls.mono (pc_save H3.out) ?_); rintro r w4 ⟨bs, ls, ks, rfl, q1, q2, q3, q4⟩; have H4 : Hid (Seg .u8 w4 (some ⟨bs, 0, none⟩) ls (svB (shz (st0, []) (zs.take at0)) (zs.take at0).length) ∧ ls ≤ ks ∧ ks ≤ maxLen ∧ PH w w4 g (zs.take at0)) := ⟨q1, q2, q3, q4⟩; clear q1 q2 q3 q4)
                | (go_at_call 20; refine (Calls.mono (pc_load H4.out.2.2.2 bs ls ks H4.out.1 H4.out.2.1 H4.out.2.2.1) ?_); rintro r w5 ⟨g5, rfl, h5⟩; have H5 : Hid (PH w w5 g5 (zs.take at0)) := h5; clear h5))
              go_roundw
              case rel => exact ⟨g5, at0, k + 1, rfl, rfl, by go_num, hml, by omega, H5⟩
              case measure => simp [intOf]; omega
            · have h31 : ¬ (k : Int) % 3 = 1 := by omega
              have h32 : ¬ (k : Int).tmod 3 = 1 := by rw [Int.tmod_eq_emod_of_nonneg (by omega)]; exact h31
              have h33 : ((k : Int) % 3 == 1) = false := beq_eq_false_iff_ne.2 h31
              have h34 : ((k : Int).tmod 3 == 1) = false := beq_eq_false_iff_ne.2 h32
              go_wp2
              go_roundw
              case rel => exact ⟨g, at0, k + 1, rfl, rfl, by go_num, hml, by omega, H3⟩
              case measure => simp [intOf]; omega
        · have hE1 : (k : Int) % 2 = 1 := by omega
          have hE2 : (k : Int).tmod 2 = 1 := by rw [Int.tmod_eq_emod_of_nonneg (by omega)]; exact hE1
          refine wp_region_phi none rfl (by kernel_rfl) [40, 41, 42, 43, 44, 45, 46, 47, 48, 49, 50, 51, 52, 53, 54, 55, 56, 57, 58] [[], [0], [1], [2], [3], [3], [3], [3], [3], [3], [3], [3], [3, 11], [12], [13], [14, 13], [13], [15, 16, 13], [13, 17]] (by kernel_rfl) [fun u W => u = .int .i64 (k : Int), fun u W => u = .int .i64 1, fun u W => u = .bool false, fun u W => u = .bool false, fun u W => u = undef, fun u W => u = undef, fun u W => u = undef, fun u W => u = undef, fun u W => u = undef, fun u W => u = undef, fun u W => u = undef, fun u W => u = undef, fun u W => u = .bool false, fun u W => u = .bool false, fun u W => u = .pointer (some ⟨g, 0, none⟩), fun u W => u = .int .i64 (at0 : Int), fun u W => u = .int .i64 (at0 : Int), fun u W => u = .bool false, fun u W => u = .bool false] ?stable ?step ?fin
          case stable =>
            intro i v W W' h hg
            match i, h with
            | 0, h => exact h
            | 1, h => exact h
            | 2, h => exact h
            | 3, h => exact h
            | 4, h => exact h
            | 5, h => exact h
            | 6, h => exact h
            | 7, h => exact h
            | 8, h => exact h
            | 9, h => exact h
            | 10, h => exact h
            | 11, h => exact h
            | 12, h => exact h
            | 13, h => exact h
            | 14, h => exact h
            | 15, h => exact h
            | 16, h => exact h
            | 17, h => exact h
            | 18, h => exact h
            | i + 19, h => exact trivial
          case step =>
            intro f W A hA hg i o ho hu K hK
            match i, ho, hu, hK with
            | 0, ho, hu, hK =>
              cases ho
              have hw : PH w W g (zs.take at0) := H2.out.gb hg
              have e7 : A.eval (.tmp 7) = .int .i64 (k : Int) := ev_out hA 7 rfl
              exact ph_move _ rfl rfl (.int .i64 (k : Int)) e7 (hK _ _ (gb_rr W _) rfl)
            | 1, ho, hu, hK =>
              cases ho
              have hw : PH w W g (zs.take at0) := H2.out.gb hg
              have e40 : A.eval (.tmp 40) = .int .i64 (k : Int) := (ev_in hA 40 0 rfl rfl rfl).trans (show f 0 = .int .i64 (k : Int) from hu 0 (by decide))
              refine ph_sem rfl rfl (r := .ok (.value (.int .i64 1)) W) ?_ (hK _ _ (gb_rr W _) rfl)
              have eC : ∀ c, A.eval (.const c) = c := fun _ => rfl; have eF : ∀ g, A.eval (.func g) = .func (.func g) #[] #[] := fun _ => rfl; generalize A.eval = ρ at *
              clear hA hu
              go_simp
            | 2, ho, hu, hK =>
              cases ho
              have hw : PH w W g (zs.take at0) := H2.out.gb hg
              have e41 : A.eval (.tmp 41) = .int .i64 1 := (ev_in hA 41 1 rfl rfl rfl).trans (show f 1 = .int .i64 1 from hu 1 (by decide))
              refine ph_sem rfl rfl (r := .ok (.value (.bool false)) W) ?_ (hK _ _ (gb_rr W _) rfl)
              have eC : ∀ c, A.eval (.const c) = c := fun _ => rfl; have eF : ∀ g, A.eval (.func g) = .func (.func g) #[] #[] := fun _ => rfl; generalize A.eval = ρ at *
              clear hA hu
              go_simp
            | 3, ho, hu, hK =>
              cases ho
              have hw : PH w W g (zs.take at0) := H2.out.gb hg
              have e42 : A.eval (.tmp 42) = .bool false := (ev_in hA 42 2 rfl rfl rfl).trans (show f 2 = .bool false from hu 2 (by decide))
              exact ph_move _ rfl rfl (.bool false) e42 (hK _ _ (gb_rr W _) rfl)
            | 4, ho, hu, hK =>
              cases ho
              have hw : PH w W g (zs.take at0) := H2.out.gb hg
              have e43 : A.eval (.tmp 43) = .bool false := (ev_in hA 43 3 rfl rfl rfl).trans (show f 3 = .bool false from hu 3 (by decide))
              exact ph_skip (wanted_out hA 3 true rfl 43 rfl rfl e43) (hK _ _ (gb_rr W _) rfl)
            | 5, ho, hu, hK =>
              cases ho
              have hw : PH w W g (zs.take at0) := H2.out.gb hg
              have e43 : A.eval (.tmp 43) = .bool false := (ev_in hA 43 3 rfl rfl rfl).trans (show f 3 = .bool false from hu 3 (by decide))
              exact ph_skip (wanted_out hA 3 true rfl 43 rfl rfl e43) (hK _ _ (gb_rr W _) rfl)
            | 6, ho, hu, hK =>
              cases ho
              have hw : PH w W g (zs.take at0) := H2.out.gb hg
              have e43 : A.eval (.tmp 43) = .bool false := (ev_in hA 43 3 rfl rfl rfl).trans (show f 3 = .bool false from hu 3 (by decide))
              exact ph_skip (wanted_out hA 3 true rfl 43 rfl rfl e43) (hK _ _ (gb_rr W _) rfl)
            | 7, ho, hu, hK =>
              cases ho
              have hw : PH w W g (zs.take at0) := H2.out.gb hg
              have e43 : A.eval (.tmp 43) = .bool false := (ev_in hA 43 3 rfl rfl rfl).trans (show f 3 = .bool false from hu 3 (by decide))
              exact ph_skip (wanted_out hA 3 true rfl 43 rfl rfl e43) (hK _ _ (gb_rr W _) rfl)
            | 8, ho, hu, hK =>
              cases ho
              have hw : PH w W g (zs.take at0) := H2.out.gb hg
              have e43 : A.eval (.tmp 43) = .bool false := (ev_in hA 43 3 rfl rfl rfl).trans (show f 3 = .bool false from hu 3 (by decide))
              exact ph_skip (wanted_out hA 3 true rfl 43 rfl rfl e43) (hK _ _ (gb_rr W _) rfl)
            | 9, ho, hu, hK =>
              cases ho
              have hw : PH w W g (zs.take at0) := H2.out.gb hg
              have e43 : A.eval (.tmp 43) = .bool false := (ev_in hA 43 3 rfl rfl rfl).trans (show f 3 = .bool false from hu 3 (by decide))
              exact ph_skip (wanted_out hA 3 true rfl 43 rfl rfl e43) (hK _ _ (gb_rr W _) rfl)
            | 10, ho, hu, hK =>
              cases ho
              have hw : PH w W g (zs.take at0) := H2.out.gb hg
              have e43 : A.eval (.tmp 43) = .bool false := (ev_in hA 43 3 rfl rfl rfl).trans (show f 3 = .bool false from hu 3 (by decide))
              exact ph_skip (wanted_out hA 3 true rfl 43 rfl rfl e43) (hK _ _ (gb_rr W _) rfl)
            | 11, ho, hu, hK =>
              cases ho
              have hw : PH w W g (zs.take at0) := H2.out.gb hg
              have e43 : A.eval (.tmp 43) = .bool false := (ev_in hA 43 3 rfl rfl rfl).trans (show f 3 = .bool false from hu 3 (by decide))
              exact ph_skip (wanted_out hA 3 true rfl 43 rfl rfl e43) (hK _ _ (gb_rr W _) rfl)
            | 12, ho, hu, hK =>
              cases ho
              have hw : PH w W g (zs.take at0) := H2.out.gb hg
              have e43 : A.eval (.tmp 43) = .bool false := (ev_in hA 43 3 rfl rfl rfl).trans (show f 3 = .bool false from hu 3 (by decide))
              have e51 : A.eval (.tmp 51) = undef := (ev_in hA 51 11 rfl rfl rfl).trans (show f 11 = undef from hu 11 (by decide))
              exact ph_pick _ _ _ rfl rfl false (undef) (.bool false) e43 e51 rfl (hK _ _ (gb_rr W _) rfl)
            | 13, ho, hu, hK =>
              cases ho
              have hw : PH w W g (zs.take at0) := H2.out.gb hg
              have e52 : A.eval (.tmp 52) = .bool false := (ev_in hA 52 12 rfl rfl rfl).trans (show f 12 = .bool false from hu 12 (by decide))
              exact ph_move _ rfl rfl (.bool false) e52 (hK _ _ (gb_rr W _) rfl)
            | 14, ho, hu, hK =>
              cases ho
              have hw : PH w W g (zs.take at0) := H2.out.gb hg
              have e5 : A.eval (.tmp 5) = .pointer (some ⟨g, 0, none⟩) := ev_out hA 5 rfl
              have e53 : A.eval (.tmp 53) = .bool false := (ev_in hA 53 13 rfl rfl rfl).trans (show f 13 = .bool false from hu 13 (by decide))
              exact ph_move _ rfl (wanted_in hA 13 false rfl 53 rfl rfl e53) (.pointer (some ⟨g, 0, none⟩)) e5 (hK _ _ (gb_rr W _) rfl)
            | 15, ho, hu, hK =>
              cases ho
              have hw : PH w W g (zs.take at0) := H2.out.gb hg
              have e54 : A.eval (.tmp 54) = .pointer (some ⟨g, 0, none⟩) := (ev_in hA 54 14 rfl rfl rfl).trans (show f 14 = .pointer (some ⟨g, 0, none⟩) from hu 14 (by decide))
              have e53 : A.eval (.tmp 53) = .bool false := (ev_in hA 53 13 rfl rfl rfl).trans (show f 13 = .bool false from hu 13 (by decide))
              refine ph_fn 15 _ _ rfl (wanted_in hA 13 false rfl 53 rfl rfl e53) #[.pointer (some ⟨g, 0, none⟩)] (by simp [e54]) (by kernel_rfl) ?_
              refine (Calls.mono (HLE.out W hw) ?_)
              rintro e W' ⟨rfl, hq⟩
              exact ⟨_, rfl, hK _ _ (by rw [hq]; exact gb_rr W _) rfl⟩
            | 16, ho, hu, hK =>
              cases ho
              have hw : PH w W g (zs.take at0) := H2.out.gb hg
              have e6 : A.eval (.tmp 6) = .int .i64 (at0 : Int) := ev_out hA 6 rfl
              have e53 : A.eval (.tmp 53) = .bool false := (ev_in hA 53 13 rfl rfl rfl).trans (show f 13 = .bool false from hu 13 (by decide))
              exact ph_move _ rfl (wanted_in hA 13 false rfl 53 rfl rfl e53) (.int .i64 (at0 : Int)) e6 (hK _ _ (gb_rr W _) rfl)
            | 17, ho, hu, hK =>
              cases ho
              have hw : PH w W g (zs.take at0) := H2.out.gb hg
              have e55 : A.eval (.tmp 55) = .int .i64 (at0 : Int) := (ev_in hA 55 15 rfl rfl rfl).trans (show f 15 = .int .i64 (at0 : Int) from hu 15 (by decide))
              have e56 : A.eval (.tmp 56) = .int .i64 (at0 : Int) := (ev_in hA 56 16 rfl rfl rfl).trans (show f 16 = .int .i64 (at0 : Int) from hu 16 (by decide))
              have e53 : A.eval (.tmp 53) = .bool false := (ev_in hA 53 13 rfl rfl rfl).trans (show f 13 = .bool false from hu 13 (by decide))
              refine ph_sem rfl (wanted_in hA 13 false rfl 53 rfl rfl e53) (r := .ok (.value (.bool false)) W) ?_ (hK _ _ (gb_rr W _) rfl)
              have eC : ∀ c, A.eval (.const c) = c := fun _ => rfl; have eF : ∀ g, A.eval (.func g) = .func (.func g) #[] #[] := fun _ => rfl; generalize A.eval = ρ at *
              clear hA hu
              go_simp
            | 18, ho, hu, hK =>
              cases ho
              have hw : PH w W g (zs.take at0) := H2.out.gb hg
              have e53 : A.eval (.tmp 53) = .bool false := (ev_in hA 53 13 rfl rfl rfl).trans (show f 13 = .bool false from hu 13 (by decide))
              have e57 : A.eval (.tmp 57) = .bool false := (ev_in hA 57 17 rfl rfl rfl).trans (show f 17 = .bool false from hu 17 (by decide))
              exact ph_pick _ _ _ rfl rfl false (.bool true) (.bool false) e53 rfl e57 (hK _ _ (gb_rr W _) rfl)
            | i + 19, ho, hu, hK => simp at ho
          case fin =>
            intro f W A hA hg hu
            have H3 : Hid (PH w W g (zs.take at0)) := H2.out.gb hg
            have hA2 := hA.trans (putAll_lit [(.int .i64 (k : Int)), (.int .i64 1), (.bool false), (.bool false), (undef), (undef), (undef), (undef), (undef), (undef), (undef), (undef), (.bool false), (.bool false), (.pointer (some ⟨g, 0, none⟩)), (.int .i64 (at0 : Int)), (.int .i64 (at0 : Int)), (.bool false), (.bool false)] (by
              intro j hj
              match j, hj with
              | 0, _ => exact hu 0 (by decide)
              | 1, _ => exact hu 1 (by decide)
              | 2, _ => exact hu 2 (by decide)
              | 3, _ => exact hu 3 (by decide)
              | 4, _ => exact hu 4 (by decide)
              | 5, _ => exact hu 5 (by decide)
              | 6, _ => exact hu 6 (by decide)
              | 7, _ => exact hu 7 (by decide)
              | 8, _ => exact hu 8 (by decide)
              | 9, _ => exact hu 9 (by decide)
              | 10, _ => exact hu 10 (by decide)
              | 11, _ => exact hu 11 (by decide)
              | 12, _ => exact hu 12 (by decide)
              | 13, _ => exact hu 13 (by decide)
              | 14, _ => exact hu 14 (by decide)
              | 15, _ => exact hu 15 (by decide)
              | 16, _ => exact hu 16 (by decide)
              | 17, _ => exact hu 17 (by decide)
              | 18, _ => exact hu 18 (by decide)
              | j + 19, hj => exact absurd hj (by simp)))
            clear hu hA
            subst hA2
            simp only [putAll, putL, List.mem_cons, List.not_mem_nil, List.idxOf_cons, Nat.reduceEqDiff, Nat.reduceBEq, Nat.reduceAdd, or_false, or_true, reduceIte, cond_true, cond_false, List.getD_cons_zero, List.getD_cons_succ, BEq.rfl]
            clear hg
            by_cases h3 : k % 3 = 1
            · have h31 : (k : Int) % 3 = 1 := by omega
              have h32 : (k : Int).tmod 3 = 1 := by rw [Int.tmod_eq_emod_of_nonneg (by omega)]; exact h31
              go_wp2_with (first
                | (go_at_call 17; refine (Calls.mono (pc_save H3.out) ?_); rintro r w4 ⟨bs, ls, ks, rfl, q1, q2, q3, q4⟩; have H4 : Hid (Seg .u8 w4 (some ⟨bs, 0, none⟩) ls (svB (shz (st0, []) (zs.take at0)) (zs.take at0).length) ∧ ls ≤ ks ∧ ks ≤ maxLen ∧ PH w w4 g (zs.take at0)) := ⟨q1, q2, q3, q4⟩; clear q1 q2 q3 q4)
                | (go_at_call 20; refine (Calls.mono (pc_load H4.out.2.2.2 bs ls ks H4.out.1 H4.out.2.1 H4.out.2.2.1) ?_); rintro r w5 ⟨g5, rfl, h5⟩; have H5 : Hid (PH w w5 g5 (zs.take at0)) := h5; clear h5))
              go_roundw
              case rel => exact ⟨g5, at0, k + 1, rfl, rfl, by go_num, hml, by omega, H5⟩
              case measure => simp [intOf]; omega
            · have h31 : ¬ (k : Int) % 3 = 1 := by omega
              have h32 : ¬ (k : Int).tmod 3 = 1 := by rw [Int.tmod_eq_emod_of_nonneg (by omega)]; exact h31
              have h33 : ((k : Int) % 3 == 1) = false := beq_eq_false_iff_ne.2 h31
              have h34 : ((k : Int).tmod 3 == 1) = false := beq_eq_false_iff_ne.2 h32
              go_wp2
              go_roundw
              case rel => exact ⟨g, at0, k + 1, rfl, rfl, by go_num, hml, by omega, H3⟩
              case measure => simp [intOf]; omega
    · obtain rfl : k = len1 := by omega
      have hs1 : ∀ W, (Instr.slice 29 (.slice a0 len0 cap0) (some (.int .i64 (at0 : Int))) none none).run Try.prog W = .ok (.slice (cutB a0 cap0 at0) (len0 - at0) (cap0 - at0)) W := fun W => slice_bl a0 len0 cap0 at0 ha W
      have hs2 : ∀ W, (Instr.slice 29 (.slice a0 len0 cap0) none (some (.int .i64 (at0 : Int))) none).run Try.prog W = .ok (.slice a0 at0 cap0) W := fun W => slice_bh a0 len0 cap0 at0 (by omega) W
      have HTL : Hid (zs.length = len0 ∧ zs.take len0 = zs ∧ zs.take at0 ++ zs.drop at0 = zs) := ⟨HX.out.1.1, List.take_of_length_le (by rw [HX.out.1.1]; omega), List.take_append_drop at0 zs⟩
      have HSD : Hid (Seg .u8 w (cutB a0 cap0 at0) (len0 - at0) (zs.drop at0)) := by
        have h1 := seg_cutB HX.out.1 at0 len0 ha (Nat.le_refl _) lc0
        rw [HTL.out.2.1] at h1
        exact h1
      have HWR : Hid (Calls Try.prog 10 #[.pointer (some ⟨g, 0, none⟩), .slice (cutB a0 cap0 at0) (len0 - at0) (cap0 - at0)] wr fun r w' => r = .returned (.tuple #[]) ∧ PH w w' g zs) := by
        have h1 := pc_write hr.out (cutB a0 cap0 at0) (len0 - at0) (cap0 - at0) (zs.drop at0) HSD.out (bytes_sub HX.out.2.1 fun z hz => List.mem_of_mem_drop hz) (by omega) (by omega) (by have := HTL.out.1; simp; omega)
        rw [HTL.out.2.2] at h1
        exact h1
      have HSU : Hid (∀ W, PH w W g zs → Calls Try.prog 13 #[.pointer (some ⟨g, 0, none⟩)] W fun r w' => r = .returned (.agg (u8s (sha zs))) ∧ W.grownBy w' none) := fun W h => pc_sum h
      have HS1 : Hid (∀ (W : World) (g1 : Nat), w.grownBy W none → W.cell? ⟨g1, 0, none⟩ = some (.slice a0 len0 cap0) → g1 < W.heap.size → Calls Try.prog 24 #[.slice (some ⟨g1, 0, none⟩) 1 1] W fun r w' => r = .returned (.agg (u8s (sha zs))) ∧ W.grownBy w' none) := fun W g1 hW h1 h2 =>
        sum1_c g1 a0 len0 cap0 zs W h1 h2 (HX.out.1.below (gb_below hW)) HX.out.2.1 lc0 (by omega) (by rw [HTL.out.1]; omega)
      have HS3 : Hid (∀ (W : World) (g1 : Nat), w.grownBy W none → W.cell? ⟨g1, 0, none⟩ = some (.slice a0 at0 cap0) → W.cell? ⟨g1, 1, none⟩ = some (.slice none 0 0) → W.cell? ⟨g1, 2, none⟩ = some (.slice (cutB a0 cap0 at0) (len0 - at0) (cap0 - at0)) → g1 < W.heap.size → Calls Try.prog 24 #[.slice (some ⟨g1, 0, none⟩) 3 3] W fun r w' => r = .returned (.agg (u8s (sha zs))) ∧ W.grownBy w' none) := fun W g1 hW h1 h2 h3 h4 => by
        have h5 := sum3_c g1 a0 (cutB a0 cap0 at0) at0 cap0 (len0 - at0) (cap0 - at0) (zs.take at0) (zs.drop at0) W h1 h2 h3 h4 ((seg_headB HX.out.1 ha).below (gb_below hW)) (bytes_sub HX.out.2.1 fun z hz => List.mem_of_mem_take hz) (by omega) (by omega) (HSD.out.below (gb_below hW)) (bytes_sub HX.out.2.1 fun z hz => List.mem_of_mem_drop hz) (by omega) (by omega) (by have := HTL.out.1; simp; omega)
        rw [HTL.out.2.2] at h5
        exact h5
      have HSA : Hid (∀ (W : World) (x : Nat) (f : Nat × Nat) (g2 : Nat), W.heap[x]? = some (.cells #[.int .u8 97, .int .u8 98, .int .u8 99] 5 f) → g2 < W.heap.size → W.cell? ⟨g2, 0, none⟩ = some (.slice (some ⟨x, 0, none⟩) 3 3) → Calls Try.prog 24 #[.slice (some ⟨g2, 0, none⟩) 1 1] W fun r w' => r = .returned (.agg (u8s (sha [97, 98, 99]))) ∧ W.grownBy w' none) := fun W x f g2 h1 h2 h3 =>
        sum1_c g2 (some ⟨x, 0, none⟩) 3 3 [97, 98, 99] W h3 h2 ⟨rfl, .inr ⟨x, 0, rfl, lt_of_block h1, fun i hi => by
          rw [cell_of_row W x _ _ _ _ h1]
          match i, hi with
          | 0, _ => rfl
          | 1, _ => rfl
          | 2, _ => rfl⟩⟩ (bytes_of_mem fun z hz => by simp at hz; omega) (Nat.le_refl _) (by omega) (by decide)
      have HPA : Hid (∀ X, Calls Try.prog 23 #[.agg (u8s (sha [97, 98, 99]))] X fun r w' => r = .returned (.string { data := #[98, 97, 55, 56, 49, 54, 98, 102, 56, 102, 48, 49, 99, 102, 101, 97, 52, 49, 52, 49, 52, 48, 100, 101, 53, 100, 97, 101, 50, 50, 50, 51, 98, 48, 48, 51, 54, 49, 97, 51, 57, 54, 49, 55, 55, 97, 57, 99, 98, 52, 49, 48, 102, 102, 54, 49, 102, 50, 48, 48, 49, 53, 97, 100] }) ∧ X.grownBy w' none) := fun X => by
        have := print_c (sha [97, 98, 99]) (sha_len _) (sha_bytes _) X
        rw [str_abc] at this
        exact this
      have heq := fun W => eqD (sha zs) (sha_bytes _) (sha_len _) W
      obtain ⟨D, hD⟩ : ∃ D, D = sha zs := ⟨_, rfl⟩
      obtain ⟨E, hE⟩ : ∃ E, E = sha [97, 98, 99] := ⟨_, rfl⟩
      rw [← hD] at HSU HS1 HS3 heq
      rw [← hE] at HSA HPA
      clear hD hE
      go_wp2_with (first
        | (go_at_call 10; refine (Calls.mono HWR.out ?_); rintro r w2 ⟨rfl, h2⟩; have H2 : Hid (PH w w2 g zs) := h2; clear h2))
      refine wp_region_rel (RC w2.heap.size) (rc_rr _) rc_trans (rc_drew _ _) rfl (by kernel_rfl) [81, 82, 83, 84, 85, 86, 87, 88, 89, 90, 91, 92, 93, 94, 95, 96, 97, 98, 99, 100, 101, 102, 103, 104, 105, 106, 107, 4] [[], [0], [], [2], [3], [1, 4], [5], [6], [7, 6], [6], [6], [9, 10, 6], [6], [6], [12, 13, 6], [11, 14, 6], [15, 6], [8, 16, 6], [6, 17], [18], [19], [20, 19], [21, 19], [22, 19], [23, 19], [24, 19], [19, 25], [26]] (by kernel_rfl) [fun u W => u = .pointer (some ⟨g, 0, none⟩), fun u W => u = .agg (u8s D), fun u W => u = .slice a0 len0 cap0, fun u W => ∃ g1, u = .slice (some ⟨g1, 0, none⟩) 1 1 ∧ g1 < W.heap.size ∧ W.cell? ⟨g1, 0, none⟩ = some (.slice a0 len0 cap0), fun u W => u = .agg (u8s D), fun u W => u = .bool true, fun u W => u = .bool true, fun u W => u = .pointer (some ⟨g, 0, none⟩), fun u W => u = .agg (u8s D), fun u W => u = .slice a0 len0 cap0, fun u W => u = .int .i64 (at0 : Int), fun u W => u = .slice a0 at0 cap0, fun u W => u = .slice a0 len0 cap0, fun u W => u = .int .i64 (at0 : Int), fun u W => u = .slice (cutB a0 cap0 at0) (len0 - at0) (cap0 - at0), fun u W => ∃ g1, u = .slice (some ⟨g1, 0, none⟩) 3 3 ∧ g1 < W.heap.size ∧ W.cell? ⟨g1, 0, none⟩ = some (.slice a0 at0 cap0) ∧ W.cell? ⟨g1, 1, none⟩ = some (.slice none 0 0) ∧ W.cell? ⟨g1, 2, none⟩ = some (.slice (cutB a0 cap0 at0) (len0 - at0) (cap0 - at0)), fun u W => u = .agg (u8s D), fun u W => u = .bool true, fun u W => u = .bool true, fun u W => u = .bool true, fun u W => ∃ b f, u = .slice (some ⟨b, 0, none⟩) 3 3 ∧ w2.heap.size ≤ b ∧ W.heap[b]? = some (.cells #[.int .u8 97, .int .u8 98, .int .u8 99] 5 f), fun u W => ∃ b f, u = .slice (some ⟨b, 0, none⟩) 3 3 ∧ w2.heap.size ≤ b ∧ W.heap[b]? = some (.cells #[.int .u8 97, .int .u8 98, .int .u8 99] 5 f), fun u W => ∃ x f b, u = .slice (some ⟨b, 0, none⟩) 1 1 ∧ W.heap[x]? = some (.cells #[.int .u8 97, .int .u8 98, .int .u8 99] 5 f) ∧ b < W.heap.size ∧ W.cell? ⟨b, 0, none⟩ = some (.slice (some ⟨x, 0, none⟩) 3 3), fun u W => u = .agg (u8s E), fun u W => u = .string { data := #[98, 97, 55, 56, 49, 54, 98, 102, 56, 102, 48, 49, 99, 102, 101, 97, 52, 49, 52, 49, 52, 48, 100, 101, 53, 100, 97, 101, 50, 50, 50, 51, 98, 48, 48, 51, 54, 49, 97, 51, 57, 54, 49, 55, 55, 97, 57, 99, 98, 52, 49, 48, 102, 102, 54, 49, 102, 50, 48, 48, 49, 53, 97, 100] }, fun u W => u = .bool true, fun u W => u = .bool true, fun u W => u = .bool true] ?stable ?step ?fin
      case stable =>
        intro i v W W' h hg
        match i, h with
        | 0, h => exact h
        | 1, h => exact h
        | 2, h => exact h
        | 3, h => obtain ⟨g1, h1, h2, k0⟩ := h; exact ⟨g1, h1, Nat.lt_of_lt_of_le h2 hg.2.2.2.1, (rc_cell hg 0 h2).trans k0⟩
        | 4, h => exact h
        | 5, h => exact h
        | 6, h => exact h
        | 7, h => exact h
        | 8, h => exact h
        | 9, h => exact h
        | 10, h => exact h
        | 11, h => exact h
        | 12, h => exact h
        | 13, h => exact h
        | 14, h => exact h
        | 15, h => obtain ⟨g1, h1, h2, k0, k1, k2⟩ := h; exact ⟨g1, h1, Nat.lt_of_lt_of_le h2 hg.2.2.2.1, (rc_cell hg 0 h2).trans k0, (rc_cell hg 1 h2).trans k1, (rc_cell hg 2 h2).trans k2⟩
        | 16, h => exact h
        | 17, h => exact h
        | 18, h => exact h
        | 19, h => exact h
        | 20, h => obtain ⟨b, f, h1, h2, h3⟩ := h; obtain ⟨f', h4⟩ := rc_cells hg h3; exact ⟨b, f', h1, h2, h4⟩
        | 21, h => obtain ⟨b, f, h1, h2, h3⟩ := h; obtain ⟨f', h4⟩ := rc_cells hg h3; exact ⟨b, f', h1, h2, h4⟩
        | 22, h => obtain ⟨x, f, b, h1, h2, h3, h4⟩ := h; obtain ⟨f', h5⟩ := rc_cells hg h2; exact ⟨x, f', b, h1, h5, Nat.lt_of_lt_of_le h3 hg.2.2.2.1, (rc_cell hg 0 h3).trans h4⟩
        | 23, h => exact h
        | 24, h => exact h
        | 25, h => exact h
        | 26, h => exact h
        | 27, h => exact h
        | i + 28, h => exact trivial
      case step =>
        intro f W A hA hg i o ho hu K hK
        match i, ho, hu, hK with
        | 0, ho, hu, hK =>
          cases ho
          have hw : PH w W g zs := H2.out.gb (rc_old hg)
          have e5 : A.eval (.tmp 5) = .pointer (some ⟨g, 0, none⟩) := ev_out hA 5 rfl
          exact ph_move _ rfl rfl (.pointer (some ⟨g, 0, none⟩)) e5 (hK _ _ (rc_rr _ W) rfl)
        | 1, ho, hu, hK =>
          cases ho
          have hw : PH w W g zs := H2.out.gb (rc_old hg)
          have e81 : A.eval (.tmp 81) = .pointer (some ⟨g, 0, none⟩) := (ev_in hA 81 0 rfl rfl rfl).trans (show f 0 = .pointer (some ⟨g, 0, none⟩) from hu 0 (by decide))
          refine ph_fn 13 _ _ rfl rfl #[.pointer (some ⟨g, 0, none⟩)] (by simp [e81]) (by kernel_rfl) ?_
          refine (Calls.mono (HSU.out W hw) ?_)
          rintro e W' ⟨rfl, hq⟩
          exact ⟨_, rfl, hK _ _ (rc_gb hq) rfl⟩
        | 2, ho, hu, hK =>
          cases ho
          have hw : PH w W g zs := H2.out.gb (rc_old hg)
          have e0 : A.eval (.tmp 0) = .slice a0 len0 cap0 := ev_out hA 0 rfl
          exact ph_move _ rfl rfl (.slice a0 len0 cap0) e0 (hK _ _ (rc_rr _ W) rfl)
        | 3, ho, hu, hK =>
          cases ho
          have hw : PH w W g zs := H2.out.gb (rc_old hg)
          have e83 : A.eval (.tmp 83) = .slice a0 len0 cap0 := (ev_in hA 83 2 rfl rfl rfl).trans (show f 2 = .slice a0 len0 cap0 from hu 2 (by decide))
          refine ph_sem rfl rfl (r := .ok (.value (.slice (some ⟨W.heap.size, 0, none⟩) 1 1)) (W.alloc (.cells #[.slice a0 len0 cap0] 29))) ?_ (hK _ _ (rc_gb (gb_alloc W _)) ⟨W.heap.size, rfl, lt_of_block (blk_new W _ _).1, new_cell W _ _ 0 _ rfl⟩)
          have eC : ∀ c, A.eval (.const c) = c := fun _ => rfl; have eF : ∀ g, A.eval (.func g) = .func (.func g) #[] #[] := fun _ => rfl; generalize A.eval = ρ at *
          clear hA hu
          go_simp
        | 4, ho, hu, hK =>
          cases ho
          have hw : PH w W g zs := H2.out.gb (rc_old hg)
          obtain ⟨g3, hv3, l3, c3_0⟩ := hu 3 (by decide)
          have e84 : A.eval (.tmp 84) = .slice (some ⟨g3, 0, none⟩) 1 1 := (ev_in hA 84 3 rfl rfl rfl).trans hv3
          refine ph_fn 24 _ _ rfl rfl #[.slice (some ⟨g3, 0, none⟩) 1 1] (by simp [e84]) (by kernel_rfl) ?_
          refine (Calls.mono (HS1.out W g3 hw.2.1 c3_0 l3) ?_)
          rintro e W' ⟨rfl, hq⟩
          exact ⟨_, rfl, hK _ _ (rc_gb hq) rfl⟩
        | 5, ho, hu, hK =>
          cases ho
          have hw : PH w W g zs := H2.out.gb (rc_old hg)
          have e82 : A.eval (.tmp 82) = .agg (u8s D) := (ev_in hA 82 1 rfl rfl rfl).trans (show f 1 = .agg (u8s D) from hu 1 (by decide))
          have e85 : A.eval (.tmp 85) = .agg (u8s D) := (ev_in hA 85 4 rfl rfl rfl).trans (show f 4 = .agg (u8s D) from hu 4 (by decide))
          refine ph_sem rfl rfl (r := .ok (.value (.bool true)) W) ?_ (hK _ _ (rc_rr _ W) rfl)
          have eC : ∀ c, A.eval (.const c) = c := fun _ => rfl; have eF : ∀ g, A.eval (.func g) = .func (.func g) #[] #[] := fun _ => rfl; generalize A.eval = ρ at *
          clear hA hu
          go_simp
        | 6, ho, hu, hK =>
          cases ho
          have hw : PH w W g zs := H2.out.gb (rc_old hg)
          have e86 : A.eval (.tmp 86) = .bool true := (ev_in hA 86 5 rfl rfl rfl).trans (show f 5 = .bool true from hu 5 (by decide))
          exact ph_move _ rfl rfl (.bool true) e86 (hK _ _ (rc_rr _ W) rfl)
        | 7, ho, hu, hK =>
          cases ho
          have hw : PH w W g zs := H2.out.gb (rc_old hg)
          have e5 : A.eval (.tmp 5) = .pointer (some ⟨g, 0, none⟩) := ev_out hA 5 rfl
          have e87 : A.eval (.tmp 87) = .bool true := (ev_in hA 87 6 rfl rfl rfl).trans (show f 6 = .bool true from hu 6 (by decide))
          exact ph_move _ rfl (wanted_in hA 6 true rfl 87 rfl rfl e87) (.pointer (some ⟨g, 0, none⟩)) e5 (hK _ _ (rc_rr _ W) rfl)
        | 8, ho, hu, hK =>
          cases ho
          have hw : PH w W g zs := H2.out.gb (rc_old hg)
          have e88 : A.eval (.tmp 88) = .pointer (some ⟨g, 0, none⟩) := (ev_in hA 88 7 rfl rfl rfl).trans (show f 7 = .pointer (some ⟨g, 0, none⟩) from hu 7 (by decide))
          have e87 : A.eval (.tmp 87) = .bool true := (ev_in hA 87 6 rfl rfl rfl).trans (show f 6 = .bool true from hu 6 (by decide))
          refine ph_fn 13 _ _ rfl (wanted_in hA 6 true rfl 87 rfl rfl e87) #[.pointer (some ⟨g, 0, none⟩)] (by simp [e88]) (by kernel_rfl) ?_
          refine (Calls.mono (HSU.out W hw) ?_)
          rintro e W' ⟨rfl, hq⟩
          exact ⟨_, rfl, hK _ _ (rc_gb hq) rfl⟩
        | 9, ho, hu, hK =>
          cases ho
          have hw : PH w W g zs := H2.out.gb (rc_old hg)
          have e0 : A.eval (.tmp 0) = .slice a0 len0 cap0 := ev_out hA 0 rfl
          have e87 : A.eval (.tmp 87) = .bool true := (ev_in hA 87 6 rfl rfl rfl).trans (show f 6 = .bool true from hu 6 (by decide))
          exact ph_move _ rfl (wanted_in hA 6 true rfl 87 rfl rfl e87) (.slice a0 len0 cap0) e0 (hK _ _ (rc_rr _ W) rfl)
        | 10, ho, hu, hK =>
          cases ho
          have hw : PH w W g zs := H2.out.gb (rc_old hg)
          have e6 : A.eval (.tmp 6) = .int .i64 (at0 : Int) := ev_out hA 6 rfl
          have e87 : A.eval (.tmp 87) = .bool true := (ev_in hA 87 6 rfl rfl rfl).trans (show f 6 = .bool true from hu 6 (by decide))
          exact ph_move _ rfl (wanted_in hA 6 true rfl 87 rfl rfl e87) (.int .i64 (at0 : Int)) e6 (hK _ _ (rc_rr _ W) rfl)
        | 11, ho, hu, hK =>
          cases ho
          have hw : PH w W g zs := H2.out.gb (rc_old hg)
          have e90 : A.eval (.tmp 90) = .slice a0 len0 cap0 := (ev_in hA 90 9 rfl rfl rfl).trans (show f 9 = .slice a0 len0 cap0 from hu 9 (by decide))
          have e91 : A.eval (.tmp 91) = .int .i64 (at0 : Int) := (ev_in hA 91 10 rfl rfl rfl).trans (show f 10 = .int .i64 (at0 : Int) from hu 10 (by decide))
          have e87 : A.eval (.tmp 87) = .bool true := (ev_in hA 87 6 rfl rfl rfl).trans (show f 6 = .bool true from hu 6 (by decide))
          refine ph_sem rfl (wanted_in hA 6 true rfl 87 rfl rfl e87) (r := .ok (.value (.slice a0 at0 cap0)) W) ?_ (hK _ _ (rc_rr _ W) rfl)
          have eC : ∀ c, A.eval (.const c) = c := fun _ => rfl; have eF : ∀ g, A.eval (.func g) = .func (.func g) #[] #[] := fun _ => rfl; generalize A.eval = ρ at *
          clear hA hu
          go_simp
        | 12, ho, hu, hK =>
          cases ho
          have hw : PH w W g zs := H2.out.gb (rc_old hg)
          have e0 : A.eval (.tmp 0) = .slice a0 len0 cap0 := ev_out hA 0 rfl
          have e87 : A.eval (.tmp 87) = .bool true := (ev_in hA 87 6 rfl rfl rfl).trans (show f 6 = .bool true from hu 6 (by decide))
          exact ph_move _ rfl (wanted_in hA 6 true rfl 87 rfl rfl e87) (.slice a0 len0 cap0) e0 (hK _ _ (rc_rr _ W) rfl)
        | 13, ho, hu, hK =>
          cases ho
          have hw : PH w W g zs := H2.out.gb (rc_old hg)
          have e6 : A.eval (.tmp 6) = .int .i64 (at0 : Int) := ev_out hA 6 rfl
          have e87 : A.eval (.tmp 87) = .bool true := (ev_in hA 87 6 rfl rfl rfl).trans (show f 6 = .bool true from hu 6 (by decide))
          exact ph_move _ rfl (wanted_in hA 6 true rfl 87 rfl rfl e87) (.int .i64 (at0 : Int)) e6 (hK _ _ (rc_rr _ W) rfl)
        | 14, ho, hu, hK =>
          cases ho
          have hw : PH w W g zs := H2.out.gb (rc_old hg)
          have e93 : A.eval (.tmp 93) = .slice a0 len0 cap0 := (ev_in hA 93 12 rfl rfl rfl).trans (show f 12 = .slice a0 len0 cap0 from hu 12 (by decide))
          have e94 : A.eval (.tmp 94) = .int .i64 (at0 : Int) := (ev_in hA 94 13 rfl rfl rfl).trans (show f 13 = .int .i64 (at0 : Int) from hu 13 (by decide))
          have e87 : A.eval (.tmp 87) = .bool true := (ev_in hA 87 6 rfl rfl rfl).trans (show f 6 = .bool true from hu 6 (by decide))
          refine ph_sem rfl (wanted_in hA 6 true rfl 87 rfl rfl e87) (r := .ok (.value (.slice (cutB a0 cap0 at0) (len0 - at0) (cap0 - at0))) W) ?_ (hK _ _ (rc_rr _ W) rfl)
          have eC : ∀ c, A.eval (.const c) = c := fun _ => rfl; have eF : ∀ g, A.eval (.func g) = .func (.func g) #[] #[] := fun _ => rfl; generalize A.eval = ρ at *
          clear hA hu
          go_simp
        | 15, ho, hu, hK =>
          cases ho
          have hw : PH w W g zs := H2.out.gb (rc_old hg)
          have e92 : A.eval (.tmp 92) = .slice a0 at0 cap0 := (ev_in hA 92 11 rfl rfl rfl).trans (show f 11 = .slice a0 at0 cap0 from hu 11 (by decide))
          have e95 : A.eval (.tmp 95) = .slice (cutB a0 cap0 at0) (len0 - at0) (cap0 - at0) := (ev_in hA 95 14 rfl rfl rfl).trans (show f 14 = .slice (cutB a0 cap0 at0) (len0 - at0) (cap0 - at0) from hu 14 (by decide))
          have e87 : A.eval (.tmp 87) = .bool true := (ev_in hA 87 6 rfl rfl rfl).trans (show f 6 = .bool true from hu 6 (by decide))
          refine ph_sem rfl (wanted_in hA 6 true rfl 87 rfl rfl e87) (r := .ok (.value (.slice (some ⟨W.heap.size, 0, none⟩) 3 3)) (W.alloc (.cells #[.slice a0 at0 cap0, .slice none 0 0, .slice (cutB a0 cap0 at0) (len0 - at0) (cap0 - at0)] 29))) ?_ (hK _ _ (rc_gb (gb_alloc W _)) ⟨W.heap.size, rfl, lt_of_block (blk_new W _ _).1, new_cell W _ _ 0 _ rfl, new_cell W _ _ 1 _ rfl, new_cell W _ _ 2 _ rfl⟩)
          have eC : ∀ c, A.eval (.const c) = c := fun _ => rfl; have eF : ∀ g, A.eval (.func g) = .func (.func g) #[] #[] := fun _ => rfl; generalize A.eval = ρ at *
          clear hA hu
          go_simp
        | 16, ho, hu, hK =>
          cases ho
          have hw : PH w W g zs := H2.out.gb (rc_old hg)
          obtain ⟨g15, hv15, l15, c15_0, c15_1, c15_2⟩ := hu 15 (by decide)
          have e96 : A.eval (.tmp 96) = .slice (some ⟨g15, 0, none⟩) 3 3 := (ev_in hA 96 15 rfl rfl rfl).trans hv15
          have e87 : A.eval (.tmp 87) = .bool true := (ev_in hA 87 6 rfl rfl rfl).trans (show f 6 = .bool true from hu 6 (by decide))
          refine ph_fn 24 _ _ rfl (wanted_in hA 6 true rfl 87 rfl rfl e87) #[.slice (some ⟨g15, 0, none⟩) 3 3] (by simp [e96]) (by kernel_rfl) ?_
          refine (Calls.mono (HS3.out W g15 hw.2.1 c15_0 c15_1 c15_2 l15) ?_)
          rintro e W' ⟨rfl, hq⟩
          exact ⟨_, rfl, hK _ _ (rc_gb hq) rfl⟩
        | 17, ho, hu, hK =>
          cases ho
          have hw : PH w W g zs := H2.out.gb (rc_old hg)
          have e89 : A.eval (.tmp 89) = .agg (u8s D) := (ev_in hA 89 8 rfl rfl rfl).trans (show f 8 = .agg (u8s D) from hu 8 (by decide))
          have e97 : A.eval (.tmp 97) = .agg (u8s D) := (ev_in hA 97 16 rfl rfl rfl).trans (show f 16 = .agg (u8s D) from hu 16 (by decide))
          have e87 : A.eval (.tmp 87) = .bool true := (ev_in hA 87 6 rfl rfl rfl).trans (show f 6 = .bool true from hu 6 (by decide))
          refine ph_sem rfl (wanted_in hA 6 true rfl 87 rfl rfl e87) (r := .ok (.value (.bool true)) W) ?_ (hK _ _ (rc_rr _ W) rfl)
          have eC : ∀ c, A.eval (.const c) = c := fun _ => rfl; have eF : ∀ g, A.eval (.func g) = .func (.func g) #[] #[] := fun _ => rfl; generalize A.eval = ρ at *
          clear hA hu
          go_simp
        | 18, ho, hu, hK =>
          cases ho
          have hw : PH w W g zs := H2.out.gb (rc_old hg)
          have e87 : A.eval (.tmp 87) = .bool true := (ev_in hA 87 6 rfl rfl rfl).trans (show f 6 = .bool true from hu 6 (by decide))
          have e98 : A.eval (.tmp 98) = .bool true := (ev_in hA 98 17 rfl rfl rfl).trans (show f 17 = .bool true from hu 17 (by decide))
          exact ph_pick _ _ _ rfl rfl true (.bool true) (.bool false) e87 e98 rfl (hK _ _ (rc_rr _ W) rfl)
        | 19, ho, hu, hK =>
          cases ho
          have hw : PH w W g zs := H2.out.gb (rc_old hg)
          have e99 : A.eval (.tmp 99) = .bool true := (ev_in hA 99 18 rfl rfl rfl).trans (show f 18 = .bool true from hu 18 (by decide))
          exact ph_move _ rfl rfl (.bool true) e99 (hK _ _ (rc_rr _ W) rfl)
        | 20, ho, hu, hK =>
          cases ho
          have hw : PH w W g zs := H2.out.gb (rc_old hg)
          have e100 : A.eval (.tmp 100) = .bool true := (ev_in hA 100 19 rfl rfl rfl).trans (show f 19 = .bool true from hu 19 (by decide))
          refine ph_sem rfl (wanted_in hA 19 true rfl 100 rfl rfl e100) (r := .ok (.value (.slice (some ⟨W.heap.size, 0, none⟩) 3 3)) (W.alloc (.cells #[.int .u8 97, .int .u8 98, .int .u8 99] 5))) ?_ (hK _ _ (rc_gb (gb_alloc W _)) ⟨W.heap.size, (0, 0), rfl, (rc_old hg).size, heap_new W _⟩)
          have eC : ∀ c, A.eval (.const c) = c := fun _ => rfl; have eF : ∀ g, A.eval (.func g) = .func (.func g) #[] #[] := fun _ => rfl; generalize A.eval = ρ at *
          clear hA hu
          go_simp
        | 21, ho, hu, hK =>
          cases ho
          have hw : PH w W g zs := H2.out.gb (rc_old hg)
          obtain ⟨g20, f20, hv20, l20, c20⟩ := hu 20 (by decide)
          have e101 : A.eval (.tmp 101) = .slice (some ⟨g20, 0, none⟩) 3 3 := (ev_in hA 101 20 rfl rfl rfl).trans hv20
          have e100 : A.eval (.tmp 100) = .bool true := (ev_in hA 100 19 rfl rfl rfl).trans (show f 19 = .bool true from hu 19 (by decide))
          obtain ⟨W9, h1, h2⟩ := convert_mk (n := 3) (c := 3) c20 l20
          obtain ⟨f9, h3⟩ := rc_cells h2 c20
          refine ph_sem rfl (wanted_in hA 19 true rfl 100 rfl rfl e100) (r := .ok (.value (.slice (some ⟨g20, 0, none⟩) 3 3)) W9) ?_ (hK _ _ h2 ⟨g20, f9, rfl, l20, h3⟩)
          have eC : ∀ c, A.eval (.const c) = c := fun _ => rfl; have eF : ∀ g, A.eval (.func g) = .func (.func g) #[] #[] := fun _ => rfl; generalize A.eval = ρ at *
          clear hA hu h2 h3
          go_simp
        | 22, ho, hu, hK =>
          cases ho
          have hw : PH w W g zs := H2.out.gb (rc_old hg)
          obtain ⟨g21, f21, hv21, l21, c21⟩ := hu 21 (by decide)
          have e102 : A.eval (.tmp 102) = .slice (some ⟨g21, 0, none⟩) 3 3 := (ev_in hA 102 21 rfl rfl rfl).trans hv21
          have e100 : A.eval (.tmp 100) = .bool true := (ev_in hA 100 19 rfl rfl rfl).trans (show f 19 = .bool true from hu 19 (by decide))
          obtain ⟨f9, h3⟩ := rc_cells (rc_gb (B := 0) (gb_alloc W (.cells #[.slice (some ⟨g21, 0, none⟩) 3 3] 29))) c21
          refine ph_sem rfl (wanted_in hA 19 true rfl 100 rfl rfl e100) (r := .ok (.value (.slice (some ⟨W.heap.size, 0, none⟩) 1 1)) (W.alloc (.cells #[.slice (some ⟨g21, 0, none⟩) 3 3] 29))) ?_ (hK _ _ (rc_gb (gb_alloc W _)) ⟨g21, f9, W.heap.size, rfl, h3, lt_of_block (blk_new W _ _).1, new_cell W _ _ 0 _ rfl⟩)
          have eC : ∀ c, A.eval (.const c) = c := fun _ => rfl; have eF : ∀ g, A.eval (.func g) = .func (.func g) #[] #[] := fun _ => rfl; generalize A.eval = ρ at *
          clear hA hu h3
          go_simp
        | 23, ho, hu, hK =>
          cases ho
          have hw : PH w W g zs := H2.out.gb (rc_old hg)
          obtain ⟨g23, f23, g22, hv22, c23, l22, c22_0⟩ := hu 22 (by decide)
          have e103 : A.eval (.tmp 103) = .slice (some ⟨g22, 0, none⟩) 1 1 := (ev_in hA 103 22 rfl rfl rfl).trans hv22
          have e100 : A.eval (.tmp 100) = .bool true := (ev_in hA 100 19 rfl rfl rfl).trans (show f 19 = .bool true from hu 19 (by decide))
          refine ph_fn 24 _ _ rfl (wanted_in hA 19 true rfl 100 rfl rfl e100) #[.slice (some ⟨g22, 0, none⟩) 1 1] (by simp [e103]) (by kernel_rfl) ?_
          refine (Calls.mono (HSA.out W g23 f23 g22 c23 l22 c22_0) ?_)
          rintro e W' ⟨rfl, hq⟩
          exact ⟨_, rfl, hK _ _ (rc_gb hq) rfl⟩
        | 24, ho, hu, hK =>
          cases ho
          have hw : PH w W g zs := H2.out.gb (rc_old hg)
          have e104 : A.eval (.tmp 104) = .agg (u8s E) := (ev_in hA 104 23 rfl rfl rfl).trans (show f 23 = .agg (u8s E) from hu 23 (by decide))
          have e100 : A.eval (.tmp 100) = .bool true := (ev_in hA 100 19 rfl rfl rfl).trans (show f 19 = .bool true from hu 19 (by decide))
          refine ph_fn 23 _ _ rfl (wanted_in hA 19 true rfl 100 rfl rfl e100) #[.agg (u8s E)] (by simp [e104]) (by kernel_rfl) ?_
          refine (Calls.mono (HPA.out W) ?_)
          rintro e W' ⟨rfl, hq⟩
          exact ⟨_, rfl, hK _ _ (rc_gb hq) rfl⟩
        | 25, ho, hu, hK =>
          cases ho
          have hw : PH w W g zs := H2.out.gb (rc_old hg)
          have e105 : A.eval (.tmp 105) = .string { data := #[98, 97, 55, 56, 49, 54, 98, 102, 56, 102, 48, 49, 99, 102, 101, 97, 52, 49, 52, 49, 52, 48, 100, 101, 53, 100, 97, 101, 50, 50, 50, 51, 98, 48, 48, 51, 54, 49, 97, 51, 57, 54, 49, 55, 55, 97, 57, 99, 98, 52, 49, 48, 102, 102, 54, 49, 102, 50, 48, 48, 49, 53, 97, 100] } := (ev_in hA 105 24 rfl rfl rfl).trans (show f 24 = .string { data := #[98, 97, 55, 56, 49, 54, 98, 102, 56, 102, 48, 49, 99, 102, 101, 97, 52, 49, 52, 49, 52, 48, 100, 101, 53, 100, 97, 101, 50, 50, 50, 51, 98, 48, 48, 51, 54, 49, 97, 51, 57, 54, 49, 55, 55, 97, 57, 99, 98, 52, 49, 48, 102, 102, 54, 49, 102, 50, 48, 48, 49, 53, 97, 100] } from hu 24 (by decide))
          have e100 : A.eval (.tmp 100) = .bool true := (ev_in hA 100 19 rfl rfl rfl).trans (show f 19 = .bool true from hu 19 (by decide))
          refine ph_sem rfl (wanted_in hA 19 true rfl 100 rfl rfl e100) (r := .ok (.value (.bool true)) W) ?_ (hK _ _ (rc_rr _ W) rfl)
          have eC : ∀ c, A.eval (.const c) = c := fun _ => rfl; have eF : ∀ g, A.eval (.func g) = .func (.func g) #[] #[] := fun _ => rfl; generalize A.eval = ρ at *
          clear hA hu
          go_simp
        | 26, ho, hu, hK =>
          cases ho
          have hw : PH w W g zs := H2.out.gb (rc_old hg)
          have e100 : A.eval (.tmp 100) = .bool true := (ev_in hA 100 19 rfl rfl rfl).trans (show f 19 = .bool true from hu 19 (by decide))
          have e106 : A.eval (.tmp 106) = .bool true := (ev_in hA 106 25 rfl rfl rfl).trans (show f 25 = .bool true from hu 25 (by decide))
          exact ph_pick _ _ _ rfl rfl true (.bool true) (.bool false) e100 e106 rfl (hK _ _ (rc_rr _ W) rfl)
        | 27, ho, hu, hK =>
          cases ho
          have hw : PH w W g zs := H2.out.gb (rc_old hg)
          have e107 : A.eval (.tmp 107) = .bool true := (ev_in hA 107 26 rfl rfl rfl).trans (show f 26 = .bool true from hu 26 (by decide))
          exact ph_assign _ rfl rfl (.bool true) e107 (hK _ _ (rc_rr _ W) rfl)
        | i + 28, ho, hu, hK => simp at ho
      case fin =>
        intro f W A hA hg hu
        have H3 : Hid (w.grownBy W none) := gb_trans H2.out.2.1 (rc_old hg)
        obtain ⟨g23, f23, g22, hv22, c23, l22, c22_0⟩ := hu 22 (by decide)
        obtain ⟨g21, f21, hv21, l21, c21⟩ := hu 21 (by decide)
        obtain ⟨g20, f20, hv20, l20, c20⟩ := hu 20 (by decide)
        obtain ⟨g15, hv15, l15, c15_0, c15_1, c15_2⟩ := hu 15 (by decide)
        obtain ⟨g3, hv3, l3, c3_0⟩ := hu 3 (by decide)
        have hA2 := hA.trans (putAll_lit [(.pointer (some ⟨g, 0, none⟩)), (.agg (u8s D)), (.slice a0 len0 cap0), (.slice (some ⟨g3, 0, none⟩) 1 1), (.agg (u8s D)), (.bool true), (.bool true), (.pointer (some ⟨g, 0, none⟩)), (.agg (u8s D)), (.slice a0 len0 cap0), (.int .i64 (at0 : Int)), (.slice a0 at0 cap0), (.slice a0 len0 cap0), (.int .i64 (at0 : Int)), (.slice (cutB a0 cap0 at0) (len0 - at0) (cap0 - at0)), (.slice (some ⟨g15, 0, none⟩) 3 3), (.agg (u8s D)), (.bool true), (.bool true), (.bool true), (.slice (some ⟨g20, 0, none⟩) 3 3), (.slice (some ⟨g21, 0, none⟩) 3 3), (.slice (some ⟨g22, 0, none⟩) 1 1), (.agg (u8s E)), (.string { data := #[98, 97, 55, 56, 49, 54, 98, 102, 56, 102, 48, 49, 99, 102, 101, 97, 52, 49, 52, 49, 52, 48, 100, 101, 53, 100, 97, 101, 50, 50, 50, 51, 98, 48, 48, 51, 54, 49, 97, 51, 57, 54, 49, 55, 55, 97, 57, 99, 98, 52, 49, 48, 102, 102, 54, 49, 102, 50, 48, 48, 49, 53, 97, 100] }), (.bool true), (.bool true), (.bool true)] (by
          intro j hj
          match j, hj with
          | 0, _ => exact hu 0 (by decide)
          | 1, _ => exact hu 1 (by decide)
          | 2, _ => exact hu 2 (by decide)
          | 3, _ => exact hv3
          | 4, _ => exact hu 4 (by decide)
          | 5, _ => exact hu 5 (by decide)
          | 6, _ => exact hu 6 (by decide)
          | 7, _ => exact hu 7 (by decide)
          | 8, _ => exact hu 8 (by decide)
          | 9, _ => exact hu 9 (by decide)
          | 10, _ => exact hu 10 (by decide)
          | 11, _ => exact hu 11 (by decide)
          | 12, _ => exact hu 12 (by decide)
          | 13, _ => exact hu 13 (by decide)
          | 14, _ => exact hu 14 (by decide)
          | 15, _ => exact hv15
          | 16, _ => exact hu 16 (by decide)
          | 17, _ => exact hu 17 (by decide)
          | 18, _ => exact hu 18 (by decide)
          | 19, _ => exact hu 19 (by decide)
          | 20, _ => exact hv20
          | 21, _ => exact hv21
          | 22, _ => exact hv22
          | 23, _ => exact hu 23 (by decide)
          | 24, _ => exact hu 24 (by decide)
          | 25, _ => exact hu 25 (by decide)
          | 26, _ => exact hu 26 (by decide)
          | 27, _ => exact hu 27 (by decide)
          | j + 28, hj => exact absurd hj (by simp)))
        clear hu hA
        subst hA2
        simp only [putAll, putL, List.mem_cons, List.not_mem_nil, List.idxOf_cons, Nat.reduceEqDiff, Nat.reduceBEq, Nat.reduceAdd, or_false, or_true, reduceIte, cond_true, cond_false, List.getD_cons_zero, List.getD_cons_succ, BEq.rfl]
        clear hg
        go_wp2
        go_ret
        exact ⟨rfl, gb_below H3.out⟩
end Go.Proofs.Ytlfppknpnfeplaa
