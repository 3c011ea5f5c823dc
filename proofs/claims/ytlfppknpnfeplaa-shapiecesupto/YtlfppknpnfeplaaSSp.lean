/-
  What sha's spread answers: the words of a block, one a round. Condition: the block has 64 bytes.
-/
import Derived.Test.YtlfppknpnfeplaaSBl
namespace Go.Proofs.Ytlfppknpnfeplaa
set_option linter.unusedVariables false
open Go.RowKit

theorem spr_len (bs : List Int) (k : Nat) : (spr bs k).length = k := by
  induction k with
  | zero => rfl
  | succ k ih => simp [spr, ext, ih]
/-- The words so far, and zeros. -/
def spz (bs : List Int) (k : Nat) : List Wd := spr bs k ++ List.replicate (64 - k) 0
theorem spz_len (bs : List Int) (k : Nat) (h : k ≤ 64) : (spz bs k).length = 64 := by simp [spz, spr_len]; omega
theorem spz_set (bs : List Int) (k : Nat) (h : k < 64) : (spz bs k).set k (nxt bs (spr bs k)) = spz bs (k + 1) := by
  unfold spz
  rw [List.set_append_right _ _ (by rw [spr_len]; exact Nat.le_refl _), spr_len, Nat.sub_self, show 64 - k = (64 - (k + 1)) + 1 from by omega, List.replicate_succ, List.set_cons_zero]
  show _ = ext bs (spr bs k) ++ _
  simp [ext]
theorem spz_get (bs : List Int) (k i : Nat) (h : i < k) : (spz bs k).getD i 0 = (spr bs k).getD i 0 := by
  unfold spz
  simp only [List.getD_eq_getElem?_getD]
  rw [List.getElem?_append_left (by rw [spr_len]; exact h)]
theorem spz_end (bs : List Int) : spz bs 64 = spr bs 64 := by simp [spz]
theorem nxt_low (bs : List Int) (k : Nat) (h : k < 16) : nxt bs (spr bs k) = wd4 bs k := by unfold nxt; rw [spr_len, if_pos h]
theorem nxt_high (bs : List Int) (k : Nat) (h : ¬ k < 16) : nxt bs (spr bs k) = (spr bs k).getD (k - 16) 0 + s0 ((spr bs k).getD (k - 15) 0) + (spr bs k).getD (k - 7) 0 + s1 ((spr bs k).getD (k - 2) 0) := by unfold nxt; rw [spr_len, if_neg h]

/-- The blocks of spread's own. -/
def SpB (w wr : World) (N : Nat) (bs : List Int) (l : List Wd) : Prop :=
  Bk 65 wr N (u8s bs) ∧ Bk 92 wr (N + 1) (wds wz64) ∧ Bk 92 wr (N + 1 + 1) (wds l) ∧ w.grownBy wr none ∧ N = w.heap.size
theorem spb_new (w : World) (bs : List Int) : SpB w (((w.alloc (.cells (u8s bs) 65)).alloc (.cells (wds wz64) 92)).alloc (.cells (wds wz64) 92)) w.heap.size bs wz64 := by
  refine ⟨?_, ?_, ?_, gb_trans (gb_trans (World.grownBy_alloc _ _ _) (World.grownBy_alloc _ _ _)) (World.grownBy_alloc _ _ _), rfl⟩
  · exact (Below.heap_alloc _ _ _ (by simp; omega)).trans ((Below.heap_alloc _ _ _ (by simp)).trans (heap_new w _))
  · have := heap_new (w.alloc (.cells (u8s bs) 65)) (.cells (wds wz64) 92)
    rw [World.size_alloc] at this
    exact (Below.heap_alloc _ _ _ (by simp)).trans this
  · have := heap_new ((w.alloc (.cells (u8s bs) 65)).alloc (.cells (wds wz64) 92)) (.cells (wds wz64) 92)
    rw [World.size_alloc, World.size_alloc] at this
    exact this
theorem SpB.set {w wr N bs l} (h : SpB w wr N bs l) (i : Nat) (x : Wd) : SpB w (wr.setCell ⟨N + 1 + 1, i, none⟩ (.int .u32 (W x))) N bs (l.set i x) := by
  obtain ⟨h1, h2, h3, h4, h5⟩ := h
  refine ⟨(Below.heap_setCell _ _ _ _ (by show N ≠ N + 1 + 1; omega)).trans h1, (Below.heap_setCell _ _ _ _ (by show N + 1 ≠ N + 1 + 1; omega)).trans h2, ?_, gb_newer (N := N + 1 + 1) h4 ⟨rfl, rfl, rfl, by simp, fun k _ hk => Below.heap_setCell _ _ _ _ (fun e => hk (by rw [e]))⟩ (by omega), h5⟩
  have := h3.set i (.int .u32 (W x))
  rw [wds_set] at this
  exact this
theorem SpB.drew {w wr N bs l} (h : SpB w wr N bs l) (n : Nat) : SpB w (wr.drewN n) N bs l := by
  obtain ⟨h1, h2, h3, h4, h5⟩ := h
  exact ⟨h1, h2, h3, gb_drewN h4 n, h5⟩

theorem cell_set16 {w : World} {b j : Nat} {u u1 u2 : Value} (h1 : w.cell? ⟨b, j, none⟩ = some u1) (h2 : w.cell? ⟨b, j + 9, none⟩ = some u2) : (w.setCell ⟨b, j + 16, none⟩ u).cell? ⟨b, j, none⟩ = some u1 ∧ (w.setCell ⟨b, j + 16, none⟩ u).cell? ⟨b, j + 9, none⟩ = some u2 :=
  ⟨(World.cell?_setCell_other _ _ _ _ (fun e => by simp at e)).trans h1, (World.cell?_setCell_other _ _ _ _ (fun e => by simp at e)).trans h2⟩
set_option maxRecDepth 20000 in
set_option maxHeartbeats 400000 in
theorem spread_c (bs : List Int) (hl : bs.length = 64) (hb : Bytes bs) (w : World) : Calls Try.prog 58 #[.agg (u8s bs)] w fun r w' => r = .returned (.agg (wds (spr bs 64))) ∧ w.grownBy w' none := by
  have HNEW : Hid (SpB w (((w.alloc (.cells (u8s bs) 65)).alloc (.cells (wds wz64) 92)).alloc (.cells (wds wz64) 92)) w.heap.size bs wz64) := spb_new w bs
  have hz := zz64
  obtain ⟨N, hN⟩ : ∃ N, N = w.heap.size := ⟨_, rfl⟩
  go_enter Try.func58, Try.ntmps58
  go_wp2_with fail
  generalize hW1 : World.alloc (World.alloc (World.alloc w _) _) _ = W1
  have H0 : Hid (SpB w W1 N bs (spz bs 0)) := by rw [← hW1, hN]; exact HNEW
  rw [← hN]
  clear hW1 HNEW
  have HN : Hid (N = w.heap.size) := hN
  clear hN
  go_loopw [10] (fun i wr => ∃ k : Nat, k ≤ 64 ∧ i = .int .i64 k ∧ Hid (SpB w wr N bs (spz bs k))) (fun i _ => 64 - (intOf i).toNat)
  case atStart => exact ⟨0, Nat.zero_le _, rfl, H0⟩
  case round =>
    obtain ⟨k, hk, rfl, hr⟩ := hrel
    clear H0
    by_cases hlt : k < 64
    · by_cases h16 : k < 16
      · have i1 : (4 : Int) * k < 64 := by omega
        have hcell : wr.cell? ⟨N + 1 + 1, k, none⟩ = some (.int .u32 (W ((spz bs k).getD k 0))) := by
          rw [hr.out.2.2.1.cell k, wds_at _ _ (by rw [spz_len bs k hk]; exact hlt)]
        have hfree : wr.frozen? ⟨N + 1 + 1, k, none⟩ = false := frozen_of_row wr (N + 1 + 1) k _ 92 hr.out.2.2.1
        have hsl : ∀ W : World, Sem.run Try.prog (Instr.sliceAt 65 (.pointer (some ⟨N, 0, none⟩)) (some (.int .i64 (4 * (k : Int)))) none none) W = .ok (.slice (some ⟨N, 4 * k, none⟩) (64 - 4 * k) (64 - 4 * k)) W := fun W => by
          have := slice_from64 N 0 (4 * k) (by omega) (4 * (k : Int)) (by omega) W
          rw [if_neg (by omega), Nat.zero_add] at this
          exact this
        have hc : ∀ i, i < 64 → wr.cell? ⟨N, i, none⟩ = some (.int .u8 (bs.getD i 0)) := fun i hi => by
          rw [hr.out.1.cell i, u8s_at _ _ (by rw [hl]; exact hi)]
        have hbd : ∀ i, i < 64 → 0 ≤ bs.getD i 0 ∧ bs.getD i 0 < 256 := fun i hi => by
          have := hb i (by rw [hl]; exact hi)
          simpa using this
        have HWC : Hid (Calls Try.prog 52 #[.slice (some ⟨N, 4 * k, none⟩) (64 - 4 * k) (64 - 4 * k)] wr fun r w' => r = .returned (.int .u32 (W (wd4 bs k))) ∧ ∃ q, w' = wr.drewN q) :=
          word_c N (4 * k) (64 - 4 * k) (64 - 4 * k) _ _ _ _ wr (by omega) (hc _ (by omega)) (hc _ (by omega)) (hc _ (by omega)) (hc _ (by omega)) (hbd _ (by omega)) (hbd _ (by omega)) (hbd _ (by omega)) (hbd _ (by omega))
        have HX : Hid (nxt bs (spr bs k) = wd4 bs k) := nxt_low bs k h16
        have HSE : Hid ((spz bs k).set k (nxt bs (spr bs k)) = spz bs (k + 1)) := spz_set bs k hlt
        clear hc hbd hb hl
        go_wp2_with (go_at_call 52; go_must (refine (Calls.mono HWC.out ?_)); rintro r w1 ⟨rfl, q, rfl⟩; have hr2 : Hid (SpB w (wr.drewN q) N bs (spz bs k)) := hr.out.drew q; have hcell2 : (wr.drewN q).cell? ⟨N + 1 + 1, k, none⟩ = some (.int .u32 (W ((spz bs k).getD k 0))) := hcell; have hfree2 : (wr.drewN q).frozen? ⟨N + 1 + 1, k, none⟩ = false := hfree; generalize wr.drewN q = wq at hr2 hcell2 hfree2 ⊢)
        go_roundw
        case rel => exact ⟨k + 1, by omega, by go_num, by have := hr2.out.set k (wd4 bs k); rw [← HX.out, HSE.out] at this; rw [← HX.out]; exact this⟩
        case measure => simp [intOf]; omega
      · obtain ⟨j, rfl⟩ : ∃ j, k = j + 16 := ⟨k - 16, by omega⟩
        have HX : Hid (nxt bs (spr bs (j + 16)) = (spr bs (j + 16)).getD j 0 + s0 ((spr bs (j + 16)).getD (j + 1) 0) + (spr bs (j + 16)).getD (j + 9) 0 + s1 ((spr bs (j + 16)).getD (j + 14) 0)) := nxt_high bs (j + 16) h16
        have HSE : Hid ((spz bs (j + 16)).set (j + 16) (nxt bs (spr bs (j + 16))) = spz bs (j + 16 + 1)) := spz_set bs (j + 16) hlt
        have hc : ∀ i, i < j + 16 → wr.cell? ⟨N + 1 + 1, i, none⟩ = some (.int .u32 (W ((spr bs (j + 16)).getD i 0))) := fun i hi => by
          rw [hr.out.2.2.1.cell i, wds_at _ _ (by rw [spz_len bs (j + 16) hk]; omega), spz_get _ _ _ hi]
        have hcell : wr.cell? ⟨N + 1 + 1, j + 16, none⟩ = some (.int .u32 (W ((spz bs (j + 16)).getD (j + 16) 0))) := by
          rw [hr.out.2.2.1.cell _, wds_at _ _ (by rw [spz_len bs (j + 16) hk]; exact hlt)]
        have hfree : wr.frozen? ⟨N + 1 + 1, j + 16, none⟩ = false := frozen_of_row wr (N + 1 + 1) _ _ 92 hr.out.2.2.1
        have c0 := hc j (by omega)
        have c1 := hc (j + 1) (by omega)
        have c9 := hc (j + 9) (by omega)
        have c14 := hc (j + 14) (by omega)
        obtain ⟨x0, hx0⟩ : ∃ x, x = (spr bs (j + 16)).getD j 0 := ⟨_, rfl⟩
        obtain ⟨x1, hx1⟩ : ∃ x, x = (spr bs (j + 16)).getD (j + 1) 0 := ⟨_, rfl⟩
        obtain ⟨x9, hx9⟩ : ∃ x, x = (spr bs (j + 16)).getD (j + 9) 0 := ⟨_, rfl⟩
        obtain ⟨x14, hx14⟩ : ∃ x, x = (spr bs (j + 16)).getD (j + 14) 0 := ⟨_, rfl⟩
        rw [← hx0] at c0 HX
        rw [← hx1] at c1 HX
        rw [← hx9] at c9 HX
        rw [← hx14] at c14 HX
        clear hx0 hx1 hx9 hx14 hc hb hl
        have HS : Hid (s0 x1 = rotI 7 x1 ^^^ rotI 18 x1 ^^^ (x1 >>> 3) ∧ s1 x14 = rotI 17 x14 ^^^ rotI 19 x14 ^^^ (x14 >>> 10)) := ⟨rfl, rfl⟩
        have a1 := W_xor (rotI 7 x1) (rotI 18 x1)
        have a2 : W x1 / (8 : Int) = W (x1 >>> 3) := W_shr x1 3
        have a3 := W_xor (rotI 7 x1 ^^^ rotI 18 x1) (x1 >>> 3)
        have b1 := W_xor (rotI 17 x14) (rotI 19 x14)
        have b2 : W x14 / (1024 : Int) = W (x14 >>> 10) := W_shr x14 10
        have b3 := W_xor (rotI 17 x14 ^^^ rotI 19 x14) (x14 >>> 10)
        rw [← HS.out.1] at a3
        rw [← HS.out.2] at b3
        have d1 := W_add x0 (s0 x1)
        have d2 := W_add (x0 + s0 x1) x9
        have d3 := W_add (x0 + s0 x1 + x9) (s1 x14)
        clear HS
        have i1 : ¬ (4 : Int) * (j + 16) < 64 := by omega
        have i2 : (j : Int) + 16 < 64 := by omega
        have e1 : (j : Int) + 16 - 15 = ((j + 1 : Nat) : Int) := by omega
        have e14 : (j : Int) + 16 - 2 = ((j + 14 : Nat) : Int) := by omega
        have e0 : (j : Int) + 16 - 16 = (j : Int) := by omega
        have e9 : (j : Int) + 16 - 7 = ((j + 9 : Nat) : Int) := by omega
        go_wp2
        go_quiet (fail)
        have hr2 : Hid (SpB w (wr.drewN nq) N bs (spz bs (j + 16))) := hr.out.drew nq
        have k0 : (wr.drewN nq).cell? ⟨N + 1 + 1, j, none⟩ = some (.int .u32 (W x0)) := c0
        have k9 : (wr.drewN nq).cell? ⟨N + 1 + 1, j + 9, none⟩ = some (.int .u32 (W x9)) := c9
        have kc : (wr.drewN nq).cell? ⟨N + 1 + 1, j + 16, none⟩ = some (.int .u32 (W ((spz bs (j + 16)).getD (j + 16) 0))) := hcell
        have kf : (wr.drewN nq).frozen? ⟨N + 1 + 1, j + 16, none⟩ = false := hfree
        generalize wr.drewN nq = wq at hr2 k0 k9 kc kf ⊢
        clear hr c0 c1 c9 c14 hcell hfree
        go_wp2_with (go_at_call 59; go_must (refine (turn_c _ _ (by decide) _).mono ?_); rintro r w1 ⟨rfl, rfl⟩)
        have q0 : (0 : Int) ≤ (j : Int) := by omega
        have q1 : (j : Int) < 64 := by omega
        have q2 : (0 : Int) ≤ (j : Int) + 9 := by omega
        have q3 : (j : Int) + 9 < 64 := by omega
        have q4 : (0 : Int) ≤ (j : Int) + 16 := by omega
        have n1 : IntKind.i64.wrap ((j : Int) + 16 - 16) = j := by rw [e0]; exact IntWalk.i64_in _ ⟨by omega, by omega⟩
        have n2 : IntKind.i64.wrap ((j : Int) + 16 - 7) = j + 9 := by rw [show (j : Int) + 16 - 7 = j + 9 from by omega]; exact IntWalk.i64_in _ ⟨by omega, by omega⟩
        have n3 : IntKind.i64.wrap (j : Int) = j := IntWalk.i64_in _ ⟨by omega, by omega⟩
        have n4 : IntKind.i64.wrap ((j : Int) + 9) = j + 9 := IntWalk.i64_in _ ⟨by omega, by omega⟩
        have t9 : ((j : Int) + 9).toNat = j + 9 := by omega
        have t16 : ((j : Int) + 16).toNat = j + 16 := by omega
        go_region_held3 (fun wz => wz.cell? ⟨N + 1 + 1, j, none⟩ = some (.int .u32 (W x0)) ∧ wz.cell? ⟨N + 1 + 1, j + 9, none⟩ = some (.int .u32 (W x9))) (first | assumption | exact ⟨k0, k9⟩ | exact cell_set16 (by assumption) (by assumption)) (fail)
        have HV : Hid (IntKind.u32.wrap (IntKind.u32.wrap (IntKind.u32.wrap (W x0 + W (s0 x1)) + W x9) + W (s1 x14)) = W (nxt bs (spr bs (j + 16)))) := by
          show _ = _
          rw [IntKind.wrap_u32, IntKind.wrap_u32, IntKind.wrap_u32, d1, d2, d3, HX.out]
        rw [HV.out]
        have hr3 : Hid (SpB w (w1.setCell ⟨N + 1 + 1, j + 16, none⟩ (.int .u32 (W (nxt bs (spr bs (j + 16)))))).drew N bs (spz bs (j + 16 + 1))) := by
          have := (hr2.out.set (j + 16) (nxt bs (spr bs (j + 16)))).drew 1
          rw [HSE.out] at this
          exact this
        generalize World.drew (World.setCell w1 _ _) = w9 at hr3 ⊢
        clear hr2 k0 k9 kc kf HV HX HSE a1 a2 a3 b1 b2 b3 d1 d2 d3
        go_wp2
        go_roundw
        case rel => exact ⟨j + 16 + 1, by omega, by go_num, hr3⟩
        case measure => simp [intOf]; omega
    · obtain rfl : k = 64 := by omega
      have HE : Hid (spz bs 64 = spr bs 64) := spz_end bs
      have HL : Hid ((spr bs 64).length = 64) := spr_len bs 64
      rw [HE.out] at hr
      clear hb hl HE
      go_wp2_with (first
        | (refine wpList_load_bk 92 rfl (.tmp 3) rfl Try.underlying92 rfl info64 (N + 1 + 1) (wds (spr bs 64)) rfl hr.out.2.2.1 (by rw [wds_size]; exact HL.out) ?_)
        | (refine wpList_store_bk 92 rfl (.tmp 2) (.tmp 62) rfl info64 (N + 1) (wds wz64) (wds (spr bs 64)) rfl rfl hr.out.2.1 rfl (by rw [wds_size]; exact HL.out) (wds_one _) ?_; intro w2 h1 h2; have H2 : Hid (Bk 92 w2 (N + 1) (wds (spr bs 64)) ∧ w.grownBy w2 none) := ⟨h1, gb_newer hr.out.2.2.2.1 h2 (by have := hr.out.2.2.2.2; omega)⟩; clear h1 h2))
      refine bodyPost_ret (results_cell1 Try.results58 _ _ _ ⟨N + 1, 0, none⟩ (.agg (wds (spr bs 64))) rfl (bk_load (T := 92) Try.underlying92 rfl info64 H2.out.1 (by rw [wds_size]; exact HL.out))) rfl ?_
      exact ⟨rfl, H2.out.2⟩
end Go.Proofs.Ytlfppknpnfeplaa
