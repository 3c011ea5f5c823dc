/-
  What the document's Beside answers: sixteen digests, one in its place and the others beside it. No condition.
-/
import Derived.Test.YthbnbomdngecmaaMLe
namespace Go.Proofs.Ythbnbomdngecmaa
set_option linter.unusedVariables false
open Go.RowKit

/-- A digest loaded out of the middle of bytes. -/
theorem wpList_load_dgm {ops : Array Oper} {rest : List Oper} {op : Oper} {a : Act} {w : World} {Q : Exit → Act → World → Prop} (hgd : op.guard = none) (x : Operand) (ho : op.op = .load 25 x)
    (b off n k : Nat) (ps : List Int) (hs : Seg .u8 w (some ⟨b, off, none⟩) n ps) (hk : 32 * k + 32 ≤ n) (hx : a.eval x = .pointer (some ⟨b, off + k * 32, none⟩))
    (K : wpList Try.prog ops Q rest (a.put op.dst (.agg (u8s (dgAt ps k)))) w) : wpList Try.prog ops Q (op :: rest) a w := by
  have hl := hs.1
  refine wpList_load_mid hgd 25 x ho b (off + k * 32) hx (u8s (dgAt ps k)).toList _ (fun j v hv => ?_) Try.underlying25 rfl (by rw [infoDs]; simp [u8s, dgAt]; omega) (by simpa using K)
  obtain ⟨b', off', ha, _, hc⟩ := hs.2.resolve_left (by omega)
  cases ha
  have hj : j < 32 := by
    have := (List.getElem?_eq_some_iff.1 hv).1
    simp [u8s, dgAt] at this; omega
  rw [Nat.add_assoc, hc (k * 32 + j) (by omega)]
  have hj2 : 32 * k + j < ps.length := by omega
  simp [u8s, dgAt, hj, hj2] at hv
  rw [← hv, Nat.mul_comm k 32]
  simp [hj2]
theorem bes_at {at' : Nat} {d ps : List Int} (ha : at' < 16) (hd : d.length = 32) (hp : ps.length = 480) (i : Nat) (hi : i < 16) : dgAt (bes at' d ps) i = if i = at' then d else dgAt ps (if i < at' then i else i - 1) := by
  have l1 : (ps.take (32 * at')).length = 32 * at' := by simp; omega
  have l3 : (ps.take (32 * at') ++ d).length = 32 * at' + 32 := by rw [List.length_append, l1, hd]
  by_cases h1 : i = at'
  · subst h1
    rw [if_pos rfl]
    unfold dgAt bes
    rw [List.append_assoc, List.drop_left' l1, List.take_left' hd]
  · rw [if_neg h1]
    by_cases h2 : i < at'
    · rw [if_pos h2]
      unfold dgAt bes
      rw [List.append_assoc, List.drop_append_of_le_length (by omega), List.take_append_of_le_length (by rw [List.length_drop]; omega), List.drop_take, List.take_take]
      congr 1
      omega
    · rw [if_neg h2]
      unfold dgAt bes
      rw [List.drop_append, List.drop_of_length_le (by omega), l3, List.nil_append, List.drop_take, List.drop_drop, List.take_take]
      congr 1
      · omega
      · congr 1; omega
/-- What was laid so far. -/
def kd (X : List Int) (i : Nat) : List Int := X.take (32 * i) ++ dz512.drop (32 * i)
theorem kd_len (X : List Int) (h : X.length = 512) (i : Nat) (hi : i ≤ 16) : (kd X i).length = 512 := by simp [kd, dz512_len]; omega
theorem kd_step (X : List Int) (h : X.length = 512) (i : Nat) (hi : i < 16) : lay (kd X i) (i * 32) (dgAt X i) = kd X (i + 1) := by
  have l1 : (X.take (32 * i)).length = 32 * i := by simp; omega
  unfold lay kd
  rw [dgAt_len X i (by omega), Nat.mul_comm i 32, List.take_left' l1, ← dgAt_take, List.drop_append, List.drop_of_length_le (by omega), l1, List.nil_append, List.drop_drop]
  congr 2
  omega
theorem kd_none (X : List Int) : kd X 0 = dz512 := by simp [kd]
theorem kd_all (X : List Int) (h : X.length = 512) : kd X 16 = X := by
  unfold kd
  rw [List.drop_of_length_le (by rw [dz512_len]; omega), List.append_nil, List.take_of_length_le (by omega)]
theorem three_new (w : World) (d : List Int) : ∃ w1, w1 = ((w.alloc (.cells (u8s d) 25)).alloc (.cells (u8s dz512) 34)).alloc (.cells (u8s dz512) 34) ∧ Bk 25 w1 w.heap.size (u8s d) ∧ Bk 34 w1 (w.heap.size + 1) (u8s dz512) ∧ Bk 34 w1 (w.heap.size + 1 + 1) (u8s dz512) ∧ w.grownBy w1 none := by
  have h1 := blk_new w 25 (u8s d)
  have h2 := blk_new (w.alloc (.cells (u8s d) 25)) 34 (u8s dz512)
  have h3 := blk_new ((w.alloc (.cells (u8s d) 25)).alloc (.cells (u8s dz512) 34)) 34 (u8s dz512)
  refine ⟨_, rfl, (h1.1.gb h2.2).gb h3.2, ?_, ?_, gb_trans h1.2 (gb_trans h2.2 h3.2)⟩
  · have e : (w.alloc (.cells (u8s d) 25)).heap.size = w.heap.size + 1 := by simp
    exact e ▸ h2.1.gb h3.2
  · have e : ((w.alloc (.cells (u8s d) 25)).alloc (.cells (u8s dz512) 34)).heap.size = w.heap.size + 1 + 1 := by simp
    exact e ▸ h3.1
set_option maxRecDepth 20000 in
set_option maxHeartbeats 1000000 in
theorem gbes_c (b : Nat) (d ps : List Int) (a : Option Addr) (cap : Nat) (w : World) (hb : b < 4096) (hd : d.length = 32) (hs : Seg .u8 w a 480 ps) :
    Calls Try.prog 42 #[.int .i64 b, .agg (u8s d), .slice a 15 cap] w fun r w' => r = .returned (.agg (u8s (bes (b % 16) d ps))) ∧ w.grownBy w' none := by
  have hza := zA
  obtain ⟨at', hat⟩ : ∃ at', at' = b % 16 := ⟨_, rfl⟩
  have ha16 : at' < 16 := by omega
  have hrem : ((b : Nat) : Int).tmod 16 = (at' : Int) := by rw [Int.tmod_eq_emod_of_nonneg (by omega)]; omega
  rw [← hat]
  obtain ⟨bb, off, rfl, hbb, hcell⟩ := hs.2.resolve_left (by omega)
  have HS : Hid (Seg .u8 w (some ⟨bb, off, none⟩) 480 ps ∧ d.length = 32) := ⟨hs, hd⟩
  have HBS : Hid (∀ i, i < 16 → dgAt (bes at' d ps) i = if i = at' then d else dgAt ps (if i < at' then i else i - 1)) := fun i hi => bes_at ha16 hd hs.1 i hi
  have HXL : Hid ((bes at' d ps).length = 512) := bes_len ha16 hd (by rw [hs.1]; exact Nat.le_refl _)
  obtain ⟨X, hX⟩ : ∃ X, X = bes at' d ps := ⟨_, rfl⟩
  rw [← hX] at HBS HXL ⊢
  clear hs hcell hd hat hX
  obtain ⟨w1, hw1, h3⟩ := three_new w d
  have H1 : Hid _ := h3
  clear h3
  go_enter Try.func42, Try.ntmps42
  go_wp2
  rw [← hw1]
  clear hw1
  obtain ⟨N, hN⟩ : ∃ N, N = w.heap.size := ⟨_, rfl⟩
  rw [← hN] at H1 ⊢
  have HN : Hid (w.heap.size ≤ N) := Nat.le_of_eq hN.symm
  clear hN
  go_loopw [8, 9] (fun v i wr => ∃ k : Nat, k ≤ 16 ∧ i = .int .i64 k ∧ v = .int .i64 ((if k ≤ at' then k else k - 1 : Nat) : Int) ∧ Hid (Bk 25 wr N (u8s d) ∧ Bk 34 wr (N + 1) (u8s dz512) ∧ Bk 34 wr (N + 1 + 1) (u8s (kd X k)) ∧ w.grownBy wr none)) (fun _ i _ => 16 - (intOf i).toNat)
  case atStart => exact ⟨0, Nat.zero_le _, rfl, rfl, by rw [kd_none]; exact H1⟩
  case round =>
    obtain ⟨k, hk, rfl, rfl, hr⟩ := hrel
    clear H1
    by_cases hlt : k < 16
    · have hi1 : (k : Int) < 16 := by omega
      have hk0 : (0 : Int) ≤ k := by omega
      have HKL : Hid ((kd X k).length = 512) := kd_len X HXL.out k hk
      have HKS : Hid (lay (kd X k) (k * 32) (dgAt X k) = kd X (k + 1)) := kd_step X HXL.out k hlt
      have HF : Hid (k * 32 + 32 ≤ (kd X k).length) := by show _ ≤ _; rw [HKL.out]; omega
      by_cases heq : k = at'
      · subst heq
        have HE : Hid (dgAt X k = d) := by show _ = _; rw [HBS.out k hlt, if_pos rfl]
        rw [HE.out] at HKS
        go_wp2_with (first
          | (refine wpList_load_bk 25 rfl (.tmp 4) rfl Try.underlying25 rfl infoD N (u8s d) rfl hr.out.1 (by rw [u8s_size]; exact HS.out.2) ?_)
          | (refine wpList_store_dg rfl (.tmp 20) (.tmp 19) rfl 34 (N + 1 + 1) (k * 32) (kd X k) d rfl rfl hr.out.2.2.1 HS.out.2 HF.out ?_; intro w3 q1 q2; have H3 : Hid (Bk 25 w3 N (u8s d) ∧ Bk 34 w3 (N + 1) (u8s dz512) ∧ Bk 34 w3 (N + 1 + 1) (u8s (kd X (k + 1))) ∧ w.grownBy w3 none) := ⟨hr.out.1.grew q2 (fun e => by cases e), hr.out.2.1.grew q2 (fun e => by cases e), HKS.out ▸ q1, gb_newer hr.out.2.2.2 q2 (by have := HN.out; omega)⟩; clear q1 q2))
        go_roundw
        case rel => exact ⟨k + 1, by omega, by go_num, by rw [if_neg (by omega)]; rfl, H3.out⟩
        case measure => simp [intOf]; omega
      · have hne : ¬ (k : Int) = (at' : Int) := by omega
        obtain ⟨q, hq⟩ : ∃ q, q = (if k ≤ at' then k else k - 1) := ⟨_, rfl⟩
        have hq15 : q < 15 := by rw [hq]; split <;> omega
        have hqi : (q : Int) < 15 := by omega
        have hq0 : (0 : Int) ≤ q := by omega
        have HQ : Hid (q + 1 = (if k + 1 ≤ at' then k + 1 else k + 1 - 1)) := by
          show _ = _
          rw [hq]
          split <;> split <;> omega
        have HE : Hid (dgAt X k = dgAt ps q) := by
          show _ = _
          rw [HBS.out k hlt, if_neg heq, hq]
          congr 1
          split <;> split <;> omega
        rw [HE.out] at HKS
        rw [← hq]
        have HDL : Hid ((dgAt ps q).length = 32 ∧ 32 * q + 32 ≤ 480) := ⟨dgAt_len ps q (by rw [HS.out.1.1]; omega), by omega⟩
        clear hq
        go_wp2_with (first
          | (refine wpList_load_dgm rfl (.tmp 24) rfl bb off 480 q ps (HS.out.1.below (gb_below hr.out.2.2.2)) HDL.out.2 rfl ?_)
          | (refine wpList_store_dg rfl (.tmp 26) (.tmp 25) rfl 34 (N + 1 + 1) (k * 32) (kd X k) (dgAt ps q) rfl rfl hr.out.2.2.1 HDL.out.1 HF.out ?_; intro w3 q1 q2; have H3 : Hid (Bk 25 w3 N (u8s d) ∧ Bk 34 w3 (N + 1) (u8s dz512) ∧ Bk 34 w3 (N + 1 + 1) (u8s (kd X (k + 1))) ∧ w.grownBy w3 none) := ⟨hr.out.1.grew q2 (fun e => by cases e), hr.out.2.1.grew q2 (fun e => by cases e), HKS.out ▸ q1, gb_newer hr.out.2.2.2 q2 (by have := HN.out; omega)⟩; clear q1 q2))
        go_roundw
        case rel => exact ⟨k + 1, by omega, by go_num, by rw [← HQ.out]; go_num, H3.out⟩
        case measure => simp [intOf]; omega
    · obtain rfl : k = 16 := by omega
      rw [kd_all X HXL.out] at hr
      have HXS : Hid ((u8s X).size = 512) := by show _ = _; rw [u8s_size]; exact HXL.out
      go_wp2_with (first
        | (refine wpList_load_bk 34 rfl (.tmp 7) rfl Try.underlying34 rfl infoA (N + 1 + 1) (u8s X) rfl hr.out.2.2.1 HXS.out ?_)
        | (refine wpList_store_bk 34 rfl (.tmp 6) (.tmp 29) rfl infoA (N + 1) (u8s dz512) (u8s X) rfl rfl hr.out.2.1 (by rw [u8s_size]; exact dz512_len) HXS.out (u8s_one _) ?_; intro w7 q1 q2; have H7 : Hid (Bk 34 w7 (N + 1) (u8s X) ∧ w.grownBy w7 none) := ⟨q1, gb_newer hr.out.2.2.2 q2 (by have := HN.out; omega)⟩; clear q1 q2))
      refine bodyPost_ret (results_cell1 Try.results42 _ _ _ ⟨N + 1, 0, none⟩ (.agg (u8s X)) rfl (bk_load (T := 34) Try.underlying34 rfl infoA H7.out.1 HXS.out)) rfl ?_
      exact ⟨rfl, H7.out.2⟩
end Go.Proofs.Ythbnbomdngecmaa
