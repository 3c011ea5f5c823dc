/-
  What merkle's Verify answers, and the document's. Condition: the path can be read.
  What the document's Verify answers: the same as the program's; and lists of digests compared. Condition: the path can be read.
  What sameDigests answers of two lists of the same digests: true. Condition: both can be read.
-/
import Derived.Test.YthbnbomdngecmaaMLd
import Derived.Test.YthbnbomdngecmaaSnA
import Derived.Test.YthbnbomdngecmaaSEq
import Derived.Test.YthbnbomdngecmaaSGv
namespace Go.Proofs.Ythbnbomdngecmaa
set_option linter.unusedVariables false
open Go.RowKit

theorem u8_inj (xs ys : List Int) (hx : Bytes xs) (hy : Bytes ys) (h : (xs.map fun b => UInt8.ofNat b.toNat) = ys.map fun b => UInt8.ofNat b.toNat) : xs = ys := by
  have back : ∀ zs : List Int, Bytes zs → (zs.map fun b => UInt8.ofNat b.toNat).map (fun u => (u.toNat : Int)) = zs := fun zs hz => by
    rw [List.map_map]
    refine (List.map_congr_left (g := id) fun b hb => ?_).trans (List.map_id _)
    have := hz.mem b hb
    simp [UInt8.toNat_ofNat']; omega
  rw [← back xs hx, ← back ys hy, h]
theorem eqDD (xs ys : List Int) (hx : Bytes xs) (hy : Bytes ys) (lx : xs.length = 32) (ly : ys.length = 32) (w : World) : (Op.equalIn 10000 25 (.agg (u8s xs)) (.agg (u8s ys))).run Try.prog w = .ok (decide (xs = ys)) w := by
  have := run_equalIn_bytes (P := Try.prog) w 9998 25 5 32 Try.underlying25 Try.underlying5 (fun _ => by kernel_rfl) (xs.map fun b => UInt8.ofNat b.toNat) (ys.map fun b => UInt8.ofNat b.toNat) (by simpa using lx) (by simpa using ly)
  have e : ((xs.map fun b => UInt8.ofNat b.toNat) == (ys.map fun b => UInt8.ofNat b.toNat)) = decide (xs = ys) := by
    by_cases h : xs = ys
    · subst h; simp
    · rw [decide_eq_false h]
      exact beq_eq_false_iff_ne.2 fun e => h (u8_inj xs ys hx hy e)
  rw [u8s_cells xs hx, u8s_cells ys hy, this, e]
theorem leads_len : ∀ (k b : Nat) (d ps : List Int), d.length = 32 → (leads k b d ps).length = 32
  | 0, b, d, ps, h => h
  | k + 1, b, d, ps, h => leads_len k _ _ _ (sha_len _)
theorem leads_bytes : ∀ (k b : Nat) (d ps : List Int), Bytes d → Bytes (leads k b d ps)
  | 0, b, d, ps, h => h
  | k + 1, b, d, ps, h => leads_bytes k _ _ _ (sha_bytes _)
/-- What Verify answers. -/
def vE (root : List Int) (d b : Int) (leaf ps : List Int) (n : Nat) : Int := if ¬ Sn.ofE d b = 0 then Sn.ofE d b else if ¬ (n : Int) = 15 * d then 101 else if leads d.toNat b.toNat leaf ps = root then 0 else 102
theorem ofE_zero {d b : Int} (h : Sn.ofE d b = 0) : ∃ k B : Nat, d = k ∧ b = B ∧ 1 ≤ k ∧ k ≤ 3 ∧ B < 4096 ∧ (B : Int) < Sn.nbk k := by
  unfold Sn.ofE at h
  rcases Sn.nbk_cases d with ⟨rfl, e⟩ | ⟨rfl, e⟩ | ⟨rfl, e⟩ | ⟨_, e⟩ <;> rw [e] at h
  · split at h
    · omega
    · split at h
      · omega
      · exact ⟨1, b.toNat, rfl, by omega, by omega, by omega, by omega, by show _ < Sn.nbk 1; rw [e]; omega⟩
  · split at h
    · omega
    · split at h
      · omega
      · exact ⟨2, b.toNat, rfl, by omega, by omega, by omega, by omega, by show _ < Sn.nbk 2; rw [e]; omega⟩
  · split at h
    · omega
    · split at h
      · omega
      · exact ⟨3, b.toNat, rfl, by omega, by omega, by omega, by omega, by show _ < Sn.nbk 3; rw [e]; omega⟩
  · simp at h
theorem two_dg (w : World) (r l : List Int) : ∃ w1, w1 = (w.alloc (.cells (u8s r) 25)).alloc (.cells (u8s l) 25) ∧ Bk 25 w1 w.heap.size (u8s r) ∧ Bk 25 w1 (w.heap.size + 1) (u8s l) ∧ w.grownBy w1 none := by
  have h1 := blk_new w 25 (u8s r)
  have h2 := blk_new (w.alloc (.cells (u8s r) 25)) 25 (u8s l)
  refine ⟨_, rfl, h1.1.gb h2.2, ?_, gb_trans h1.2 h2.2⟩
  have e : (w.alloc (.cells (u8s r) 25)).heap.size = w.heap.size + 1 := by simp
  exact e ▸ h2.1
set_option maxRecDepth 20000 in
set_option maxHeartbeats 1000000 in
theorem verify_c (root : List Int) (d b : Int) (leaf ps : List Int) (a : Option Addr) (n cap : Nat) (w : World) (hr : root.length = 32) (hrb : Bytes root) (hl : leaf.length = 32) (hlb : Bytes leaf) (hs : Seg .u8 w a (32 * n) ps) (hpb : Bytes ps) (hc : n ≤ cap) (hcm : cap ≤ maxLen) :
    Calls Try.prog 13 #[.agg (u8s root), .int .i64 d, .int .i64 b, .agg (u8s leaf), .slice a n cap] w fun r w' => r = .returned (.int .i64 (vE root d b leaf ps n)) ∧ w.grownBy w' none := by
  obtain ⟨w1, hw1, h3⟩ := two_dg w root leaf
  have H1 : Hid _ := h3
  obtain ⟨sf, hsf⟩ : ∃ sf, sf = (Sn.ofR d b).1 := ⟨_, rfl⟩
  obtain ⟨st, hst⟩ : ∃ st, st = (Sn.ofR d b).2 := ⟨_, rfl⟩
  have HOF : Hid (∀ W, Calls Try.prog 23 #[.int .i64 d, .int .i64 b] W fun r w' => r = .returned (.tuple #[.agg #[.string sf, .string st], .int .i64 (Sn.ofE d b)]) ∧ W.grownBy w' none) := fun W => by rw [hsf, hst]; exact Sn.of_c d b W
  clear h3 hsf hst
  by_cases h0 : Sn.ofE d b = 0
  · obtain ⟨k, B, rfl, rfl, hk1, hk3, hB, _⟩ := ofE_zero h0
    rw [h0] at HOF
    have hmul : IntKind.i64.wrap (15 * (k : Int)) = 15 * (k : Int) := IntWalk.i64_in _ ⟨by omega, by omega⟩
    by_cases hn : n = 15 * k
    · subst hn
      have HSB : Hid ((leads k B leaf ps).length = 32 ∧ Bytes (leads k B leaf ps)) := ⟨leads_len _ _ _ _ hl, leads_bytes _ _ _ _ hlb⟩
      have HLD : Hid (∀ W, w.grownBy W none → Calls Try.prog 24 #[.int .i64 (B : Int), .agg (u8s leaf), .slice a (15 * k) cap] W fun r w' => r = .returned (.agg (u8s (leads k B leaf ps))) ∧ W.grownBy w' none) := fun W hW => by
        have e := lead_c k B leaf ps a cap W hk3 hB hl hlb (hs.below (gb_below hW)) hpb hc hcm
        rw [show ((15 * k : Nat) : Int).toNat = 15 * k from by omega] at e
        exact e
      have hv : vE root k B leaf ps (15 * k) = if leads k B leaf ps = root then 0 else 102 := by
        unfold vE
        rw [if_neg (by rw [h0]; simp), if_neg (by simp), Int.toNat_natCast, Int.toNat_natCast]
      have heq := fun W => eqDD (leads k B leaf ps) root HSB.out.2 hrb HSB.out.1 hr W
      rw [hv]
      obtain ⟨S, hS⟩ : ∃ S, S = leads k B leaf ps := ⟨_, rfl⟩
      rw [← hS] at HLD heq ⊢
      obtain ⟨z, hz⟩ : ∃ z, z = decide (S = root) := ⟨_, rfl⟩
      have HZZ : Hid (z = decide (S = root)) := hz
      rw [← hz] at heq
      have HRL : Hid ((u8s root).size = 32 ∧ (u8s leaf).size = 32) := ⟨by rw [u8s_size]; exact hr, by rw [u8s_size]; exact hl⟩
      obtain ⟨n, hn⟩ : ∃ n, n = 15 * k := ⟨_, rfl⟩
      have hni : (n : Int) = 15 * (k : Int) := by omega
      rw [← hn] at HLD ⊢
      clear hv h0 hs hS hz hr hrb hl hlb hpb hc hcm hn hk1 hk3 hB
      go_enter Try.func13, Try.ntmps13
      go_wp2_with (first
        | (go_at_call 23; go_must (refine (Calls.mono (HOF.out _) ?_)); rintro r w2 ⟨rfl, q⟩; have H2 : Hid (Bk 25 w2 w.heap.size (u8s root) ∧ Bk 25 w2 (w.heap.size + 1) (u8s leaf) ∧ w.grownBy w2 none) := (by rw [← hw1] at q; exact ⟨H1.out.1.gb q, H1.out.2.1.gb q, gb_trans H1.out.2.2 q⟩); clear q))
      obtain ⟨w3, hw3⟩ : ∃ w3, w3 = w2.alloc (.cells #[.string sf, .string st] 57) := ⟨_, rfl⟩
      have H3 : Hid (Bk 25 w3 w.heap.size (u8s root) ∧ Bk 25 w3 (w.heap.size + 1) (u8s leaf) ∧ w.grownBy w3 none) := by
        rw [hw3]
        have q := World.grownBy_alloc w2 (.cells #[.string sf, .string st] 57) none
        exact ⟨H2.out.1.gb q, H2.out.2.1.gb q, gb_trans H2.out.2.2 q⟩
      rw [← hw3]
      clear hw3 H2 H1 hw1
      refine wp_region_gb (by kernel_rfl) (by kernel_rfl) ?_
      repeat (first
        | (refine wpQuiet_load_bk rfl 25 (.tmp 8) rfl Try.underlying25 rfl infoD (w.heap.size + 1) (u8s leaf) rfl (fun W hW => by obtain ⟨p, rfl⟩ := hW; exact bk_gw H3.out.2.1 p) HRL.out.2 ?_)
        | (refine wpQuiet_load_bk rfl 25 (.tmp 5) rfl Try.underlying25 rfl infoD w.heap.size (u8s root) rfl (fun W hW => by obtain ⟨p, rfl⟩ := hW; exact bk_gw H3.out.1 p) HRL.out.1 ?_)
        | quiet_step (first | (go_at_call 24; exact calls_gb (HLD.out _ (gb_trans H3.out.2.2 (gw_gb _ _))))))
      refine wpQuiet_nil ?_
      intro w6 hw'
      obtain ⟨pq, hw6⟩ := hw'
      have H6 : Hid (w.grownBy w6 none) := by rw [hw6]; exact gb_trans H3.out.2.2 (gw_gb _ _)
      clear hw6 heq hmul hni
      by_cases hzz : S = root
      · have hz1 : z = true := by rw [HZZ.out]; exact decide_eq_true hzz
        have HQ : Hid (S = root) := hzz
        clear hzz
        subst hz1
        go_wp2
        go_ret
        exact ⟨rfl, H6.out⟩
      · have hz1 : z = false := by rw [HZZ.out]; exact decide_eq_false hzz
        have HQ : Hid (¬ S = root) := hzz
        clear hzz
        subst hz1
        go_wp2
        go_ret
        exact ⟨rfl, H6.out⟩
    · have hv : vE root k B leaf ps n = 101 := by
        unfold vE
        rw [if_neg (by rw [h0]; simp), if_pos (by omega)]
      have hni : ¬ (n : Int) = 15 * (k : Int) := by omega
      rw [hv]
      clear hv h0 hs hr hrb hl hlb hpb hc hcm hn hk1 hk3 hB
      go_enter Try.func13, Try.ntmps13
      go_wp2_with (first
        | (go_at_call 23; go_must (refine (Calls.mono (HOF.out _) ?_)); rintro r w2 ⟨rfl, q⟩; have H2 : Hid (w.grownBy w2 none) := gb_trans (hw1 ▸ H1.out.2.2) q; clear q))
      go_ret
      exact ⟨rfl, gb_trans H2.out (World.grownBy_alloc _ _ _)⟩
  · have hv : vE root d b leaf ps n = Sn.ofE d b := by unfold vE; rw [if_pos h0]
    rw [hv]
    obtain ⟨e, he⟩ : ∃ e, e = Sn.ofE d b := ⟨_, rfl⟩
    rw [← he] at HOF h0 ⊢
    clear hv he hs
    go_enter Try.func13, Try.ntmps13
    go_wp2_with (first
      | (go_at_call 23; go_must (refine (Calls.mono (HOF.out _) ?_)); rintro r w2 ⟨rfl, q⟩; have H2 : Hid (w.grownBy w2 none) := gb_trans (hw1 ▸ H1.out.2.2) q; clear q))
    go_ret
    exact ⟨rfl, gb_trans H2.out (World.grownBy_alloc _ _ _)⟩
theorem right_c (d : Int) (w : World) : Calls Try.prog 25 #[.int .i64 d] w fun r w' => r = .returned (.bool (decide (0 < Sn.nbk d))) ∧ w' = w := by
  have HC : Hid (Calls Try.prog 41 #[.int .i64 d] w fun r w' => r = .returned (.int .i64 (Sn.nbk d)) ∧ w' = w) := by
    have HG : Hid _ := Sn.gcount_c d w
    go_enter Try.func41, Try.ntmps41
    go_wp2_with (first | (go_at_call 56; refine (Calls.mono HG.out ?_); rintro r wq ⟨rfl, rfl⟩))
    go_ret
    exact ⟨rfl, rfl⟩
  obtain ⟨m, hm⟩ : ∃ m, m = Sn.nbk d := ⟨_, rfl⟩
  rw [← hm] at HC ⊢
  clear hm
  go_enter Try.func25, Try.ntmps25
  go_wp2_with (first | (go_at_call 41; refine (Calls.mono HC.out ?_); rintro r wq ⟨rfl, rfl⟩))
  go_ret
  exact ⟨rfl, rfl⟩
theorem p16_nbk (k : Nat) (h1 : 1 ≤ k) (h3 : k ≤ 3) : Sn.p16 k = Sn.nbk k := by
  rcases (show k = 1 ∨ k = 2 ∨ k = 3 by omega) with rfl | rfl | rfl <;> decide
theorem p16_step' (k : Nat) (h : k < 3) : wrap64 (Sn.p16 k * 16) = Sn.p16 (k + 1) := Sn.p16_step k h
theorem width_c (k : Nat) (h3 : k ≤ 3) (w : World) : Calls Try.prog 26 #[.int .i64 k] w fun r w' => r = .returned (.int .i64 (Sn.p16 k)) ∧ w' = w := by
  go_enter Try.func26, Try.ntmps26
  go_wp2
  go_loop [3, 4] (fun v i => ∃ j : Nat, j ≤ k ∧ i = .int .i64 j ∧ v = .int .i64 (Sn.p16 j)) (fun _ i => k - (intOf i).toNat)
  case atStart => exact ⟨0, Nat.zero_le _, rfl, rfl⟩
  case round =>
    obtain ⟨j, hj, rfl, rfl⟩ := hrel
    by_cases hlt : j < k
    · have hi1 : (j : Int) < k := by omega
      have hp := p16_step' j (by omega)
      go_wp2
      go_round
      case rel => exact ⟨j + 1, by omega, by go_num, by first | rfl | rw [← hp]⟩
      case measure => simp [intOf]; omega
    · obtain rfl : j = k := by omega
      go_wp2
      go_ret
      exact ⟨rfl, rfl⟩
end Go.Proofs.Ythbnbomdngecmaa
namespace Go.Proofs.Ythbnbomdngecmaa
set_option linter.unusedVariables false
open Go.RowKit

set_option maxRecDepth 20000 in
set_option maxHeartbeats 1000000 in
theorem gverify_c (root : List Int) (d b : Int) (leaf ps : List Int) (a : Option Addr) (n cap : Nat) (w : World) (hr : root.length = 32) (hrb : Bytes root) (hl : leaf.length = 32) (hlb : Bytes leaf) (hs : Seg .u8 w a (32 * n) ps) (hpb : Bytes ps) (hc : n ≤ cap) (hcm : cap ≤ maxLen) :
    Calls Try.prog 14 #[.agg (u8s root), .int .i64 d, .int .i64 b, .agg (u8s leaf), .slice a n cap] w fun r w' => r = .returned (.int .i64 (vE root d b leaf ps n)) ∧ w.grownBy w' none := by
  obtain ⟨w1, hw1, h3⟩ := two_dg w root leaf
  have H1 : Hid _ := h3
  have HRI : Hid (∀ W, Calls Try.prog 25 #[.int .i64 d] W fun r w' => r = .returned (.bool (decide (0 < Sn.nbk d))) ∧ w' = W) := fun W => right_c d W
  clear h3
  rcases Sn.deep_cases d with ⟨k, rfl, hk1, hk3⟩ | hd
  · have hnb : Sn.nbk k = Sn.p16 k := (p16_nbk k hk1 hk3).symm
    have hbd := Sn.nbk_bd k hk1 hk3
    rw [decide_eq_true (show 0 < Sn.nbk k by omega)] at HRI
    have HWI : Hid (∀ W, Calls Try.prog 26 #[.int .i64 k] W fun r w' => r = .returned (.int .i64 (Sn.nbk k)) ∧ w' = W) := fun W => by rw [hnb]; exact width_c k hk3 W
    by_cases hb0 : b < 0
    · have hv : vE root k b leaf ps n = 62 := by
        unfold vE
        rw [Sn.ofE_no hk1 hk3 (.inl hb0), if_pos (by decide)]
      rw [hv]
      clear hv hs hnb hbd HWI
      go_enter Try.func14, Try.ntmps14
      go_wp2_with (first
        | (go_at_call 25; go_must (refine (Calls.mono (HRI.out _) ?_)); rintro r wq ⟨rfl, rfl⟩))
      go_ret
      exact ⟨rfl, hw1 ▸ H1.out.2.2⟩
    · by_cases hb1 : Sn.nbk k ≤ b
      · have hv : vE root k b leaf ps n = 62 := by
          unfold vE
          rw [Sn.ofE_no hk1 hk3 (.inr hb1), if_pos (by decide)]
        rw [hv]
        obtain ⟨m, hm⟩ : ∃ m, m = Sn.nbk k := ⟨_, rfl⟩
        rw [← hm] at hb1 HWI
        clear hv hs hnb hbd hm
        go_enter Try.func14, Try.ntmps14
        go_wp2_with (first
          | (go_at_call 25; go_must (refine (Calls.mono (HRI.out _) ?_)); rintro r wq ⟨rfl, rfl⟩)
          | (go_at_call 26; go_must (refine (Calls.mono (HWI.out _) ?_)); rintro r wq ⟨rfl, rfl⟩))
        go_ret
        exact ⟨rfl, hw1 ▸ H1.out.2.2⟩
      · have h0 : Sn.ofE k b = 0 := (Sn.ofE_yes hk1 hk3 ⟨by omega, by omega⟩).1
        obtain ⟨B, rfl⟩ : ∃ B : Nat, b = B := ⟨b.toNat, by omega⟩
        have hB : B < 4096 := by omega
        have hmul : IntKind.i64.wrap (15 * (k : Int)) = 15 * (k : Int) := IntWalk.i64_in _ ⟨by omega, by omega⟩
        obtain ⟨m, hm⟩ : ∃ m, m = Sn.nbk k := ⟨_, rfl⟩
        rw [← hm] at hb1 HWI
        by_cases hn : n = 15 * k
        · subst hn
          have HSB : Hid ((leads k B leaf ps).length = 32 ∧ Bytes (leads k B leaf ps)) := ⟨leads_len _ _ _ _ hl, leads_bytes _ _ _ _ hlb⟩
          have HLD : Hid (∀ W, w.grownBy W none → Calls Try.prog 27 #[.int .i64 (k : Int), .int .i64 (B : Int), .agg (u8s leaf), .slice a (15 * k) cap] W fun r w' => r = .returned (.agg (u8s (leads k B leaf ps))) ∧ W.grownBy w' none) := fun W hW => by
            have e := gleads_c k B leaf ps a cap W hk3 hB hl hlb (hs.below (gb_below hW)) hpb hc hcm
            rw [show ((15 * k : Nat) : Int).toNat = 15 * k from by omega] at e
            exact e
          have hv : vE root k B leaf ps (15 * k) = if leads k B leaf ps = root then 0 else 102 := by
            unfold vE
            rw [if_neg (by rw [h0]; simp), if_neg (by simp), Int.toNat_natCast, Int.toNat_natCast]
          have heq := fun W => eqDD (leads k B leaf ps) root HSB.out.2 hrb HSB.out.1 hr W
          rw [hv]
          obtain ⟨S, hS⟩ : ∃ S, S = leads k B leaf ps := ⟨_, rfl⟩
          rw [← hS] at HLD heq ⊢
          obtain ⟨z, hz⟩ : ∃ z, z = decide (S = root) := ⟨_, rfl⟩
          have HZZ : Hid (z = decide (S = root)) := hz
          rw [← hz] at heq
          have HRL : Hid ((u8s root).size = 32 ∧ (u8s leaf).size = 32) := ⟨by rw [u8s_size]; exact hr, by rw [u8s_size]; exact hl⟩
          obtain ⟨n, hn⟩ : ∃ n, n = 15 * k := ⟨_, rfl⟩
          have hni : (n : Int) = 15 * (k : Int) := by omega
          rw [← hn] at HLD ⊢
          have HGR : Hid (w.grownBy w1 none) := H1.out.2.2
          clear hv h0 hs hS hz hr hrb hl hlb hpb hc hcm hn hk1 hk3 hB hnb hbd hm
          go_enter Try.func14, Try.ntmps14
          go_wp2_with (first
            | (go_at_call 25; go_must (refine (Calls.mono (HRI.out _) ?_)); rintro r wq ⟨rfl, rfl⟩)
            | (go_at_call 26; go_must (refine (Calls.mono (HWI.out _) ?_)); rintro r wq ⟨rfl, rfl⟩))
          rw [← hw1]
          clear hw1
          refine wp_region_gb (by kernel_rfl) (by kernel_rfl) ?_
          repeat (first
            | (refine wpQuiet_load_bk rfl 25 (.tmp 8) rfl Try.underlying25 rfl infoD (w.heap.size + 1) (u8s leaf) rfl (fun W hW => by obtain ⟨p, rfl⟩ := hW; exact bk_gw H1.out.2.1 p) HRL.out.2 ?_)
            | (refine wpQuiet_load_bk rfl 25 (.tmp 5) rfl Try.underlying25 rfl infoD w.heap.size (u8s root) rfl (fun W hW => by obtain ⟨p, rfl⟩ := hW; exact bk_gw H1.out.1 p) HRL.out.1 ?_)
            | quiet_step (first | (go_at_call 27; exact calls_gb (HLD.out _ (gb_trans H1.out.2.2 (gw_gb _ _))))))
          refine wpQuiet_nil ?_
          intro w6 hw'
          obtain ⟨pq, hw6⟩ := hw'
          have H6 : Hid (w.grownBy w6 none) := by rw [hw6]; exact gb_trans H1.out.2.2 (gw_gb _ _)
          clear hw6 heq hmul hni
          by_cases hzz : S = root
          · have hz1 : z = true := by rw [HZZ.out]; exact decide_eq_true hzz
            subst hz1
            go_wp2
            go_ret
            exact ⟨rfl, H6.out⟩
          · have hz1 : z = false := by rw [HZZ.out]; exact decide_eq_false hzz
            subst hz1
            go_wp2
            go_ret
            exact ⟨rfl, H6.out⟩
        · have hv : vE root k B leaf ps n = 101 := by
            unfold vE
            rw [if_neg (by rw [h0]; simp), if_pos (by omega)]
          have hni : ¬ (n : Int) = 15 * (k : Int) := by omega
          rw [hv]
          clear hv h0 hs hr hrb hl hlb hpb hc hcm hn hk1 hk3 hB hnb hbd hm
          go_enter Try.func14, Try.ntmps14
          go_wp2_with (first
            | (go_at_call 25; go_must (refine (Calls.mono (HRI.out _) ?_)); rintro r wq ⟨rfl, rfl⟩)
            | (go_at_call 26; go_must (refine (Calls.mono (HWI.out _) ?_)); rintro r wq ⟨rfl, rfl⟩))
          go_ret
          exact ⟨rfl, hw1 ▸ H1.out.2.2⟩
  · have hv : vE root d b leaf ps n = 61 := by
      unfold vE
      rw [Sn.ofE_deep hd, if_pos (by decide)]
    rw [hv]
    rw [Sn.nbk_none hd] at HRI
    clear hv hs
    go_enter Try.func14, Try.ntmps14
    go_wp2_with (first
      | (go_at_call 25; go_must (refine (Calls.mono (HRI.out _) ?_)); rintro r wq ⟨rfl, rfl⟩))
    go_ret
    exact ⟨rfl, hw1 ▸ H1.out.2.2⟩
end Go.Proofs.Ythbnbomdngecmaa
namespace Go.Proofs.Ythbnbomdngecmaa
set_option linter.unusedVariables false
open Go.RowKit

theorem range_dg {w : World} {b off n k : Nat} {ps : List Int} (hs : Seg .u8 w (some ⟨b, off, none⟩) n ps) (hk : 32 * k + 32 ≤ n) : w.rangeAt b (off + k * 32) (u8s (dgAt ps k)).toList := fun j v hv => by
  have hl := hs.1
  obtain ⟨b', off', ha, _, hc⟩ := hs.2.resolve_left (by omega)
  cases ha
  have hj : j < 32 := by
    have := (List.getElem?_eq_some_iff.1 hv).1
    simp [u8s, dgAt] at this; omega
  rw [Nat.add_assoc, hc (k * 32 + j) (by omega)]
  have hj2 : 32 * k + j < ps.length := by omega
  simp [u8s, dgAt, hj, hj2] at hv
  rw [← hv, Nat.mul_comm k 32]
  simp [hj2]
theorem wpQuiet_load_rg {ops : Array Oper} {C : World → Prop} {Q : Act → Prop} {o : Oper} {rest : List Oper} {a : Act} (hgd : Region.wanted o (yielded ops a.tmps) = true) (x : Operand) (ho : o.op = .load 25 x)
    (b off : Nat) (d : List Int) (hl : d.length = 32) (hx : a.eval x = .pointer (some ⟨b, off, none⟩)) (h : ∀ w, C w → w.rangeAt b off (u8s d).toList)
    (K : wpQuiet Try.prog ops C Q rest (a.put o.dst (.agg (u8s d)))) : wpQuiet Try.prog ops C Q (o :: rest) a := by
  refine BigFrame.wpQuiet_want hgd fun K' hK => ⟨.agg (u8s d), fun w hw => ?_, hK _ K⟩
  have e := run_loadVar_mid (P := Try.prog) w b off 25 (u8s d).toList _ (h w hw) Try.underlying25 rfl (by rw [infoDs]; simp [u8s, hl])
  unfold Oper.quietAt execOp
  simp only [ho, hx, Instr.loadAt, Instr.sureAddr, Sem.run_bind, Sem.run_pure, Result.andThen_ok, e]
  exact ⟨rfl, rfl⟩
theorem range_gw {w : World} {b off : Nat} {l : List Value} (h : w.rangeAt b off l) (p : World) : (gw w p).rangeAt b off l := fun j v hv => cell_gw (h j v hv) p
theorem range_gb {w w' : World} {b off : Nat} {l : List Value} (h : w.rangeAt b off l) (hb : b < w.heap.size) (hg : w.grownBy w' none) : w'.rangeAt b off l := fun j v hv => ((gb_below hg).cell (p := ⟨b, off + j, none⟩) hb).trans (h j v hv)
set_option maxRecDepth 20000 in
set_option maxHeartbeats 1000000 in
theorem sameD_c (a1 a2 : Option Addr) (n c1 c2 : Nat) (ps : List Int) (w : World) (h1 : Seg .u8 w a1 (32 * n) ps) (h2 : Seg .u8 w a2 (32 * n) ps) (hb : Bytes ps) (hn : n ≤ 9223372036854775807) :
    Calls Try.prog 15 #[.slice a1 n c1, .slice a2 n c2] w fun r w' => r = .returned (.bool true) ∧ w.grownBy w' none := by
  have HS : Hid (Seg .u8 w a1 (32 * n) ps ∧ Seg .u8 w a2 (32 * n) ps ∧ Bytes ps) := ⟨h1, h2, hb⟩
  clear h1 h2 hb
  go_enter Try.func15, Try.ntmps15
  go_wp2
  go_loopw [5] (fun i wr => ∃ k : Nat, k ≤ n ∧ i = .int .i64 k ∧ Hid (w.grownBy wr none)) (fun i _ => n - (intOf i).toNat)
  case atStart => exact ⟨0, Nat.zero_le _, rfl, World.grownBy.refl _ _⟩
  case round =>
    obtain ⟨k, hk, rfl, hr⟩ := hrel
    by_cases hlt : k < n
    · have hi1 : (k : Int) < n := by omega
      have hi0 : (0 : Int) ≤ k := by omega
      obtain ⟨b1, o1, rfl, hb1, _⟩ := HS.out.1.2.resolve_left (by omega)
      obtain ⟨b2, o2, rfl, hb2, _⟩ := HS.out.2.1.2.resolve_left (by omega)
      have HR1 : Hid (wr.rangeAt b1 (o1 + k * 32) (u8s (dgAt ps k)).toList) := range_gb (range_dg HS.out.1 (by omega)) hb1 hr.out
      have HR2 : Hid (wr.rangeAt b2 (o2 + k * 32) (u8s (dgAt ps k)).toList) := range_gb (range_dg HS.out.2.1 (by omega)) hb2 hr.out
      have HDL : Hid ((dgAt ps k).length = 32) := dgAt_len ps k (by rw [HS.out.1.1]; omega)
      have heq := fun W => eqD (dgAt ps k) (dgAt_bytes HS.out.2.2 k) HDL.out W
      obtain ⟨e, he⟩ : ∃ e, e = dgAt ps k := ⟨_, rfl⟩
      rw [← he] at HR1 HR2 HDL heq
      clear he
      go_wp2
      refine wp_region_gb (by kernel_rfl) (by kernel_rfl) ?_
      repeat (first
        | (refine wpQuiet_load_rg rfl (.tmp 20) rfl b1 (o1 + k * 32) e HDL.out rfl (fun W hW => by obtain ⟨p, rfl⟩ := hW; exact range_gw HR1.out p) ?_)
        | (refine wpQuiet_load_rg rfl (.tmp 24) rfl b2 (o2 + k * 32) e HDL.out rfl (fun W hW => by obtain ⟨p, rfl⟩ := hW; exact range_gw HR2.out p) ?_)
        | quiet_step (fail))
      refine wpQuiet_nil ?_
      intro w6 hw'
      obtain ⟨pq, hw6⟩ := hw'
      have H6 : Hid (w.grownBy w6 none) := by rw [hw6]; exact gb_trans hr.out (gw_gb _ _)
      clear hw6 heq
      go_wp2
      go_roundw
      case rel => exact ⟨k + 1, by omega, by go_num, H6.out⟩
      case measure => simp [intOf]; omega
    · obtain rfl : k = n := by omega
      go_wp2
      go_ret
      exact ⟨rfl, hr.out⟩
end Go.Proofs.Ythbnbomdngecmaa
