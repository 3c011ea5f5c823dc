/-
  What merkle's Node answers: the digest of a byte 1 and the sixteen digests. No condition.
-/
import Derived.Test.YthbnbomdngecmaaMHw
namespace Go.Proofs.Ythbnbomdngecmaa
set_option linter.unusedVariables false
open Go.RowKit

/-- The k-th of the digests that stand one behind the other. -/
def dgAt (zs : List Int) (k : Nat) : List Int := (zs.drop (32 * k)).take 32
theorem dgAt_len (zs : List Int) (k : Nat) (h : 32 * k + 32 ≤ zs.length) : (dgAt zs k).length = 32 := by simp [dgAt]; omega
theorem dgAt_bytes {zs : List Int} (h : Bytes zs) (k : Nat) : Bytes (dgAt zs k) := fun i hi => by
  have e : (dgAt zs k)[i]? = zs[32 * k + i]? := by
    have : i < 32 ∧ 32 * k + i < zs.length := by simp [dgAt] at hi; omega
    simp [dgAt, List.getElem?_drop, this.1]
  rw [e]
  refine h _ ?_
  simp [dgAt] at hi; omega
theorem dgAt_take (zs : List Int) (k : Nat) : zs.take (32 * (k + 1)) = zs.take (32 * k) ++ dgAt zs k := by
  rw [dgAt, show 32 * (k + 1) = 32 * k + 32 from by omega, List.take_add]
theorem run_indexDg (zs : List Int) (k : Nat) (hk : k < 16) (W : World) : Sem.run Try.prog (Instr.index 34 (.agg (u8s zs)) (.int .i64 (k : Int))) W = .ok (.agg (u8s (dgAt zs k))) W := by
  have h1 : Try.prog.underlying 34 = some (.array 16 25) := by kernel_rfl
  have h2 : (0 : Int) ≤ k ∧ (k : Int) < 16 := by omega
  have h3 : (isAgg 25).run Try.prog W = .ok true W := by kernel_rfl
  have h4 : (sizeOf 25).run Try.prog W = .ok 32 W := by kernel_rfl
  have e : (u8s zs).extract (k * 32) (k * 32 + 32) = u8s (dgAt zs k) := by
    apply Array.toList_inj.1
    simp [u8s, dgAt, Nat.mul_comm]
  simp [Instr.index, run_underlying h1, asIntOf, part, go_sem, h4, e]
  intro h
  omega
/-- A Hasher that was made here and has taken some bytes, and a digest's variable that is still blank. -/
def HW (w wr : World) (g D : Nat) (ys : List Int) : Prop := Hs 79 [.bool true] wr g (shz (st0, []) ys) ys.length ∧ Bk 25 wr D (u8s dz32) ∧ w.grownBy wr none ∧ w.heap.size ≤ D ∧ D < g ∧ Bytes ys
theorem HW.gb {w wr wx : World} {g D : Nat} {ys : List Int} (h : HW w wr g D ys) (hg : wr.grownBy wx none) : HW w wx g D ys := ⟨h.1.gb hg, h.2.1.gb hg, gb_trans h.2.2.1 hg, h.2.2.2⟩
theorem bytes_cat {xs ys : List Int} (hx : Bytes xs) (hy : Bytes ys) : Bytes (xs ++ ys) := bytes_of_mem fun z hz => (List.mem_append.1 hz).elim (hx.mem z) (hy.mem z)
theorem hw_write {w wr : World} {g D : Nat} {ys : List Int} (h : HW w wr g D ys) (a : Option Addr) (len cap : Nat) (xs : List Int) (hs : Seg .u8 wr a len xs) (hx : Bytes xs) (hf : Far g a len) (hlc : len ≤ cap) (hcm : cap ≤ 9223372036854775807) (hn : ys.length + len < 4611686018427387904) :
    Calls Try.prog 21 #[.pointer (some ⟨g, 0, none⟩), .slice a len cap] wr fun r w' => r = .returned (.tuple #[]) ∧ HW w w' g D (ys ++ xs) := by
  obtain ⟨h1, h2, h3, h4, h5, h6⟩ := h
  refine (hwrite_c g (shz (st0, []) ys) ys.length a len cap xs wr h1 hs hx (shz_bytes (st0, []) ys (fun i hi => by simp at hi) h6 (by simp)) hf hlc hcm hn).mono ?_
  rintro r w' ⟨rfl, k1, k2⟩
  refine ⟨rfl, ?_, h2.grew k2 (fun e => by cases e; omega), gb_newer h3 k2 (by omega), h4, h5, bytes_cat h6 hx⟩
  rw [shz_app, List.length_append, hs.1]
  exact k1
theorem hw_sum {w wr : World} {g D : Nat} {ys : List Int} (h : HW w wr g D ys) (hn : ys.length < 2305843009213693952) :
    Calls Try.prog 22 #[.pointer (some ⟨g, 0, none⟩)] wr fun r w' => r = .returned (.agg (u8s (sha ys))) ∧ Bk 25 w' D (u8s dz32) ∧ w.grownBy w' none := by
  obtain ⟨h1, h2, h3, h4, h5, h6⟩ := h
  refine (hsum_c g (shz (st0, []) ys) ys.length wr h1 (shz_bytes (st0, []) ys (fun i hi => by simp at hi) h6 (by simp)) hn).mono ?_
  rintro r w' ⟨rfl, k1⟩
  exact ⟨rfl, h2.gb k1, gb_trans h3 k1⟩
theorem hw_new {w w1 : World} {g : Nat} (hg : (w.alloc (.cells (u8s dz32) 25)).heap.size ≤ g) (hH : Hs 79 [.bool true] w1 g (st0, []) 0) (h1 : (w.alloc (.cells (u8s dz32) 25)).grownBy w1 none) : HW w w1 g w.heap.size [] := by
  have hb := blk_new w 25 (u8s dz32)
  exact ⟨hH, hb.1.gb h1, gb_trans hb.2 h1, Nat.le_refl _, Nat.lt_of_lt_of_le (lt_of_block hb.1) hg, fun i hi => by simp at hi⟩
theorem bytes_1 : Bytes [1] := bytes_of_mem fun z hz => by simp at hz; omega
theorem bytes_0 : Bytes [0] := bytes_of_mem fun z hz => by simp at hz; omega
theorem seg_dig {w : World} {b : Nat} {d : List Int} (h : Bk 25 w b (u8s d)) (hl : d.length = 32) : Seg .u8 w (some ⟨b, 0, none⟩) 32 d := by
  refine ⟨hl, .inr ⟨b, 0, rfl, lt_of_block h, fun i hi => ?_⟩⟩
  rw [Nat.zero_add, h.cell]
  have : i < d.length := by omega
  simp [u8s, this]
theorem infoA : (Try.prog.info? 34).map (·.size) = some 512 := by kernel_rfl
set_option maxRecDepth 20000 in
set_option maxHeartbeats 1000000 in
theorem node_c (zs : List Int) (hz : Bytes zs) (hl : zs.length = 512) (w : World) :
    Calls Try.prog 11 #[.agg (u8s zs)] w fun r w' => r = .returned (.agg (u8s (sha (1 :: zs)))) ∧ w.grownBy w' none := by
  have hzd := zD
  have HZ : Hid (Bytes zs) := hz
  have HL : Hid (zs.length = 512) := hl
  have HSL : Hid ((sha (1 :: zs)).length = 32) := sha_len _
  obtain ⟨E, hE⟩ : ∃ E, E = sha (1 :: zs) := ⟨_, rfl⟩
  have HE : Hid (sha (1 :: zs) = E) := hE.symm
  rw [← hE] at HSL ⊢
  have HB : Hid (Bk 34 (w.alloc (.cells (u8s zs) 34)) w.heap.size (u8s zs) ∧ w.grownBy (w.alloc (.cells (u8s zs) 34)) none) := blk_new w _ _
  have HZS : Hid ((u8s zs).size = 512) := by show _ = _; rw [u8s_size]; exact HL.out
  clear hz hl hE
  go_enter Try.func11, Try.ntmps11
  go_wp2_with (first
    | (go_at_call 20; go_must (refine (hnew_c _).mono ?_); rintro r w1 ⟨g, rfl, hg1, hH, h1⟩; have H1 : Hid (HW (w.alloc (.cells (u8s zs) 34)) w1 g (w.alloc (.cells (u8s zs) 34)).heap.size []) := hw_new hg1 hH h1; clear hg1 hH h1)
    | (go_at_call 21; go_must (refine (hw_write (H1.out.gb (World.grownBy_alloc w1 _ _)) _ 1 1 [1] (seg_new w1 .u8 _ _ 1 [1] rfl rfl) bytes_1 (.inr ⟨_, _, rfl, Nat.ne_of_gt H1.out.1.1.lt⟩) (by decide) (by decide) (by decide)).mono ?_); rintro r w2 ⟨rfl, h2⟩; have H2 : Hid (HW (w.alloc (.cells (u8s zs) 34)) w2 g (w.alloc (.cells (u8s zs) 34)).heap.size [1]) := h2; clear h2)
    | (refine wpList_load_bk 34 rfl (.tmp 1) rfl Try.underlying34 rfl infoA w.heap.size (u8s zs) rfl (HB.out.1.gb H2.out.2.2.1) HZS.out ?_))
  have HS0 : Hid ((w.alloc (.cells (u8s zs) 34)).heap.size = w.heap.size + 1) := by show _ = _; simp
  rw [HS0.out] at H2
  obtain ⟨w0, hw0⟩ : ∃ w0, w0 = w.alloc (.cells (u8s zs) 34) := ⟨_, rfl⟩
  obtain ⟨D, hD⟩ : ∃ D, D = w.heap.size + 1 := ⟨_, rfl⟩
  rw [← hw0] at H2 HB
  rw [← hD] at H2 ⊢
  clear H1 HS0 hw0 hD
  go_loopw [11] (fun i wr => ∃ k : Nat, k ≤ 16 ∧ i = .int .i64 k ∧ Hid (HW w0 wr g D (1 :: zs.take (32 * k)))) (fun i _ => 16 - (intOf i).toNat)
  case atStart => exact ⟨0, Nat.zero_le _, rfl, H2⟩
  case round =>
    obtain ⟨k, hk, rfl, hr⟩ := hrel
    clear H2
    by_cases hlt : k < 16
    · have hi1 : (k : Int) < 16 := by omega
      have hix := fun W => run_indexDg zs k hlt W
      have HDA : Hid ((dgAt zs k).length = 32 ∧ Bytes (dgAt zs k) ∧ (1 :: zs.take (32 * k)) ++ dgAt zs k = 1 :: zs.take (32 * (k + 1)) ∧ (1 :: zs.take (32 * k)).length ≤ 513) := ⟨dgAt_len _ _ (by rw [HL.out]; omega), dgAt_bytes HZ.out k, by rw [dgAt_take]; rfl, by simp [HL.out]; omega⟩
      obtain ⟨d, hd⟩ : ∃ d, d = dgAt zs k := ⟨_, rfl⟩
      rw [← hd] at HDA hix
      clear hd
      have HN : Hid (Bk 25 (wr.alloc (.cells (u8s dz32) 25)) wr.heap.size (u8s dz32) ∧ wr.grownBy (wr.alloc (.cells (u8s dz32) 25)) none) := blk_new wr _ _
      have HGL : Hid (g < wr.heap.size) := hr.out.1.1.lt
      obtain ⟨X, hX⟩ : ∃ X, X = wr.heap.size := ⟨_, rfl⟩
      go_wp2_with (first
        | (refine wpList_store_bk 25 rfl (.tmp 5) (.tmp 13) rfl infoD wr.heap.size (u8s dz32) (u8s d) rfl rfl HN.out.1 rfl (by rw [u8s_size]; exact HDA.out.1) (u8s_one _) ?_; intro w4 h1 h2; have H4 : Hid (Bk 25 w4 wr.heap.size (u8s d) ∧ wr.grownBy w4 none) := ⟨h1, gb_new HN.out.2 h2⟩; clear h1 h2)
        | (go_at_call 21; go_loud (refine (hw_write (hr.out.gb H4.out.2) _ 32 32 d (seg_dig H4.out.1 HDA.out.1) HDA.out.2.1 (.inr ⟨_, _, rfl, Nat.ne_of_gt HGL.out⟩) (by decide) (by decide) (by have := HDA.out.2.2.2; omega)).mono ?_); rintro r w5 ⟨rfl, h5⟩; have H5 : Hid (HW w0 w5 g D (1 :: zs.take (32 * (k + 1)))) := HDA.out.2.2.1 ▸ h5; clear h5))
      go_roundw
      case rel => exact ⟨k + 1, by omega, by go_num, H5.out⟩
      case measure => simp [intOf]; omega
    · obtain rfl : k = 16 := by omega
      have HTK : Hid (zs.take (32 * 16) = zs) := List.take_of_length_le (by rw [HL.out]; decide)
      rw [HTK.out] at hr
      have HSU : Hid (Calls Try.prog 22 #[.pointer (some ⟨g, 0, none⟩)] wr fun r w' => r = .returned (.agg (u8s E)) ∧ Bk 25 w' D (u8s dz32) ∧ w0.grownBy w' none) := by
        have h1 := hw_sum hr.out (by simp [HL.out])
        rw [HE.out] at h1
        exact h1
      have HDL : Hid (w0.heap.size ≤ D) := hr.out.2.2.2.1
      clear hr
      go_wp2_with (first
        | (go_at_call 22; go_must (refine (Calls.mono HSU.out ?_)); rintro r w6 ⟨rfl, h6⟩; have H6 : Hid (Bk 25 w6 D (u8s dz32) ∧ w0.grownBy w6 none) := h6; clear h6)
        | (refine wpList_store_bk 25 rfl (.tmp 2) (.tmp 19) rfl infoD D (u8s dz32) (u8s E) rfl rfl H6.out.1 rfl (by rw [u8s_size]; exact HSL.out) (u8s_one _) ?_; intro w7 h1 h2; have H7 : Hid (Bk 25 w7 D (u8s E) ∧ w.grownBy w7 none) := ⟨h1, gb_trans HB.out.2 (gb_newer H6.out.2 h2 HDL.out)⟩; clear h1 h2))
      refine bodyPost_ret (results_cell1 Try.results11 _ _ _ ⟨D, 0, none⟩ (.agg (u8s E)) rfl (bk_load (T := 25) Try.underlying25 rfl infoD H7.out.1 (by rw [u8s_size]; exact HSL.out))) rfl ?_
      exact ⟨rfl, H7.out.2⟩
end Go.Proofs.Ythbnbomdngecmaa
