/-
  What sha's Sum answers: the digest of the parts, one behind the other. Condition: they can be read, and are fewer than 2^61 bytes.
-/
import Derived.Test.YtlfppknpnfeplaaSSu
namespace Go.Proofs.Ytlfppknpnfeplaa
set_option linter.unusedVariables false
open Go.RowKit

/-- Parts that can be read. -/
def SParts (w : World) (a : Option Addr) (n : Nat) (X : List (List Int)) : Prop :=
  X.length = n ∧ (n = 0 ∨ ∃ b off, a = some ⟨b, off, none⟩ ∧ b < w.heap.size ∧ ∀ i, i < n → ∃ pa pl pc, w.cell? ⟨b, off + i, none⟩ = some (.slice pa pl pc) ∧ Seg .u8 w pa pl (X[i]?.getD []) ∧ Bytes (X[i]?.getD []) ∧ pl ≤ pc ∧ pc ≤ 9223372036854775807)
theorem flat_take (X : List (List Int)) (k : Nat) (h : k < X.length) : (X.take (k + 1)).flatten = (X.take k).flatten ++ X[k]?.getD [] := by
  rw [List.take_succ_eq_append_getElem h, List.flatten_append]
  simp [h]
theorem flat_len_le (X : List (List Int)) (k : Nat) : (X.take k).flatten.length ≤ X.flatten.length := by
  have h : X.flatten = (X.take k).flatten ++ (X.drop k).flatten := by rw [← List.flatten_append, List.take_append_drop]
  rw [h, List.length_append]; omega
theorem bytes_flat {X : List (List Int)} (h : ∀ l ∈ X, Bytes l) : Bytes X.flatten := bytes_of_mem fun z hz => by
  obtain ⟨l, hl, hz⟩ := List.mem_flatten.1 hz
  exact (h l hl).mem z hz
theorem SParts.bytes {w a n X} (h : SParts w a n X) : ∀ l ∈ X, Bytes l := by
  intro l hl
  obtain ⟨i, hi, rfl⟩ := List.getElem_of_mem hl
  rcases h.2 with h0 | ⟨b, off, ha, hlt, hc⟩
  · have := h.1; omega
  · obtain ⟨pa, pl, pc, _, _, h3, _⟩ := hc i (by rw [← h.1]; exact hi)
    simpa [hi] using h3
theorem seg_far0 {w : World} {pa : Option Addr} {pl : Nat} {xs : List Int} {N : Nat} (h : Seg .u8 w pa pl xs) (hN : w.heap.size ≤ N) : Far N pa pl := by
  rcases h.2 with h0 | ⟨b, off, ha, hlt, _⟩
  · exact .inl h0
  · exact .inr ⟨b, off, ha, by omega⟩
set_option maxRecDepth 20000 in
set_option maxHeartbeats 1000000 in
theorem sum_c (a : Option Addr) (n cap : Nat) (X : List (List Int)) (w : World) (hP : SParts w a n X) (hn : n ≤ 9223372036854775807) (hT : X.flatten.length < 2305843009213693952) :
    Calls Try.prog 24 #[.slice a n cap] w fun r w' => r = .returned (.agg (u8s (sha X.flatten))) ∧ w.grownBy w' none := by
  have hz := zSt
  have hzd := zD
  have HP : Hid (SParts w a n X) := hP
  have HXL : Hid (X.length = n) := hP.1
  have HT : Hid (X.flatten.length < 2305843009213693952) := hT
  have HBX : Hid (∀ k, Bytes (X.take k).flatten) := fun k => bytes_flat fun l hl => hP.bytes l (List.mem_of_mem_take hl)
  have HZ : Hid (Bk 37 (w.alloc (.cells (u8s dz32) 37)) w.heap.size (u8s dz32) ∧ w.grownBy (w.alloc (.cells (u8s dz32) 37)) none) := blk_new w _ _
  clear hP hT
  go_enter Try.func24, Try.ntmps24
  go_wp2_with (first
    | (go_at_call 28; go_must (refine (beginning_c _).mono ?_); rintro r w1 ⟨rfl, h1⟩; have H1 : Hid (Bk 37 w1 w.heap.size (u8s dz32) ∧ w.grownBy w1 none) := ⟨HZ.out.1.grew h1 (by simp), gb_trans HZ.out.2 h1⟩; clear h1; have HN1 : Hid (Bk 67 (w1.alloc (.cells czst 67)) w1.heap.size czst ∧ w1.grownBy (w1.alloc (.cells czst 67)) none) := blk_new w1 _ _)
    | (refine wpList_store_bk 67 rfl (.tmp 3) (.tmp 6) rfl infoSt w1.heap.size czst c0st rfl rfl HN1.out.1 rfl rfl c0_one ?_; intro w2 h1 h2; have H2 : Hid (Bk 67 w2 w1.heap.size c0st ∧ Bk 37 w2 w.heap.size (u8s dz32) ∧ w.grownBy w2 none) := ⟨h1, (H1.out.1.grew HN1.out.2 (by simp)).grew h2 (fun e => by have e1 := Option.some.inj e; have e2 := lt_of_block H1.out.1; omega), gb_newer (gb_trans H1.out.2 HN1.out.2) h2 H1.out.2.size⟩; clear h1 h2))
  have HNN : Hid (w.heap.size < w1.heap.size) := lt_of_block H1.out.1
  clear hz hzd HZ HN1 H1
  obtain ⟨N, hN⟩ : ∃ N, N = w1.heap.size := ⟨_, rfl⟩
  obtain ⟨D0, hD⟩ : ∃ D0, D0 = w.heap.size := ⟨_, rfl⟩
  have HNE : Hid (w.heap.size ≤ D0 ∧ D0 < N) := by
    have := HNN.out
    show _ ∧ _
    omega
  rw [← hN, ← hD] at H2 ⊢
  clear hN hD HNN
  go_loopw [9] (fun i wr => ∃ k : Nat, k ≤ n ∧ i = .int .i64 k ∧ Hid (Hs 67 [] wr N (shz (st0, []) (X.take k).flatten) (X.take k).flatten.length ∧ Bk 37 wr D0 (u8s dz32) ∧ w.grownBy wr none)) (fun i _ => n - (intOf i).toNat)
  case atStart =>
    refine ⟨0, Nat.zero_le _, rfl, ⟨⟨⟨?_, rfl⟩, rfl⟩, H2.out.2.1, H2.out.2.2⟩⟩
    exact H2.out.1
  case round =>
    obtain ⟨k, hk, rfl, hr⟩ := hrel
    clear H2
    by_cases hlt : k < n
    · have hi1 : (k : Int) < n := by omega
      obtain ⟨b, off, rfl, hbw, hcell⟩ : ∃ b off, a = some ⟨b, off, none⟩ ∧ b < w.heap.size ∧ ∀ i, i < n → ∃ pa pl pc, w.cell? ⟨b, off + i, none⟩ = some (.slice pa pl pc) ∧ Seg .u8 w pa pl (X[i]?.getD []) ∧ Bytes (X[i]?.getD []) ∧ pl ≤ pc ∧ pc ≤ 9223372036854775807 := by
        rcases HP.out.2 with h0 | h1
        · omega
        · exact h1
      obtain ⟨pa, pl, pc, c1, s1, b1, l1, m1⟩ := hcell k hlt
      have kc : wr.cell? ⟨b, off + k, none⟩ = some (.slice pa pl pc) := ((gb_below hr.out.2.2).cell (p := ⟨b, off + k, none⟩) hbw).trans c1
      have HFT : Hid ((X.take (k + 1)).flatten = (X.take k).flatten ++ X[k]?.getD [] ∧ (X[k]?.getD []).length = pl ∧ k + 1 ≤ n) := ⟨flat_take X k (by rw [HXL.out]; exact hlt), s1.1, hlt⟩
      have HTK : Hid (Calls Try.prog 31 #[.pointer (some ⟨N, 0, none⟩), .slice pa pl pc] wr fun r w' => r = .returned (.tuple #[]) ∧ Hs 67 [] w' N (shz (st0, []) (X.take (k + 1)).flatten) (X.take (k + 1)).flatten.length ∧ wr.grownBy w' (some N)) := by
        have h1 := take_c 67 [] N (shz (st0, []) (X.take k).flatten) (X.take k).flatten.length pa pl pc (X[k]?.getD []) wr hr.out.1 (s1.below (gb_below hr.out.2.2)) b1 (shz_bytes (st0, []) _ (fun i hi => by simp at hi) (HBX.out k) (by simp)) (seg_far0 s1 (by have := HNE.out; omega)) l1 m1 (by
          have e1 := flat_len_le X (k + 1)
          have e2 := HT.out
          rw [HFT.out.1, List.length_append, HFT.out.2.1] at e1
          omega)
        rw [HFT.out.1, shz_app, List.length_append, HFT.out.2.1]
        exact h1
      clear hcell c1 s1 b1 l1 m1
      go_wp2_with (first
        | (go_at_call 31; refine (Calls.mono HTK.out ?_); rintro r w3 ⟨rfl, h3, g3⟩; have H3 : Hid (Hs 67 [] w3 N (shz (st0, []) (X.take (k + 1)).flatten) (X.take (k + 1)).flatten.length ∧ Bk 37 w3 D0 (u8s dz32) ∧ w.grownBy w3 none) := ⟨h3, hr.out.2.1.grew g3 (fun e => by have e1 := Option.some.inj e; have e2 := HNE.out; omega), gb_newer hr.out.2.2 g3 (by have := HNE.out; omega)⟩; clear h3 g3))
      refine ⟨⟨k + 1, HFT.out.2.2, by simp, H3.out⟩, ?_⟩
      have := HFT.out.2.2
      simp [intOf]; omega
    · obtain rfl : k = n := by omega
      have hge : ¬ (k : Int) < k := by omega
      have HE : Hid (X.take k = X) := List.take_of_length_le (by rw [HXL.out]; exact Nat.le_refl _)
      rw [HE.out] at hr
      obtain ⟨q, hq⟩ : ∃ q, q = shz (st0, []) X.flatten := ⟨_, rfl⟩
      obtain ⟨L, hL⟩ : ∃ L, L = X.flatten.length := ⟨_, rfl⟩
      have HSH : Hid (sha X.flatten = dgs (q.1, q.2) L) := by show _ = _; rw [hq, hL]; rfl
      have HSL : Hid ((dgs (q.1, q.2) L).length = 32) := dgs_len _ _
      have HBQ : Hid (Bytes q.2) := by
        have := HBX.out k
        rw [HE.out] at this
        show Bytes _
        rw [hq]
        exact shz_bytes (st0, []) _ (fun i hi => by simp at hi) this (by simp)
      rw [← hq, ← hL] at hr
      have HDI : Hid (∀ W, Calls Try.prog 33 #[.agg (stc q.1 (rz q.2) L).toArray] W fun r w' => r = .returned (.agg (u8s (dgs (q.1, q.2) L))) ∧ W.grownBy w' none) := fun W => digest_c q.1 q.2 L hr.out.1.2 HBQ.out (by rw [hL]; exact HT.out) W
      clear hq hL
      obtain ⟨E, hE⟩ : ∃ E, E = dgs (q.1, q.2) L := ⟨_, rfl⟩
      rw [← hE] at HDI HSL HSH
      have HB0 : Hid (Bk 67 wr N (stc q.1 (rz q.2) L).toArray) := hr.out.1.1.1
      have HBS : Hid ((stc q.1 (rz q.2) (L : Int)).toArray.size = 73) := by
        have h1 := hr.out.1.1.2
        show _ = _
        simp [stc, words_len, h1]
      obtain ⟨cs, hcs⟩ : ∃ cs, cs = (stc q.1 (rz q.2) (L : Int)).toArray := ⟨_, rfl⟩
      rw [← hcs] at HDI HB0 HBS
      clear hE hcs
      go_wp2_with (first
        | (refine wpList_load_bk 67 rfl (.tmp 3) rfl Try.underlying67 rfl infoSt N cs rfl HB0.out HBS.out ?_)
        | (go_at_call 33; go_must (refine (HDI.out _).mono ?_); rintro r w3 ⟨rfl, h3⟩; have H3 : Hid (Bk 37 w3 D0 (u8s dz32) ∧ w.grownBy w3 none) := ⟨hr.out.2.1.grew h3 (by simp), gb_trans hr.out.2.2 h3⟩; clear h3)
        | (refine wpList_store_bk 37 rfl (.tmp 2) (.tmp 17) rfl infoD D0 (u8s dz32) (u8s E) rfl rfl H3.out.1 rfl (by rw [u8s_size]; exact HSL.out) (u8s_one _) ?_; intro w4 h1 h2; have H4 : Hid (Bk 37 w4 D0 (u8s E) ∧ w.grownBy w4 none) := ⟨h1, gb_newer H3.out.2 h2 HNE.out.1⟩; clear h1 h2))
      refine bodyPost_ret (results_cell1 Try.results24 _ _ _ ⟨D0, 0, none⟩ (.agg (u8s E)) rfl (bk_load (T := 37) Try.underlying37 rfl infoD H4.out.1 (by rw [u8s_size]; exact HSL.out))) rfl ?_
      exact ⟨by rw [HSH.out], H4.out.2⟩
end Go.Proofs.Ytlfppknpnfeplaa
