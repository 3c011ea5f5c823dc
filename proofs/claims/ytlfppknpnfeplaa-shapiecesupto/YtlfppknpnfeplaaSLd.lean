/-
  What sha's load answers of what save made: the state. Condition: no more than 2^60 bytes were taken.
-/
import Derived.Test.YtlfppknpnfeplaaSLo
namespace Go.Proofs.Ytlfppknpnfeplaa
set_option linter.unusedVariables false
open Go.RowKit

theorem seg_off {w w' : World} {b off len : Nat} {xs : List Int} (h : Seg .u8 w (some ⟨b, off, none⟩) len xs) (hg : w.grownBy w' none) (m : Nat) (hm : m ≤ len) : Seg .u8 w' (some ⟨b, off + m, none⟩) (len - m) (xs.drop m) := by
  refine ⟨by rw [List.length_drop, h.1], ?_⟩
  rcases h.2 with h0 | ⟨b', off', ha, hw, hc⟩
  · exact .inl (by omega)
  · cases ha
    refine .inr ⟨b, off + m, rfl, Nat.lt_of_lt_of_le hw hg.size, fun i hi => ?_⟩
    have e : w'.heap[b]? = w.heap[b]? := hg.block b hw (fun e => by cases e)
    rw [World.cell?_of_block (w := w) (w' := w') (a := ⟨b, off + m + i, none⟩) e, Nat.add_assoc, hc (m + i) (by omega), List.getElem?_drop]
theorem b4_back (x : Wd) : BitVec.ofNat 32 (((b4 x).getD 0 0).toNat * 16777216 + ((b4 x).getD 1 0).toNat * 65536 + ((b4 x).getD 2 0).toNat * 256 + ((b4 x).getD 3 0).toNat) = x := by
  have h := x.isLt
  apply BitVec.eq_of_toNat_eq
  rw [b4_of]
  have hW : W x = (x.toNat : Int) := rfl
  rw [hW, BitVec.toNat_ofNat]
  simp only [List.getD_cons_zero, List.getD_cons_succ]
  omega
/-- The cells of a state whose first i words were read. -/
def ldc (s : St) (i : Nat) (n : Int) : List Value := ((s.words.take i ++ List.replicate (8 - i) 0).map fun x => Value.int .u32 (W x)) ++ ((rz []).map (Value.int .u8) ++ [.int .i64 n])
theorem ldc_zero (s : St) (n : Int) : ldc s 0 n = stc st00 (rz []) n := rfl
theorem ldc_all (s : St) (n : Int) : ldc s 8 n = stc s (rz []) n := by
  unfold ldc stc
  rw [List.take_of_length_le (by rw [words_len]; omega)]
  simp
theorem ldc_set (s : St) (i : Nat) (n : Int) (hi : i < 8) : (ldc s i n).set i (.int .u32 (W (s.words.getD i 0))) = ldc s (i + 1) n := by
  have hl : s.words.length = 8 := words_len s
  unfold ldc
  rw [List.set_append_left _ _ (by simp [hl]; omega)]
  congr 1
  apply List.ext_getElem?
  intro j
  simp only [List.getElem?_set, List.getElem?_map, List.length_map, List.length_append, List.length_take, List.length_replicate, hl, List.getElem?_append, List.getElem?_take, List.getElem?_replicate, List.getD_eq_getElem?_getD]
  rcases Nat.lt_trichotomy i j with h | h | h
  · have e1 : ¬ i = j := by omega
    simp only [e1, if_false]
    by_cases hj : j < 8
    · have a1 : ¬ j < min i 8 := by omega
      have a2 : ¬ j < min (i + 1) 8 := by omega
      have a3 : j - min i 8 < 8 - i := by omega
      have a4 : j - min (i + 1) 8 < 8 - (i + 1) := by omega
      simp only [a1, a2, a3, a4, if_true, if_false]
    · have a1 : ¬ j < min i 8 := by omega
      have a2 : ¬ j < min (i + 1) 8 := by omega
      have a3 : ¬ j - min i 8 < 8 - i := by omega
      have a4 : ¬ j - min (i + 1) 8 < 8 - (i + 1) := by omega
      simp only [a1, a2, a3, a4, if_false]
  · subst h
    have a2 : i < min (i + 1) 8 := by omega
    have a3 : i < min i 8 + (8 - i) := by omega
    have a5 : i < s.words.length := by omega
    simp [a2, a3, a5]
  · have e1 : ¬ i = j := by omega
    have a1 : j < min i 8 := by omega
    have a2 : j < min (i + 1) 8 := by omega
    have a3 : j < i := by omega
    have a4 : j < i + 1 := by omega
    simp [e1, a1, a2, a3, a4]
theorem stc_size (s : St) (rs : List Int) (n : Int) (h : rs.length = 64) : (stc s rs n).toArray.size = 73 := by simp [stc, words_len, h]
theorem stc_one (s : St) (rs : List Int) (n : Int) : (stc s rs n).toArray.all (·.oneCell') = true := by
  rw [List.all_toArray, List.all_eq_true]
  intro v hv
  simp only [stc, List.mem_append, List.mem_map, List.mem_singleton] at hv
  rcases hv with ⟨_, _, rfl⟩ | ⟨_, _, rfl⟩ | rfl <;> rfl
theorem wfm (s : St) (ys : List Int) (i : Nat) (hi : i < 8) (j : Nat) (hj : j < 4) : (s.words.flatMap b4 ++ ys)[4 * i + j]?.getD 0 = (b4 (s.words.getD i 0)).getD j 0 := by
  have hl : ∀ x : Wd, (b4 x).length = 4 := fun x => rfl
  obtain ⟨a, b, c, d, e, f, g, h⟩ := s
  have : i = 0 ∨ i = 1 ∨ i = 2 ∨ i = 3 ∨ i = 4 ∨ i = 5 ∨ i = 6 ∨ i = 7 := by omega
  have : j = 0 ∨ j = 1 ∨ j = 2 ∨ j = 3 := by omega
  rcases ‹i = 0 ∨ _› with rfl | rfl | rfl | rfl | rfl | rfl | rfl | rfl <;> rcases ‹j = 0 ∨ _› with rfl | rfl | rfl | rfl <;> rfl
theorem b4_bd (x : Wd) (j : Nat) (hj : j < 4) : 0 ≤ (b4 x).getD j 0 ∧ (b4 x).getD j 0 < 256 := by
  refine b4_bytes x _ ?_
  have h : j < (b4 x).length := hj
  rw [List.getD_eq_getElem?_getD, List.getElem?_eq_getElem h]
  exact List.getElem_mem h
theorem ldc_at (s : St) (k : Nat) (n : Int) (hk : k < 8) : (ldc s k n)[k]? = some (.int .u32 (W 0)) := by
  have hl : s.words.length = 8 := words_len s
  unfold ldc
  rw [List.getElem?_append_left (by simp [hl]; omega), List.getElem?_map, List.getElem?_append_right (by simp [hl]; omega), List.getElem?_replicate, List.length_take, hl, if_pos (by omega)]
  rfl
set_option maxRecDepth 20000 in
set_option maxHeartbeats 2000000 in
theorem load_c (b off len cap : Nat) (p : St × List Int) (n : Nat) (w : World) (hs : Seg .u8 w (some ⟨b, off, none⟩) len (svB p n)) (hp : p.2.length = n % 64) (hb : Bytes p.2) (hn : n ≤ 1152921504606846976) (hlc : len ≤ cap) (hcm : cap ≤ maxLen) :
    Calls Try.prog 37 #[.slice (some ⟨b, off, none⟩) len cap] w fun r w' => r = .returned (.tuple #[.agg (stc p.1 (rz p.2) n).toArray, .bool true]) ∧ w.grownBy w' none := by
  have hz := zSt
  have hmax : maxLen = 9223372036854775807 := rfl
  rw [hmax] at hcm
  have HZ : Hid (Bk 67 (w.alloc (.cells czst 67)) w.heap.size czst ∧ w.grownBy (w.alloc (.cells czst 67)) none) := blk_new w _ _
  obtain ⟨L, hL⟩ : ∃ L, L = (nb n).length := ⟨_, rfl⟩
  obtain ⟨M, hM⟩ : ∃ M, M = n % 64 := ⟨_, rfl⟩
  have hlen : len = 2 + L + 32 + M := by
    have := hs.1
    unfold svB at this
    simp only [List.length_append, b4s_len, hp, List.length_cons, List.length_nil] at this
    omega
  have hL1 : 1 ≤ L ∧ L ≤ 10 := by
    have h1 := nbF_len 9 n
    obtain ⟨c, l, e⟩ := nbF_pos 9 n
    have e1 : (nb n).length = l.length + 1 := by unfold nb; rw [e]; rfl
    have e2 : (nb n).length ≤ 10 := h1
    omega
  obtain ⟨hbl, hcell⟩ : b < w.heap.size ∧ ∀ i, i < len → w.cell? ⟨b, off + i, none⟩ = some (.int .u8 ((svB p n)[i]?.getD 0)) := by
    rcases hs.2 with h | ⟨b', o', e, h1, h2⟩
    · omega
    · cases e; exact ⟨h1, h2⟩
  have c0 := cell_alloc (hcell 0 (by omega)) (.cells czst 67)
  have c1 := cell_alloc (hcell 1 (by omega)) (.cells czst 67)
  have e0 : (svB p n)[0]?.getD 0 = 104 := rfl
  have e1 : (svB p n)[1]?.getD 0 = 115 := rfl
  rw [e0, Nat.add_zero] at c0
  rw [e1] at c1
  have HS : Hid (Seg .u8 w (some ⟨b, off, none⟩) len (svB p n) ∧ b < w.heap.size ∧ L = (nb n).length ∧ M = n % 64 ∧ p.2.length = n % 64 ∧ Bytes p.2) := ⟨hs, hbl, hL, hM, hp, hb⟩
  have HNU : Hid (∀ W C, w.grownBy W none → 34 + L + M - 2 ≤ C → C ≤ maxLen → Calls Try.prog 51 #[.slice (some ⟨b, off + 2, none⟩) (2 + L + 32 + M - 2) C] W fun r w' => r = .returned (.tuple #[.int .i64 (n : Int), .int .i64 (L : Int)]) ∧ w' = W) := fun W C hW h1 h2 => by
    have h3 := seg_off hs hW 2 (by omega)
    rw [hlen] at h3
    have h4 : (svB p n).drop 2 = nb n ++ (p.1.words.flatMap b4 ++ p.2) := by unfold svB; simp
    rw [h4] at h3
    rw [hL]
    rw [hL] at h3
    exact number_c _ _ C n _ W (by omega) h3 (by omega) h2
  clear hs hcell e0 e1 hp hb hL hM hbl
  subst hlen
  go_enter Try.func37, Try.ntmps37
  have hL0 : ¬ (L : Int) = 0 := by omega
  have hLb : ((L : Int) == 0) = false := beq_eq_false_iff_ne.2 hL0
  have hni : ¬ (1152921504606846976 : Int) < (n : Int) := by omega
  have hLp : (0 : Int) ≤ L := by omega
  have hOO : off + 2 + L = off + (2 + L) := by omega
  have HOV : Hid (∀ (W : World) (g : Nat), Bk 67 W g (stc st00 (rz []) n).toArray → Calls Try.prog 45 #[.pointer (some ⟨g, 0, none⟩)] W fun r w' => r = .returned (.int .i64 (M : Int)) ∧ w' = W) := fun W g hW => over_c 67 [] g st00 (rz []) n M HS.out.2.2.2.1 W ⟨hW, rfl⟩ (by omega)
  go_wp2_with (first
    | (go_at_call 51; refine (Calls.mono (HNU.out _ (cap - 2) HZ.out.2 ?_ ?_) ?_); exact (by omega); exact (by omega); rintro r w1 ⟨rfl, hq⟩; have HZ1 : Hid (Bk 67 w1 w.heap.size czst ∧ w.grownBy w1 none) := (by rw [hq]; exact HZ.out); clear hq)
    | (refine wpList_build_run rfl 67 _ rfl (.agg (stc st00 (rz []) n).toArray) (by kernel_rfl) ?_; have HN1 : Hid (Bk 67 (w1.alloc (.cells czst 67)) w1.heap.size czst ∧ w1.grownBy (w1.alloc (.cells czst 67)) none) := blk_new w1 _ _)
    | (refine wpList_store_bk 67 rfl (.tmp 6) (.tmp 42) rfl infoSt w1.heap.size czst (stc st00 (rz []) n).toArray rfl rfl HN1.out.1 rfl (stc_size _ _ _ rfl) (stc_one _ _ _) ?_; intro w2 h1 h2; have H2 : Hid (Bk 67 w2 w1.heap.size (stc st00 (rz []) n).toArray ∧ Bk 67 w2 w.heap.size czst ∧ w.grownBy w2 none ∧ w.heap.size < w1.heap.size) := ⟨h1, (HZ1.out.1.grew HN1.out.2 (by simp)).grew h2 (fun e => by have e1 := Option.some.inj e; have e2 := lt_of_block HZ1.out.1; omega), gb_newer (gb_trans HZ1.out.2 HN1.out.2) h2 HZ1.out.2.size, lt_of_block HZ1.out.1⟩; clear h1 h2)
    | (go_at_call 45; refine (Calls.mono (HOV.out _ _ H2.out.1) ?_); rintro r wq ⟨rfl, rfl⟩; clear HN1 HZ))
  clear c0 c1 HNU HOV
  have HWD : Hid (∀ (W : World) (k C : Nat), w.grownBy W none → k < 8 → Calls Try.prog 52 #[.slice (some ⟨b, off + (2 + L) + 4 * k, none⟩) (32 + M - 4 * k) C] W fun r w' => r = .returned (.int .u32 (Go.Proofs.Ytlfppknpnfeplaa.W (p.1.words.getD k 0))) ∧ ∃ q, w' = W.drewN q) := fun W k C hW hk => by
    have h3 := seg_off HS.out.1 hW (2 + L) (by omega)
    have h4 : (svB p n).drop (2 + L) = p.1.words.flatMap b4 ++ p.2 := by
      unfold svB
      rw [HS.out.2.2.1, List.append_assoc, List.drop_left' (by simp; omega)]
    rw [h4] at h3
    obtain ⟨b', o', e, -, h5⟩ := h3.2.resolve_left (by omega)
    cases e
    have hc : ∀ j, j < 4 → W.cell? ⟨b, off + (2 + L) + 4 * k + j, none⟩ = some (.int .u8 ((b4 (p.1.words.getD k 0)).getD j 0)) := fun j hj => by
      rw [Nat.add_assoc, h5 (4 * k + j) (by omega), wfm _ _ k hk j hj]
    have hbd := fun j hj => b4_bd (p.1.words.getD k 0) j hj
    have h6 := word_c b (off + (2 + L) + 4 * k) (32 + M - 4 * k) C _ _ _ _ W (by omega) (hc 0 (by omega)) (hc 1 (by omega)) (hc 2 (by omega)) (hc 3 (by omega)) (hbd 0 (by omega)) (hbd 1 (by omega)) (hbd 2 (by omega)) (hbd 3 (by omega))
    rw [b4_back] at h6
    exact h6
  have HSR : Hid (∀ W : World, w.grownBy W none → Seg .u8 W (some ⟨b, off + (2 + L) + 32, none⟩) M p.2) := fun W hW => by
    have h3 := seg_off HS.out.1 hW (2 + L + 32) (by omega)
    have h4 : (svB p n).drop (2 + L + 32) = p.2 := by
      unfold svB
      rw [HS.out.2.2.1, List.drop_left' (by simp only [List.length_append, b4s_len, List.length_cons, List.length_nil])]
    rw [h4, show 2 + L + 32 + M - (2 + L + 32) = M from by omega, ← Nat.add_assoc] at h3
    exact h3
  generalize hl2 : 2 + L + 32 + M - 2 - L = l2
  have hlM : 32 + M = l2 := by omega
  rw [hlM] at HWD
  generalize hk2 : cap - 2 - L = k2
  have hk3 : l2 ≤ k2 := by omega
  have hk4 : k2 ≤ 9223372036854775807 := by omega
  generalize hO : off + (2 + L) = O at HWD HSR ⊢
  obtain ⟨g, hg⟩ : ∃ g, g = w1.heap.size := ⟨_, rfl⟩
  rw [← hg] at H2 ⊢
  clear hg hO hk2 hl2
  go_loopw [49] (fun i wr => ∃ k : Nat, k ≤ 8 ∧ i = .int .i64 k ∧ Hid (Bk 67 wr g (ldc p.1 k n).toArray ∧ Bk 67 wr w.heap.size czst ∧ w.grownBy wr none)) (fun i _ => 8 - (intOf i).toNat)
  case atStart => exact ⟨0, by omega, rfl, by rw [ldc_zero]; exact H2.out.1, H2.out.2.1, H2.out.2.2.1⟩
  case round =>
    obtain ⟨k, hk, rfl, hr⟩ := hrel
    have HG : Hid (w.heap.size < g) := H2.out.2.2.2
    clear H2
    by_cases hlt : k < 8
    · have hcell : wr.cell? ⟨g, k, none⟩ = some (.int .u32 (W 0)) := by rw [hr.out.1.cell k, List.getElem?_toArray, ldc_at _ _ _ hlt]
      have hfree : wr.frozen? ⟨g, k, none⟩ = false := frozen_of_row wr g k _ 67 hr.out.1
      have ht : (4 * (k : Int)).toNat = 4 * k := by omega
      have h4a : 4 * (k : Int) ≤ l2 := by omega
      have h4b : 4 * k < k2 := by omega
      have HSE : Hid ((ldc p.1 k n).set k (.int .u32 (W (p.1.words.getD k 0))) = ldc p.1 (k + 1) n) := ldc_set _ _ _ hlt
      obtain ⟨x, hx⟩ : ∃ x, x = p.1.words.getD k 0 := ⟨_, rfl⟩
      have HWK : Hid (∀ C, Calls Try.prog 52 #[.slice (some ⟨b, O + 4 * k, none⟩) (l2 - 4 * k) C] wr fun r w' => r = .returned (.int .u32 (W x)) ∧ ∃ q, w' = wr.drewN q) := fun C => by rw [hx]; exact HWD.out wr k C hr.out.2.2 hlt
      rw [← hx] at HSE
      clear hx
      go_wp2_with (go_at_call 52; go_must (refine (Calls.mono (HWK.out _) ?_)); rintro r w3 ⟨rfl, q, rfl⟩; have hr2 : Hid (Bk 67 (wr.drewN q) g (ldc p.1 k n).toArray ∧ Bk 67 (wr.drewN q) w.heap.size czst ∧ w.grownBy (wr.drewN q) none) := ⟨hr.out.1, hr.out.2.1, gb_drewN hr.out.2.2 q⟩; have hcell2 : (wr.drewN q).cell? ⟨g, k, none⟩ = some (.int .u32 (W 0)) := hcell; have hfree2 : (wr.drewN q).frozen? ⟨g, k, none⟩ = false := hfree; generalize wr.drewN q = wq at hr2 hcell2 hfree2 ⊢)
      go_roundw
      case rel => exact ⟨k + 1, by omega, by go_num, by
        have h1 := hr2.out.1.set k (.int .u32 (W x))
        rw [List.setIfInBounds_toArray, HSE.out] at h1
        have h2 : wq.grownBy (wq.setCell ⟨g, k, none⟩ (.int .u32 (W x))) (some g) := ⟨rfl, rfl, rfl, by simp [World.setCell], fun i _ hi => heap_setCell_other _ _ _ _ (fun e => hi (by rw [e]))⟩
        exact ⟨h1, hr2.out.2.1.grew h2 (fun e => by have e1 := Option.some.inj e; have e2 := HG.out; omega), gb_newer hr2.out.2.2 h2 (by have e2 := HG.out; omega)⟩⟩
      case measure => simp [intOf]; omega
    · obtain rfl : k = 8 := by omega
      have HST : Hid (∀ q, Sta 67 [] (wr.drewN q) g p.1 (rz []) n) := fun q => ⟨by have := hr.out.1; rw [ldc_all] at this; exact this, rfl⟩
      have HD : Hid (w.grownBy wr none ∧ Bk 67 wr w.heap.size czst) := ⟨hr.out.2.2, hr.out.2.1⟩
      have HRZ : Hid ((rz ([] : List Int)).take 0 ++ p.2.take M ++ (rz ([] : List Int)).drop (0 + M) = rz p.2) := by
        have h1 := HS.out.2.2.2.1
        have h2 := HS.out.2.2.2.2.1
        show _ = _
        have e := rz_lay [] p.2 (by rw [h2]; simp; omega)
        have ht : p.2.take M = p.2 := List.take_of_length_le (by omega)
        rw [ht, show M = p.2.length from by omega]
        exact e
      have hM64 : M < 64 := by have := HS.out.2.2.2.1; omega
      have hsl : ∀ W, (Instr.sliceAt 65 (.pointer (some ⟨g, 8, none⟩)) none none none).run Try.prog W = .ok (.slice (some ⟨g, 8, none⟩) 64 64) W := fun W => by
        have hel : Try.prog.elem 65 = 5 := by kernel_rfl
        have hal : Try.prog.arrayLen 65 = 64 := by kernel_rfl
        have hsz : (sizeOf 5).run Try.prog W = .ok 1 W := by kernel_rfl
        rw [run_sliceAt_array_all W 65 ⟨g, 8, none⟩ (by rw [hal, hel]; exact part_type64)]
        rw [hal, hel, hsz]
        simp [slicedAt, Addr.add]
      have h32 : (32 : Int) ≤ l2 := by omega
      have HMN : Hid (Nat.min (l2 - 32) 64 = M) := by show Nat.min _ _ = _; rw [show l2 - 32 = M from by omega]; exact Nat.min_eq_left (by omega)
      have HSZ : Hid ((stc p.1 (rz p.2) n).toArray.size = 73) := stc_size _ _ _ (rz_len _ (by have := HS.out.2.2.2.2.1; omega))
      clear hr
      by_cases hk32 : k2 = 32
      · have HSG : Hid (∀ q, Seg .u8 (wr.drewN q) (some ⟨b, O, none⟩) (l2 - 32) p.2) := fun q => ⟨by have h1 := HS.out.2.2.2.1; have h2 := HS.out.2.2.2.2.1; omega, .inl (by omega)⟩
        go_wp2
        go_region_law (first
          | (refine step_rest rfl (.tmp 62) (.tmp 64) rfl (some ⟨g, 8, none⟩) 64 64 _ b O (l2 - 32) rfl rfl 67 [] g 0 M p.1 (rz []) p.2 n (HST.out _) (HSG.out _) HMN.out (by omega) rfl ?_; intro w4 h1 h2; rw [HRZ.out] at h1; have H4 : Hid (Bk 67 w4 g (stc p.1 (rz p.2) n).toArray ∧ Bk 67 w4 w.heap.size czst ∧ w.grownBy w4 none) := ⟨h1.1, HD.out.2.grew (gb_trans (gb_drewN (World.grownBy.refl _ _) _) h2) (fun e => by have e1 := Option.some.inj e; have e2 := HG.out; omega), gb_newer (gb_drewN HD.out.1 _) h2 (by have e2 := HG.out; omega)⟩; clear h1 h2))
        all_goals (
          go_wp2_with (first
            | (refine wpList_load_bk 67 rfl (.tmp 6) rfl Try.underlying67 rfl infoSt g (stc p.1 (rz p.2) n).toArray rfl H4.out.1 HSZ.out ?_)
            | (refine wpList_store_bk 67 rfl (.tmp 2) (.tmp 66) rfl infoSt w.heap.size czst (stc p.1 (rz p.2) n).toArray rfl rfl H4.out.2.1 rfl HSZ.out (stc_one _ _ _) ?_; intro w5 h1 h2; have H5 : Hid (Bk 67 w5 w.heap.size (stc p.1 (rz p.2) n).toArray ∧ w.grownBy w5 none) := ⟨h1, gb_newer H4.out.2.2 h2 (Nat.le_refl _)⟩; clear h1 h2))
          refine bodyPost_ret (results_cell2 Try.results37 _ _ _ ⟨w.heap.size, 0, none⟩ _ _ rfl rfl (bk_load (T := 67) Try.underlying67 rfl infoSt H5.out.1 HSZ.out)) rfl ?_
          exact ⟨rfl, H5.out.2⟩)
      · have HSG : Hid (∀ q, Seg .u8 (wr.drewN q) (some ⟨b, O + 32, none⟩) (l2 - 32) p.2) := fun q => by
          have h1 := HSR.out _ (gb_drewN HD.out.1 q)
          rw [show l2 - 32 = M from by omega]
          exact h1
        go_wp2
        go_region_law (first
          | (refine step_rest rfl (.tmp 62) (.tmp 64) rfl (some ⟨g, 8, none⟩) 64 64 (k2 - 32) b (O + 32) (l2 - 32) rfl rfl 67 [] g 0 M p.1 (rz []) p.2 n (HST.out _) (HSG.out _) HMN.out (by omega) rfl ?_; intro w4 h1 h2; rw [HRZ.out] at h1; have H4 : Hid (Bk 67 w4 g (stc p.1 (rz p.2) n).toArray ∧ Bk 67 w4 w.heap.size czst ∧ w.grownBy w4 none) := ⟨h1.1, HD.out.2.grew (gb_trans (gb_drewN (World.grownBy.refl _ _) _) h2) (fun e => by have e1 := Option.some.inj e; have e2 := HG.out; omega), gb_newer (gb_drewN HD.out.1 _) h2 (by have e2 := HG.out; omega)⟩; clear h1 h2))
        all_goals (
          go_wp2_with (first
            | (refine wpList_load_bk 67 rfl (.tmp 6) rfl Try.underlying67 rfl infoSt g (stc p.1 (rz p.2) n).toArray rfl H4.out.1 HSZ.out ?_)
            | (refine wpList_store_bk 67 rfl (.tmp 2) (.tmp 66) rfl infoSt w.heap.size czst (stc p.1 (rz p.2) n).toArray rfl rfl H4.out.2.1 rfl HSZ.out (stc_one _ _ _) ?_; intro w5 h1 h2; have H5 : Hid (Bk 67 w5 w.heap.size (stc p.1 (rz p.2) n).toArray ∧ w.grownBy w5 none) := ⟨h1, gb_newer H4.out.2.2 h2 (Nat.le_refl _)⟩; clear h1 h2))
          refine bodyPost_ret (results_cell2 Try.results37 _ _ _ ⟨w.heap.size, 0, none⟩ _ _ rfl rfl (bk_load (T := 67) Try.underlying67 rfl infoSt H5.out.1 HSZ.out)) rfl ?_
          exact ⟨rfl, H5.out.2⟩)
end Go.Proofs.Ytlfppknpnfeplaa
