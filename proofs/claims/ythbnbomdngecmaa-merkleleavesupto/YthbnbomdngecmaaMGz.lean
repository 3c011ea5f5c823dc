/-
  What the document's Sum answers of parts that may be long: the digest of the parts, one behind the other; of one part. Condition: they can be read, and are fewer than 2^40 bytes each.
-/
import Derived.Test.YthbnbomdngecmaaSGy
import Derived.Test.YthbnbomdngecmaaSSm
namespace Go.Proofs.Ythbnbomdngecmaa
set_option linter.unusedVariables false
open Go.RowKit

def PartsL (w : World) (a : Option Addr) (n : Nat) (X : List (List Int)) : Prop :=
  X.length = n ∧ (n = 0 ∨ ∃ b off, a = some ⟨b, off, none⟩ ∧ b < w.heap.size ∧ ∀ i, i < n → ∃ pa pl pc, w.cell? ⟨b, off + i, none⟩ = some (.slice pa pl pc) ∧ Seg .u8 w pa pl (X[i]?.getD []) ∧ Bytes (X[i]?.getD []) ∧ pl ≤ 1099511627776 ∧ (pa = none → pc = 0))
theorem PartsL.below {w w' : World} {a : Option Addr} {n : Nat} {X : List (List Int)} (h : PartsL w a n X) (hb : Below w.heap.size w w') : PartsL w' a n X := by
  refine ⟨h.1, ?_⟩
  rcases h.2 with h0 | ⟨b, off, ha, hlt, hc⟩
  · exact .inl h0
  · have := hb.size
    refine .inr ⟨b, off, ha, by omega, fun i hi => ?_⟩
    obtain ⟨pa, pl, pc, h1, h2, h3⟩ := hc i hi
    exact ⟨pa, pl, pc, (hb.cell (p := ⟨b, off + i, none⟩) hlt).trans h1, h2.below hb, h3⟩
theorem PartsL.bytes {w a n X} (h : PartsL w a n X) : ∀ l ∈ X, Bytes l := by
  intro l hl
  obtain ⟨i, hi, rfl⟩ := List.getElem_of_mem hl
  rcases h.2 with h0 | ⟨b, off, ha, hlt, hc⟩
  · have := h.1; omega
  · obtain ⟨pa, pl, pc, _, _, h3, _⟩ := hc i (by rw [← h.1]; exact hi)
    simpa [hi] using h3

theorem gb_behind {w wr w' : World} {g : Nat} (h : w.grownBy wr none) (hb : Below g wr w') (hg : w.heap.size ≤ g) : w.grownBy w' none :=
  ⟨hb.os.trans h.os, hb.tape.trans h.tape, hb.output.trans h.output, Nat.le_trans h.size hb.size, fun i hi hn => (hb.block i (by omega)).trans (h.block i hi hn)⟩
set_option maxRecDepth 20000 in
set_option maxHeartbeats 1000000 in
theorem gsumsL_c (a : Option Addr) (n cap : Nat) (X : List (List Int)) (w : World) (hP : PartsL w a n X) (hn : n ≤ 9223372036854775807) (hT : X.flatten.length < 2305843009213693952) :
    Calls Try.prog 19 #[.slice a n cap] w fun r w' => r = .returned (.agg (u8s (sha X.flatten))) ∧ w.grownBy w' none := by
  have hz := zD32
  have HP : Hid (PartsL w a n X) := hP
  have HXL : Hid (X.length = n) := hP.1
  have HT : Hid (X.flatten.length < 2305843009213693952) := hT
  have HBX : Hid (∀ k, Bytes (X.take k).flatten) := fun k => bytes_flat fun l hl => hP.bytes l (List.mem_of_mem_take hl)
  have HZ : Hid (Bk 24 (w.alloc (.cells (u8s dz32) 24)) w.heap.size (u8s dz32) ∧ w.grownBy (w.alloc (.cells (u8s dz32) 24)) none) := blk_new w _ _
  clear hP hT
  go_enter Try.func19, Try.ntmps19
  go_wp2_with (first
    | (go_at_call 32; go_must (refine (gnew_c _).mono ?_); rintro r w1 ⟨g, rfl, hg1, hG, h1⟩; have H2 : Hid (GH w1 g (st0, []) 0 ∧ Bk 24 w1 w.heap.size (u8s dz32) ∧ w.grownBy w1 none) := ⟨hG, HZ.out.1.grew h1 (by simp), gb_trans HZ.out.2 h1⟩; have HNE0 : Hid (w.heap.size < g) := Nat.lt_of_lt_of_le (lt_of_block HZ.out.1) hg1; clear h1 hG hg1))
  obtain ⟨D0, hD⟩ : ∃ D0, D0 = w.heap.size := ⟨_, rfl⟩
  have HNE : Hid (w.heap.size ≤ D0 ∧ D0 < g) := by
    have := HNE0.out
    show _ ∧ _
    omega
  rw [← hD] at H2 ⊢
  clear hD HNE0 hz HZ
  go_loopw [9] (fun i wr => ∃ k : Nat, k ≤ n ∧ i = .int .i64 k ∧ Hid (GH wr g (shz (st0, []) (X.take k).flatten) ((X.take k).flatten.length : Nat) ∧ Bk 24 wr D0 (u8s dz32) ∧ w.grownBy wr none)) (fun i _ => n - (intOf i).toNat)
  case atStart => exact ⟨0, Nat.zero_le _, rfl, H2⟩
  case round =>
    obtain ⟨k, hk, rfl, hr⟩ := hrel
    clear H2
    by_cases hlt : k < n
    · have hi1 : (k : Int) < n := by omega
      obtain ⟨b, off, rfl, hbw, hcell⟩ : ∃ b off, a = some ⟨b, off, none⟩ ∧ b < w.heap.size ∧ ∀ i, i < n → ∃ pa pl pc, w.cell? ⟨b, off + i, none⟩ = some (.slice pa pl pc) ∧ Seg .u8 w pa pl (X[i]?.getD []) ∧ Bytes (X[i]?.getD []) ∧ pl ≤ 1099511627776 ∧ (pa = none → pc = 0) := by
        rcases HP.out.2 with h0 | h1
        · omega
        · exact h1
      obtain ⟨pa, pl, pc, c1, s1, b1, l1, m1⟩ := hcell k hlt
      have kc : wr.cell? ⟨b, off + k, none⟩ = some (.slice pa pl pc) := ((gb_below hr.out.2.2).cell (p := ⟨b, off + k, none⟩) hbw).trans c1
      have HFT : Hid ((X.take (k + 1)).flatten = (X.take k).flatten ++ X[k]?.getD [] ∧ (X[k]?.getD []).length = pl ∧ k + 1 ≤ n) := ⟨flat_take X k (by rw [HXL.out]; exact hlt), s1.1, hlt⟩
      have HTK : Hid (Calls Try.prog 33 #[.pointer (some ⟨g, 0, none⟩), .slice pa pl pc] wr fun r w' => r = .returned (.tuple #[]) ∧ GH w' g (shz (st0, []) (X.take (k + 1)).flatten) ((X.take (k + 1)).flatten.length : Nat) ∧ Below g wr w') := by
        have hb0 := shz_bytes (st0, []) _ (fun i hi => by simp at hi) (HBX.out k) (by simp)
        have hl0 := shz_len (st0, []) (X.take k).flatten (by simp)
        have h1 := gwrite_c g (shz (st0, []) (X.take k).flatten) (X.take k).flatten.length pa pl pc (X[k]?.getD []) wr hr.out.1 (by omega) hb0 (s1.below (gb_below hr.out.2.2)) b1 (by
          rcases s1.2 with h0 | ⟨b2, off2, ha, hlt2, _⟩
          · exact .inl h0
          · refine .inr (fun b' off' e => ?_)
            rw [e] at ha; cases ha; have := HNE.out; omega) (by
          have e1 := flat_len_le X (k + 1)
          have e2 := HT.out
          rw [HFT.out.1, List.length_append, HFT.out.2.1] at e1
          omega)
        rw [HFT.out.1, shz_app, List.length_append, HFT.out.2.1]
        exact h1
      clear hcell c1 s1 b1 l1 m1
      go_wp2_with (first
        | (go_at_call 33; refine (Calls.mono HTK.out ?_); rintro r w3 ⟨rfl, h3, g3⟩; have H3 : Hid (GH w3 g (shz (st0, []) (X.take (k + 1)).flatten) ((X.take (k + 1)).flatten.length : Nat) ∧ Bk 24 w3 D0 (u8s dz32) ∧ w.grownBy w3 none) := ⟨h3, hr.out.2.1.below g3 HNE.out.2, gb_behind hr.out.2.2 g3 (by have := HNE.out; omega)⟩; clear h3 g3))
      refine ⟨⟨k + 1, HFT.out.2.2, by simp, H3.out⟩, ?_⟩
      have := HFT.out.2.2
      simp [intOf]; omega
    · obtain rfl : k = n := by omega
      have hge : ¬ (k : Int) < k := by omega
      have HE : Hid (X.take k = X) := List.take_of_length_le (by rw [HXL.out]; exact Nat.le_refl _)
      rw [HE.out] at hr
      have HSU : Hid (Calls Try.prog 34 #[.pointer (some ⟨g, 0, none⟩)] wr fun r w' => r = .returned (.agg (u8s (sha X.flatten))) ∧ wr.grownBy w' none) := by
        have hl0 := shz_len (st0, []) X.flatten (by simp)
        have hb0 : Bytes (shz (st0, []) X.flatten).2 := by
          have := HBX.out k
          rw [HE.out] at this
          exact shz_bytes (st0, []) _ (fun i hi => by simp at hi) this (by simp)
        exact gsum_c g (shz (st0, []) X.flatten) X.flatten.length wr hr.out.1 (by rw [hl0]; simp) hb0 HT.out
      have HSL : Hid ((sha X.flatten).length = 32) := dgs_len _ _
      obtain ⟨E, hE⟩ : ∃ E, E = sha X.flatten := ⟨_, rfl⟩
      have HSH : Hid (sha X.flatten = E) := hE.symm
      rw [← hE] at HSU HSL
      clear hE
      go_wp2_with (first
        | (go_at_call 34; go_must (refine (Calls.mono HSU.out ?_)); rintro r w3 ⟨rfl, h3⟩; have H3 : Hid (Bk 24 w3 D0 (u8s dz32) ∧ w.grownBy w3 none) := ⟨hr.out.2.1.grew h3 (by simp), gb_trans hr.out.2.2 h3⟩; clear h3)
        | (refine wpList_store_bk 24 rfl (.tmp 2) (.tmp 18) rfl info32 D0 (u8s dz32) (u8s E) rfl rfl H3.out.1 rfl (by rw [u8s_size]; exact HSL.out) (u8s_one _) ?_; intro w4 h1 h2; have H4 : Hid (Bk 24 w4 D0 (u8s E) ∧ w.grownBy w4 none) := ⟨h1, gb_newer H3.out.2 h2 HNE.out.1⟩; clear h1 h2))
      refine bodyPost_ret (results_cell1 Try.results19 _ _ _ ⟨D0, 0, none⟩ (.agg (u8s E)) rfl (bk_load (T := 24) Try.underlying24 rfl info32 H4.out.1 (by rw [u8s_size]; exact HSL.out))) rfl ?_
      exact ⟨by rw [HSH.out], H4.out.2⟩
/-- One part, just laid into a list of parts. -/
theorem gsum1_c (a : Option Addr) (len cap : Nat) (xs : List Int) (w : World) (hs : Seg .u8 w a len xs) (hx : Bytes xs) (hn : len ≤ 1099511627776) (h0 : a = none → cap = 0) (T : TypeId) :
    Calls Try.prog 19 #[.slice (some ⟨w.heap.size, 0, none⟩) 1 1] (w.alloc (.cells #[.slice a len cap] T)) fun r w' => r = .returned (.agg (u8s (sha xs))) ∧ w.grownBy w' none := by
  have hg : w.grownBy (w.alloc (.cells #[.slice a len cap] T)) none := World.grownBy_alloc _ _ _
  have h := gsumsL_c (some ⟨w.heap.size, 0, none⟩) 1 1 [xs] (w.alloc (.cells #[.slice a len cap] T)) ⟨rfl, .inr ⟨_, _, rfl, by simp, fun i hi => by
    obtain rfl : i = 0 := by omega
    refine ⟨a, len, cap, ?_, hs.below (gb_below hg), hx, hn, h0⟩
    rw [Nat.zero_add, World.cell?_alloc_new]
    rfl⟩⟩ (by decide) (by simp [hs.1]; omega)
  refine h.mono ?_
  rintro r w' ⟨rfl, h1⟩
  exact ⟨by simp, gb_trans hg h1⟩
end Go.Proofs.Ythbnbomdngecmaa
