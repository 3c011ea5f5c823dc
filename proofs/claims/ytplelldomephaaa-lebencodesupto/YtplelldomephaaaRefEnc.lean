/-
  What the document's Encode answers of whatever numbers of 64 bits: their bytes, in memory of their own. Condition: the slice can be read, and holds at most 2^40 numbers.
-/
import Derived.Test.YtplelldomephaaaByt
namespace Go.Proofs.Ytplelldomephaaa
open Go.RowKit
set_option linter.unusedVariables false

/-- A row that grows. -/
def Growing (w : World) (B : Nat) (v : Value) (m : Nat) (L : List Int) : Prop := m = L.length ∧ w.ownsRow B 5 1 v m (L.map (Value.int .u8))
theorem Growing.seg {w : World} {B : Nat} {v : Value} {m : Nat} {L : List Int} (h : Growing w B v m L) : ∃ ao cap, v = .slice ao m cap ∧ m ≤ cap ∧ cap ≤ maxLen ∧ Seg .u8 w ao m L := by
  obtain ⟨hm, hl, h | ⟨g, cap, cur, hv, hg, hh, hn, hc, hs, ht⟩⟩ := h
  · obtain ⟨rfl, rfl⟩ := h
    exact ⟨none, 0, rfl, Nat.le_refl _, by unfold maxLen; omega, hm.symm, .inl rfl⟩
  · refine ⟨some ⟨g, 0, none⟩, cap, hv, hn, hc, hm.symm, .inr ⟨g, 0, rfl, lt_of_block hh, fun i hi => ?_⟩⟩
    have hown : w.ownsRow B 5 1 (.slice (some ⟨g, 0, none⟩) m cap) m (L.map (Value.int .u8)) := ⟨hl, .inr ⟨g, cap, cur, rfl, hg, hh, hn, hc, hs, ht⟩⟩
    rw [Nat.zero_add, hown.cellAt i (by omega)]
    have : i < L.length := by omega
    simp [this]

theorem Growing.keep {w w' : World} {B : Nat} {v : Value} {m : Nat} {L : List Int} (h : Growing w B v m L) (hb : Below w.heap.size w w') : Growing w' B v m L := by
  obtain ⟨hm, hl, h | ⟨g, cap, cur, hv, hg, hh, hr⟩⟩ := h
  · exact ⟨hm, hl, .inl h⟩
  · exact ⟨hm, hl, .inr ⟨g, cap, cur, hv, hg, (hb.block g (lt_of_block hh)).trans hh, hr⟩⟩
theorem Growing.lo {w : World} {B : Nat} {v : Value} {m : Nat} {L : List Int} (h : Growing w B v m L) : ∀ k, v.ownBlock = some k → B ≤ k := by
  obtain ⟨hm, hl, h | ⟨g, cap, cur, hv, hg, hh, hr⟩⟩ := h
  · rw [h.1]; intro k hk; cases hk
  · rw [hv]; intro k hk; cases hk; exact hg

set_option maxHeartbeats 1000000 in
theorem refencode_c (a : Option Addr) (len cap : Nat) (xs : List Int) (w : World) (h : Seg .u64 w a len xs) (hx : Bits64 xs) (hl : len ≤ 1099511627776) :
    Calls Try.prog 9 #[.slice a len cap] w fun e w' => ∃ ao n c, e = .returned (.slice ao n c) ∧ n ≤ c ∧ c ≤ maxLen ∧ Seg .u8 w' ao n (encs xs) ∧ Below w.heap.size w w' := by
  obtain ⟨i0, hi, hz0, hz1, hz2⟩ := info_parts Try.infoU8
  have HS : Hid (Seg .u64 w a len xs) := h
  have HX : Hid (Bits64 xs) := hx
  have HE : Hid ((encs xs).length ≤ 10 * len) := by show _ ≤ _; rw [encs_length xs hx, ← h.1]; exact szs_le xs
  clear h hx
  go_enter Try.func9, Try.ntmps9
  go_wp2
  go_loopw [3, 8] (fun b i wr => ∃ k m : Nat, k ≤ len ∧ i = .int .i64 k ∧ Growing wr w.heap.size b m (encs (xs.take k)) ∧ Below w.heap.size w wr) (fun _ i _ => len - (intOf i).toNat)
  case atStart => exact ⟨0, 0, Nat.zero_le _, rfl, ⟨rfl, World.ownsRow_nil _ _ _ _⟩, Below.refl _ _⟩
  case round =>
    obtain ⟨k, m, hk, rfl, hf, hb⟩ := hrel
    have HF : Hid (Growing wr w.heap.size u3 m (encs (xs.take k))) := hf
    have HB : Hid (Below w.heap.size w wr) := hb
    clear hf hb
    by_cases hlt : k < len
    · rcases HS.out.2 with h0 | ⟨b, off, rfl, hbw, hc⟩
      · omega
      · have hcell : wr.cell? ⟨b, off + k, none⟩ = some (.int .u64 (xs[k]?.getD 0)) := (HB.out.cell (p := ⟨b, off + k, none⟩) hbw).trans (hc k hlt)
        have hxk := HX.out k (by rw [HS.out.1]; exact hlt)
        obtain ⟨V, hV⟩ : ∃ V : Int, xs[k]?.getD 0 = V := ⟨_, rfl⟩
        rw [hV] at hcell hxk
        have HV : Hid (encs (xs.take (k + 1)) = encs (xs.take k) ++ enc V.toNat) := by
          show _ = _
          rw [take_snoc xs k (by rw [HS.out.1]; exact hlt), encs_snoc, hV]
        have HT : Hid ((encs (xs.take (k + 1))).length ≤ 10995116277760) := by
          show _ ≤ _
          have h1 := encs_take_le xs (k + 1)
          have h2 := HE.out
          omega
        clear hc hV
        go_wp2_with fail
        refine (bytes_c V hxk.1 hxk.2 wr).mono ?_
        rintro e w1 ⟨g, n, c, rfl, hm, hb1⟩
        have HM : Hid (Mine w1 wr.heap.size g n c (enc V.toNat)) := hm
        have HF1 : Hid (Growing w1 w.heap.size u3 m (encs (xs.take k))) := HF.out.keep hb1
        have hsz := HB.out.size
        have HB1 : Hid (Below w.heap.size w w1) := HB.out.trans (hb1.mono hsz)
        have hsz1 := HB1.out.size
        have hmn : m + n ≤ 10995116277760 := by
          have h1 := HT.out
          rw [HV.out, List.length_append, hm.len, ← HF.out.1] at h1
          omega
        have HO : Hid (∀ u ∈ (enc V.toNat).map (Value.int .u8), u.oneCell' = true) := by
          intro u hu; obtain ⟨z, _, rfl⟩ := List.mem_map.1 hu; rfl
        have HLN : Hid (((enc V.toNat).map (Value.int .u8)).length = n * 1) := by show _ = _; simp [hm.len]
        clear hm hb1 hcell
        go_wp2_with (at_builtin; go_must (refine wpList_append_own _ rfl (.tmp 12) (.tmp 14) 23 rfl w.heap.size 5 i0 (.int .u8 0) 1 1 Try.underlying23 hi hz0 hz1 hz2 rfl (by decide) _ m _ rfl HF1.out.2 ⟨g, 0, none⟩ n c ((enc V.toNat).map (Value.int .u8)) rfl HLN.out (seg_news HM.out.seg _ rfl) HO.out (by unfold maxLen; omega) (by omega) hsz1 ?_); intro v2 w2 hown hgrow _)
        have HF2 : Hid (Growing w2 w.heap.size v2 (m + n) (encs (xs.take (k + 1)))) := by
          refine ⟨?_, ?_⟩
          · rw [HV.out, List.length_append, HM.out.len, ← HF.out.1]
          · rw [HV.out, List.map_append]; exact hown
        have HB2 : Hid (Below w.heap.size w w2) := HB1.out.grown hgrow hsz1 HF1.out.lo
        clear hown hgrow
        go_wp2
        go_roundw
        case rel => exact ⟨k + 1, m + n, by omega, by go_num, HF2.out, HB2.out⟩
        case measure => simp [intOf]; omega
    · obtain rfl : k = len := by omega
      have ht : xs.take k = xs := List.take_of_length_le (by rw [HS.out.1]; exact Nat.le_refl _)
      obtain ⟨ao, c, hv, hmc, hcx, hsg⟩ := HF.out.seg
      rw [ht] at hsg
      subst hv
      have HG : Hid (Seg .u8 wr ao m (encs xs)) := hsg
      clear ht hsg
      go_wp2
      go_ret
      exact ⟨ao, m, c, rfl, hmc, hcx, HG.out, HB.out⟩
end Go.Proofs.Ytplelldomephaaa
