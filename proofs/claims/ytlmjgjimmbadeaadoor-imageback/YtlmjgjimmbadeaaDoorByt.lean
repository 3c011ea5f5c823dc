/-
  What the document's Bytes answers of a number of 64 bits: its bytes, in memory of their own. No condition of its own.
-/
import Derived.Test.YtlmjgjimmbadeaaDoorFa
namespace Go.Proofs.YtlmjgjimmbadeaaDoor
open Go.RowKit
set_option linter.unusedVariables false

/-- A literal of bytes is one's own. -/
theorem mine_new (w : World) (x : Int) (B : Nat) (hB : B ≤ w.heap.size) : Mine (w.alloc (.cells #[.int .u8 x] 5)) B w.heap.size 1 1 [x] := by
  have hc : ∀ i, (w.alloc (.cells #[.int .u8 x] 5)).cell? ⟨w.heap.size, i, none⟩ = (#[Value.int .u8 x] : Array Value)[i]? := fun i => World.cell?_alloc_new w _ _ i
  refine ⟨rfl, Nat.le_refl _, by unfold maxLen; omega, hB, by simp, fun i hi => ?_, fun i hi => ?_, fun i hi => ?_⟩
  · obtain rfl : i = 0 := by omega
    rw [hc]; rfl
  · obtain rfl : i = 0 := by omega
    rw [hc]; rfl
  · exact frozen_of_row _ _ _ _ _ (heap_alloc_new w _)

set_option maxHeartbeats 400000 in
theorem bytes_c (V : Int) (h0 : 0 ≤ V) (h1 : V < 18446744073709551616) (w : World) :
    Calls Tryd.prog 64 #[.int .u64 V] w fun e w' => ∃ g n cap, e = .returned (.slice (some ⟨g, 0, none⟩) n cap) ∧ Mine w' w.heap.size g n cap (enc V.toNat) ∧ Below w.heap.size w w' := by
  obtain ⟨N, hN⟩ : ∃ N, V.toNat = N := ⟨_, rfl⟩
  induction N using Nat.strongRecOn generalizing V w with
  | ind N ih =>
    by_cases hs : V < 128
    · have HE : Hid (enc V.toNat = [V]) := by show _ = _; rw [enc_small (by omega), Int.toNat_of_nonneg h0]
      clear ih hN
      have hm : V % 256 = V := by omega
      go_enter Tryd.func64, Tryd.ntmps64
      go_wp2
      go_ret
      refine ⟨w.heap.size, 1, 1, rfl, ?_, (Below.refl _ _).alloc (Nat.le_refl _) _⟩
      rw [HE.out]
      exact mine_new w V _ (Nat.le_refl _)
    · have HE : Hid (enc V.toNat = [V % 128 + 128] ++ enc (V / 128).toNat) := by
        show _ = _
        rw [enc_big (by omega), show ((V.toNat % 128 + 128 : Nat) : Int) = V % 128 + 128 from by omega, show V.toNat / 128 = (V / 128).toNat from by omega]
        rfl
      have IH : Hid (∀ w : World, Calls Tryd.prog 64 #[.int .u64 (V / 128)] w fun e w' => ∃ g n cap, e = .returned (.slice (some ⟨g, 0, none⟩) n cap) ∧ Mine w' w.heap.size g n cap (enc (V / 128).toNat) ∧ Below w.heap.size w w') :=
        fun w => ih (V / 128).toNat (by omega) (V / 128) (by omega) (by omega) w rfl
      have HLN : Hid ((enc (V / 128).toNat).length ≤ 10) := by show _ ≤ _; rw [enc_length _ (by omega)]; exact (sz_bd _).2
      obtain ⟨i0, hi, hz0, hz1, hz2⟩ := info_parts Tryd.infoU8
      clear ih hN
      go_enter Tryd.func64, Tryd.ntmps64
      go_wp2_with fail
      refine (IH.out _).mono ?_
      rintro e w1 ⟨g, n, cap, rfl, hm, hb⟩
      have HM : Hid (Mine w1 (w.heap.size + 1) g n cap (enc (V / 128).toNat)) := by simp at hm; exact hm
      have HB : Hid (Below (w.heap.size + 1) (w.alloc (.cells #[.int .u8 (V % 128 + 128)] 5)) w1) := by simp at hb; exact hb
      have HM0 : Hid (Mine w1 w.heap.size w.heap.size 1 1 [V % 128 + 128]) := (mine_new w _ _ (Nat.le_refl _)).keep HB.out (by omega)
      have hn : n ≤ 10 := by rw [← hm.len]; exact HLN.out
      clear hm hb
      go_wp2_with (at_builtin; go_must (refine wpList_append_mine _ rfl _ _ 27 rfl 5 i0 Tryd.underlying27 hi hz0 hz1 hz2 w.heap.size w.heap.size 1 1 [V % 128 + 128] rfl HM0.out (some ⟨g, 0, none⟩) n cap (enc (V / 128).toNat) rfl (fun h => by cases h) HM.out.seg (by omega) ?_); intro g4 c4 w4 hm4 hb4)
      have HM4 : Hid (Mine w4 w.heap.size g4 (1 + n) c4 (enc V.toNat)) := by show Mine _ _ _ _ _ _; rw [HE.out]; exact hm4
      have HB4 : Hid (Below w.heap.size w w4) := (((Below.refl _ w).alloc (Nat.le_refl _) _).trans (HB.out.mono (by omega))).trans hb4
      clear hm4 hb4
      go_wp2
      go_ret
      exact ⟨g4, 1 + n, c4, rfl, HM4.out, HB4.out⟩
end Go.Proofs.YtlmjgjimmbadeaaDoor
