/-
  What the document's Writer's Digest, Row and Bytes answer. Condition: what is laid down takes at most 2^47 bytes.
-/
import Derived.Test.YtdedmmodlbnnfaaXWu
namespace Go.Proofs.Ytdedmmodlbnnfaa
open Go.RowKit
set_option linter.unusedVariables false

theorem wadd_take (e : Int) (ys ds : List Int) (k : Nat) (hk : k < ds.length) : wadd e (wadd e ys (ds.take k)) [ds[k]?.getD 0] = wadd e ys (ds.take (k + 1)) := by
  unfold wadd
  split
  · rw [List.append_assoc, take_snoc ds k hk]
  · rfl
theorem wadd_len (e : Int) (ys zs : List Int) : (wadd e ys zs).length ≤ ys.length + zs.length := by
  unfold wadd; split <;> simp

set_option maxRecDepth 20000 in
set_option maxHeartbeats 1000000 in
theorem xwdigest_c (B g : Nat) (v : Value) (ys : List Int) (e : Int) (ds : List Int) (C : Array Value) (F : Option Nat) (w : World) (h : XW B w g v ys e F) (hC : C = (ds.map (Value.int .u8)).toArray) (hl : ds.length = 32) (hd : Bytes ds) (hb : ys.length + 40 ≤ 140737488355328) :
    Calls Try.prog 28 #[.pointer (some ⟨g, 0, none⟩), .agg C] w fun r w' => r = .returned (.tuple #[]) ∧ XGoes B w g F w' (wadd e ys ds) e := by
  have HW : Hid (XW B w g v ys e F) := h
  have HC : Hid (C = (ds.map (Value.int .u8)).toArray) := hC
  have HL : Hid (ds.length = 32 ∧ ys.length + 40 ≤ 140737488355328) := ⟨hl, hb⟩
  have HD : Hid (Bytes ds) := hd
  obtain ⟨N, hN⟩ : ∃ N, N = w.heap.size := ⟨_, rfl⟩
  have HN : Hid (N = w.heap.size ∧ g < N) := ⟨hN, by rw [hN]; exact lt_of_block h.blk⟩
  clear h hC hl hb hd
  go_enter Try.func28, Try.ntmps28
  go_wp2
  rw [← hN]
  generalize hW1 : World.alloc w _ = W1
  have H1 : Hid (XW B W1 g v ys e F ∧ Row .u8 35 W1 N ds ∧ w.grownBy W1 none) := by
    rw [← hW1, hN]
    refine ⟨HW.out.new (World.grownBy_alloc _ _ _), ?_, World.grownBy_alloc _ _ _⟩
    have := heap_new w (.cells C 35)
    rw [HC.out] at this
    rw [HC.out]; exact this
  have HFN : Hid (F ≠ some N) := by
    intro hF
    have h1 := HW.out.own.lo N (by rw [HW.out.fb]; exact hF)
    omega
  clear hW1 hN
  go_loopw [4] (fun i wr => ∃ k : Nat, k ≤ 32 ∧ i = .int .i64 k ∧ Hid (∃ v' F', XStep B w g F wr v' (wadd e ys (ds.take k)) e F' ∧ F' ≠ some N ∧ Row .u8 35 wr N ds)) (fun i _ => 32 - (intOf i).toNat)
  case atStart =>
    refine ⟨0, Nat.zero_le _, rfl, v, F, ⟨?_, Gr.of H1.out.2.2 (by simp), .inl rfl⟩, HFN.out, H1.out.2.1⟩
    have e0 : wadd e ys (ds.take 0) = ys := by unfold wadd; split <;> simp
    rw [e0]; exact H1.out.1
  case round =>
    obtain ⟨k, hk, rfl, HI⟩ := hrel
    obtain ⟨v1, F1, hI1, hI2, hI3⟩ := HI.out
    clear H1
    by_cases hlt : k < 32
    · have hcell := hI3.cell k (by rw [HL.out.1]; exact hlt)
      obtain ⟨c, hc⟩ : ∃ c, c = ds[k]?.getD 0 := ⟨_, rfl⟩
      rw [← hc] at hcell
      have hx := HD.out k (by rw [HL.out.1]; exact hlt)
      rw [← hc] at hx
      have HS1 : Hid (XStep B w g F wr v1 (wadd e ys (ds.take k)) e F1 ∧ F1 ≠ some N ∧ Row .u8 35 wr N ds ∧ 0 ≤ c ∧ c < 256) := ⟨hI1, hI2, hI3, hx⟩
      have HLN : Hid ((wadd e ys (ds.take k)).length + 1 ≤ 140737488355328) := by
        have := wadd_len e ys (ds.take k)
        rw [List.length_take, HL.out.1] at this
        have := HL.out.2
        show _ ≤ _; omega
      have HWA : Hid (wadd e (wadd e ys (ds.take k)) [c] = wadd e ys (ds.take (k + 1))) := by rw [hc]; exact wadd_take e ys ds k (by rw [HL.out.1]; exact hlt)
      have hk32 : (k : Int) < 32 := by omega
      clear hI1 hI2 hI3 HI hc hx
      go_wp2_with fail
      refine (xlay_c B g v1 _ e F1 _ 1 1 [c] _ (HS1.out.1.1.new (World.grownBy_alloc _ _ _)) ?_ ?_ (fun h => by cases h) HLN.out).mono ?_
      · exact seg_new _ _ _ _ _ _ rfl rfl
      · intro i hi; simp at hi; subst hi; simpa using HS1.out.2.2.2
      · rintro r w2 ⟨rfl, h2⟩
        rw [HWA.out] at h2
        have HFF : Hid (∃ v' F', XStep B w g F w2 v' (wadd e ys (ds.take (k + 1))) e F' ∧ F' ≠ some N ∧ Row .u8 35 w2 N ds) := by
          have h3 := XGoes.pre (World.grownBy_alloc _ _ _) h2
          obtain ⟨v2, F2, x2, g2, f2⟩ := id h3
          obtain ⟨v3, F3, x3⟩ := HS1.out.1.seq h3
          have hNN := HN.out
          have hF2 : F2 ≠ some N := by
            rcases f2 with rfl | ⟨j, rfl, hj⟩
            · exact HS1.out.2.1
            · intro e; cases e; have := HS1.out.2.2.1.lt; omega
          refine ⟨v2, F2, ⟨x2, x3.2.1, ?_⟩, hF2, (g2.block N HS1.out.2.2.1.lt ?_).trans HS1.out.2.2.1⟩
          · rcases f2 with rfl | ⟨j, rfl, hj⟩
            · exact HS1.out.1.2.2
            · exact .inr ⟨j, rfl, Nat.le_trans HS1.out.1.2.1.size hj⟩
          · rintro (h | h)
            · omega
            · exact HS1.out.2.1 h
        clear h2
        go_wp2
        go_roundw
        case rel => first | exact ⟨k + 1, by omega, by go_num, HFF⟩ | ((repeat apply Exists.intro); exact ⟨⟨k + 1, by omega, by go_num, HFF⟩, rfl⟩)
        case measure => simp [intOf]; omega
    · obtain rfl : k = 32 := by omega
      have HFF : Hid (XGoes B w g F wr (wadd e ys ds) e) := by
        rw [List.take_of_length_le (by rw [HL.out.1]; omega)] at hI1
        exact ⟨v1, F1, hI1⟩
      clear hI1 hI2 hI3 HI
      go_wp2
      go_end0
      exact ⟨rfl, HFF.out⟩
end Go.Proofs.Ytdedmmodlbnnfaa
