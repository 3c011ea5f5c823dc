/-
  What the document's Seal answers, called with whatever bytes: they, and the four bytes of their sum, in memory of its own. Condition: the bytes can be read, and are at most 2^47 - 4096.
-/
import Derived.Test.YtdgoncpebfkbdabDoorRows
import Derived.Test.YtdgoncpebfkbdabDoorApart
import Derived.Test.YtdgoncpebfkbdabDoorRSumC
import Derived.Test.YtdgoncpebfkbdabDoorLowC
import Derived.Test.YtdgoncpebfkbdabDoorSealC
namespace Go.Proofs.YtdgoncpebfkbdabDoor
set_option linter.unusedVariables false
open Go.RowKit

set_option maxHeartbeats 1000000 in
theorem rseal_c (a : Option Addr) (len cap : Nat) (xs : List Int) (w : World) (hn : a = none → cap = 0) (hs : Seg .u8 w a len xs) (hx : Bytes xs) (hl : len ≤ 140737488351232) :
    Calls Tryd.prog 30 #[.slice a len cap] w fun e w' => ∃ v, e = .returned v ∧ Own w.heap.size w' v (len + 4) (sealed xs) ∧ Below w.heap.size w w' := by
  have HN : Hid (a = none → cap = 0) := hn
  have HS : Hid (Seg .u8 w a len xs) := hs
  have HX : Hid (Bytes xs) := hx
  clear hn hs hx
  obtain ⟨b0, b1, b2, b3, hA, hB⟩ := arr4_ex (sum xs)
  replace hA : Hid _ := hA
  have HSE : Hid (sealed xs = xs ++ [b0, b1, b2, b3]) := by show _ = _; unfold sealed; rw [hB]
  clear hB
  go_enter Tryd.func30, Tryd.ntmps30
  go_wp2_with (first
    | (at_builtin; go_must (refine wpList_append_grow _ rfl _ _ rfl w.heap.size 0 _ [] rfl (own_nil _ _) a len cap xs rfl HN.out HS.out (by omega) (Nat.le_refl _) ?_); intro v1 w1 hown hb1; rw [Nat.zero_add, List.nil_append] at hown; replace hown : Hid _ := hown; replace hb1 : Hid _ := hb1)
    | (go_at_call 34; go_must (refine (rsum_c a len cap xs _ (HS.out.below hb1.out) HX.out (by omega)).mono ?_); rintro e w9 ⟨rfl, rfl⟩)
    | (go_at_call 33; go_must (refine (low_c _ _).mono ?_); rintro e w2 ⟨rfl, hb2⟩; rw [hA.out]; replace hb2 : Hid _ := hb2))
  have HB3 : Hid (Below w.heap.size w (w2.alloc (Obj.cells #[.int .u8 b0, .int .u8 b1, .int .u8 b2, .int .u8 b3] 52))) := by
    have h1 := hb1.out.trans (hb2.out.mono hb1.out.size)
    exact h1.alloc h1.size _
  have HO3 : Hid (Own w.heap.size (w2.alloc (Obj.cells #[.int .u8 b0, .int .u8 b1, .int .u8 b2, .int .u8 b3] 52)) v1 len xs) := (Own.below hown.out hb2.out).below ((Below.refl _ _).alloc (Nat.le_refl _) _)
  have HNE : Hid (v1.ownBlock ≠ some w2.heap.size) := fun h => by
    have h1 := (Own.lo hown.out _ h).2
    have h2 := hb2.out.size
    omega
  have HG : Hid (Seg .u8 (w2.alloc (Obj.cells #[.int .u8 b0, .int .u8 b1, .int .u8 b2, .int .u8 b3] 52)) (some ⟨w2.heap.size, 0, none⟩) 4 [b0, b1, b2, b3]) := seg_new w2 .u8 _ 52 4 [b0, b1, b2, b3] rfl rfl
  have HGE : Hid (w.heap.size ≤ w2.heap.size) := (hb1.out.trans (hb2.out.mono hb1.out.size)).size
  clear hown hb1 hb2
  generalize (w2.alloc (Obj.cells #[.int .u8 b0, .int .u8 b1, .int .u8 b2, .int .u8 b3] 52)) = w3 at HB3 HO3 HG ⊢
  generalize w2.heap.size = g at HNE HG HGE ⊢
  obtain ⟨bs, hbs⟩ : ∃ bs, bs = [b0, b1, b2, b3] := ⟨_, rfl⟩
  have HBL : Hid (bs.length = 4) := by rw [hbs]; exact rfl
  rw [← hbs] at HSE HG
  clear hbs
  go_loopw [3, 5] (fun u i wr => ∃ k : Nat, k ≤ 4 ∧ i = .int .i64 k ∧ Hid (Own w.heap.size wr u (len + k) (xs ++ bs.take k)) ∧ Hid (u.ownBlock ≠ some g) ∧ Hid (Seg .u8 wr (some ⟨g, 0, none⟩) 4 bs) ∧ Hid (Below w.heap.size w wr)) (fun _ i _ => 4 - (intOf i).toNat)
  case atStart => exact ⟨0, Nat.zero_le _, rfl, by rw [List.take_zero, List.append_nil]; exact HO3, HNE, HG, HB3⟩
  case round =>
    obtain ⟨k, hk, rfl, ho, hne, hg, hb⟩ := hrel
    by_cases hlt : k < 4
    · have hcell : wr.cell? ⟨g, k, none⟩ = some (.int .u8 (bs[k]?.getD 0)) := by
        rcases hg.out.2 with h0 | ⟨b', off', hb3, hbw', hc'⟩
        · omega
        · cases hb3; have := hc' k hlt; rw [Nat.zero_add] at this; exact this
      have HT : Hid (xs ++ bs.take (k + 1) = (xs ++ bs.take k) ++ [bs[k]?.getD 0]) := by
        show _ = _
        rw [take_snoc bs k (by rw [HBL.out]; exact hlt), List.append_assoc]
      have HOA : Hid (Own w.heap.size (wr.alloc (.cells #[.int .u8 (bs[k]?.getD 0)] 5)) u3 (len + k) (xs ++ bs.take k)) := ho.out.below ((Below.refl _ _).alloc (Nat.le_refl _) _)
      have HSA : Hid (Seg .u8 (wr.alloc (.cells #[.int .u8 (bs[k]?.getD 0)] 5)) (some ⟨wr.heap.size, 0, none⟩) 1 [bs[k]?.getD 0]) := seg_new wr .u8 _ 5 1 [bs[k]?.getD 0] rfl rfl
      have HGA : Hid (Seg .u8 (wr.alloc (.cells #[.int .u8 (bs[k]?.getD 0)] 5)) (some ⟨g, 0, none⟩) 4 bs) := hg.out.below ((Below.refl _ _).alloc (Nat.le_refl _) _)
      have HBA : Hid (Below w.heap.size w (wr.alloc (.cells #[.int .u8 (bs[k]?.getD 0)] 5))) := hb.out.alloc hb.out.size _
      have HLT : Hid (g < (wr.alloc (.cells #[.int .u8 (bs[k]?.getD 0)] 5)).heap.size) := by
        rcases HGA.out.2 with h0 | ⟨b', off', hb3, hbw', hc'⟩
        · omega
        · cases hb3; exact hbw'
      go_wp2_with (at_builtin; go_must (refine wpList_append_apart _ rfl _ _ rfl w.heap.size (len + k) _ (xs ++ bs.take k) rfl HOA.out (some ⟨wr.heap.size, 0, none⟩) 1 1 [bs[k]?.getD 0] rfl (fun h => by cases h) HSA.out (by omega) HBA.out.size ?_); intro v5 w5 ho5 hg5 hat5)
      have HO5 : Hid (Own w.heap.size w5 v5 (len + (k + 1)) (xs ++ bs.take (k + 1))) := by rw [HT.out]; exact ho5
      have HN5 : Hid (v5.ownBlock ≠ some g) := fun h => by
        rcases hat5 with h1 | h1
        · rw [h1] at h; exact hne.out h
        · rw [h1] at h; have := HLT.out; cases h; omega
      have HG5 : Hid (Seg .u8 w5 (some ⟨g, 0, none⟩) 4 bs) := HGA.out.grown hg5 (fun h => hne.out h)
      have HB5 : Hid (Below w.heap.size w w5) := Below.grew HBA.out hg5 HBA.out.size (fun k hk => (HOA.out.lo k hk).1)
      clear ho5 hg5 hat5
      go_roundw
      case rel => exact ⟨k + 1, by omega, by go_num, HO5, HN5, HG5, HB5⟩
      case measure => simp [intOf]; omega
    · obtain rfl : k = 4 := by omega
      have HE : Hid (xs ++ bs.take 4 = sealed xs) := by
        show _ = _
        rw [HSE.out, List.take_of_length_le (by rw [HBL.out]; exact Nat.le_refl _)]
      go_wp2
      go_ret
      exact ⟨_, rfl, by rw [← HE.out]; exact ho.out, hb.out⟩

end Go.Proofs.YtdgoncpebfkbdabDoor
