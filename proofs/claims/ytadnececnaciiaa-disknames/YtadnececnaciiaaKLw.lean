/-
  What the laws' num, roomy and kept answer. Condition: the bytes can be read, and are at most 2^47 - 4096.
-/
import Derived.Test.YtadnececnaciiaaKBb
import Derived.Test.YtadnececnaciiaaKSb
import Derived.Test.YtadnececnaciiaaSStr
import Derived.Deep.RegionHeld3
namespace Go.Proofs.Ytadnececnaciiaa
set_option linter.unusedVariables false
open Go.RowKit

/-- The marks behind lent bytes. -/
def marks : List Int := [171, 172, 173, 174, 175, 176, 177, 178]
theorem frontK {w : World} {a : Option Addr} {len k : Nat} {xs ys : List Int} (h : Seg .u8 w a (len + k) (xs ++ ys)) (hl : xs.length = len) : Seg .u8 w a len xs := by
  refine ⟨hl, ?_⟩
  rcases h.2 with h0 | ⟨b, off, ha, hw, hc⟩
  · exact .inl (by omega)
  · exact .inr ⟨b, off, ha, hw, fun i hi => by rw [hc i (by omega), List.getElem?_append_left (by omega)]⟩
set_option maxHeartbeats 1000000 in
theorem roomy_c (a : Option Addr) (len cap : Nat) (xs : List Int) (w : World) (hn : a = none → cap = 0) (hs : Seg .u8 w a len xs) (hl : len ≤ 140737488351240) :
    Calls Try.prog 56 #[.slice a len cap] w fun e w' => ∃ g k, e = .returned (.slice (some ⟨g, 0, none⟩) len k) ∧ Own w.heap.size w' (.slice (some ⟨g, 0, none⟩) (len + 8) k) (len + 8) (xs ++ marks) ∧ len + 8 ≤ k ∧ Below w.heap.size w w' := by
  have HN : Hid (a = none → cap = 0) := hn
  have HS : Hid (Seg .u8 w a len xs) := hs
  clear hn hs
  go_enter Try.func56, Try.ntmps56
  go_wp2_with (first
    | (at_builtin; refine wpList_append_grow _ rfl _ _ rfl w.heap.size len _ xs rfl (Own.below hown1.out ((Below.refl _ _).alloc (Nat.le_refl _) _)) (some ⟨w1.heap.size, 0, none⟩) 8 8 marks rfl (fun h => by cases h) (seg_new w1 .u8 _ 5 8 marks rfl rfl) (by omega) (by have := hb1.out.size; simp; omega) ?_; intro v2 w2 hown2 hb2; obtain ⟨gr, cr, rfl, hBr, hnr⟩ := hown2.form (by omega); replace hown2 : Hid _ := hown2; replace hb2 : Hid _ := hb2)
    | (at_builtin; refine wpList_append_grow _ rfl _ _ rfl w.heap.size 0 _ [] rfl (own_nil _ _) a len cap xs rfl HN.out HS.out (by omega) (Nat.le_refl _) ?_; intro v1 w1 hown1 hb1; rw [Nat.zero_add, List.nil_append] at hown1; replace hown1 : Hid _ := hown1; replace hb1 : Hid _ := hb1))
  go_ret
  exact ⟨gr, cr, rfl, hown2.out, hnr, (hb1.out.alloc hb1.out.size _).trans hb2.out⟩

set_option maxRecDepth 20000 in
set_option maxHeartbeats 1000000 in
theorem kept_c (g len k : Nat) (xs : List Int) (b : Option Addr) (cb : Nat) (w : World) (hs : Seg .u8 w (some ⟨g, 0, none⟩) (len + 8) (xs ++ marks)) (hk : len + 8 ≤ k) (hb : Seg .u8 w b len xs) (hl : len ≤ 140737488351240) :
    Calls Try.prog 46 #[.slice (some ⟨g, 0, none⟩) len k, .slice b len cb] w fun e w' => e = .returned (.bool true) ∧ w' = w := by
  have hlen := hb.1
  have r1 := seg_string (P := Try.prog) 57 9 5 k (frontK hs hlen) Try.underlying57 Try.underlying5 Try.underlying9
  have r2 := seg_string (P := Try.prog) 57 9 5 cb hb Try.underlying57 Try.underlying5 Try.underlying9
  have HC : Hid (∀ i, i < 8 → w.cell? ⟨g, len + i, none⟩ = some (.int .u8 (171 + (i : Int)))) := by
    intro i hi
    rcases hs.2 with h0 | ⟨b', off', e1, _, hc⟩
    · omega
    cases e1
    have := hc (len + i) (by omega)
    rw [Nat.zero_add] at this
    rw [this, List.getElem?_append_right (by omega), show len + i - xs.length = i from by omega]
    have hm : ∀ j : Nat, j < 8 → marks[j]?.getD 0 = (171 : Int) + (j : Int) := by decide
    rw [hm i hi]
  clear hs hb hlen
  go_enter Try.func46, Try.ntmps46
  go_wp2
  go_loop [6] (fun i => ∃ j : Nat, j ≤ 8 ∧ i = .int .i64 j) (fun i => 8 - (intOf i).toNat)
  case atStart => exact ⟨0, Nat.zero_le _, rfl⟩
  case round =>
    obtain ⟨j, hj, rfl⟩ := hrel
    by_cases hlt : j < 8
    · have hcell := HC.out j hlt
      have e1 : (len : Int) + (j : Int) < (len : Int) + 8 := by omega
      have e2 : ((171 : Int) + (j : Int)) % 256 = 171 + (j : Int) := by omega
      go_wp2
      go_round
      case rel => exact ⟨j + 1, by omega, by go_num⟩
      case measure => simp [intOf]; omega
    · obtain rfl : j = 8 := by omega
      go_wp2
      go_ret
      exact ⟨rfl, rfl⟩
theorem num_c (e : Int) (w : World) : Calls Try.prog 9 #[.int .i64 e] w fun r w' => r = .returned (.int .i64 e) ∧ w' = w := by
  go_enter Try.func9, Try.ntmps9
  go_wp2
  go_ret
  exact ⟨rfl, rfl⟩
end Go.Proofs.Ytadnececnaciiaa
