/-
  What crc.Seal answers, called with whatever bytes: they, and the four bytes of their sum, in memory of its own. Condition: the table lies in memory as the program's text lays it; the bytes can be read, and are at most 2^47 - 4096.
-/
import Derived.Test.YtbfbehjldloeoaaDoorRows
import Derived.Test.YtbfbehjldloeoaaDoorFa
namespace Go.Proofs.YtbfbehjldloeoaaDoor
set_option linter.unusedVariables false
open Go.RowKit

/-- Bytes with their sum behind them. -/
def sealed (xs : List Int) : List Int := xs ++ by4 (sum xs)

theorem made_facts {w w2 w3 : World} {C : Array Value} {T T' : TypeId} {b0 b1 b2 b3 : Int} {n : Nat}
    (hb2 : Below (w.alloc (.cells C T)).heap.size (w.alloc (.cells C T)) w2)
    (hown : w3.ownsRow (w2.alloc (.cells #[.int .u8 b0, .int .u8 b1, .int .u8 b2, .int .u8 b3] T')).heap.size 5 1 (.slice (some ⟨(w2.alloc (.cells #[.int .u8 b0, .int .u8 b1, .int .u8 b2, .int .u8 b3] T')).heap.size, 0, none⟩) 0 n) 0 [])
    (hgrow : (w2.alloc (.cells #[.int .u8 b0, .int .u8 b1, .int .u8 b2, .int .u8 b3] T')).grownBy w3 none) :
    Own (w2.heap.size + 1) w3 (.slice (some ⟨w2.heap.size + 1, 0, none⟩) 0 n) 0 [] ∧
      Seg .u8 w3 (some ⟨w2.heap.size, 0, none⟩) 4 [b0, b1, b2, b3] ∧ Below w.heap.size w w3 ∧ w2.heap.size + 1 ≤ w3.heap.size ∧ w.heap.size ≤ w2.heap.size + 1 := by
  have h1 : Below w.heap.size w w2 := ((Below.refl _ _).alloc (Nat.le_refl _) _).trans (hb2.mono (by simp))
  have h2 : Below (w2.alloc (.cells #[.int .u8 b0, .int .u8 b1, .int .u8 b2, .int .u8 b3] T')).heap.size (w2.alloc (.cells #[.int .u8 b0, .int .u8 b1, .int .u8 b2, .int .u8 b3] T')) w3 := (Below.refl _ _).grown hgrow (Nat.le_refl _) (fun k hk => by cases hk)
  have h3 : Below w.heap.size w (w2.alloc (.cells #[.int .u8 b0, .int .u8 b1, .int .u8 b2, .int .u8 b3] T')) := h1.alloc h1.size _
  have h4 := h2.size
  have h5 := h1.size
  simp only [World.size_alloc] at h4
  have hown' : Own (w2.heap.size + 1) w3 (.slice (some ⟨w2.heap.size + 1, 0, none⟩) 0 n) 0 [] := by
    rw [World.size_alloc] at hown; exact hown
  refine ⟨hown', ?_, h3.trans (h2.mono h3.size), h4, by omega⟩
  exact (seg_new w2 .u8 _ T' 4 [b0, b1, b2, b3] rfl rfl).below h2

set_option maxHeartbeats 1000000 in
theorem seal_c (a : Option Addr) (len cap : Nat) (xs : List Int) (w : World) (hn : a = none → cap = 0) (hs : Seg .u8 w a len xs) (hx : Bytes xs) (hl : len ≤ 140737488351232) (ht : Tab w) :
    Calls Tryd.prog 12 #[.slice a len cap] w fun e w' => ∃ v, e = .returned v ∧ Own w.heap.size w' v (len + 4) (sealed xs) ∧ Below w.heap.size w w' := by
  obtain ⟨i0, hi, hz0, hz1, hz2⟩ := info_parts Tryd.infoU8
  have HN : Hid (a = none → cap = 0) := hn
  have HS : Hid (Seg .u8 w a len xs) := hs
  have HX : Hid (Bytes xs) := hx
  have HT : Hid (Tab w) := ht
  clear hn hs hx ht
  obtain ⟨b0, b1, b2, b3, hA, hB⟩ := arr4_ex (sum xs)
  replace hA : Hid _ := hA
  replace hB : Hid _ := hB
  have HSE : Hid (sealed xs = xs ++ [b0, b1, b2, b3]) := by show _ = _; unfold sealed; rw [hB.out]
  go_enter Tryd.func12, Tryd.ntmps12
  go_wp2_with (first
    | (go_at_call 27; refine (sum_c _ 1 1 [xs] _ ?_ (HT.out.below ((Below.refl _ _).alloc (Nat.le_refl _) _)) (by omega)).mono ?_; exact segs_at _ _ rfl HS.out HX.out (by omega); rintro e w1 ⟨rfl, rfl⟩; rw [show [xs].flatten = xs from by simp])
    | (go_at_call 26; go_must (refine (laid_c _ _).mono ?_); rintro e w2 ⟨rfl, hb2⟩; rw [hA.out]; replace hb2 : Hid _ := hb2)
    | (at_make; go_must (refine wpList_make_own _ rfl _ _ 22 rfl _ 5 i0 (.int .u8 0) 1 Tryd.underlying22 hi hz0 hz1 _ _ _ (len + 4) rfl rfl (by omega) (by rw [hz2]; omega) (by unfold maxLen; omega) (Nat.le_refl _) ?_); intro w3 hown hgrow; have HF : Hid _ := made_facts hb2.out hown hgrow; clear hown hgrow)
    | (at_builtin; refine wpList_append_grow _ rfl _ _ rfl (w2.heap.size + 1) len _ xs rfl HO4.out.1 (some ⟨w2.heap.size, 0, none⟩) 4 4 [b0, b1, b2, b3] rfl (fun h => by cases h) HO4.out.2.1 (by omega) HO4.out.2.2.2 ?_; intro v5 w5 ho5 hb5; replace ho5 : Hid _ := ho5; replace hb5 : Hid _ := hb5)
    | (at_builtin; go_must (refine wpList_append_grow _ rfl _ _ rfl (w2.heap.size + 1) 0 _ [] rfl HF.out.1 a len cap xs rfl HN.out (HS.out.below HF.out.2.2.1) (by omega) HF.out.2.2.2.1 ?_); intro v4 w4 hown4 hb4; rw [Nat.zero_add, List.nil_append] at hown4; have HO4 : Hid (Own (w2.heap.size + 1) w4 v4 len xs ∧ Seg .u8 w4 (some ⟨w2.heap.size, 0, none⟩) 4 [b0, b1, b2, b3] ∧ Below w.heap.size w w4 ∧ w2.heap.size + 1 ≤ w4.heap.size) := ⟨hown4, HF.out.2.1.keep hb4 (by omega), HF.out.2.2.1.trans (hb4.mono HF.out.2.2.2.2), Nat.le_trans HF.out.2.2.2.1 hb4.size⟩; clear hown4 hb4))
  go_ret
  refine ⟨_, rfl, ?_, ?_⟩
  · rw [HSE.out]; exact Own.base ho5.out HF.out.2.2.2.2
  · exact HO4.out.2.2.1.trans (hb5.out.mono HF.out.2.2.2.2)

end Go.Proofs.YtbfbehjldloeoaaDoor
