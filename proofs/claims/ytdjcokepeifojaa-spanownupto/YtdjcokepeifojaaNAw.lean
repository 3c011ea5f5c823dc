/-
  What span's Normal answers of whatever ranges: their texts, in normal form; and that the laws' awake answers true. Condition: there are at most 2^40 ranges.
-/
import Derived.Test.YtdjcokepeifojaaNLcN
import Derived.Test.YtdjcokepeifojaaNSm
namespace Go.Proofs.Ytdjcokepeifojaa
set_option linter.unusedVariables false
open Go.RowKit

theorem normal_c (A : List Rg) (a : Option Addr) (ca : Nat) (w : World) (hA : Cells w a (flR A)) (hn : A.length ≤ 1099511627776) :
    Calls Try.prog 11 #[.slice a A.length ca] w fun e w' => ∃ v R, e = .returned v ∧ w'.ownsRow w.heap.size 39 2 v R.length (flR R) ∧ Nrm R ∧ (∀ t, lHas R t = lHas A t) ∧ R.length ≤ 2 * A.length + 1 ∧ w.grownBy w' none := by
  have HL : Hid _ := layN_c A [] a none ca 0 w hA (.inl rfl) (by simpa using hn)
  clear hA
  go_enter Try.func11, Try.ntmps11
  go_wp2_with (first
    | (go_at_call 21; go_must (refine (Calls.mono HL.out ?_)); rintro e w1 ⟨v, R, rfl, h1, h2, h3, h4, h5⟩; have H1 : Hid (w1.ownsRow w.heap.size 39 2 v R.length (flR R) ∧ Nrm R ∧ (∀ t, lHas R t = lHas A t) ∧ R.length ≤ 2 * A.length + 1 ∧ w.grownBy w1 none) := ⟨h1, h2, h3, h4, h5⟩; clear h1 h2 h3 h4 h5))
  go_ret
  exact ⟨_, R, rfl, H1.out⟩
theorem join_has {a b c t : ByteArray} (h1 : tl a b = true) (h2 : tl b c = true) : lHas [(b, c), (a, b)] t = lHas [(a, c)] t := by
  have hb : b ≠ .empty := fun e => by rw [e, tl_none] at h1; cases h1
  have hc : c ≠ .empty := fun e => by rw [e, tl_none] at h2; cases h2
  simp only [lHas, List.any_cons, List.any_nil, Bool.or_false]
  unfold rHas rPast
  simp only [hb, hc]
  cases k1 : tl t a
  · cases k2 : tl t b
    · cases k3 : tl t c <;> simp
    · have := tl_trans k2 h2; rw [this]; simp
  · have k2 := tl_trans k1 h1
    rw [k2]; simp
theorem sA : tl { data := #[97] } { data := #[98] } = true := by rw [tl_bs]; decide
theorem sB : tl { data := #[98] } { data := #[99] } = true := by rw [tl_bs]; decide
theorem nrm_one {a c : ByteArray} (h : tl a c = true) : Nrm [(a, c)] := ⟨rEmpty_iff.2 (.inr h), (fun _ h => by cases h), trivial⟩
def tA : ByteArray := { data := #[97] }
def tB : ByteArray := { data := #[98] }
def tC : ByteArray := { data := #[99] }
theorem awake_n (w : World) (a : Option Addr) (c : Nat) (h : Cells w a (flR [(tB, tC), (tA, tB)])) : Calls Try.prog 11 #[.slice a 2 c] w fun e w' => ∃ v, e = .returned v ∧ w'.ownsRow w.heap.size 39 2 v 1 (flR [(tA, tC)]) ∧ w.grownBy w' none :=
  (normal_c _ a c w h (by simp)).mono (by
    rintro e w1 ⟨v, R, rfl, h1, h2, h3, h4, h5⟩
    have hR : R = [(tA, tC)] := h2.uniq (nrm_one (tl_trans sA sB)) (fun t => by rw [h3]; exact join_has sA sB)
    subst hR
    exact ⟨v, rfl, h1, h5⟩)
theorem cells_lit (w : World) (T : TypeId) (A : List Rg) (cs : Array Value) (h : cs.toList = flR A) : Cells (w.alloc (.cells cs T)) (some ⟨w.heap.size, 0, none⟩) (flR A) := by
  refine .inr ⟨w.heap.size, 0, rfl, by simp, fun j u hu => ?_⟩
  rw [Nat.zero_add, cell_of_row _ _ j _ _ _ (heap_new w _)]
  rw [← h] at hu
  simpa using hu
set_option maxRecDepth 20000 in
theorem awake_c (w : World) : Calls Try.prog 5 #[] w fun e w' => e = .returned (.bool true) ∧ w.grownBy w' none := by
  have HN : Hid _ := awake_n (w.alloc (.cells #[.string tB, .string tC, .string tA, .string tB] 39)) (some ⟨w.heap.size, 0, none⟩) 2 (cells_lit w 39 [(tB, tC), (tA, tB)] #[.string tB, .string tC, .string tA, .string tB] rfl)
  have HE : Hid (∀ (w : World) (x y : Option Addr) (cx cy : Nat), Cells w x (flR [(tA, tC)]) → Cells w y (flR [(tA, tC)]) → Calls Try.prog 14 #[.slice x 1 cx, .slice y 1 cy] w fun e w' => e = .returned (.bool true) ∧ w.grownBy w' none) := fun w x y cx cy h1 h2 => by
    have := equal_c [(tA, tC)] [(tA, tC)] x y cx cy w h1 h2 (by simp) (by simp)
    simpa using this
  go_enter Try.func5, Try.ntmps5
  go_wp2_with (first
    | (go_at_call 11; go_must (refine (Calls.mono HN.out ?_)); rintro e w1 ⟨v, rfl, ho, hg⟩; obtain ⟨x, cx, rfl, hc, -⟩ := own_cells ho; have H1 : Hid (Cells (w1.alloc (.cells #[.string tA, .string tC] 39)) x (flR [(tA, tC)]) ∧ w.grownBy (w1.alloc (.cells #[.string tA, .string tC] 39)) none) := ⟨hc.gb (gb_alloc _ _), gb_trans (gb_trans (gb_alloc _ _) hg) (gb_alloc _ _)⟩; have H2 : Hid _ := cells_lit w1 39 [(tA, tC)] #[.string tA, .string tC] rfl; clear ho hc hg)
    | (go_at_call 14; go_must (refine (HE.out (w1.alloc (.cells #[.string tA, .string tC] 39)) x (some ⟨w1.heap.size, 0, none⟩) cx 1 H1.out.1 H2.out).mono ?_); rintro e w2 ⟨rfl, h2⟩))
  go_ret
  exact ⟨rfl, gb_trans H1.out.2 h2⟩
end Go.Proofs.Ytdjcokepeifojaa
