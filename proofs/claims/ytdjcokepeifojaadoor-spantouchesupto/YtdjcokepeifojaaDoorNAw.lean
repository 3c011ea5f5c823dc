/-
  What span's Normal answers of whatever ranges: their texts, in normal form; and that the laws' awake answers true. Condition: there are at most 2^40 ranges.
-/
import Derived.Test.YtdjcokepeifojaaDoorNLcN
import Derived.Test.YtdjcokepeifojaaDoorNSm
namespace Go.Proofs.YtdjcokepeifojaaDoor
set_option linter.unusedVariables false
open Go.RowKit

theorem normal_c (A : List Rg) (a : Option Addr) (ca : Nat) (w : World) (hA : Cells w a (flR A)) (hn : A.length ≤ 1099511627776) :
    Calls Tryd.prog 7 #[.slice a A.length ca] w fun e w' => ∃ v R, e = .returned v ∧ w'.ownsRow w.heap.size 41 2 v R.length (flR R) ∧ Nrm R ∧ (∀ t, lHas R t = lHas A t) ∧ R.length ≤ 2 * A.length + 1 ∧ w.grownBy w' none := by
  have HL : Hid _ := layN_c A [] a none ca 0 w hA (.inl rfl) (by simpa using hn)
  clear hA
  go_enter Tryd.func7, Tryd.ntmps7
  go_wp2_with (first
    | (go_at_call 22; go_must (refine (Calls.mono HL.out ?_)); rintro e w1 ⟨v, R, rfl, h1, h2, h3, h4, h5⟩; have H1 : Hid (w1.ownsRow w.heap.size 41 2 v R.length (flR R) ∧ Nrm R ∧ (∀ t, lHas R t = lHas A t) ∧ R.length ≤ 2 * A.length + 1 ∧ w.grownBy w1 none) := ⟨h1, h2, h3, h4, h5⟩; clear h1 h2 h3 h4 h5))
  go_ret
  exact ⟨_, R, rfl, H1.out⟩
theorem join_has {a b c t : ByteArray} (h1 : tl a b = true) (h2 : tl b c = true) : lHas [(b, c), (a, b)] t = lHas [(a, c)] t := by
  have hb : b ≠ .empty := fun e => by rw [e, tl_none] at h1; cases h1
  have hc : c ≠ .empty := fun e => by rw [e, tl_none] at h2; cases h2
  simp only [lHas, List.any_cons, List.any_nil, Bool.or_false]
  unfold rHas rPast
  simp only [hb, hc]
  cases k1 : tl t a
  · cases k2 : tl t b
    · cases k3 : tl t c <;> simp
    · have := tl_trans k2 h2; rw [this]; simp
  · have k2 := tl_trans k1 h1
    rw [k2]; simp
theorem sA : tl { data := #[97] } { data := #[98] } = true := by rw [tl_bs]; decide
theorem sB : tl { data := #[98] } { data := #[99] } = true := by rw [tl_bs]; decide
theorem nrm_one {a c : ByteArray} (h : tl a c = true) : Nrm [(a, c)] := ⟨rEmpty_iff.2 (.inr h), (fun _ h => by cases h), trivial⟩
def tA : ByteArray := { data := #[97] }
def tB : ByteArray := { data := #[98] }
def tC : ByteArray := { data := #[99] }
theorem awake_n (w : World) (a : Option Addr) (c : Nat) (h : Cells w a (flR [(tB, tC), (tA, tB)])) : Calls Tryd.prog 7 #[.slice a 2 c] w fun e w' => ∃ v, e = .returned v ∧ w'.ownsRow w.heap.size 41 2 v 1 (flR [(tA, tC)]) ∧ w.grownBy w' none :=
  (normal_c _ a c w h (by simp)).mono (by
    rintro e w1 ⟨v, R, rfl, h1, h2, h3, h4, h5⟩
    have hR : R = [(tA, tC)] := h2.uniq (nrm_one (tl_trans sA sB)) (fun t => by rw [h3]; exact join_has sA sB)
    subst hR
    exact ⟨v, rfl, h1, h5⟩)
theorem cells_lit (w : World) (T : TypeId) (A : List Rg) (cs : Array Value) (h : cs.toList = flR A) : Cells (w.alloc (.cells cs T)) (some ⟨w.heap.size, 0, none⟩) (flR A) := by
  refine .inr ⟨w.heap.size, 0, rfl, by simp, fun j u hu => ?_⟩
  rw [Nat.zero_add, cell_of_row _ _ j _ _ _ (heap_new w _)]
  rw [← h] at hu
  simpa using hu
end Go.Proofs.YtdjcokepeifojaaDoor
