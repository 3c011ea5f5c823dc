/-
  What slices.Clone answers of bytes. Condition: at most 2^47 bytes.
-/
import Derived.Test.YteoohgjoffpmkaaGrA
import Derived.Lib.Slices
import Derived.Maps.AppendAt
import Derived.Laws.OwnMore
namespace Go.Proofs.Yteoohgjoffpmkaa
set_option linter.unusedVariables false
open Go.RowKit

theorem own_emptyK (w : World) : Own w.heap.size (w.alloc (.cells #[] 5)) (.slice (some ⟨w.heap.size, 0, none⟩) 0 0) 0 [] :=
  ⟨rfl, .inr ⟨w.heap.size, 0, #[], rfl, Nat.le_refl _, heap_new w _, Nat.le_refl _, Nat.zero_le _, rfl, rfl⟩⟩
set_option maxHeartbeats 1000000 in
theorem kclone_c (a : Option Addr) (len cap : Nat) (xs : List Int) (w : World) (h : Seg .u8 w a len xs) (hl : len ≤ 140737488355328) (hnz : a = none → cap = 0) :
    Calls Try.prog 39 #[.slice a len cap] w fun r w' => ∃ a' c', r = .returned (.slice a' len c') ∧ Own w.heap.size w' (.slice a' len c') len xs ∧ Below w.heap.size w w' := by
  cases a with
  | none =>
    have hm0 : len = 0 := by
      rcases h.2 with h0 | ⟨_, _, h, _⟩
      · exact h0
      · cases h
    subst hm0
    obtain rfl := hnz rfl
    have HS : Hid (xs = []) := List.length_eq_zero_iff.1 h.1
    have hq := fun w => Lib.run_eql_slice_nil (P := Try.prog) w 57 5 none 0 0 0 0 Try.underlying57
    simp only [Option.isNone] at hq
    clear h
    go_enter Try.func39, Try.ntmps39
    go_wp2
    go_ret
    exact ⟨none, 0, rfl, by rw [HS.out]; exact own_nil _ _, Below.refl _ _⟩
  | some ad =>
    have HS : Hid (Seg .u8 w (some ad) len xs) := h
    have hq := fun w => Lib.run_eql_slice_nil (P := Try.prog) w 57 5 (some ad) len cap 0 0 Try.underlying57
    simp only [Option.isNone] at hq
    clear h
    go_enter Try.func39, Try.ntmps39
    go_wp2_with (at_builtin; go_must (refine wpList_append_grow _ rfl (.tmp 5) (.tmp 6) rfl w.heap.size 0 _ [] rfl (own_emptyK w) (some ad) len cap xs rfl (fun h => by cases h) (HS.out.below ((Below.refl _ _).alloc (Nat.le_refl _) _)) (by omega) (by simp) ?_); intro v' w1 hm hb; rw [Nat.zero_add, List.nil_append] at hm; have HM : Hid (Own w.heap.size w1 v' len xs ∧ Below w.heap.size w w1) := ⟨hm, ((Below.refl _ _).alloc (Nat.le_refl _) _).trans hb⟩; clear hm hb)
    obtain ⟨a', c', rfl, _⟩ := HM.out.1.seg
    go_ret
    exact ⟨a', c', rfl, HM.out.1, HM.out.2⟩
end Go.Proofs.Yteoohgjoffpmkaa
