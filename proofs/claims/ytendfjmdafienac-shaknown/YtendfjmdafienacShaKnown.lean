/-
  Proved: hawserlaw05.ShaKnown answers true: the digests that the document prints, and their texts. No condition.
-/
import Derived.Test.YtendfjmdafienacRows
import Derived.Test.YtendfjmdafienacSHa
import Derived.WalkKit
import Derived.ProofKit
import Derived.OpenShut
import Derived.ShutString
import Derived.ChangeOld
import Derived.Below
import Derived.Lib.SmallJoins
import Derived.JoinedCond
import Derived.Lib.SmallJoins
namespace Go.Proofs.Ytendfjmdafienac.shaKnown
open Go.ChangeShapes Go.WideShapes Go.ChangeAt Go.RowKit
set_option linter.unusedVariables false

theorem own : ownKnob Try.prog.godebug = none := by kernel_rfl
theorem laidOut : laidOutB Try.prog = true := by kernel_rfl

theorem bytes_of (l : List Int) (h : (l.all fun z => decide (0 ≤ z ∧ z < 256)) = true) : Bytes l := bytes_of_mem fun z hz => by
  have := List.all_eq_true.1 h z hz
  exact of_decide_eq_true this
theorem parts_abc (w : World) : SParts (((w.alloc (.cells #[.int .u8 97] 5 (1, 2))).alloc (.cells #[.int .u8 98, .int .u8 99] 5 (2, 3))).alloc (.cells #[.slice (some ⟨w.heap.size, 0, none⟩) 1 1, .slice none 0 0, .slice (some ⟨w.heap.size + 1, 0, none⟩) 2 2] 26)) (some ⟨w.heap.size + 1 + 1, 0, none⟩) 3 [[97], [], [98, 99]] ∧ w.grownBy (((w.alloc (.cells #[.int .u8 97] 5 (1, 2))).alloc (.cells #[.int .u8 98, .int .u8 99] 5 (2, 3))).alloc (.cells #[.slice (some ⟨w.heap.size, 0, none⟩) 1 1, .slice none 0 0, .slice (some ⟨w.heap.size + 1, 0, none⟩) 2 2] 26)) none := by
  have g1 : w.grownBy (w.alloc (.cells #[.int .u8 97] 5 (1, 2))) none := World.grownBy_alloc _ _ _
  have g2 : (w.alloc (.cells #[.int .u8 97] 5 (1, 2))).grownBy ((w.alloc (.cells #[.int .u8 97] 5 (1, 2))).alloc (.cells #[.int .u8 98, .int .u8 99] 5 (2, 3))) none := World.grownBy_alloc _ _ _
  have g3 : ((w.alloc (.cells #[.int .u8 97] 5 (1, 2))).alloc (.cells #[.int .u8 98, .int .u8 99] 5 (2, 3))).grownBy (((w.alloc (.cells #[.int .u8 97] 5 (1, 2))).alloc (.cells #[.int .u8 98, .int .u8 99] 5 (2, 3))).alloc (.cells #[.slice (some ⟨w.heap.size, 0, none⟩) 1 1, .slice none 0 0, .slice (some ⟨w.heap.size + 1, 0, none⟩) 2 2] 26)) none := World.grownBy_alloc _ _ _
  have s1 : Seg .u8 (w.alloc (.cells #[.int .u8 97] 5 (1, 2))) (some ⟨w.heap.size, 0, none⟩) 1 [97] := seg_mark _ w .u8 _ _ _ 1 [97] rfl rfl rfl
  have s2 : Seg .u8 ((w.alloc (.cells #[.int .u8 97] 5 (1, 2))).alloc (.cells #[.int .u8 98, .int .u8 99] 5 (2, 3))) (some ⟨w.heap.size + 1, 0, none⟩) 2 [98, 99] := seg_mark _ _ .u8 _ _ _ 2 [98, 99] (by simp) rfl rfl
  have s1' := (s1.below (gb_below g2)).below (gb_below g3)
  have s2' := s2.below (gb_below g3)
  have hc : ∀ j, (((w.alloc (.cells #[.int .u8 97] 5 (1, 2))).alloc (.cells #[.int .u8 98, .int .u8 99] 5 (2, 3))).alloc (.cells #[.slice (some ⟨w.heap.size, 0, none⟩) 1 1, .slice none 0 0, .slice (some ⟨w.heap.size + 1, 0, none⟩) 2 2] 26)).cell? ⟨w.heap.size + 1 + 1, j, none⟩ = (#[.slice (some ⟨w.heap.size, 0, none⟩) 1 1, .slice none 0 0, .slice (some ⟨w.heap.size + 1, 0, none⟩) 2 2] : Array Value)[j]? := fun j => Go.Joins.cell_alloc_mark_at _ _ _ _ _ j (by simp)
  refine ⟨⟨rfl, .inr ⟨w.heap.size + 1 + 1, 0, rfl, by simp, fun i hi => ?_⟩⟩, gb_trans g1 (gb_trans g2 g3)⟩
  match i, hi with
  | 0, _ => exact ⟨_, 1, 1, hc 0, s1', bytes_of _ rfl, by omega, by omega⟩
  | 1, _ => exact ⟨none, 0, 0, hc 1, ⟨rfl, .inl rfl⟩, bytes_of _ rfl, by omega, by omega⟩
  | 2, _ => exact ⟨_, 2, 2, hc 2, s2', bytes_of _ rfl, by omega, by omega⟩
theorem flat_abc : ([[97], [], [98, 99]] : List (List Int)).flatten = [97, 98, 99] := by simp
theorem sha_nil : sha [] = dgs (st0, []) 0 := by
  unfold sha shz
  rw [List.foldl_nil, List.length_nil]
set_option maxRecDepth 20000 in
set_option maxHeartbeats 2000000 in
theorem walk (w : World) : Calls Try.prog 3 #[] w fun e w' => e = .returned (.bool true) ∧ Below w.heap.size w w' := by
  have HP : Hid (∀ X, Calls Try.prog 7 #[.agg (u8s (sha []))] X fun r w' => r = .returned (.string { data := #[101, 51, 98, 48, 99, 52, 52, 50, 57, 56, 102, 99, 49, 99, 49, 52, 57, 97, 102, 98, 102, 52, 99, 56, 57, 57, 54, 102, 98, 57, 50, 52, 50, 55, 97, 101, 52, 49, 101, 52, 54, 52, 57, 98, 57, 51, 52, 99, 97, 52, 57, 53, 57, 57, 49, 98, 55, 56, 53, 50, 98, 56, 53, 53] }) ∧ X.grownBy w' none) := fun X => by
    have := print_c (sha []) (sha_len []) (sha_bytes []) X
    rw [str_none] at this
    exact this
  have HPA : Hid (∀ X, Calls Try.prog 7 #[.agg (u8s (sha [97, 98, 99]))] X fun r w' => r = .returned (.string { data := #[98, 97, 55, 56, 49, 54, 98, 102, 56, 102, 48, 49, 99, 102, 101, 97, 52, 49, 52, 49, 52, 48, 100, 101, 53, 100, 97, 101, 50, 50, 50, 51, 98, 48, 48, 51, 54, 49, 97, 51, 57, 54, 49, 55, 55, 97, 57, 99, 98, 52, 49, 48, 102, 102, 54, 49, 102, 50, 48, 48, 49, 53, 97, 100] }) ∧ X.grownBy w' none) := fun X => by
    have := print_c (sha [97, 98, 99]) (sha_len _) (sha_bytes _) X
    rw [str_abc] at this
    exact this
  have HS : Hid (∀ X, Calls Try.prog 8 #[.slice none 0 0] X fun r w' => r = .returned (.agg (u8s (sha []))) ∧ X.grownBy w' none) := sum0_c
  have HSA : Hid (∀ (W : World) (a : Option Addr), SParts W a 3 [[97], [], [98, 99]] → Calls Try.prog 8 #[.slice a 3 3] W fun r w' => r = .returned (.agg (u8s (sha [97, 98, 99]))) ∧ W.grownBy w' none) := fun W a h => by
    have := sum_c a 3 3 [[97], [], [98, 99]] W h (by omega) (by decide)
    rw [flat_abc] at this
    exact this
  have HHS : Hid (∀ g W, Hs 65 [.bool true] W g (st0, []) 0 → Calls Try.prog 10 #[.pointer (some ⟨g, 0, none⟩)] W fun r w' => r = .returned (.agg (u8s (sha []))) ∧ W.grownBy w' none) := fun g W h => by
    have := hsum_c g (st0, []) 0 W h (fun i hi => by simp at hi) (by omega)
    rw [← sha_nil] at this
    exact this
  obtain ⟨D, hD⟩ : ∃ D, D = sha [] := ⟨_, rfl⟩
  obtain ⟨E, hE⟩ : ∃ E, E = sha [97, 98, 99] := ⟨_, rfl⟩
  rw [← hD] at HP HS HHS
  rw [← hE] at HPA HSA
  clear hD hE
  go_enter Try.func3, Try.ntmps3
  go_wp2_with (first
    | ((fail_if_success (have z := H1)); go_at_call 8; go_must (refine (HS.out _).mono ?_); rintro r w1 ⟨rfl, h1⟩; have H1 : Hid (w.grownBy w1 none) := h1; clear h1)
    | (have z := H1; clear z; (fail_if_success (have z := H2)); go_at_call 7; go_must (refine (HP.out _).mono ?_); rintro r w2 ⟨rfl, h2⟩; have H2 : Hid (w.grownBy w2 none) := gb_trans H1.out h2; clear h2; have hc1 := Go.Joins.run_convert_bytes_const_at (P := Try.prog) w2 26 5 #[.int .u8 97] 1 1 w2.heap.size rfl Try.underlying26 Try.underlying5; have hc2 := Go.Joins.run_convert_bytes_const_at (P := Try.prog) (w2.alloc (.cells #[.int .u8 97] 5 (1, 2))) 26 5 #[.int .u8 98, .int .u8 99] 2 2 (w2.heap.size + 1) (by simp) Try.underlying26 Try.underlying5; have HPT : Hid _ := parts_abc w2)
    | (have z := H2; clear z; (fail_if_success (have z := H3)); go_at_call 8; go_must (refine (HSA.out _ _ HPT.out.1).mono ?_); rintro r w3 ⟨rfl, h3⟩; have H3 : Hid (w.grownBy w3 none) := gb_trans (gb_trans H2.out HPT.out.2) h3; clear h3 hc1 hc2)
    | (have z := H3; clear z; (fail_if_success (have z := H4)); go_at_call 7; go_must (refine (HPA.out _).mono ?_); rintro r w4 ⟨rfl, h4⟩; have H4 : Hid (w.grownBy w4 none) := gb_trans H3.out h4; clear h4)
    | (have z := H4; clear z; go_at_call 9; go_must (refine (hnew_c _).mono ?_); rintro r w5 ⟨g, rfl, hg5, hh5, h5⟩; have H5 : Hid (Hs 65 [.bool true] w5 g (st0, []) 0 ∧ w.grownBy w5 none) := ⟨hh5, gb_trans H4.out h5⟩; clear h5 hg5 hh5)
    | (have z := H5; clear z; go_at_call 10; go_must (refine (HHS.out g _ H5.out.1).mono ?_); rintro r w6 ⟨rfl, h6⟩; have H6 : Hid (w.grownBy w6 none) := gb_trans H5.out.2 h6; clear h6)
    | (have z := H6; clear z; go_at_call 7; go_must (refine (HP.out _).mono ?_); rintro r w7 ⟨rfl, h7⟩; have H7 : Hid (w.grownBy w7 none) := gb_trans H6.out h7; clear h7))
  go_ret
  exact ⟨rfl, gb_below H7.out⟩

set_option maxRecDepth 100000 in
theorem lifted (os : Os) (started : os.Started) (H : Type) (enc : TypeId × Value → H) :
    ReturnsInHanded {} Try.checked os 3 .any (Rows.shaKnownSpec.pre6 enc Try.prog Try.f3 Rows.shaKnownRow.domain false) (Rows.shaKnownSpec.post enc Try.prog Try.f3 false true false false) := by
  refine returnsInHanded_of_change (C := Try.checked) own started (by kernel_rfl) Try.func3
    (ChangeSpec.witness6 (enc := enc) (C := Try.checked) false ⟨#[], #[], []⟩ 8 (by kernel_rfl) (by kernel_rfl) (by kernel_rfl) (by kernel_rfl)) ?_
  intro W base args ds gs before hval0 hW hcnd _
  have hval : ∀ (j : Nat) t v, Try.f3.params[j]? = some t → args[j]? = some v → Value.okWide Try.prog W .any base t v := hval0
  have hW' := hW
  obtain ⟨p, q, hA0, hV, rfl, hfz, hnd⟩ := hW
  have hA : DataW.TrodAll enc Try.prog W 0 (fun _ => true) true Try.f3.params.toList args.toList ds p := hA0
  rw [Try.params3] at hA hval
  obtain ⟨hargs, rfl, rfl⟩ := trodAll_nil hA
  obtain rfl : args = #[] := by cases args; simp_all
  obtain ⟨rfl, rfl⟩ := trodVars_none hV
  clear hA0 hval0
  refine (walk  W ).mono fun e W' ⟨he, bel⟩ => ?_
  subst he
  exact ⟨_, rfl, _, _, _, [], _, [], hW', trodAll_mk1 (shut_bool Try.underlying4 _), trodAll_mk0, rfl, bel.frame _, fun h => by cases h⟩

theorem over : Rows.shaKnownRow.holds Try.pinned (OpenSpec.ofChange Rows.shaKnownSpec) :=
  OpenClaim.holds_of_wide 3 Try.f3 rfl rfl rfl rfl rfl rfl rfl ⟨rfl, rfl, rfl, rfl, rfl⟩ rfl rfl rfl rfl rfl (by kernel_rfl) Try.func3 (by kernel_rfl)
    (of_decide_eq_true (by kernel_rfl)) (by unfold Func.isWrapper; first | (rw [if_pos (by decide +kernel)]; kernel_rfl) | (rw [if_neg (by decide +kernel)]; exact ⟨rfl, rfl⟩))
    (fun os started H enc _ => lifted os started H enc)

end Go.Proofs.Ytendfjmdafienac.shaKnown
namespace Go.Proofs.Ytendfjmdafienac
theorem shaKnown_holds : Rows.ShaKnownSaid := shaKnown.over
#print axioms shaKnown_holds
end Go.Proofs.Ytendfjmdafienac
