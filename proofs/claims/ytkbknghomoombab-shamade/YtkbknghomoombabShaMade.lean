/-
  Proved: for every list of bytes, hawserlaw05.ShaMade answers true: Hashers that no call made take nothing and answer nothing. No condition.
-/
import Derived.Test.YtkbknghomoombabRows
import Derived.Test.YtkbknghomoombabSSu
import Derived.Test.YtkbknghomoombabSMd
import Derived.Test.YtkbknghomoombabSEq
import Derived.WalkKit
import Derived.ProofKit
import Derived.OpenShut
import Derived.ShutString
import Derived.ChangeOld
import Derived.Below
import Derived.Lib.SmallJoins
import Derived.JoinedCond
namespace Go.Proofs.Ytkbknghomoombab.shaMade
open Go.ChangeShapes Go.WideShapes Go.ChangeAt Go.RowKit
set_option linter.unusedVariables false

theorem own : ownKnob Try.prog.godebug = none := by kernel_rfl
theorem laidOut : laidOutB Try.prog = true := by kernel_rfl

/-- What the walk is told of a slice of integers that came in. -/
def IsRow (k : IntKind) (R : Nat) (w : World) (a : Option Addr) (len cap : Nat) (zs : List Int) : Prop :=
  (a = none ∧ len = 0 ∧ cap = 0 ∧ zs = []) ∨
  ∃ x, a = some x ∧ len ≤ cap ∧ cap ≤ R ∧ zs.length = cap ∧ (∀ i, i < zs.length → w.cell? (x.add i) = some (.int k (zs.getD i 0))) ∧ ∀ n ∈ zs, (Lit.int k n).wf = true

set_option maxRecDepth 20000 in
set_option maxHeartbeats 1000000 in
theorem walk (a : Option Addr) (len cap : Nat) (zs : List Int) (w : World) (hrow : IsRow .u8 maxLen w a len cap zs) : Calls Try.prog 5 #[.slice a len cap] w fun e w' => e = .returned (.bool true) ∧ Below w.heap.size w w' := by
  clear hrow
  have HP : Hid (∀ X, Calls Try.prog 21 #[.agg (u8s (sha []))] X fun r w' => r = .returned (.string { data := #[101, 51, 98, 48, 99, 52, 52, 50, 57, 56, 102, 99, 49, 99, 49, 52, 57, 97, 102, 98, 102, 52, 99, 56, 57, 57, 54, 102, 98, 57, 50, 52, 50, 55, 97, 101, 52, 49, 101, 52, 54, 52, 57, 98, 57, 51, 52, 99, 97, 52, 57, 53, 57, 57, 49, 98, 55, 56, 53, 50, 98, 56, 53, 53] }) ∧ X.grownBy w' none) := fun X => by
    have := print_c (sha []) (sha_len []) (sha_bytes []) X
    rw [str_none] at this
    exact this
  have HS : Hid (∀ X, Calls Try.prog 22 #[.slice none 0 0] X fun r w' => r = .returned (.agg (u8s (sha []))) ∧ X.grownBy w' none) := sum0_c
  have heq := eqD dz32 (bytes_of_mem (fun z hz => by unfold dz32 at hz; rw [List.mem_replicate] at hz; omega)) rfl
  have hz := zH
  obtain ⟨D, hD⟩ : ∃ D, D = sha [] := ⟨_, rfl⟩
  rw [← hD] at HP HS
  clear hD
  have N0 : NotMade w (.pointer none) := .inl rfl
  have HN1 : Hid (NotMade (w.alloc (.cells zhash 54)) (.pointer (some ⟨w.heap.size, 0, none⟩))) := .inr ⟨_, rfl, by rw [World.cell?_alloc_new]; rfl⟩
  have HG1 : Hid (w.grownBy (w.alloc (.cells zhash 54)) none) := World.grownBy_alloc _ _ _
  clear N0
  go_enter Try.func5, Try.ntmps5
  go_wp2_with (first
    | (go_at_call 16; refine (write_no _ _ _ ?_).mono ?_; (first | exact .inl rfl | exact HN1.out); rintro r w1 ⟨rfl, rfl⟩)
    | (go_at_call 24; refine (reset_no _ _ ?_).mono ?_; (first | exact .inl rfl | exact HN1.out); rintro r w1 ⟨rfl, rfl⟩)
    | (have z := H3; clear z; go_at_call 15; refine (len_no _ _ ?_).mono ?_; (first | exact .inl rfl | exact H3.out.1); rintro r w1 ⟨rfl, rfl⟩)
    | (have z := H3; clear z; go_at_call 14; refine (save_no _ _ ?_).mono ?_; (first | exact .inl rfl | exact H3.out.1); rintro r w1 ⟨rfl, rfl⟩)
    | ((fail_if_success (have z := H2)); go_at_call 18; refine (hsum_no _ _ ?_).mono ?_; exact .inl rfl; rintro r w2 ⟨rfl, h2⟩; have H2 : Hid (NotMade w2 (.pointer (some ⟨w.heap.size, 0, none⟩)) ∧ w.grownBy w2 none) := ⟨notMade_gb HN1.out h2, gb_trans HG1.out h2⟩; clear h2)
    | (have z := H2; clear z; go_at_call 18; refine (hsum_no _ _ ?_).mono ?_; exact H2.out.1; rintro r w3 ⟨rfl, h3⟩; have H3 : Hid (NotMade w3 (.pointer (some ⟨w.heap.size, 0, none⟩)) ∧ w.grownBy w3 none) := ⟨notMade_gb H2.out.1 h3, gb_trans H2.out.2 h3⟩; clear h3)
    | (go_at_call 22; go_must (refine (HS.out _).mono ?_); rintro r w4 ⟨rfl, h4⟩; have H4 : Hid (w.grownBy w4 none) := gb_trans H3.out.2 h4; clear h4)
    | (go_at_call 21; go_must (refine (HP.out _).mono ?_); rintro r w5 ⟨rfl, h5⟩; have H5 : Hid (w.grownBy w5 none) := gb_trans H4.out h5; clear h5)
    | (refine wpList_build_run rfl 41 _ rfl (.agg (u8s dz32)) (by kernel_rfl) ?_)
    | (refine wpList_build_runG rfl 41 _ rfl (.agg (u8s dz32)) (by kernel_rfl) ?_))
  go_ret
  exact ⟨rfl, gb_below H5.out⟩

set_option maxRecDepth 100000 in
theorem lifted (os : Os) (started : os.Started) (H : Type) (enc : TypeId × Value → H) :
    ReturnsInHanded {} Try.checked os 5 .any (Rows.shaMadeSpec.pre6 enc Try.prog Try.f5 Rows.shaMadeRow.domain false) (Rows.shaMadeSpec.post enc Try.prog Try.f5 false true false false) := by
  refine returnsInHanded_of_change (C := Try.checked) own started (by kernel_rfl) Try.func5
    (ChangeSpec.witness6 (enc := enc) (C := Try.checked) false ⟨#[], #[.slice none 0 0], []⟩ 8 (by kernel_rfl) (by kernel_rfl) (by kernel_rfl) (by kernel_rfl)) ?_
  intro W base args ds gs before hval0 hW hcnd _
  have hval : ∀ (j : Nat) t v, Try.f5.params[j]? = some t → args[j]? = some v → Value.okWide Try.prog W .any base t v := hval0
  have hW' := hW
  obtain ⟨p, q, hA0, hV, rfl, hfz, hnd⟩ := hW
  have hA : DataW.TrodAll enc Try.prog W 0 (fun _ => true) true Try.f5.params.toList args.toList ds p := hA0
  rw [Try.params5] at hA hval
  obtain ⟨v0, vs0, d0, ds0, p0, q0, hargs, rfl, rfl, h0, r0⟩ := trodAll_cons hA
  obtain ⟨rfl, rfl, rfl⟩ := trodAll_nil r0
  obtain rfl : args = #[v0] := by cases args; simp_all
  obtain ⟨rfl, rfl⟩ := trodVars_none hV
  have k0 := h0
  have lt0 : ∀ x ∈ p0, x.block < W.heap.size := by obtain ⟨m, hm⟩ := k0; exact DataW.trod_lt m _ _ _ hm
  obtain ⟨a0, len0, cap0, z0, rfl, x0⟩ : ∃ a len cap zs, v0 = .slice a len cap ∧ IsRow .u8 maxLen W a len cap zs := by
    obtain ⟨sa, sl, sc, rfl⟩ := okWide_slice Try.underlying22 (hval 0 22 v0 rfl rfl)
    obtain ⟨fuel, hf⟩ := h0
    rcases open_ints Try.underlying22 Try.underlying5 (by kernel_rfl) hf with ⟨hcs, _⟩ | ⟨x, l, c, zs, hcs, _, hl, hm, hz, hx, hcell, hwz⟩
    · simp [Value.cells] at hcs; obtain ⟨rfl, rfl, rfl⟩ := hcs
      exact ⟨none, 0, 0, [], rfl, .inl ⟨rfl, rfl, rfl, rfl⟩⟩
    · simp [Value.cells] at hcs; obtain ⟨rfl, rfl, rfl⟩ := hcs
      have hz' : zs.length = sc := by simpa using hz
      exact ⟨some x, sl, sc, zs, rfl, .inr ⟨_, rfl, hl, hm, hz', hcell, hwz⟩⟩
  clear hA0 hval0
  refine (walk a0 len0 cap0 z0 W x0).mono fun e W' ⟨he, bel⟩ => ?_
  subst he
  exact ⟨_, rfl, _, _, _, [], _, [], hW', trodAll_mk1 (shut_bool Try.underlying4 _), (trodAll_cons_mk (Below.trod laidOut (by kernel_rfl) (of_decide_eq_true (by kernel_rfl)) k0 bel lt0) trodAll_mk0), rfl, bel.frame _, fun h => by cases h⟩

theorem over : Rows.shaMadeRow.holds Try.pinned (OpenSpec.ofChange Rows.shaMadeSpec) :=
  OpenClaim.holds_of_wide 5 Try.f5 rfl rfl rfl rfl rfl rfl rfl ⟨rfl, rfl, rfl, rfl, rfl⟩ rfl rfl rfl rfl rfl (by kernel_rfl) Try.func5 (by kernel_rfl)
    (of_decide_eq_true (by kernel_rfl)) (by unfold Func.isWrapper; first | (rw [if_pos (by decide +kernel)]; kernel_rfl) | (rw [if_neg (by decide +kernel)]; exact ⟨rfl, rfl⟩))
    (fun os started H enc _ => lifted os started H enc)

end Go.Proofs.Ytkbknghomoombab.shaMade
namespace Go.Proofs.Ytkbknghomoombab
theorem shaMade_holds : Rows.ShaMadeSaid := shaMade.over
#print axioms shaMade_holds
end Go.Proofs.Ytkbknghomoombab
