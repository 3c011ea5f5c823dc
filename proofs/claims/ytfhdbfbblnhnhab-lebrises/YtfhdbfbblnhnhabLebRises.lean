/-
  Proved: for every two numbers of 64 bits, every two lists of them and every two numbers with a sign hawserlaw01.LebRises answers true: a greater number has no fewer bytes, and of numbers with one sign the farther one from 0 has the greater Zig. No condition.
-/
import Derived.Test.YtfhdbfbblnhnhabRows
import Derived.Test.YtfhdbfbblnhnhabNum
import Derived.Test.YtfhdbfbblnhnhabZig
import Derived.WalkKit
import Derived.ProofKit
import Derived.OpenShut
import Derived.ShutString
import Derived.ChangeOld
import Derived.Below
import Derived.Lib.SmallJoins
import Derived.JoinedCond
import Derived.BigQuiet
import Derived.Deep.QuietTactic
namespace Go.Proofs.Ytfhdbfbblnhnhab.lebRises
open Go.ChangeShapes Go.WideShapes Go.ChangeAt Go.RowKit
open Go.ChangeMaps (open_string shut_string)
set_option linter.unusedVariables false

theorem own : ownKnob Try.prog.godebug = none := by kernel_rfl
theorem laidOut : laidOutB Try.prog = true := by kernel_rfl

/-- What the walk is told of a slice of integers that came in. -/
def IsRow (k : IntKind) (R : Nat) (w : World) (a : Option Addr) (len cap : Nat) (zs : List Int) : Prop :=
  (a = none ∧ len = 0 ∧ cap = 0 ∧ zs = []) ∨
  ∃ x, a = some x ∧ len ≤ cap ∧ cap ≤ R ∧ zs.length = cap ∧ (∀ i, i < zs.length → w.cell? (x.add i) = some (.int k (zs.getD i 0))) ∧ ∀ n ∈ zs, (Lit.int k n).wf = true

theorem one64 (a : Int) (h : 0 ≤ a ∧ a < 18446744073709551616) : Bits64 [a] := fun i hi => by
  simp at hi; subst hi; simpa using h
theorem szs_one (a : Int) : szs [a] = sz a := by simp [szs]
theorem szs_top : szs [9223372036854775808] = 10 := by decide +kernel
theorem szs_two : szs [127, 128] = 3 := by decide +kernel
theorem zig_up (a b : Int) (h : 0 ≤ a ∧ a < b ∨ a < 0 ∧ b < a) : zig a < zig b := by unfold zig; split <;> split <;> omega

set_option maxHeartbeats 1000000 in
theorem walk (V V' : Int) (e2 : Option Addr) (len2 cap2 : Nat) (z2 : List Int) (e3 : Option Addr) (len3 cap3 : Nat) (z3 : List Int) (a1 a2 : Int) (w : World)
    (wV : (Lit.int .u64 V).wf = true) (wV' : (Lit.int .u64 V').wf = true) (x2 : IsRow .u64 maxLen w e2 len2 cap2 z2) (x3 : IsRow .u64 maxLen w e3 len3 cap3 z3) (w1 : (Lit.int .i64 a1).wf = true) (w2 : (Lit.int .i64 a2).wf = true) :
    Calls Try.prog 5 #[.agg #[.int .u64 V, .int .u64 V', .slice e2 len2 cap2, .slice e3 len3 cap3], .int .i64 a1, .int .i64 a2] w fun e w' => e = .returned (.bool true) ∧ Below w.heap.size w w' := by
  have hV := wf_u64 wV
  have hV' := wf_u64 wV'
  have b1 := bounds_i64 w1
  have b2 := bounds_i64 w2
  have hz1 := zig_bd a1 b1.1 b1.2
  have hz2 := zig_bd a2 b2.1 b2.2
  have HZ : Hid (0 ≤ a1 ∧ a1 < a2 ∨ a1 < 0 ∧ a2 < a1 → zig a1 < zig a2) := zig_up a1 a2
  have HT : Hid (Bits64 [9223372036854775808]) := one64 _ ⟨by decide, by decide⟩
  have H2 : Hid (Bits64 [127, 128]) := by
    intro i hi
    match i, hi with
    | 0, _ => decide
    | 1, _ => decide
  clear x2 x3 wV wV' w1 w2
  by_cases hgt : V' < V
  · have hm := sz_mono V' V (by omega)
    have hs := sz_bd V'
    have HA : Hid (Bits64 [V']) := one64 V' hV'
    have HB : Hid (Bits64 [V]) := one64 V hV
    go_enter Try.func5, Try.ntmps5
    go_wp2
    go_quiet (fail)
    go_wp2_with fail
    refine (size_c _ 1 1 [V'] _ ?_ HA.out (by omega)).mono ?_
    exact seg_at _ _ _ _ _ _ _ (by simp) rfl rfl
    rintro e w9 ⟨rfl, rfl⟩
    rw [szs_one]
    go_wp2_with fail
    refine (size_c _ 1 1 [V] _ ?_ HB.out (by omega)).mono ?_
    exact seg_at _ _ _ _ _ _ _ (by simp) rfl rfl
    rintro e w9 ⟨rfl, rfl⟩
    rw [szs_one]
    go_wp2_with fail
    refine (size_c _ 1 1 [V'] _ ?_ HA.out (by omega)).mono ?_
    exact seg_at _ _ _ _ _ _ _ (by simp) rfl rfl
    rintro e w9 ⟨rfl, rfl⟩
    rw [szs_one]
    go_wp2_with fail
    refine (size_c _ 1 1 [9223372036854775808] _ ?_ HT.out (by omega)).mono ?_
    exact seg_at _ _ _ _ _ _ _ (by simp) rfl rfl
    rintro e w9 ⟨rfl, rfl⟩
    rw [szs_top]
    go_wp2_with fail
    refine (size_c _ 2 2 [127, 128] _ ?_ H2.out (by omega)).mono ?_
    exact seg_at _ _ _ _ _ _ _ (by simp) rfl rfl
    rintro e w9 ⟨rfl, rfl⟩
    rw [szs_two]
    by_cases h0 : 0 ≤ a1
    · by_cases h1 : a1 < a2
      · have hlt := HZ.out (.inl ⟨h0, h1⟩)
        go_wp2_with (go_at_call 11; go_must (refine (zig_c _ (by omega) (by omega) _).mono ?_); rintro e w9 ⟨rfl, rfl⟩)
        go_ret
        exact ⟨rfl, by repeat (first | exact Below.refl _ _ | refine below_drewN ?_ _ | refine Below.alloc ?_ (by first | (simp; done) | (simp; omega)) _)⟩
      · go_wp2_with (go_at_call 11; go_must (refine (zig_c _ (by omega) (by omega) _).mono ?_); rintro e w9 ⟨rfl, rfl⟩)
        go_ret
        exact ⟨rfl, by repeat (first | exact Below.refl _ _ | refine below_drewN ?_ _ | refine Below.alloc ?_ (by first | (simp; done) | (simp; omega)) _)⟩
    · by_cases h1 : a2 < a1
      · have hlt := HZ.out (.inr ⟨by omega, h1⟩)
        go_wp2_with (go_at_call 11; go_must (refine (zig_c _ (by omega) (by omega) _).mono ?_); rintro e w9 ⟨rfl, rfl⟩)
        go_ret
        exact ⟨rfl, by repeat (first | exact Below.refl _ _ | refine below_drewN ?_ _ | refine Below.alloc ?_ (by first | (simp; done) | (simp; omega)) _)⟩
      · go_wp2_with (go_at_call 11; go_must (refine (zig_c _ (by omega) (by omega) _).mono ?_); rintro e w9 ⟨rfl, rfl⟩)
        go_ret
        exact ⟨rfl, by repeat (first | exact Below.refl _ _ | refine below_drewN ?_ _ | refine Below.alloc ?_ (by first | (simp; done) | (simp; omega)) _)⟩
  · have hm := sz_mono V V' (by omega)
    have hs := sz_bd V
    have HA : Hid (Bits64 [V]) := one64 V hV
    have HB : Hid (Bits64 [V']) := one64 V' hV'
    go_enter Try.func5, Try.ntmps5
    go_wp2
    go_quiet (fail)
    go_wp2_with fail
    refine (size_c _ 1 1 [V] _ ?_ HA.out (by omega)).mono ?_
    exact seg_at _ _ _ _ _ _ _ (by simp) rfl rfl
    rintro e w9 ⟨rfl, rfl⟩
    rw [szs_one]
    go_wp2_with fail
    refine (size_c _ 1 1 [V'] _ ?_ HB.out (by omega)).mono ?_
    exact seg_at _ _ _ _ _ _ _ (by simp) rfl rfl
    rintro e w9 ⟨rfl, rfl⟩
    rw [szs_one]
    go_wp2_with fail
    refine (size_c _ 1 1 [V] _ ?_ HA.out (by omega)).mono ?_
    exact seg_at _ _ _ _ _ _ _ (by simp) rfl rfl
    rintro e w9 ⟨rfl, rfl⟩
    rw [szs_one]
    go_wp2_with fail
    refine (size_c _ 1 1 [9223372036854775808] _ ?_ HT.out (by omega)).mono ?_
    exact seg_at _ _ _ _ _ _ _ (by simp) rfl rfl
    rintro e w9 ⟨rfl, rfl⟩
    rw [szs_top]
    go_wp2_with fail
    refine (size_c _ 2 2 [127, 128] _ ?_ H2.out (by omega)).mono ?_
    exact seg_at _ _ _ _ _ _ _ (by simp) rfl rfl
    rintro e w9 ⟨rfl, rfl⟩
    rw [szs_two]
    by_cases h0 : 0 ≤ a1
    · by_cases h1 : a1 < a2
      · have hlt := HZ.out (.inl ⟨h0, h1⟩)
        go_wp2_with (go_at_call 11; go_must (refine (zig_c _ (by omega) (by omega) _).mono ?_); rintro e w9 ⟨rfl, rfl⟩)
        go_ret
        exact ⟨rfl, by repeat (first | exact Below.refl _ _ | refine below_drewN ?_ _ | refine Below.alloc ?_ (by first | (simp; done) | (simp; omega)) _)⟩
      · go_wp2_with (go_at_call 11; go_must (refine (zig_c _ (by omega) (by omega) _).mono ?_); rintro e w9 ⟨rfl, rfl⟩)
        go_ret
        exact ⟨rfl, by repeat (first | exact Below.refl _ _ | refine below_drewN ?_ _ | refine Below.alloc ?_ (by first | (simp; done) | (simp; omega)) _)⟩
    · by_cases h1 : a2 < a1
      · have hlt := HZ.out (.inr ⟨by omega, h1⟩)
        go_wp2_with (go_at_call 11; go_must (refine (zig_c _ (by omega) (by omega) _).mono ?_); rintro e w9 ⟨rfl, rfl⟩)
        go_ret
        exact ⟨rfl, by repeat (first | exact Below.refl _ _ | refine below_drewN ?_ _ | refine Below.alloc ?_ (by first | (simp; done) | (simp; omega)) _)⟩
      · go_wp2_with (go_at_call 11; go_must (refine (zig_c _ (by omega) (by omega) _).mono ?_); rintro e w9 ⟨rfl, rfl⟩)
        go_ret
        exact ⟨rfl, by repeat (first | exact Below.refl _ _ | refine below_drewN ?_ _ | refine Below.alloc ?_ (by first | (simp; done) | (simp; omega)) _)⟩

set_option maxRecDepth 100000 in
theorem lifted (os : Os) (started : os.Started) (H : Type) (enc : TypeId × Value → H) :
    ReturnsInHanded {} Try.checked os 5 .any (Rows.lebRisesSpec.pre6 enc Try.prog Try.f5 Rows.lebRisesRow.domain false) (Rows.lebRisesSpec.post enc Try.prog Try.f5 false true false false) := by
  refine returnsInHanded_of_change (C := Try.checked) own started (by kernel_rfl) Try.func5
    (ChangeSpec.witness6 (enc := enc) (C := Try.checked) false ⟨#[], #[.agg #[.int .u64 0, .int .u64 0, .slice none 0 0, .slice none 0 0], .int .i64 0, .int .i64 0], []⟩ 8 (by kernel_rfl) (by kernel_rfl) (by kernel_rfl) (by kernel_rfl)) ?_
  intro W base args ds gs before hval0 hW hcnd _
  have hval : ∀ (j : Nat) t v, Try.f5.params[j]? = some t → args[j]? = some v → Value.okWide Try.prog W .any base t v := hval0
  have hW' := hW
  obtain ⟨p, q, hA0, hV, rfl, hfz, hnd⟩ := hW
  have hA : DataW.TrodAll enc Try.prog W 0 (fun _ => true) true Try.f5.params.toList args.toList ds p := hA0
  rw [Try.params5] at hA hval
  obtain ⟨v0, vs0, d0, ds0, p0, q0, hargs, rfl, rfl, h0, r0⟩ := trodAll_cons hA
  obtain ⟨v1, vs1, d1, ds1, p1, q1, rfl, rfl, rfl, h1, r1⟩ := trodAll_cons r0
  obtain ⟨v2, vs2, d2, ds2, p2, q2, rfl, rfl, rfl, h2, r2⟩ := trodAll_cons r1
  obtain ⟨rfl, rfl, rfl⟩ := trodAll_nil r2
  obtain rfl : args = #[v0, v1, v2] := by cases args; simp_all
  obtain ⟨rfl, rfl⟩ := trodVars_none hV
  have k0 := h0
  have lt0 : ∀ x ∈ p0, x.block < W.heap.size := by obtain ⟨m, hm⟩ := k0; exact DataW.trod_lt m _ _ _ hm
  obtain ⟨c0, c1, c2, c3, y0, y1, y2, y3, m, rfl, hd0, hp0, hy0, hy1, hy2, hy3⟩ := Go.Joins.open_agg4 Try.underlying34 (by kernel_rfl) (by kernel_rfl) (hval 0 34 v0 rfl rfl) h0
  obtain ⟨V, eV, _, wV⟩ := DataW.trod_int Try.underlying22 hy0
  obtain ⟨V', eV', _, wV'⟩ := DataW.trod_int Try.underlying22 hy1
  simp at eV eV'
  subst eV eV'
  obtain ⟨e2, len2, cap2, z2, rfl, x2⟩ : ∃ a len cap zs, c2 = .slice a len cap ∧ IsRow .u64 maxLen W a len cap zs := by
    rcases open_ints Try.underlying32 Try.underlying22 (by kernel_rfl) hy2 with ⟨hcs, _⟩ | ⟨x, l, c, zs, hcs, _, hl, hm, hz, hx, hcell, hwz⟩
    · simp at hcs; subst hcs
      exact ⟨none, 0, 0, [], rfl, .inl ⟨rfl, rfl, rfl, rfl⟩⟩
    · simp at hcs; subst hcs
      have hz' : zs.length = c := by simpa using hz
      exact ⟨some x, l, c, zs, rfl, .inr ⟨_, rfl, hl, hm, hz', hcell, hwz⟩⟩
  obtain ⟨e3, len3, cap3, z3, rfl, x3⟩ : ∃ a len cap zs, c3 = .slice a len cap ∧ IsRow .u64 maxLen W a len cap zs := by
    rcases open_ints Try.underlying32 Try.underlying22 (by kernel_rfl) hy3 with ⟨hcs, _⟩ | ⟨x, l, c, zs, hcs, _, hl, hm, hz, hx, hcell, hwz⟩
    · simp at hcs; subst hcs
      exact ⟨none, 0, 0, [], rfl, .inl ⟨rfl, rfl, rfl, rfl⟩⟩
    · simp at hcs; subst hcs
      have hz' : zs.length = c := by simpa using hz
      exact ⟨some x, l, c, zs, rfl, .inr ⟨_, rfl, hl, hm, hz', hcell, hwz⟩⟩
  obtain ⟨a1, rfl, rfl, rfl, w1⟩ := open_int Try.underlying3 (hval 1 3 v1 rfl rfl) h1
  obtain ⟨a2, rfl, rfl, rfl, w2⟩ := open_int Try.underlying3 (hval 2 3 v2 rfl rfl) h2
  clear hA0 hval0
  refine (walk V V' e2 len2 cap2 z2 e3 len3 cap3 z3 a1 a2 W wV wV' x2 x3 w1 w2).mono fun e W' ⟨he, bel⟩ => ?_
  subst he
  exact ⟨_, rfl, _, _, _, [], _, [], hW', trodAll_mk1 (shut_bool Try.underlying4 _), (trodAll_cons_mk (Below.trod laidOut (by kernel_rfl) (of_decide_eq_true (by kernel_rfl)) k0 bel lt0) (trodAll_cons_mk (shut_int Try.underlying3 w1) (trodAll_cons_mk (shut_int Try.underlying3 w2) trodAll_mk0))), rfl, bel.frame _, fun h => by cases h⟩

theorem over : Rows.lebRisesRow.holds Try.pinned (OpenSpec.ofChange Rows.lebRisesSpec) :=
  OpenClaim.holds_of_wide 5 Try.f5 rfl rfl rfl rfl rfl rfl rfl ⟨rfl, rfl, rfl, rfl, rfl⟩ rfl rfl rfl rfl rfl (by kernel_rfl) Try.func5 (by kernel_rfl)
    (of_decide_eq_true (by kernel_rfl)) (by unfold Func.isWrapper; first | (rw [if_pos (by decide +kernel)]; kernel_rfl) | (rw [if_neg (by decide +kernel)]; exact ⟨rfl, rfl⟩))
    (fun os started H enc _ => lifted os started H enc)

end Go.Proofs.Ytfhdbfbblnhnhab.lebRises
namespace Go.Proofs.Ytfhdbfbblnhnhab
theorem lebRises_holds : Rows.LebRisesSaid := lebRises.over
#print axioms lebRises_holds
end Go.Proofs.Ytfhdbfbblnhnhab
