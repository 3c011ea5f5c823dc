/-
  Proved: for every list of bytes and every number with a sign hawserlaw01.LebSkips answers true: Skip answers what the document's Skip does, and what was lent stays as it was, its spare room too. No condition but the form's own reach.
-/
import Derived.Test.YtoihckfmppcbdaaRows
import Derived.Test.YtoihckfmppcbdaaRefSkip
import Derived.Test.YtoihckfmppcbdaaMem
import Derived.SizedLaws
import Derived.WalkKit
import Derived.ProofKit
import Derived.OpenShut
import Derived.ShutString
import Derived.ChangeOld
import Derived.Below
namespace Go.Proofs.Ytoihckfmppcbdaa.lebSkips
open Go.ChangeShapes Go.WideShapes Go.ChangeAt Go.RowKit
open Go.ChangeMaps (open_string shut_string)
set_option linter.unusedVariables false

theorem own : ownKnob Try.prog.godebug = none := by kernel_rfl
theorem laidOut : laidOutB Try.prog = true := by kernel_rfl

/-- WHAT THE WALK IS TOLD OF A SLICE OF INTEGERS THAT CAME IN: it is nil; or it leads to a row of 'cap' cells, the numbers 'zs' (the first 'len' are its elements, the rest its spare room), each fitting its kind. -/
def IsRow (k : IntKind) (R : Nat) (w : World) (a : Option Addr) (len cap : Nat) (zs : List Int) : Prop :=
  (a = none ∧ len = 0 ∧ cap = 0 ∧ zs = []) ∨
  ∃ x, a = some x ∧ len ≤ cap ∧ cap ≤ R ∧ zs.length = cap ∧ (∀ i, i < zs.length → w.cell? (x.add i) = some (.int k (zs.getD i 0))) ∧ ∀ n ∈ zs, (Lit.int k n).wf = true

theorem skip_lit : skipped [5, 128, 1, 7] 2 = (3, 0) := by decide +kernel

set_option maxHeartbeats 400000 in
theorem walk (a0 : Option Addr) (len0 cap0 : Nat) (z0 : List Int) (a1 : Int) (w : World) (w0 : IsRow .u8 140737488351232 w a0 len0 cap0 z0) (w1 : (Lit.int .i64 a1).wf = true) :
    Calls Try.prog 3 #[.slice a0 len0 cap0, .int .i64 a1] w fun e w' => e = .returned (.bool true) ∧ Below w.heap.size w w' := by
  obtain ⟨hs, hlc, hR, hwf⟩ := seg_of_row w0
  have b1 := bounds_i64 w1
  obtain ⟨xs, hxs⟩ : ∃ xs, xs = z0.take len0 := ⟨_, rfl⟩
  rw [← hxs] at hs hwf
  have hx : Bytes xs := fun i hi => wf_u8 (hwf i hi)
  have HX : Hid (Bytes xs) := hx
  have HS : Hid (Seg .u8 w a0 len0 xs) := hs
  clear hxs hwf w0 w1 hx hs
  go_enter Try.func3, Try.ntmps3
  go_wp2_with fail
  refine (lend_c a0 len0 cap0 xs w HS.out HX.out (by omega)).mono ?_
  rintro e w1 ⟨g, rfl, hg, hr, hb⟩
  have HR : Hid (Row .u8 5 w1 g (lent xs)) := hr
  have HB : Hid (Below w.heap.size w w1) := hb
  have HP : Hid (Seg .u8 w1 (some ⟨g, 0, none⟩) len0 xs) := by
    have := hr.seg len0 (by rw [lent_length, HS.out.1]; omega)
    rw [← HS.out.1, lent_take] at this
    rw [← HS.out.1]; exact this
  clear hr hb
  go_wp2_with fail
  refine (skip_c _ len0 (len0 + 9) xs a1 w1 HP.out HX.out (by omega) (by omega) (by omega) (by omega)).mono ?_
  rintro e w2 ⟨rfl, hb2⟩
  have hz := HB.out.size
  have HB2 : Hid (Below w.heap.size w w2) := HB.out.trans (hb2.mono hz)
  have HR2 : Hid (Row .u8 5 w2 g (lent xs)) := HR.out.below hb2 HR.out.lt
  have HS2 : Hid (Seg .u8 w2 a0 len0 xs) := HS.out.below HB2.out
  clear hb2
  go_wp2_with fail
  refine (refskip_c a0 len0 cap0 xs a1 _ HS2.out HX.out (by omega) hlc (by omega) (by omega) (by omega)).mono ?_
  rintro e w3 ⟨rfl, rfl⟩
  go_wp2_with fail
  refine (kept_c g _ a0 len0 cap0 xs _ HR2.out HS2.out HX.out (by omega)).mono ?_
  rintro e w4 ⟨rfl, n, rfl⟩
  go_wp2_with fail
  refine (skip_c _ 4 4 [5, 128, 1, 7] 2 _ ?_ ?_ (by omega) (by omega) (by omega) (by omega)).mono ?_
  · exact seg_at _ _ _ _ _ _ _ (by simp) rfl rfl
  · intro i hi; match i, hi with
      | 0, _ => decide
      | 1, _ => decide
      | 2, _ => decide
      | 3, _ => decide
  · rintro e w5 ⟨rfl, hb5⟩
    rw [skip_lit]
    have HB5 : Hid (Below w.heap.size w w5) := ((below_drewN HB2.out _).alloc (by have := HB2.out.size; simpa using this) _).trans (hb5.mono (by have := HB2.out.size; simp; omega))
    clear hb5
    go_wp2
    go_ret
    exact ⟨rfl, HB5.out⟩

set_option maxRecDepth 100000 in
theorem lifted (os : Os) (started : os.Started) (H : Type) (enc : TypeId × Value → H) :
    ReturnsInHanded {} Try.checked os 3 .any (Rows.lebSkipsSpec.pre6 enc Try.prog Try.f3 Rows.lebSkipsRow.domain false) (Rows.lebSkipsSpec.post enc Try.prog Try.f3 false true false false) := by
  refine returnsInHanded_of_change_sized (C := Try.checked) own started (by kernel_rfl) Try.func3
    (ChangeSpec.witness6 (enc := enc) (C := Try.checked) false ⟨#[], #[.slice none 0 0, .int .i64 0], []⟩ 8 (by kernel_rfl) (by kernel_rfl) (by kernel_rfl) (by kernel_rfl)) ?_
  intro W base args ds gs before hval0 hW hcnd hsz0 _
  have hsz : (DataW.weightsEach Try.prog (Try.f3.params.toList ++ Rows.lebSkipsSpec.plain.varTypes Try.prog) (ds ++ gs)).all (· ≤ reachBytes) = true := hsz0
  have hval : ∀ (j : Nat) t v, Try.f3.params[j]? = some t → args[j]? = some v → Value.okWide Try.prog W .any base t v := hval0
  have hW' := hW
  obtain ⟨p, q, hA0, hV, rfl, hfz, hnd⟩ := hW
  have hA : DataW.TrodAll enc Try.prog W 0 (fun _ => true) true Try.f3.params.toList args.toList ds p := hA0
  rw [Try.params3] at hA hval hsz
  obtain ⟨v0, vs0, d0, ds0, p0, q0, hargs, rfl, rfl, h0, r0⟩ := trodAll_cons hA
  obtain ⟨v1, vs1, d1, ds1, p1, q1, rfl, rfl, rfl, h1, r1⟩ := trodAll_cons r0
  obtain ⟨rfl, rfl, rfl⟩ := trodAll_nil r1
  obtain rfl : args = #[v0, v1] := by cases args; simp_all
  obtain ⟨rfl, rfl⟩ := trodVars_none hV
  obtain ⟨a0, len0, cap0, rfl⟩ := okWide_slice Try.underlying22 (hval 0 22 v0 rfl rfl)
  have k0 := h0
  have lt0 : ∀ x ∈ p0, x.block < W.heap.size := by obtain ⟨m, hm⟩ := k0; exact DataW.trod_lt m _ _ _ hm
  obtain ⟨z0, w0⟩ : ∃ zs, IsRow .u8 140737488351232 W a0 len0 cap0 zs := by
    obtain ⟨fuel, hf⟩ := h0
    rcases open_ints Try.underlying22 Try.underlying5 (by kernel_rfl) hf with ⟨hcs, _⟩ | ⟨x, l, c, zs, hcs, _, hl, hm, hz, hx, hcell, hwz⟩
    · simp [Value.cells] at hcs
      obtain ⟨rfl, rfl, rfl⟩ := hcs
      exact ⟨[], .inl ⟨rfl, rfl, rfl, rfl⟩⟩
    · simp [Value.cells] at hcs
      obtain ⟨rfl, rfl, rfl⟩ := hcs
      have hd : d0 = _ := congrArg Prod.fst hx
      have hb := sized_slice hsz (j := 0) (t := 22) (e := 5) rfl (congrArg some hd) Try.underlying22
      rw [show Try.prog.bytesOf 5 = 1 from by kernel_rfl] at hb
      simp only [lits, List.length_map, List.length_take, List.length_drop, reachBytes] at hb
      have hz' : zs.length = cap0 := by simpa using hz
      exact ⟨zs, .inr ⟨_, rfl, hl, by omega, hz', hcell, hwz⟩⟩
  obtain ⟨a1, rfl, rfl, rfl, w1⟩ := open_int Try.underlying3 (hval 1 3 v1 rfl rfl) h1
  clear hA0 hval0
  refine (walk a0 len0 cap0 z0 a1 W w0 w1).mono fun e W' ⟨he, bel⟩ => ?_
  subst he
  exact ⟨_, rfl, _, _, _, [], _, [], hW', trodAll_mk1 (shut_bool Try.underlying4 _), (trodAll_cons_mk (Below.trod laidOut (by kernel_rfl) (of_decide_eq_true (by kernel_rfl)) k0 bel lt0) (trodAll_cons_mk (shut_int Try.underlying3 w1) trodAll_mk0)), rfl, bel.frame _, fun h => by cases h⟩

theorem over : Rows.lebSkipsRow.holds Try.pinned (OpenSpec.ofChange Rows.lebSkipsSpec) :=
  OpenClaim.holds_of_wide 3 Try.f3 rfl rfl rfl rfl rfl rfl rfl ⟨rfl, rfl, rfl, rfl, rfl⟩ rfl rfl rfl rfl rfl (by kernel_rfl) Try.func3 (by kernel_rfl)
    (of_decide_eq_true (by kernel_rfl)) (by unfold Func.isWrapper; first | (rw [if_pos (by decide +kernel)]; kernel_rfl) | (rw [if_neg (by decide +kernel)]; exact ⟨rfl, rfl⟩))
    (fun os started H enc _ => lifted os started H enc)

end Go.Proofs.Ytoihckfmppcbdaa.lebSkips
namespace Go.Proofs.Ytoihckfmppcbdaa
theorem lebSkips_holds : Rows.LebSkipsSaid := lebSkips.over
#print axioms lebSkips_holds
end Go.Proofs.Ytoihckfmppcbdaa
