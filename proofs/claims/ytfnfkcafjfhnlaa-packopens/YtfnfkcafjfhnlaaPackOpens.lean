/-
  Proved: for every list of bytes hawserlaw03.PackOpens answers true: Open answers the document's texts and error, the bytes that are handed in stay, spare room too. No condition but the form's own reach.
-/
import Derived.Test.YtfnfkcafjfhnlaaRows
import Derived.Test.YtfnfkcafjfhnlaaOpA
import Derived.WalkKit
import Derived.ProofKit
import Derived.OpenShut
import Derived.ShutString
import Derived.ChangeOld
import Derived.Below
import Derived.Lib.SmallJoins
import Derived.JoinedCond
import Derived.SizedLaws
namespace Go.Proofs.Ytfnfkcafjfhnlaa.packOpens
open Go.ChangeShapes Go.WideShapes Go.ChangeAt Go.RowKit
set_option linter.unusedVariables false

theorem own : ownKnob Try.prog.godebug = none := by kernel_rfl
theorem laidOut : laidOutB Try.prog = true := by kernel_rfl

/-- What the walk is told of a slice of integers that came in. -/
def IsRow (k : IntKind) (R : Nat) (w : World) (a : Option Addr) (len cap : Nat) (zs : List Int) : Prop :=
  (a = none ∧ len = 0 ∧ cap = 0 ∧ zs = []) ∨
  ∃ x, a = some x ∧ len ≤ cap ∧ cap ≤ R ∧ zs.length = cap ∧ (∀ i, i < zs.length → w.cell? (x.add i) = some (.int k (zs.getD i 0))) ∧ ∀ n ∈ zs, (Lit.int k n).wf = true

theorem lent_seg {w1 : World} {len g : Nat} {xs : List Int} (h : xs.length = len) (hr : Row .u8 5 w1 g (lent xs)) : Seg .u8 w1 (some ⟨g, 0, none⟩) len xs := by
  have := hr.seg len (by rw [lent_length, h]; omega)
  rw [← h, lent_take] at this
  rw [← h]; exact this
theorem row_lt {w : World} {g : Nat} {k : IntKind} {T : TypeId} {xs : List Int} (h : Row k T w g xs) : g < w.heap.size := lt_of_block h
set_option maxRecDepth 20000 in
set_option maxHeartbeats 1000000 in
theorem walk (a0 : Option Addr) (len0 cap0 : Nat) (z0 : List Int) (w : World) (w0 : IsRow .u8 140737488351232 w a0 len0 cap0 z0) :
    Calls Try.prog 7 #[.slice a0 len0 cap0] w fun e w' => e = .returned (.bool true) ∧ Below w.heap.size w w' := by
  obtain ⟨hs, hlc, hR, hwf⟩ := seg_of_row w0
  obtain ⟨xs, hxs⟩ : ∃ xs, xs = z0.take len0 := ⟨_, rfl⟩
  rw [← hxs] at hs hwf
  have hx : Bytes xs := fun i hi => wf_u8 (hwf i hi)
  have HX : Hid (Bytes xs) := hx
  have HS : Hid (Seg .u8 w a0 len0 xs) := hs
  have HL : Hid (len0 ≤ 140737488355328 ∧ len0 ≤ cap0 ∧ cap0 ≤ 9223372036854775807 ∧ len0 + 9 ≤ 9223372036854775807) := ⟨by omega, hlc, by omega, by omega⟩
  clear hxs hwf w0 hx hs hlc hR
  go_enter Try.func7, Try.ntmps7
  go_wp2_with fail
  refine (lend_c a0 len0 cap0 xs w HS.out HX.out HL.out.1).mono ?_
  rintro e w1 ⟨g, rfl, hg, hr, hb⟩
  have H1 : Hid (Row .u8 5 w1 g (lent xs) ∧ Below w.heap.size w w1 ∧ w.heap.size ≤ g ∧ w.heap.size ≤ w1.heap.size) := ⟨hr, hb, hg, hb.size⟩
  have S1 : Hid (Seg .u8 w1 a0 len0 xs ∧ Seg .u8 w1 (some ⟨g, 0, none⟩) len0 xs) := ⟨HS.out.below hb, lent_seg HS.out.1 hr⟩
  clear hg hr hb
  obtain ⟨E, hE⟩ : ∃ E, E = oans xs := ⟨_, rfl⟩
  obtain ⟨n, hn⟩ : ∃ n, n = (oL xs).length := ⟨_, rfl⟩
  have HN : Hid (n ≤ 1048576) := by show n ≤ _; rw [hn]; exact oL_len HX.out
  have HO : Hid (OA 37 (some ⟨g, 0, none⟩) len0 (len0 + 9) xs w1) := open_a _ _ _ _ _ S1.out.2 HX.out (by omega) HL.out.1 HL.out.2.2.2 (fun q => by cases q) (off_lt rfl (row_lt H1.out.1))
  unfold OA at HO
  rw [← hE, ← hn] at HO
  have HEN : Hid (E = oans xs ∧ n = (oL xs).length) := ⟨hE, hn⟩
  clear hE hn
  go_wp2_with (go_at_call 37; go_must (refine (Calls.mono HO.out ?_)); rintro r w2 ⟨va, vc, rfl, h2, _, hb2⟩; have H2 : Hid (StrS w2 va n (oL xs) ∧ Below w1.heap.size w1 w2) := ⟨h2, hb2⟩; clear h2 hb2)
  have HX2 : Hid (OA 38 a0 len0 cap0 xs w2) := open_x _ _ _ _ _ (S1.out.1.below H2.out.2) HX.out HL.out.2.1 HL.out.1 HL.out.2.2.1
  unfold OA at HX2
  rw [← HEN.out.1, ← HEN.out.2] at HX2
  go_wp2_with (first
    | (go_at_call 38; go_must (refine (Calls.mono HX2.out ?_)); rintro r w3 ⟨vb, vd, rfl, h3, _, hb3⟩; have H3 : Hid (StrS w3 va n (oL xs) ∧ StrS w3 vb n (oL xs) ∧ Below w1.heap.size w1 w3) := ⟨H2.out.1.below hb3, h3, H2.out.2.trans (hb3.mono H2.out.2.size)⟩; clear h3 hb3)
    | ((fail_if_success (have z := H4)); go_at_call 35; go_must (refine (Calls.mono (sameS_c va vb n vc vd (oL xs) _ H3.out.1 H3.out.2.1 (by have := HN.out; omega)) ?_)); rintro r w4 ⟨rfl, hb4⟩; have H4 : Hid (Below w1.heap.size w1 w4) := H3.out.2.2.trans (hb4.mono H3.out.2.2.size); clear hb4)
    | (go_at_call 11; go_must (refine (Calls.mono (kept_c g _ a0 len0 cap0 xs _ (H1.out.1.below H4.out (row_lt H1.out.1)) (S1.out.1.below H4.out) HX.out HL.out.1) ?_)); rintro r w5 ⟨rfl, n5, h5⟩; have H5 : Hid (Below w1.heap.size w1 w5) := (by rw [h5]; exact below_drewN H4.out n5); clear h5)
    | (have z := H5; clear z; (fail_if_success (have z := H6)); go_at_call 37; go_must (refine (Calls.mono (zopen w5) ?_)); rintro r w6 ⟨vz, vy, rfl, h6, hb6⟩; have H6 : Hid (StrS w6 vz 2 [ByteArray.empty, sZ] ∧ Below w1.heap.size w1 w6) := ⟨h6, H5.out.trans (hb6.mono H5.out.size)⟩; clear h6 hb6)
    | (have z := H6; clear z; go_at_call 35; go_must (refine (Calls.mono (zsame vz vy w6 H6.out.1) ?_)); rintro r w7 ⟨rfl, hb7⟩; have H7 : Hid (Below w1.heap.size w1 w7) := H6.out.2.trans (hb7.mono H6.out.2.size); clear hb7))
  go_ret
  exact ⟨rfl, H1.out.2.1.trans (H7.out.mono H1.out.2.2.2)⟩

set_option maxRecDepth 100000 in
theorem lifted (os : Os) (started : os.Started) (H : Type) (enc : TypeId × Value → H) :
    ReturnsInHanded {} Try.checked os 7 .any (Rows.packOpensSpec.pre6 enc Try.prog Try.f7 Rows.packOpensRow.domain false) (Rows.packOpensSpec.post enc Try.prog Try.f7 false true false false) := by
  refine returnsInHanded_of_change_sized (C := Try.checked) own started (by kernel_rfl) Try.func7
    (ChangeSpec.witness6 (enc := enc) (C := Try.checked) false ⟨#[], #[.slice none 0 0], []⟩ 8 (by kernel_rfl) (by kernel_rfl) (by kernel_rfl) (by kernel_rfl)) ?_
  intro W base args ds gs before hval0 hW hcnd hsz0 _
  have hsz : (DataW.weightsEach Try.prog (Try.f7.params.toList ++ Rows.packOpensSpec.plain.varTypes Try.prog) (ds ++ gs)).all (· ≤ reachBytes) = true := hsz0
  have hval : ∀ (j : Nat) t v, Try.f7.params[j]? = some t → args[j]? = some v → Value.okWide Try.prog W .any base t v := hval0
  have hW' := hW
  obtain ⟨p, q, hA0, hV, rfl, hfz, hnd⟩ := hW
  have hA : DataW.TrodAll enc Try.prog W 0 (fun _ => true) true Try.f7.params.toList args.toList ds p := hA0
  rw [Try.params7] at hA hval hsz
  obtain ⟨v0, vs0, d0, ds0, p0, q0, hargs, rfl, rfl, h0, r0⟩ := trodAll_cons hA
  obtain ⟨rfl, rfl, rfl⟩ := trodAll_nil r0
  obtain rfl : args = #[v0] := by cases args; simp_all
  obtain ⟨rfl, rfl⟩ := trodVars_none hV
  have k0 := h0
  have lt0 : ∀ x ∈ p0, x.block < W.heap.size := by obtain ⟨m, hm⟩ := k0; exact DataW.trod_lt m _ _ _ hm
  obtain ⟨a0, len0, cap0, z0, rfl, x0⟩ : ∃ a len cap zs, v0 = .slice a len cap ∧ IsRow .u8 140737488351232 W a len cap zs := by
    obtain ⟨sa, sl, sc, rfl⟩ := okWide_slice Try.underlying22 (hval 0 22 v0 rfl rfl)
    obtain ⟨fuel, hf⟩ := h0
    rcases open_ints Try.underlying22 Try.underlying5 (by kernel_rfl) hf with ⟨hcs, _⟩ | ⟨x, l, c, zs, hcs, _, hl, hm, hz, hx, hcell, hwz⟩
    · simp [Value.cells] at hcs; obtain ⟨rfl, rfl, rfl⟩ := hcs
      exact ⟨none, 0, 0, [], rfl, .inl ⟨rfl, rfl, rfl, rfl⟩⟩
    · simp [Value.cells] at hcs; obtain ⟨rfl, rfl, rfl⟩ := hcs
      have hz' : zs.length = sc := by simpa using hz
      have hd : d0 = _ := congrArg Prod.fst hx
      have hb := sized_slice hsz (j := 0) (t := 22) (e := 5) rfl (congrArg some hd) Try.underlying22
      rw [show Try.prog.bytesOf 5 = 1 from by kernel_rfl] at hb
      simp only [lits, List.length_map, List.length_take, List.length_drop, reachBytes] at hb
      exact ⟨some x, sl, sc, zs, rfl, .inr ⟨_, rfl, hl, by omega, hz', hcell, hwz⟩⟩
  clear hA0 hval0
  refine (walk a0 len0 cap0 z0 W x0).mono fun e W' ⟨he, bel⟩ => ?_
  subst he
  exact ⟨_, rfl, _, _, _, [], _, [], hW', trodAll_mk1 (shut_bool Try.underlying4 _), (trodAll_cons_mk (Below.trod laidOut (by kernel_rfl) (of_decide_eq_true (by kernel_rfl)) k0 bel lt0) trodAll_mk0), rfl, bel.frame _, fun h => by cases h⟩

theorem over : Rows.packOpensRow.holds Try.pinned (OpenSpec.ofChange Rows.packOpensSpec) :=
  OpenClaim.holds_of_wide 7 Try.f7 rfl rfl rfl rfl rfl rfl rfl ⟨rfl, rfl, rfl, rfl, rfl⟩ rfl rfl rfl rfl rfl (by kernel_rfl) Try.func7 (by kernel_rfl)
    (of_decide_eq_true (by kernel_rfl)) (by unfold Func.isWrapper; first | (rw [if_pos (by decide +kernel)]; kernel_rfl) | (rw [if_neg (by decide +kernel)]; exact ⟨rfl, rfl⟩))
    (fun os started H enc _ => lifted os started H enc)

end Go.Proofs.Ytfnfkcafjfhnlaa.packOpens
namespace Go.Proofs.Ytfnfkcafjfhnlaa
theorem packOpens_holds : Rows.PackOpensSaid := packOpens.over
#print axioms packOpens_holds
end Go.Proofs.Ytfnfkcafjfhnlaa
