/-
  Proved: for every list of bytes within the form's own bulk, hawserlaw08.DeltaSplits answers true: Split answers the document's updates and place, and the bytes stay. No condition but the form's own bulk.
-/
import Derived.Test.YtmpedbddbknndaaRows
import Derived.Test.YtmpedbddbknndaaGb
import Derived.WalkKit
import Derived.ProofKit
import Derived.OpenShut
import Derived.ShutString
import Derived.ChangeOld
import Derived.Below
import Derived.Lib.SmallJoins
import Derived.JoinedCond
namespace Go.Proofs.Ytmpedbddbknndaa.deltaSplits
open Go.ChangeShapes Go.WideShapes Go.ChangeAt Go.RowKit
set_option linter.unusedVariables false

theorem own : ownKnob Try.prog.godebug = none := by kernel_rfl
theorem laidOut : laidOutB Try.prog = true := by kernel_rfl

/-- What the walk is told of a slice of integers that came in. -/
def IsRow (k : IntKind) (R : Nat) (w : World) (a : Option Addr) (len cap : Nat) (zs : List Int) : Prop :=
  (a = none ∧ len = 0 ∧ cap = 0 ∧ zs = []) ∨
  ∃ x, a = some x ∧ len ≤ cap ∧ cap ≤ R ∧ zs.length = cap ∧ (∀ i, i < zs.length → w.cell? (x.add i) = some (.int k (zs.getD i 0))) ∧ ∀ n ∈ zs, (Lit.int k n).wf = true

end Go.Proofs.Ytmpedbddbknndaa.deltaSplits
namespace Go.Proofs.Ytmpedbddbknndaa.Dl
open Go.RowKit
set_option linter.unusedVariables false
def litS : List Int := [6, 1, 1, 1, 2, 1, 97, 6]
def litU : Upd := ⟨1, 1, 1, 2, { data := #[97] }, .empty, 0⟩
theorem litS_bytes : Bytes litS := by unfold Bytes; decide
theorem litU_err : litU.err = 0 := by decide +kernel
theorem litU_one : one litU = [6, 1, 1, 1, 2, 1, 97] := by
  have eb : litU.bytes = [1, 1, 1, 2, 1, 97] := by
    unfold Upd.bytes updB updA litU
    have e1 : enc 1 = [1] := enc_small (by omega)
    have e2 : enc 2 = [2] := enc_small (by omega)
    have z : ByteArray.size { data := #[97] } = 1 := rfl
    simp [e1, e2, z, sb]
  unfold one
  rw [eb, show ([1, 1, 1, 2, 1, 97] : List Int).length = 6 from rfl, enc_small (by omega)]
  rfl
theorem one_two (u : Upd) : 2 ≤ (one u).length := by
  unfold one
  rw [List.length_append]
  have h1 := enc_pos u.bytes.length
  have h2 : 1 ≤ u.bytes.length := by
    unfold Upd.bytes updB updA
    simp only [List.length_append]
    have := enc_pos u.q.toNat
    omega
  omega
theorem litS_is : SplitIs litS [litU] 7 := by
  refine ⟨by decide, ?_, fun u hu => ?_, fun u rest hu e => ?_⟩
  · rw [List.flatMap_cons, List.flatMap_nil, List.append_nil, litU_one]; rfl
  · simp at hu; subst hu; exact litU_err
  · have h := congrArg List.length e
    rw [List.length_append] at h
    have := one_two u
    have : (litS.drop 7).length = 1 := rfl
    omega
theorem litS_seg (w : World) : Seg .u8 (w.alloc (.cells #[.int .u8 6, .int .u8 1, .int .u8 1, .int .u8 1, .int .u8 2, .int .u8 1, .int .u8 97, .int .u8 6] 5 (8, 9))) (some ⟨w.heap.size, 0, none⟩) 8 litS := by
  refine ⟨rfl, .inr ⟨w.heap.size, 0, rfl, by simp, fun i hi => ?_⟩⟩
  rw [Nat.zero_add, World.cell?_alloc_mark]
  rcases (by omega : i = 0 ∨ i = 1 ∨ i = 2 ∨ i = 3 ∨ i = 4 ∨ i = 5 ∨ i = 6 ∨ i = 7) with rfl | rfl | rfl | rfl | rfl | rfl | rfl | rfl <;> rfl
theorem litS_split (w : World) : Calls Try.prog 19 #[.slice (some ⟨w.heap.size, 0, none⟩) 8 8] (w.alloc (.cells #[.int .u8 6, .int .u8 1, .int .u8 1, .int .u8 1, .int .u8 2, .int .u8 1, .int .u8 97, .int .u8 6] 5 (8, 9))) fun r w' => ∃ la lc, r = .returned (.tuple #[.slice la 1 lc, .int .i64 7]) ∧ w.grownBy w' none := by
  have h := split_c (some ⟨w.heap.size, 0, none⟩) 8 8 litS _ (litS_seg w) litS_bytes (by omega) (fun q => by cases q)
  refine h.mono ?_
  rintro r w' ⟨v, L, p, rfl, h1, h2, h3⟩
  obtain ⟨rfl, rfl⟩ := h1.uniq litS_is
  obtain ⟨la, lc, rfl, _⟩ := own_upds h2
  exact ⟨la, lc, rfl, gb_trans (gb_alloc _ _) (below_gb h3)⟩
/-- What is known along the way. -/
def SN (w W : World) (al : Option Addr) (a : Option Addr) (len : Nat) (xs : List Int) : Prop := Seg .u8 W al len xs ∧ Seg .u8 W a len xs ∧ w.grownBy W none
theorem SN.new {w W W' al a len xs} (h : SN w W al a len xs) (hg : W.grownBy W' none) : SN w W' al a len xs := ⟨h.1.grew hg (by simp), h.2.1.grew hg (by simp), gb_trans h.2.2 hg⟩
set_option maxRecDepth 20000 in
set_option maxHeartbeats 4000000 in
theorem splits_walk (a : Option Addr) (len cap : Nat) (xs : List Int) (w : World) (hs : Seg .u8 w a len xs) (hx : Bytes xs) (hlc : len ≤ cap) (hl : len ≤ 1048576) (hnz : a = none → cap = 0) :
    Calls Try.prog 6 #[.slice a len cap] w fun e w' => e = .returned (.bool true) ∧ Below w.heap.size w w' := by
  have HS : Hid (Seg .u8 w a len xs ∧ Bytes xs ∧ len ≤ cap ∧ len ≤ 1048576 ∧ (a = none → cap = 0) ∧ xs.length = len) := ⟨hs, hx, hlc, hl, hnz, hs.1⟩
  have HP : Hid (∀ al cl W, SN w W al a len xs → (al = none → cl = 0) → Calls Try.prog 19 #[.slice al len cl] W fun r w' => ∃ la lc L p, r = .returned (.tuple #[.slice la L.length lc, .int .i64 ((p : Nat) : Int)]) ∧ SplitIs xs L p ∧ Upds w' la L.length L ∧ SN w w' al a len xs) := fun al cl W hW hz => by
    refine (split_c al len cl xs W hW.1 hx (by omega) hz).mono ?_
    rintro r w' ⟨v, L, p, rfl, h1, h2, h3⟩
    obtain ⟨la, lc, rfl, h4⟩ := own_upds h2
    exact ⟨la, lc, L, p, rfl, h1, h4, hW.new (below_gb h3)⟩
  have HG : Hid (∀ al L p la W, SN w W al a len xs → SplitIs xs L p → Upds W la L.length L → Calls Try.prog 20 #[.slice a len cap] W fun r w' => ∃ ga gc, r = .returned (.tuple #[.slice ga L.length gc, .int .i64 ((p : Nat) : Int)]) ∧ Upds w' ga L.length L ∧ Upds w' la L.length L ∧ SN w w' al a len xs) := fun al L p la W hW hsp hU => by
    refine (gsplit_c a len cap xs W hW.2.1 hx (by omega) hlc).mono ?_
    rintro r w' ⟨v, M, q, rfl, h1, h2, h3⟩
    obtain ⟨rfl, rfl⟩ := h1.uniq hsp
    obtain ⟨ga, gc, rfl, h4⟩ := own_upds h2
    exact ⟨ga, gc, rfl, h4, hU.below h3, hW.new (below_gb h3)⟩
  clear hs hx hlc hl hnz
  go_enter Try.func6, Try.ntmps6
  go_wp2_with (first
    | ((fail_if_success (have z := H1)); at_builtin; go_must (refine wpList_append_apart _ rfl _ (.tmp 10) rfl w.heap.size 0 (.slice none 0 0) [] rfl (own_nil _ _) a len cap xs rfl HS.out.2.2.2.2.1 HS.out.1 (by have := HS.out.2.2.2.1; omega) (Nat.le_refl _) ?_); intro v1 w1 ho hg _; rw [Nat.zero_add, List.nil_append] at ho; obtain ⟨al, cl, rfl, hsl, hln, _⟩ := ho.seg; have hgb := below_gb ((Below.refl _ _).grown hg (Nat.le_refl _) (fun k hk => by cases hk)); have H1 : Hid (SN w w1 al a len xs ∧ (al = none → cl = 0)) := ⟨⟨hsl, HS.out.1.grew hgb (by simp), hgb⟩, hln⟩; clear ho hg hsl hln hgb)
    | ((fail_if_success (have z := H2)); have z := H1; clear z; go_at_call 19; go_must (refine (Calls.mono (HP.out al cl _ H1.out.1 H1.out.2) ?_)); rintro r w2 ⟨la, lc, L, p, rfl, h1, h2, h3⟩; have H2 : Hid (SplitIs xs L p ∧ Upds w2 la L.length L ∧ SN w w2 al a len xs ∧ L.length ≤ 1073741824) := ⟨h1, h2, h3, by have := h1.few; have := h1.le; have := HS.out.2.2.2; omega⟩; clear h1 h2 h3)
    | ((fail_if_success (have z := H3)); have z := H2; clear z; go_at_call 20; go_must (refine (Calls.mono (HG.out al L p la _ H2.out.2.2.1 H2.out.1 H2.out.2.1) ?_)); rintro r w3 ⟨ga, gc, rfl, h1, h2, h3⟩; have H3 : Hid (Upds w3 ga L.length L ∧ Upds w3 la L.length L ∧ SN w w3 al a len xs) := ⟨h1, h2, h3⟩; have hcv := Go.Joins.run_convert_bytes_const_at (P := Try.prog) w3 27 5 #[.int .u8 6, .int .u8 1, .int .u8 1, .int .u8 1, .int .u8 2, .int .u8 1, .int .u8 97, .int .u8 6] 8 8 w3.heap.size rfl Try.underlying27 Try.underlying5; clear h1 h2 h3)
    | ((fail_if_success (have z := H4)); have z := H3; clear z; go_at_call 19; go_must (refine (Calls.mono (litS_split _) ?_)); rintro r w4 ⟨ka, kc, rfl, h⟩; have H4 : Hid (Upds w4 ga L.length L ∧ Upds w4 la L.length L ∧ SN w w4 al a len xs) := ⟨H3.out.1.below (gb_below h), H3.out.2.1.below (gb_below h), H3.out.2.2.new h⟩; clear h)
    | ((fail_if_success (have z := H5)); have z := H4; clear z; go_at_call 18; go_must (refine (Calls.mono (sameU_c la ga L.length lc gc L _ H4.out.2.1 H4.out.1 H2.out.2.2.2) ?_)); rintro r w5 ⟨rfl, h⟩; have H5 : Hid (SN w w5 al a len xs) := H4.out.2.2.new h; have s1 := seg_string (P := Try.prog) 27 9 5 cl H5.out.1 Try.underlying27 Try.underlying5 Try.underlying9; have s2 := seg_string (P := Try.prog) 27 9 5 cap H5.out.2.1 Try.underlying27 Try.underlying5 Try.underlying9; generalize strOfNums xs = S at s1 s2; clear h))
  go_ret
  exact ⟨rfl, gb_below H5.out.2.2⟩
end Go.Proofs.Ytmpedbddbknndaa.Dl
namespace Go.Proofs.Ytmpedbddbknndaa.deltaSplits
open Go.ChangeShapes Go.WideShapes Go.ChangeAt Go.RowKit
set_option linter.unusedVariables false
theorem walk (a0 : Option Addr) (len0 cap0 : Nat) (z0 : List Int) (w : World) (w0 : IsRow .u8 1048576 w a0 len0 cap0 z0) :
    Calls Try.prog 6 #[.slice a0 len0 cap0] w fun e w' => e = .returned (.bool true) ∧ Below w.heap.size w w' := by
  obtain ⟨hs, hlc, hR, hwf⟩ := seg_of_row w0
  have hnz : a0 = none → cap0 = 0 := by
    intro q
    rcases w0 with ⟨_, _, q2, _⟩ | ⟨x, q2, _⟩
    · exact q2
    · rw [q] at q2; cases q2
  exact Dl.splits_walk a0 len0 cap0 _ w hs (fun i hi => wf_u8 (hwf i hi)) hlc (by omega) hnz

theorem bulk_len {H : Type} (l : List (DataW H)) : l.length ≤ Rows.uptoBulkAll l := by
  induction l with
  | nil => simp
  | cons d r ih =>
    have : 1 ≤ Rows.uptoBulk d := by
      cases d with
      | lit x => cases x <;> simp [Rows.uptoBulk]
      | _ => simp [Rows.uptoBulk]
    simp only [Rows.uptoBulkAll, List.length_cons]; omega
theorem bulk_mem {H : Type} {d : DataW H} {l : List (DataW H)} (h : d ∈ l) : Rows.uptoBulk d ≤ Rows.uptoBulkAll l := by
  induction l with
  | nil => cases h
  | cons x r ih =>
    simp only [Rows.uptoBulkAll]
    rcases List.mem_cons.1 h with rfl | h
    · omega
    · have := ih h; omega
theorem bulk_slice {H : Type} {ds : List (DataW H)} {d : DataW H} {l r : List (DataW H)} (hk : Rows.uptoSmall H ds = true) (hd : d ∈ ds) (e : d = .slice l r) : l.length + r.length ≤ 1048576 := by
  have h0 : Rows.uptoBulkAll ds ≤ 1048576 := of_decide_eq_true hk
  have h1 := bulk_mem hd
  have h3 := bulk_len l
  have h4 := bulk_len r
  rw [e] at h1
  simp only [Rows.uptoBulk] at h1
  omega

set_option maxRecDepth 100000 in
theorem lifted (os : Os) (started : os.Started) (H : Type) (enc : TypeId × Value → H) (F : Stop.Interp) :
    ReturnsInHanded {} Try.checked os 6 .any ((Rows.OpenSpec.upto Rows.deltaSplitsSpec).pre6 enc Try.prog Try.f6 Rows.deltaSplitsUptoRow.domain false) (((Rows.OpenSpec.upto Rows.deltaSplitsSpec).at F).post enc Try.prog Try.f6 false true false false) := by
  refine returnsInHanded_of_cond (C := Try.checked) (s := Rows.OpenSpec.upto Rows.deltaSplitsSpec) (k := Rows.uptoSmall) rfl own started (by kernel_rfl) Try.func6
    (OpenSpec.witness (enc := enc) (C := Try.checked) (s := Rows.OpenSpec.upto Rows.deltaSplitsSpec) (k := Rows.uptoSmall) rfl false ⟨#[], #[.slice none 0 0], []⟩ 8 (by kernel_rfl) (by kernel_rfl) (by kernel_rfl)
      (x := ([.nil], [], [])) (by kernel_rfl) rfl (by kernel_rfl)) ?_
  intro W base args ds gs before hval0 hW hcnd hk _
  have hval : ∀ (j : Nat) t v, Try.f6.params[j]? = some t → args[j]? = some v → Value.okWide Try.prog W .any base t v := hval0
  have hW' := hW
  obtain ⟨p, q, hA0, hV, rfl, hfz, hnd⟩ := hW
  have hA : DataW.TrodAll enc Try.prog W 0 (fun _ => true) true Try.f6.params.toList args.toList ds p := hA0
  rw [Try.params6] at hA hval
  obtain ⟨v0, vs0, d0, ds0, p0, q0, hargs, rfl, rfl, h0, r0⟩ := trodAll_cons hA
  obtain ⟨rfl, rfl, rfl⟩ := trodAll_nil r0
  obtain rfl : args = #[v0] := by cases args; simp_all
  obtain ⟨rfl, rfl⟩ := trodVars_none hV
  have k0 := h0
  have lt0 : ∀ x ∈ p0, x.block < W.heap.size := by obtain ⟨m, hm⟩ := k0; exact DataW.trod_lt m _ _ _ hm
  obtain ⟨a0, len0, cap0, z0, rfl, x0⟩ : ∃ a len cap zs, v0 = .slice a len cap ∧ IsRow .u8 1048576 W a len cap zs := by
    obtain ⟨sa, sl, sc, rfl⟩ := okWide_slice Try.underlying27 (hval 0 27 v0 rfl rfl)
    obtain ⟨fuel, hf⟩ := h0
    rcases open_ints Try.underlying27 Try.underlying5 (by kernel_rfl) hf with ⟨hcs, _⟩ | ⟨x, l, c, zs, hcs, _, hl, hm, hz, hx, hcell, hwz⟩
    · simp [Value.cells] at hcs; obtain ⟨rfl, rfl, rfl⟩ := hcs
      exact ⟨none, 0, 0, [], rfl, .inl ⟨rfl, rfl, rfl, rfl⟩⟩
    · simp [Value.cells] at hcs; obtain ⟨rfl, rfl, rfl⟩ := hcs
      have hz' : zs.length = sc := by simpa using hz
      have hd : d0 = _ := congrArg Prod.fst hx
      have hb := bulk_slice hk (show d0 ∈ _ by simp) hd
      simp only [lits, List.length_map, List.length_take, List.length_drop] at hb
      exact ⟨some x, sl, sc, zs, rfl, .inr ⟨_, rfl, hl, by omega, hz', hcell, hwz⟩⟩
  clear hA0 hval0
  refine (walk a0 len0 cap0 z0 W x0).mono fun e W' ⟨he, bel⟩ => ?_
  subst he
  exact ⟨_, rfl, _, _, _, [], _, [], hW', trodAll_mk1 (shut_bool Try.underlying4 _), (trodAll_cons_mk (Below.trod laidOut (by kernel_rfl) (of_decide_eq_true (by kernel_rfl)) k0 bel lt0) trodAll_mk0), rfl, bel.frame _, fun h => by cases h⟩

theorem over : Rows.deltaSplitsUptoRow.holds Try.pinned (Rows.OpenSpec.upto Rows.deltaSplitsSpec) :=
  OpenClaim.holds_of_cond 6 Try.f6 rfl rfl rfl rfl rfl rfl rfl ⟨rfl, rfl, rfl, rfl, rfl⟩ rfl rfl rfl rfl rfl (by kernel_rfl) Try.func6 (by kernel_rfl)
    (of_decide_eq_true (by kernel_rfl)) (by unfold Func.isWrapper; first | (rw [if_pos (by decide +kernel)]; kernel_rfl) | (rw [if_neg (by decide +kernel)]; exact ⟨rfl, rfl⟩))
    (fun os started H enc _ F => lifted os started H enc F)

end Go.Proofs.Ytmpedbddbknndaa.deltaSplits
namespace Go.Proofs.Ytmpedbddbknndaa
theorem deltaSplits_holds : Rows.DeltaSplitsUptoSaid := deltaSplits.over
#print axioms deltaSplits_holds
end Go.Proofs.Ytmpedbddbknndaa
