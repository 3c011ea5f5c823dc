/-
  Proved: for every list of bytes, hawserlaw09.ImagePeeks answers true: Peek and Room answer what the document's do, and what was lent stays as it was, its spare room too. No condition but the form's own reach.
-/
import Derived.Test.YteilmkibbdlnoaaRows
import Derived.Test.YteilmkibbdlnoaaIPx
import Derived.WalkKit
import Derived.ProofKit
import Derived.OpenShut
import Derived.ShutString
import Derived.ChangeOld
import Derived.Below
import Derived.Lib.SmallJoins
import Derived.JoinedCond
import Derived.SizedLaws
namespace Go.Proofs.Yteilmkibbdlnoaa.imagePeeks
open Go.ChangeShapes Go.WideShapes Go.ChangeAt Go.RowKit
set_option linter.unusedVariables false

theorem own : ownKnob Try.prog.godebug = none := by kernel_rfl
theorem laidOut : laidOutB Try.prog = true := by kernel_rfl

/-- What the walk is told of a slice of integers that came in. -/
def IsRow (k : IntKind) (R : Nat) (w : World) (a : Option Addr) (len cap : Nat) (zs : List Int) : Prop :=
  (a = none ∧ len = 0 ∧ cap = 0 ∧ zs = []) ∨
  ∃ x, a = some x ∧ len ≤ cap ∧ cap ≤ R ∧ zs.length = cap ∧ (∀ i, i < zs.length → w.cell? (x.add i) = some (.int k (zs.getD i 0))) ∧ ∀ n ∈ zs, (Lit.int k n).wf = true

def lit6 : List Int := [104, 119, 105, 49, 7, 1]
def lit15 : List Int := [104, 119, 105, 49, 7, 5, 0, 0, 0, 0, 0, 0, 0, 0, 0]
theorem lit6_is : pk lit6 = (7, 1, 6, 0) := by decide +kernel
theorem lit15_is : rm lit15 = 1 := by decide +kernel
theorem lit6_bytes : Bytes lit6 := by unfold Bytes; decide
theorem lit15_bytes : Bytes lit15 := by unfold Bytes; decide
def v6 : Array Value := #[.int .u8 104, .int .u8 119, .int .u8 105, .int .u8 49, .int .u8 7, .int .u8 1]
def v15 : Array Value := #[.int .u8 104, .int .u8 119, .int .u8 105, .int .u8 49, .int .u8 7, .int .u8 5, .int .u8 0, .int .u8 0, .int .u8 0, .int .u8 0, .int .u8 0, .int .u8 0, .int .u8 0, .int .u8 0, .int .u8 0]
theorem lit_seg (w : World) (vs : Array Value) (n m : Nat) (l : List Int) (hl : l.length = n) (h : ∀ i, i < n → vs[i]? = some (.int .u8 (l[i]?.getD 0))) : Seg .u8 (w.alloc (.cells vs 5 (n, m))) (some ⟨w.heap.size, 0, none⟩) n l := by
  refine ⟨hl, .inr ⟨w.heap.size, 0, rfl, by simp, fun i hi => ?_⟩⟩
  rw [Nat.zero_add, World.cell?_alloc_mark]
  exact h i hi
theorem lit6_peek (w : World) : Calls Try.prog 5 #[.slice (some ⟨w.heap.size, 0, none⟩) 6 6] (w.alloc (.cells #[.int .u8 104, .int .u8 119, .int .u8 105, .int .u8 49, .int .u8 7, .int .u8 1] 5 (6, 7))) fun r w' => r = .returned (.tuple #[.int .i64 7, .int .i64 1, .int .i64 0]) ∧ w.grownBy w' none := by
  have k := peek_c (some ⟨w.heap.size, 0, none⟩) 6 6 lit6 _ (lit_seg w v6 6 7 lit6 rfl (fun i hi => by rcases (by omega : i = 0 ∨ i = 1 ∨ i = 2 ∨ i = 3 ∨ i = 4 ∨ i = 5) with rfl | rfl | rfl | rfl | rfl | rfl <;> rfl)) lit6_bytes (by omega) (by omega) (fun e => by cases e)
  rw [lit6_is] at k
  exact k.mono fun r w' ⟨h1, h2⟩ => ⟨h1, gb_trans (World.grownBy_alloc _ _ _) h2⟩
theorem lit15_room (w : World) : Calls Try.prog 7 #[.slice (some ⟨w.heap.size, 0, none⟩) 15 15] (w.alloc (.cells #[.int .u8 104, .int .u8 119, .int .u8 105, .int .u8 49, .int .u8 7, .int .u8 5, .int .u8 0, .int .u8 0, .int .u8 0, .int .u8 0, .int .u8 0, .int .u8 0, .int .u8 0, .int .u8 0, .int .u8 0] 5 (15, 16))) fun r w' => r = .returned (.int .i64 1) ∧ w.grownBy w' none := by
  have k := room_c (some ⟨w.heap.size, 0, none⟩) 15 15 lit15 _ (lit_seg w v15 15 16 lit15 rfl (fun i hi => by rcases (by omega : i = 0 ∨ i = 1 ∨ i = 2 ∨ i = 3 ∨ i = 4 ∨ i = 5 ∨ i = 6 ∨ i = 7 ∨ i = 8 ∨ i = 9 ∨ i = 10 ∨ i = 11 ∨ i = 12 ∨ i = 13 ∨ i = 14) with rfl | rfl | rfl | rfl | rfl | rfl | rfl | rfl | rfl | rfl | rfl | rfl | rfl | rfl | rfl <;> rfl)) lit15_bytes (by omega) (by omega) (fun e => by cases e)
  rw [lit15_is] at k
  exact k.mono fun r w' ⟨h1, h2⟩ => ⟨h1, gb_trans (World.grownBy_alloc _ _ _) h2⟩
/-- What is known along the way. -/
def IN (w W : World) (g : Nat) (a : Option Addr) (len : Nat) (xs : List Int) : Prop := Row .u8 5 W g (lent xs) ∧ Seg .u8 W (some ⟨g, 0, none⟩) len xs ∧ Seg .u8 W a len xs ∧ w.grownBy W none
theorem IN.new {w W W' g a len xs} (h : IN w W g a len xs) (hg : W.grownBy W' none) : IN w W' g a len xs :=
  ⟨(hg.block g (lt_of_block h.1) (by simp)).trans h.1, h.2.1.grew hg (by simp), h.2.2.1.grew hg (by simp), gb_trans h.2.2.2 hg⟩
set_option maxRecDepth 20000 in
set_option maxHeartbeats 2000000 in
theorem walk (a0 : Option Addr) (len0 cap0 : Nat) (z0 : List Int) (w : World) (w0 : IsRow .u8 140737488351232 w a0 len0 cap0 z0) :
    Calls Try.prog 3 #[.slice a0 len0 cap0] w fun e w' => e = .returned (.bool true) ∧ Below w.heap.size w w' := by
  obtain ⟨hs, hlc, hR, hwf⟩ := seg_of_row w0
  have hnz : a0 = none → cap0 = 0 := by
    intro q
    rcases w0 with ⟨_, _, q2, _⟩ | ⟨x, q2, _⟩
    · exact q2
    · rw [q] at q2; cases q2
  obtain ⟨xs, hxs⟩ : ∃ xs, xs = z0.take len0 := ⟨_, rfl⟩
  rw [← hxs] at hs hwf
  have hx : Bytes xs := fun i hi => wf_u8 (hwf i hi)
  obtain ⟨V, n, q, E, hk⟩ : ∃ V n q e, pk xs = (V, n, q, e) := ⟨_, _, _, _, rfl⟩
  obtain ⟨R, hRm⟩ : ∃ R, R = rm xs := ⟨_, rfl⟩
  have HLN : Hid (Calls Try.prog 4 #[.slice a0 len0 cap0] w fun e w' => ∃ g, e = .returned (.tuple #[.slice (some ⟨g, 0, none⟩) (len0 + 9) (len0 + 9), .slice (some ⟨g, 0, none⟩) len0 (len0 + 9)]) ∧ IN w w' g a0 len0 xs) := by
    refine (lend_c a0 len0 cap0 xs w hs hx (by omega)).mono ?_
    rintro e w1 ⟨g, rfl, hg, hr, hb⟩
    refine ⟨g, rfl, hr, ?_, hs.below hb, grownBy_below hb none⟩
    have := hr.seg len0 (by rw [lent_length, hs.1]; omega)
    rw [← hs.1, lent_take] at this
    rw [← hs.1]; exact this
  have HPK : Hid (∀ g W, IN w W g a0 len0 xs → Calls Try.prog 5 #[.slice (some ⟨g, 0, none⟩) len0 (len0 + 9)] W fun r w' => r = .returned (.tuple #[.int .i64 V, .int .i64 n, .int .i64 E]) ∧ IN w w' g a0 len0 xs) := fun g W h => by
    have k := peek_c (some ⟨g, 0, none⟩) len0 (len0 + 9) xs W h.2.1 hx (by omega) (by omega) (fun e => by cases e)
    rw [hk] at k
    exact k.mono fun r w' ⟨h1, h2⟩ => ⟨h1, h.new h2⟩
  have HPG : Hid (∀ g W, IN w W g a0 len0 xs → Calls Try.prog 6 #[.slice a0 len0 cap0] W fun r w' => r = .returned (.tuple #[.int .i64 V, .int .i64 n, .int .i64 (q : Int), .int .i64 E]) ∧ IN w w' g a0 len0 xs) := fun g W h => by
    have k := gpeek_c a0 len0 cap0 xs W h.2.2.1 hx (by omega) hlc (by omega)
    unfold HA at k
    rw [hk] at k
    exact k.mono fun r w' ⟨h1, h2⟩ => ⟨h1, h.new h2⟩
  have HRK : Hid (∀ g W, IN w W g a0 len0 xs → Calls Try.prog 7 #[.slice (some ⟨g, 0, none⟩) len0 (len0 + 9)] W fun r w' => r = .returned (.int .i64 R) ∧ IN w w' g a0 len0 xs) := fun g W h => by
    have k := room_c (some ⟨g, 0, none⟩) len0 (len0 + 9) xs W h.2.1 hx (by omega) (by omega) (fun e => by cases e)
    rw [← hRm] at k
    exact k.mono fun r w' ⟨h1, h2⟩ => ⟨h1, h.new h2⟩
  have HRG : Hid (∀ g W, IN w W g a0 len0 xs → Calls Try.prog 8 #[.slice a0 len0 cap0] W fun r w' => r = .returned (.int .i64 R) ∧ IN w w' g a0 len0 xs) := fun g W h => by
    have k := groom_c a0 len0 cap0 xs W h.2.2.1 hx (by omega) hlc (by omega)
    rw [← hRm] at k
    exact k.mono fun r w' ⟨h1, h2⟩ => ⟨h1, h.new h2⟩
  have HKE : Hid (∀ g c W, IN w W g a0 len0 xs → Calls Try.prog 9 #[.slice (some ⟨g, 0, none⟩) (len0 + 9) c, .slice a0 len0 cap0] W fun r w' => r = .returned (.bool true) ∧ IN w w' g a0 len0 xs) := fun g c W h => by
    refine (kept_c g c a0 len0 cap0 xs W h.1 h.2.2.1 hx (by omega)).mono ?_
    rintro r w' ⟨h1, n, rfl⟩
    exact ⟨h1, h.new (gb_drewN (World.grownBy.refl _ _) n)⟩
  clear hs hlc hR hwf hnz hxs hx hk hRm w0
  go_enter Try.func3, Try.ntmps3
  go_wp2_with (first
    | (go_at_call 4; go_must (refine (Calls.mono HLN.out ?_)); rintro r w1 ⟨g, rfl, h⟩; have H1 : Hid (IN w w1 g a0 len0 xs) := h; clear h)
    | ((fail_if_success (have z := H2)); have z := H1; clear z; go_at_call 5; go_must (refine (Calls.mono (HPK.out _ _ H1.out) ?_)); rintro r w2 ⟨rfl, h⟩; have H2 : Hid (IN w w2 g a0 len0 xs) := h; clear h)
    | ((fail_if_success (have z := H3)); have z := H2; clear z; go_at_call 6; go_must (refine (Calls.mono (HPG.out _ _ H2.out) ?_)); rintro r w3 ⟨rfl, h⟩; have H3 : Hid (IN w w3 g a0 len0 xs) := h; clear h)
    | ((fail_if_success (have z := H4)); have z := H3; clear z; go_at_call 7; go_must (refine (Calls.mono (HRK.out _ _ H3.out) ?_)); rintro r w4 ⟨rfl, h⟩; have H4 : Hid (IN w w4 g a0 len0 xs) := h; clear h)
    | ((fail_if_success (have z := H5)); have z := H4; clear z; go_at_call 8; go_must (refine (Calls.mono (HRG.out _ _ H4.out) ?_)); rintro r w5 ⟨rfl, h⟩; have H5 : Hid (IN w w5 g a0 len0 xs) := h; clear h)
    | ((fail_if_success (have z := H6)); have z := H5; clear z; go_at_call 9; go_must (refine (Calls.mono (HKE.out _ _ _ H5.out) ?_)); rintro r w6 ⟨rfl, h⟩; have H6 : Hid (w.grownBy w6 none) := h.2.2.2; have hcv := Go.Joins.run_convert_bytes_const_at (P := Try.prog) w6 22 5 #[.int .u8 104, .int .u8 119, .int .u8 105, .int .u8 49, .int .u8 7, .int .u8 1] 6 6 w6.heap.size rfl Try.underlying22 Try.underlying5; clear h)
    | ((fail_if_success (have z := H7)); have z := H6; clear z; go_at_call 5; go_must (refine (Calls.mono (lit6_peek _) ?_)); rintro r w7 ⟨rfl, h⟩; have H7 : Hid (w.grownBy w7 none) := gb_trans H6.out h; have hcv2 := Go.Joins.run_convert_bytes_const_at (P := Try.prog) w7 22 5 #[.int .u8 104, .int .u8 119, .int .u8 105, .int .u8 49, .int .u8 7, .int .u8 5, .int .u8 0, .int .u8 0, .int .u8 0, .int .u8 0, .int .u8 0, .int .u8 0, .int .u8 0, .int .u8 0, .int .u8 0] 15 15 w7.heap.size rfl Try.underlying22 Try.underlying5; clear h)
    | ((fail_if_success (have z := H8)); have z := H7; clear z; go_at_call 7; go_must (refine (Calls.mono (lit15_room _) ?_)); rintro r w8 ⟨rfl, h⟩; have H8 : Hid (w.grownBy w8 none) := gb_trans H7.out h; clear h))
  go_ret
  exact ⟨rfl, ⟨H8.out.os, H8.out.tape, H8.out.output, H8.out.size, fun i hi => H8.out.block i hi (by simp)⟩⟩

set_option maxRecDepth 100000 in
theorem lifted (os : Os) (started : os.Started) (H : Type) (enc : TypeId × Value → H) :
    ReturnsInHanded {} Try.checked os 3 .any (Rows.imagePeeksSpec.pre6 enc Try.prog Try.f3 Rows.imagePeeksRow.domain false) (Rows.imagePeeksSpec.post enc Try.prog Try.f3 false true false false) := by
  refine returnsInHanded_of_change_sized (C := Try.checked) own started (by kernel_rfl) Try.func3
    (ChangeSpec.witness6 (enc := enc) (C := Try.checked) false ⟨#[], #[.slice none 0 0], []⟩ 8 (by kernel_rfl) (by kernel_rfl) (by kernel_rfl) (by kernel_rfl)) ?_
  intro W base args ds gs before hval0 hW hcnd hsz0 _
  have hsz : (DataW.weightsEach Try.prog (Try.f3.params.toList ++ Rows.imagePeeksSpec.plain.varTypes Try.prog) (ds ++ gs)).all (· ≤ reachBytes) = true := hsz0
  have hval : ∀ (j : Nat) t v, Try.f3.params[j]? = some t → args[j]? = some v → Value.okWide Try.prog W .any base t v := hval0
  have hW' := hW
  obtain ⟨p, q, hA0, hV, rfl, hfz, hnd⟩ := hW
  have hA : DataW.TrodAll enc Try.prog W 0 (fun _ => true) true Try.f3.params.toList args.toList ds p := hA0
  rw [Try.params3] at hA hval hsz
  obtain ⟨v0, vs0, d0, ds0, p0, q0, hargs, rfl, rfl, h0, r0⟩ := trodAll_cons hA
  obtain ⟨rfl, rfl, rfl⟩ := trodAll_nil r0
  obtain rfl : args = #[v0] := by cases args; simp_all
  obtain ⟨rfl, rfl⟩ := trodVars_none hV
  have k0 := h0
  have lt0 : ∀ x ∈ p0, x.block < W.heap.size := by obtain ⟨m, hm⟩ := k0; exact DataW.trod_lt m _ _ _ hm
  obtain ⟨a0, len0, cap0, z0, rfl, x0⟩ : ∃ a len cap zs, v0 = .slice a len cap ∧ IsRow .u8 140737488351232 W a len cap zs := by
    obtain ⟨sa, sl, sc, rfl⟩ := okWide_slice Try.underlying22 (hval 0 22 v0 rfl rfl)
    obtain ⟨fuel, hf⟩ := h0
    rcases open_ints Try.underlying22 Try.underlying5 (by kernel_rfl) hf with ⟨hcs, _⟩ | ⟨x, l, c, zs, hcs, _, hl, hm, hz, hx, hcell, hwz⟩
    · simp [Value.cells] at hcs; obtain ⟨rfl, rfl, rfl⟩ := hcs
      exact ⟨none, 0, 0, [], rfl, .inl ⟨rfl, rfl, rfl, rfl⟩⟩
    · simp [Value.cells] at hcs; obtain ⟨rfl, rfl, rfl⟩ := hcs
      have hz' : zs.length = sc := by simpa using hz
      have hd : d0 = _ := congrArg Prod.fst hx
      have hb := sized_slice hsz (j := 0) (t := 22) (e := 5) rfl (congrArg some hd) Try.underlying22
      rw [show Try.prog.bytesOf 5 = 1 from by kernel_rfl] at hb
      simp only [lits, List.length_map, List.length_take, List.length_drop, reachBytes] at hb
      exact ⟨some x, sl, sc, zs, rfl, .inr ⟨_, rfl, hl, by omega, hz', hcell, hwz⟩⟩
  clear hA0 hval0
  refine (walk a0 len0 cap0 z0 W x0).mono fun e W' ⟨he, bel⟩ => ?_
  subst he
  exact ⟨_, rfl, _, _, _, [], _, [], hW', trodAll_mk1 (shut_bool Try.underlying4 _), (trodAll_cons_mk (Below.trod laidOut (by kernel_rfl) (of_decide_eq_true (by kernel_rfl)) k0 bel lt0) trodAll_mk0), rfl, bel.frame _, fun h => by cases h⟩

theorem over : Rows.imagePeeksRow.holds Try.pinned (OpenSpec.ofChange Rows.imagePeeksSpec) :=
  OpenClaim.holds_of_wide 3 Try.f3 rfl rfl rfl rfl rfl rfl rfl ⟨rfl, rfl, rfl, rfl, rfl⟩ rfl rfl rfl rfl rfl (by kernel_rfl) Try.func3 (by kernel_rfl)
    (of_decide_eq_true (by kernel_rfl)) (by unfold Func.isWrapper; first | (rw [if_pos (by decide +kernel)]; kernel_rfl) | (rw [if_neg (by decide +kernel)]; exact ⟨rfl, rfl⟩))
    (fun os started H enc _ => lifted os started H enc)

end Go.Proofs.Yteilmkibbdlnoaa.imagePeeks
namespace Go.Proofs.Yteilmkibbdlnoaa
theorem imagePeeks_holds : Rows.ImagePeeksSaid := imagePeeks.over
#print axioms imagePeeks_holds
end Go.Proofs.Yteilmkibbdlnoaa
