/-
  Proved: for every configuration, hawserlaw16.ConfigBytes answers true: Encode is the document's; the configuration stays. Condition: the form's own reach.
-/
import Derived.Test.YtekefbbjocekiaaRows
import Derived.Test.YtekefbbjocekiaaCHg
import Derived.WalkKit
import Derived.ProofKit
import Derived.OpenShut
import Derived.ShutString
import Derived.ChangeOld
import Derived.Below
import Derived.Lib.SmallJoins
import Derived.JoinedCond
import Derived.SizedLaws
namespace Go.Proofs.Ytekefbbjocekiaa.configBytes
open Go.ChangeShapes Go.WideShapes Go.ChangeAt Go.RowKit
set_option linter.unusedVariables false

theorem own : ownKnob Try.prog.godebug = none := by kernel_rfl
theorem laidOut : laidOutB Try.prog = true := by kernel_rfl

/-- What the walk is told of a slice of integers that came in. -/
def IsRow (k : IntKind) (R : Nat) (w : World) (a : Option Addr) (len cap : Nat) (zs : List Int) : Prop :=
  (a = none ∧ len = 0 ∧ cap = 0 ∧ zs = []) ∨
  ∃ x, a = some x ∧ len ≤ cap ∧ cap ≤ R ∧ zs.length = cap ∧ (∀ i, i < zs.length → w.cell? (x.add i) = some (.int k (zs.getD i 0))) ∧ ∀ n ∈ zs, (Lit.int k n).wf = true

theorem row_nil {k : IntKind} {R : Nat} {w : World} {a : Option Addr} {len cap : Nat} {zs : List Int} (h : IsRow k R w a len cap zs) : a = none → cap = 0 := by
  rcases h with ⟨_, _, h, _⟩ | ⟨x, h, _⟩
  · exact fun _ => h
  · intro h'; rw [h] at h'; cases h'
set_option maxRecDepth 20000 in
set_option maxHeartbeats 8000000 in
theorem walk (e : Int) (a : Option Addr) (n c : Nat) (zs : List Int) (w : World) (w0 : (Lit.int .i64 e).wf = true) (x0 : IsRow .i64 17592186043904 w a n c zs) :
    Calls Try.prog 8 #[.agg #[.int .i64 e, .slice a n c]] w fun r w' => r = .returned (.bool true) ∧ Below w.heap.size w w' := by
  obtain ⟨hs, hlc, hcr, hwf⟩ := seg_of_row x0
  have hnz := row_nil x0
  have hn : n ≤ 17592186044000 := by omega
  obtain ⟨xs, hxs⟩ : ∃ xs, xs = zs.take n := ⟨_, rfl⟩
  rw [← hxs] at hs
  clear hxs hwf x0 w0
  have HT : Hid _ := twin_c e a n c xs _ (hs.below (alloc_b w (.cells #[.int .i64 e, .slice a n c] 27))) hnz hn
  have HB : Hid (Kn [(w.heap.size, 27, e, .slice a n c)] w (w.alloc (.cells #[.int .i64 e, .slice a n c] 27))) := Kn.of (CfB.new _ _ _ _) (alloc_b _ _)
  have HPL : Hid (∀ W, Calls Try.prog 15 #[.agg #[.int .i64 e, .slice a n c]] W fun r w' => r = .returned (.agg #[.int .i64 e, .slice a n c]) ∧ Below W.heap.size W w') := plain_c e a n c
  have HNU : Hid (∀ e W, Calls Try.prog 9 #[.int .i64 e] W fun r w' => r = .returned (.int .i64 e) ∧ w' = W) := fun e W => num_c e W
  have HEN : Hid (∀ W g cap, Seg .i64 W (some ⟨g, 0, none⟩) n xs → Calls Try.prog 33 #[.agg #[.int .i64 e, .slice (some ⟨g, 0, none⟩) n cap]] W (EncA W e xs)) := fun W g cap h => enc_any e _ n cap xs W h
  have HQE : Hid (∀ W, Below w.heap.size w W → Calls Try.prog 34 #[.agg #[.int .i64 e, .slice a n c]] W (EncA W e xs)) := fun W hb => qenc_any e a n c xs W (hs.below hb) hlc
  have HLIT : Hid (∀ (b : Nat) (W : World), b = W.heap.size → Calls Try.prog 33 #[.agg #[.int .i64 4, .slice (some ⟨b, 0, none⟩) 3 3]] (W.alloc (.cells #[.int .i64 2, .int .i64 5, .int .i64 1] 3)) fun r w' => ∃ a' c', r = .returned (.tuple #[.slice a' 5 c', .int .i64 0]) ∧ Seg .u8 w' a' [4, 3, 2, 5, 1].length [4, 3, 2, 5, 1] ∧ Below (W.alloc (.cells #[.int .i64 2, .int .i64 5, .int .i64 1] 3)).heap.size (W.alloc (.cells #[.int .i64 2, .int .i64 5, .int .i64 1] 3)) w') := by
    show ∀ (b : Nat) (W : World), _
    intro b W hb
    subst hb
    refine (enc_any 4 (some ⟨W.heap.size, 0, none⟩) 3 3 [2, 5, 1] _ (seg_new W .i64 _ _ 3 [2, 5, 1] rfl rfl)).mono ?_
    rintro r w' ⟨a', c', h1, h2, h3⟩
    rw [cBu_lit.1] at h1 h2
    rw [cBu_lit.2] at h1
    exact ⟨a', c', h1, h2, h3⟩
  have HKP : Hid (∀ W g cap, OwI 0 W (.slice (some ⟨g, 0, none⟩) (n + 3) cap) (n + 3) (xs ++ [-71, -72, -73]) → n + 3 ≤ cap → Below w.heap.size w W → Calls Try.prog 17 #[.agg #[.int .i64 e, .slice (some ⟨g, 0, none⟩) n cap], .agg #[.int .i64 e, .slice a n c]] W fun r w' => r = .returned (.bool true) ∧ Below W.heap.size W w') := fun W g cap h1 h2 h3 => kept_c 0 e g cap a n c xs W h1 h2 (hs.below h3) hn
  have HS : Hid (Seg .i64 w a n xs ∧ xs.length = n) := ⟨hs, hs.1⟩
  clear hs hlc hcr hnz hn
  go_enter Try.func8, Try.ntmps8
  go_wp2_with (first
    | (go_at_call 11; go_must (refine (Calls.mono HT.out ?_)); rintro r w1 ⟨g, cap, rfl, ho, hcap, hb⟩; have HCAP : Hid (n + 3 ≤ cap) := hcap; have H1 : Hid (Kn [(w.heap.size, 27, e, .slice a n c)] w w1 ∧ OwI 0 w1 (.slice (some ⟨g, 0, none⟩) (n + 3) cap) (n + 3) (xs ++ [-71, -72, -73])) := ⟨HB.out.below hb, ho.base (Nat.zero_le _)⟩; clear ho hcap hb)
    | (have z := H4; clear z; go_at_call 33; go_must (refine (Calls.mono (HLIT.out _ _ rfl) ?_)); rintro r w5 ⟨a5, c5, rfl, ho, hb⟩; go_must (have H5 : Hid (Kn [(w1.heap.size, 27, e, .slice (some ⟨g, 0, none⟩) n cap), (w.heap.size, 27, e, .slice a n c)] w w5 ∧ OwI 0 w5 (.slice (some ⟨g, 0, none⟩) (n + 3) cap) (n + 3) (xs ++ [-71, -72, -73]) ∧ Seg .u8 w5 a2 (cBu e xs).length (cBu e xs) ∧ Seg .u8 w5 a4 (cBu e xs).length (cBu e xs) ∧ Seg .u8 w5 a5 [4, 3, 2, 5, 1].length [4, 3, 2, 5, 1]) := ⟨(H4.out.1.below (alloc_b _ _)).below hb, (H4.out.2.1.below (alloc_b _ _)).below hb, (H4.out.2.2.1.below (alloc_b _ _)).below hb, (H4.out.2.2.2.below (alloc_b _ _)).below hb, ho⟩); have t1 := cstr (c := c2) H5.out.2.2.1; have t2 := cstr (c := c4) H5.out.2.2.2.1; have q50a := H5.out.1.c0 0 rfl; have q50b := H5.out.1.c1 0 rfl; have q51a := H5.out.1.c0 1 rfl; have q51b := H5.out.1.c1 1 rfl; clear ho hb)
    | (go_at_call 33; go_must (refine (Calls.mono (HEN.out _ _ _ ((H1.out.2.marks HS.out.2).1.below (alloc_b _ _))) ?_)); rintro r w2 ⟨a2, c2, rfl, ho, hb⟩; go_must (have H2 : Hid (Kn [(w1.heap.size, 27, e, .slice (some ⟨g, 0, none⟩) n cap), (w.heap.size, 27, e, .slice a n c)] w w2 ∧ OwI 0 w2 (.slice (some ⟨g, 0, none⟩) (n + 3) cap) (n + 3) (xs ++ [-71, -72, -73]) ∧ Seg .u8 w2 a2 (cBu e xs).length (cBu e xs)) := ⟨(H1.out.1.add 27 e (.slice (some ⟨g, 0, none⟩) n cap)).below hb, (H1.out.2.below (alloc_b _ _)).below hb, ho⟩); have q20a := H2.out.1.c0 0 rfl; have q20b := H2.out.1.c1 0 rfl; have q21a := H2.out.1.c0 1 rfl; have q21b := H2.out.1.c1 1 rfl; clear ho hb)
    | (go_at_call 15; go_must (refine (Calls.mono (HPL.out _) ?_)); rintro r w3 ⟨rfl, hb⟩; go_must (have H3 : Hid (Kn [(w1.heap.size, 27, e, .slice (some ⟨g, 0, none⟩) n cap), (w.heap.size, 27, e, .slice a n c)] w w3 ∧ OwI 0 w3 (.slice (some ⟨g, 0, none⟩) (n + 3) cap) (n + 3) (xs ++ [-71, -72, -73]) ∧ Seg .u8 w3 a2 (cBu e xs).length (cBu e xs)) := ⟨H2.out.1.below hb, H2.out.2.1.below hb, H2.out.2.2.below hb⟩); clear hb)
    | (go_at_call 34; go_must (refine (Calls.mono (HQE.out _ H3.out.1.2) ?_)); rintro r w4 ⟨a4, c4, rfl, ho, hb⟩; go_must (have H4 : Hid (Kn [(w1.heap.size, 27, e, .slice (some ⟨g, 0, none⟩) n cap), (w.heap.size, 27, e, .slice a n c)] w w4 ∧ OwI 0 w4 (.slice (some ⟨g, 0, none⟩) (n + 3) cap) (n + 3) (xs ++ [-71, -72, -73]) ∧ Seg .u8 w4 a2 (cBu e xs).length (cBu e xs) ∧ Seg .u8 w4 a4 (cBu e xs).length (cBu e xs)) := ⟨H3.out.1.below hb, H3.out.2.1.below hb, H3.out.2.2.below hb, ho⟩); clear ho hb)
    | (go_at_call 17; go_must (refine (Calls.mono (HKP.out _ _ _ H5.out.2.1 HCAP.out H5.out.1.2) ?_)); rintro r w6 ⟨rfl, hb⟩; go_must (have H6 : Hid (Kn [(w1.heap.size, 27, e, .slice (some ⟨g, 0, none⟩) n cap), (w.heap.size, 27, e, .slice a n c)] w w6 ∧ OwI 0 w6 (.slice (some ⟨g, 0, none⟩) (n + 3) cap) (n + 3) (xs ++ [-71, -72, -73]) ∧ Seg .u8 w6 a2 (cBu e xs).length (cBu e xs) ∧ Seg .u8 w6 a4 (cBu e xs).length (cBu e xs) ∧ Seg .u8 w6 a5 [4, 3, 2, 5, 1].length [4, 3, 2, 5, 1]) := ⟨H5.out.1.below hb, H5.out.2.1.below hb, H5.out.2.2.1.below hb, H5.out.2.2.2.1.below hb, H5.out.2.2.2.2.below hb⟩); have t3 := cstr5 (c := c5) H6.out.2.2.2.2; clear hb)
    | (go_at_call 9; go_must (refine (Calls.mono (HNU.out _ _) ?_)); rintro r wq ⟨rfl, hq⟩; obtain rfl := hq.symm; clear hq))
  go_ret
  exact ⟨rfl, H6.out.1.2⟩

set_option maxRecDepth 100000 in
theorem lifted (os : Os) (started : os.Started) (H : Type) (enc : TypeId × Value → H) :
    ReturnsInHanded {} Try.checked os 8 .any (Rows.configBytesSpec.pre6 enc Try.prog Try.f8 Rows.configBytesRow.domain false) (Rows.configBytesSpec.post enc Try.prog Try.f8 false true false false) := by
  refine returnsInHanded_of_change_sized (C := Try.checked) own started (by kernel_rfl) Try.func8
    (ChangeSpec.witness6 (enc := enc) (C := Try.checked) false ⟨#[], #[.agg #[.int .i64 0, .slice none 0 0]], []⟩ 8 (by kernel_rfl) (by kernel_rfl) (by kernel_rfl) (by kernel_rfl)) ?_
  intro W base args ds gs before hval0 hW hcnd hsz0 _
  have hsz : (DataW.weightsEach Try.prog (Try.f8.params.toList ++ Rows.configBytesSpec.plain.varTypes Try.prog) (ds ++ gs)).all (· ≤ reachBytes) = true := hsz0
  have hval : ∀ (j : Nat) t v, Try.f8.params[j]? = some t → args[j]? = some v → Value.okWide Try.prog W .any base t v := hval0
  have hW' := hW
  obtain ⟨p, q, hA0, hV, rfl, hfz, hnd⟩ := hW
  have hA : DataW.TrodAll enc Try.prog W 0 (fun _ => true) true Try.f8.params.toList args.toList ds p := hA0
  rw [Try.params8] at hA hval hsz
  obtain ⟨v0, vs0, d0, ds0, p0, q0, hargs, rfl, rfl, h0, r0⟩ := trodAll_cons hA
  obtain ⟨rfl, rfl, rfl⟩ := trodAll_nil r0
  obtain rfl : args = #[v0] := by cases args; simp_all
  obtain ⟨rfl, rfl⟩ := trodVars_none hV
  have k0 := h0
  have lt0 : ∀ x ∈ p0, x.block < W.heap.size := by obtain ⟨m, hm⟩ := k0; exact DataW.trod_lt m _ _ _ hm
  obtain ⟨c00, c10, y00, y10, m0, rfl, hd0, hp0, hy00, hy10⟩ := Go.Joins.open_agg2 Try.underlying27 (by kernel_rfl) (by kernel_rfl) (hval 0 27 v0 rfl rfl) h0
  obtain ⟨T0, eT0, _, wT0⟩ := DataW.trod_int Try.underlying3 hy00
  simp at eT0
  subst eT0
  obtain ⟨a0, len0, cap0, z0, rfl, x0⟩ : ∃ a len cap zs, c10 = .slice a len cap ∧ IsRow .i64 17592186043904 W a len cap zs := by
    rcases open_ints Try.underlying25 Try.underlying3 (by kernel_rfl) hy10 with ⟨hcs, _⟩ | ⟨x, l, c, zs, hcs, _, hl, hm, hz, hx, hcell, hwz⟩
    · simp at hcs
      exact ⟨none, 0, 0, [], hcs, .inl ⟨rfl, rfl, rfl, rfl⟩⟩
    · simp at hcs
      have hz' : zs.length = c := by simpa using hz
      have hdz : y10.1 = _ := congrArg Prod.fst hx
      have hb := List.all_eq_true.1 hsz _ (DataW.weights_mem_each (j := 0) (t := 27) (ts := Try.f8.params.toList ++ Rows.configBytesSpec.plain.varTypes Try.prog) rfl rfl (((lits (H := H) .i64 (zs.take l)).length + (lits (H := H) .i64 (zs.drop l)).length) * 8) (by rw [hd0, hdz]; simp [DataW.weights, DataW.weightsEach, Try.underlying27, Try.underlying25, show Try.prog.bytesOf 3 = 8 from by kernel_rfl]))
      simp only [lits, List.length_map, List.length_take, List.length_drop, reachBytes, decide_eq_true_eq] at hb
      exact ⟨some x, l, c, zs, hcs, .inr ⟨_, rfl, hl, by omega, hz', hcell, hwz⟩⟩
  clear hA0 hval0
  refine (walk T0 a0 len0 cap0 z0 W wT0 x0).mono fun e W' ⟨he, bel⟩ => ?_
  subst he
  exact ⟨_, rfl, _, _, _, [], _, [], hW', trodAll_mk1 (shut_bool Try.underlying4 _), (trodAll_cons_mk (Below.trod laidOut (by kernel_rfl) (of_decide_eq_true (by kernel_rfl)) k0 bel lt0) trodAll_mk0), rfl, bel.frame _, fun h => by cases h⟩

theorem over : Rows.configBytesRow.holds Try.pinned (OpenSpec.ofChange Rows.configBytesSpec) :=
  OpenClaim.holds_of_wide 8 Try.f8 rfl rfl rfl rfl rfl rfl rfl ⟨rfl, rfl, rfl, rfl, rfl⟩ rfl rfl rfl rfl rfl (by kernel_rfl) Try.func8 (by kernel_rfl)
    (of_decide_eq_true (by kernel_rfl)) (by unfold Func.isWrapper; first | (rw [if_pos (by decide +kernel)]; kernel_rfl) | (rw [if_neg (by decide +kernel)]; exact ⟨rfl, rfl⟩))
    (fun os started H enc _ => lifted os started H enc)

end Go.Proofs.Ytekefbbjocekiaa.configBytes
namespace Go.Proofs.Ytekefbbjocekiaa
theorem configBytes_holds : Rows.ConfigBytesSaid := configBytes.over
#print axioms configBytes_holds
end Go.Proofs.Ytekefbbjocekiaa
