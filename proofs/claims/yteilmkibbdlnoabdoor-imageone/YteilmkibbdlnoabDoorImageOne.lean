/-
  Proved: for every list of bytes, hawserlaw09.ImageOne answers true: what Decode reads is written as the same bytes, and what it refuses tells nothing. No condition but the form's own reach (the card ties the table of package crc to the program's text).
-/
import Derived.Test.YteilmkibbdlnoabDoorRows
import Derived.Test.YteilmkibbdlnoabDoorCards
import Derived.Test.YteilmkibbdlnoabDoorTie
import Derived.Test.YteilmkibbdlnoabDoorIDc
import Derived.Test.YteilmkibbdlnoabDoorILv
import Derived.Test.YteilmkibbdlnoabDoorCrA
import Derived.WalkKit
import Derived.ProofKit
import Derived.OpenShut
import Derived.ShutString
import Derived.ChangeOld
import Derived.Below
import Derived.Lib.SmallJoins
import Derived.JoinedCond
import Derived.SizedLaws
import Derived.Deep.DeepHandedRow
import Derived.Lib.LaidTab
namespace Go.Proofs.YteilmkibbdlnoabDoor.imageOne
open Go.ChangeShapes Go.WideShapes Go.ChangeAt Go.RowKit
set_option linter.unusedVariables false

theorem own : ownKnob Tryd.prog.godebug = none := by kernel_rfl
theorem laidOut : laidOutB Tryd.prog = true := by kernel_rfl

/-- What the walk is told of a slice of integers that came in. -/
def IsRow (k : IntKind) (R : Nat) (w : World) (a : Option Addr) (len cap : Nat) (zs : List Int) : Prop :=
  (a = none ∧ len = 0 ∧ cap = 0 ∧ zs = []) ∨
  ∃ x, a = some x ∧ len ≤ cap ∧ cap ≤ R ∧ zs.length = cap ∧ (∀ i, i < zs.length → w.cell? (x.add i) = some (.int k (zs.getD i 0))) ∧ ∀ n ∈ zs, (Lit.int k n).wf = true

theorem take4_mk {xs : List Int} (h : mk4 xs = true) : xs.take 4 = mark4 := by
  unfold mk4 at h
  simp only [Bool.and_eq_true, decide_eq_true_eq] at h
  exact h.2
/-- The bytes of an image are those that Encode answers. -/
theorem dok_is {xs : List Int} {seq : Int} {X : List Rwi} (h : DOk xs seq X) : sE seq X.length X = 0 ∧ iB seq X.length X = xs ∧ X.length ≤ xs.length / 4 := by
  obtain ⟨h1, h2, h3, h4, h5, h6, h7, h8, h9⟩ := h
  have hb : bodyTo seq X.length X X.length = xs.take (xs.length - 4) := by
    unfold bodyTo
    rw [← h9]
    conv => rhs; rw [← List.take_append_drop 4 (xs.take (xs.length - 4))]
    rw [List.take_take, Nat.min_eq_left (by omega), take4_mk h3]
    rfl
  have hh : xs.drop (xs.length - 4) = Cr.by4 (Cr.sum (xs.take (xs.length - 4))) := by
    unfold Cr.holds at h4
    simp only [decide_eq_true_eq] at h4
    exact h4.2
  have hi : img seq X.length X = xs := by
    unfold img
    rw [hb, ← hh, List.take_append_drop]
  have ht : tz seq X.length X X.length = xs.length := by rw [← img_len, hi]
  have hs : sE seq X.length X = 0 := by
    unfold sE
    rw [if_neg (by omega), if_neg (by omega), if_neg (by rw [h8]; decide), if_neg (by rw [ht]; omega)]
  refine ⟨hs, by unfold iB; rw [if_pos hs, hi], ?_⟩
  have hg := rows_ge X seq X.length h8
  unfold tz at ht
  omega
theorem dno_not {xs : List Int} {e : Int} (h : DNo xs e) : (e != 0) = true ∧ ∀ s X, ¬ DOk xs s X := by
  rcases h with ⟨h1, rfl⟩ | ⟨h1, h2, rfl⟩ | ⟨h1, h2, h3, h4, rfl⟩ | ⟨h1, h2, h3, h4, h5, rfl⟩
  · exact ⟨by decide, fun s X q => by have := q.1; omega⟩
  · refine ⟨by decide, fun s X q => ?_⟩
    rcases h2 with z | z
    · have := q.2.1; omega
    · rw [q.2.2.1] at z; cases z
  · exact ⟨by decide, fun s X q => by rw [q.2.2.2.1] at h4; cases h4⟩
  · exact ⟨by decide, fun s X q => h5 s X q.2.2.2.2⟩
theorem icheck_c (seq : Int) (a : Option Addr) (n cap : Nat) (X : List Rwi) (w : World) (h : Rws w a n X) :
    Calls Tryd.prog 11 #[.agg #[.int .i64 seq, .slice a n cap]] w fun r w' => r = .returned (.int .i64 (sE seq n X)) ∧ w.grownBy w' none := by
  have HC : Hid (Calls Tryd.prog 25 #[.agg #[.int .i64 seq, .slice a n cap]] (w.alloc (.cells #[.int .i64 seq, .slice a n cap] 25)) fun r w' => r = .returned (.tuple #[.int .i64 (sN seq n X), .int .i64 (sE seq n X)]) ∧ w.grownBy w' none) := by
    have hb := blk_new w 25 #[.int .i64 seq, .slice a n cap]
    exact (isize_c seq a n cap X _ (h.below (gbb hb.2))).mono fun r w' ⟨h1, h2⟩ => ⟨h1, gb_trans hb.2 h2⟩
  clear h
  generalize sN seq n X = A at HC
  generalize sE seq n X = B at HC ⊢
  go_enter Tryd.func11, Tryd.ntmps11
  go_wp2_with (go_at_call 25; go_must (refine (Calls.mono HC.out ?_)); rintro r w1 ⟨rfl, h1⟩; have H1 : Hid (w.grownBy w1 none) := h1; clear h1)
  go_ret
  exact ⟨rfl, H1.out⟩
set_option maxRecDepth 20000 in
set_option maxHeartbeats 2000000 in
theorem walk (a0 : Option Addr) (len0 cap0 : Nat) (z0 : List Int) (w : World) (w0 : IsRow .u8 140737488351232 w a0 len0 cap0 z0) (ht : Cr.Tab w) :
    Calls Tryd.prog 3 #[.slice a0 len0 cap0] w fun e w' => e = .returned (.bool true) ∧ Below w.heap.size w w' := by
  obtain ⟨hs, hlc, hR, hwf⟩ := seg_of_row w0
  have hnz : a0 = none → cap0 = 0 := by
    intro q
    rcases w0 with ⟨_, _, q2, _⟩ | ⟨x, q2, _⟩
    · exact q2
    · rw [q] at q2; cases q2
  obtain ⟨xs, hxs⟩ : ∃ xs, xs = z0.take len0 := ⟨_, rfl⟩
  rw [← hxs] at hs hwf
  have hx : Bytes xs := fun i hi => wf_u8 (hwf i hi)
  have hxl : xs.length = len0 := hs.1
  have HL : Hid (∀ W, w.grownBy W none → Calls Tryd.prog 8 #[] W fun r w' => r = .returned (.bool true) ∧ W.grownBy w' none) := fun W hg => lives_c W (ht.below (gbb hg))
  by_cases hD : ∃ s X, DOk xs s X
  · have HD : Hid (∀ W, Seg .u8 W a0 len0 xs → Cr.Tab W → Calls Tryd.prog 7 #[.slice a0 len0 cap0] W fun r w' => ∃ b n seq X, r = .returned (.tuple #[.agg #[.int .i64 seq, .slice (some ⟨b, 0, none⟩) n n], .int .i64 0]) ∧ X.length = n ∧ DOk xs seq X ∧ Rws w' (some ⟨b, 0, none⟩) n X ∧ W.grownBy w' none) := fun W h1 h2 => by
      refine (idec_c a0 len0 cap0 xs W h1 hx (by omega) hlc hnz h2).mono ?_
      rintro r w' ⟨⟨b, n, seq, X, h1, h2, h3, h4⟩ | ⟨e, h1, h2⟩, h5⟩
      · exact ⟨b, n, seq, X, h1, h3.1, h2, h3, below_gbI h5⟩
      · obtain ⟨s, X, q⟩ := hD
        exact absurd q ((dno_not h2).2 s X)
    have HW : Hid (Seg .u8 w a0 len0 xs ∧ Cr.Tab w ∧ Bytes xs ∧ xs.length = len0) := ⟨hs, ht, hx, hxl⟩
    clear hD hs ht hx hxl hwf hxs w0 hnz HL
    go_enter Tryd.func3, Tryd.ntmps3
    go_wp2_with (first
      | (go_at_call 7; go_must (refine (Calls.mono (HD.out _ HW.out.1 HW.out.2.1) ?_)); rintro r w1 ⟨b, n, seq, X, rfl, h0, h1, h2, h3⟩
         have hb := blk_new w1 25 #[.int .i64 seq, .slice (some ⟨b, 0, none⟩) n n]
         have hk := dok_is h1
         rw [h0, HW.out.2.2.2] at hk
         have hn4 : decide ((n : Int) ≤ (len0 : Int) / 4) = true := by simp only [decide_eq_true_eq]; have := hk.2.2; omega
         have HE : Hid (Calls Tryd.prog 9 #[.agg #[.int .i64 seq, .slice (some ⟨b, 0, none⟩) n n]] (w1.alloc (.cells #[.int .i64 seq, .slice (some ⟨b, 0, none⟩) n n] 25)) fun r w' => ∃ va vc, r = .returned (.tuple #[.slice va len0 vc, .int .i64 0]) ∧ Seg .u8 w' va len0 xs ∧ Bk 25 w' w1.heap.size #[.int .i64 seq, .slice (some ⟨b, 0, none⟩) n n] ∧ Rws w' (some ⟨b, 0, none⟩) n X ∧ w.grownBy w' none ∧ Seg .u8 w' a0 len0 xs) := by
           have k := iencode_c seq (some ⟨b, 0, none⟩) n n X _ (h2.below (gbb hb.2)) (HW.out.2.1.below (gbb (gb_trans h3 hb.2)))
           rw [hk.1, hk.2.1, HW.out.2.2.2] at k
           refine k.mono ?_
           rintro r w' ⟨va, vc, rfl, k1, k2⟩
           obtain ⟨a', c', e, k3, _, _⟩ := k1.seg
           cases e
           have g2 := below_gbI k2
           exact ⟨va, vc, rfl, k3, hb.1.grew g2 (by simp), h2.below (gbb (gb_trans hb.2 g2)), gb_trans h3 (gb_trans hb.2 g2), HW.out.1.grew (gb_trans h3 (gb_trans hb.2 g2)) (by simp)⟩
         have HCK : Hid (∀ W, Rws W (some ⟨b, 0, none⟩) n X → Calls Tryd.prog 11 #[.agg #[.int .i64 seq, .slice (some ⟨b, 0, none⟩) n n]] W fun r w' => r = .returned (.int .i64 0) ∧ W.grownBy w' none) := fun W hr => by
           have k := icheck_c seq (some ⟨b, 0, none⟩) n n X W hr
           rw [hk.1] at k
           exact k
         clear h0 h1 h2 h3 hb hk)
      | (go_at_call 9; go_must (refine (Calls.mono HE.out ?_)); rintro r w2 ⟨va, vc, rfl, h1, h2, h3, h4, h5⟩; have H2 : Hid (Seg .u8 w2 va len0 xs ∧ Bk 25 w2 w1.heap.size #[.int .i64 seq, .slice (some ⟨b, 0, none⟩) n n] ∧ Rws w2 (some ⟨b, 0, none⟩) n X ∧ w.grownBy w2 none ∧ Seg .u8 w2 a0 len0 xs) := ⟨h1, h2, h3, h4, h5⟩
         have HSM : Hid (Calls Tryd.prog 10 #[.slice a0 len0 cap0, .slice va len0 vc] w2 fun e w' => e = .returned (.bool true) ∧ w' = w2) := by
           have k := same_c a0 va len0 cap0 len0 vc xs xs w2 h5 h1 HW.out.2.2.1 HW.out.2.2.1
           rw [show decide (xs = xs) = true from by simp] at k
           exact k
         have c0 : w2.cell? ⟨w1.heap.size, 0, none⟩ = some (.int .i64 seq) := h2.cell 0
         have c1 : w2.cell? ⟨w1.heap.size, 1, none⟩ = some (.slice (some ⟨b, 0, none⟩) n n) := h2.cell 1
         clear h1 h2 h3 h4 h5)
      | (go_at_call 10; go_must (refine (Calls.mono HSM.out ?_)); rintro r w3 ⟨rfl, hq⟩; obtain rfl := hq.symm)
      | (go_at_call 11; go_must (refine (Calls.mono (HCK.out _ H2.out.2.2.1) ?_)); rintro r w4 ⟨rfl, h1⟩; have H4 : Hid (w.grownBy w4 none) := gb_trans H2.out.2.2.2.1 h1; have d1 : w4.cell? ⟨w1.heap.size, 1, none⟩ = some (.slice (some ⟨b, 0, none⟩) n n) := (H2.out.2.1.grew h1 (by simp)).cell 1; clear h1))
    go_ret
    exact ⟨by first | rfl | exact congrArg (fun b => Ending.returned (Value.bool b)) hn4, gbb H4.out⟩
  · have HD : Hid (∀ W, Seg .u8 W a0 len0 xs → Cr.Tab W → Calls Tryd.prog 7 #[.slice a0 len0 cap0] W fun r w' => ∃ e, r = .returned (.tuple #[.agg #[.int .i64 0, .slice none 0 0], .int .i64 e]) ∧ (e != 0) = true ∧ W.grownBy w' none) := fun W h1 h2 => by
      refine (idec_c a0 len0 cap0 xs W h1 hx (by omega) hlc hnz h2).mono ?_
      rintro r w' ⟨⟨b, n, seq, X, h1, h2, h3, h4⟩ | ⟨e, h1, h2⟩, h5⟩
      · exact absurd ⟨seq, X, h2⟩ hD
      · exact ⟨e, h1, (dno_not h2).1, below_gbI h5⟩
    have HW : Hid (Seg .u8 w a0 len0 xs ∧ Cr.Tab w) := ⟨hs, ht⟩
    clear hD hs ht hx hxl hwf hxs w0 hnz
    go_enter Tryd.func3, Tryd.ntmps3
    go_wp2_with (first
      | (go_at_call 7; go_must (refine (Calls.mono (HD.out _ HW.out.1 HW.out.2) ?_)); rintro r w1 ⟨e, rfl, he, h3⟩; have H1 : Hid (w.grownBy (w1.alloc (.cells #[.int .i64 0, .slice none 0 0] 25)) none) := gb_trans h3 (blk_new w1 25 #[.int .i64 0, .slice none 0 0]).2; clear h3)
      | (go_at_call 8; go_must (refine (Calls.mono (HL.out _ H1.out) ?_)); rintro r w4 ⟨rfl, h1⟩; have H4 : Hid (w.grownBy w4 none) := gb_trans H1.out h1; clear h1))
    go_ret
    exact ⟨rfl, gbb H4.out⟩

theorem gTab : Tryd.prog.globalNamed "hawser/crc.halves" = some 0 := by kernel_rfl
theorem gTabType : (Tryd.prog.globals[0]?).map (·.type) = some 106 := by kernel_rfl
theorem cellsT : Tryd.prog.cellsOf 106 = 16 := by kernel_rfl
theorem cellsE : Tryd.prog.cellsOf 35 = 1 := by kernel_rfl
/-- What the row's list gives: the table's cells. -/
theorem table {W : World} (h : laidMetH Tryd.prog Rows.imageOneRow.laid W) : Lib.TabIs Tryd.prog W "hawser/crc.halves" .u32 Cr.tabl :=
  Lib.tabIs_of_head (rest := []) gTab gTabType Tryd.underlying106 Tryd.underlying35 cellsE cellsT h
theorem tab_of {W : World} (h : laidMetH Tryd.prog Rows.imageOneRow.laid W) : Cr.Tab W := fun i hi => (table h).cell gTab i (show i < Cr.tabl.length from hi)
theorem laid_met (os : Os) : laidMet Tryd.prog Rows.imageOneRow.laid (({ World.holding Tryd.prog os ⟨#[], #[], []⟩ with heap := (World.holding Tryd.prog os ⟨#[], #[], []⟩).heap.modify 0 fun | .cells _ t frozen => .cells (Cr.tabl.map fun z => Value.int .u32 z).toArray t frozen | o => o } : World).forCall (fun _ _ => 0) ⟨#[], #[.slice none 0 0], []⟩).memory :=
  laidMet_of_run' 8 (by kernel_rfl) (by kernel_rfl)
theorem reads (os : Os) {H : Type} (enc : TypeId × Value → H) : ∃ places, DataW.whole enc Tryd.prog (({ World.holding Tryd.prog os ⟨#[], #[], []⟩ with heap := (World.holding Tryd.prog os ⟨#[], #[], []⟩).heap.modify 0 fun | .cells _ t frozen => .cells (Cr.tabl.map fun z => Value.int .u32 z).toArray t frozen | o => o } : World).forCall (fun _ _ => 0) ⟨#[], #[.slice none 0 0], []⟩).memory Tryd.f3.params.toList Rows.imageOneSpec.vars false (#[.slice none 0 0] : Array Value).toList 8 = some ([.nil], [], places) :=
  ⟨[], by kernel_rfl⟩

set_option maxRecDepth 100000 in
theorem lifted (os : Os) (started : os.Started) (H : Type) (enc : TypeId × Value → H) (F : Stop.Interp) :
    ReturnsInHanded {} Tryd.checked os 3 .any ((OpenSpec.ofChange Rows.imageOneSpec).preRow enc Tryd.prog Tryd.f3 Rows.imageOneRow.domain false Rows.imageOneRow.laid) (((OpenSpec.ofChange Rows.imageOneSpec).at F).post enc Tryd.prog Tryd.f3 false true false false) := by
  obtain ⟨places, hx⟩ := reads os enc
  refine returnsInHanded_of_row (C := Tryd.checked) (s := OpenSpec.ofChange Rows.imageOneSpec) own started (by kernel_rfl) Tryd.func3
    (witness_row_at (enc := enc) (C := Tryd.checked) false ({ World.holding Tryd.prog os ⟨#[], #[], []⟩ with heap := (World.holding Tryd.prog os ⟨#[], #[], []⟩).heap.modify 0 fun | .cells _ t frozen => .cells (Cr.tabl.map fun z => Value.int .u32 z).toArray t frozen | o => o } : World) #[.slice none 0 0] rfl (by kernel_rfl) (by kernel_rfl) (by kernel_rfl)
      (OpenSpec.preRow_of_cond 8 hx (by kernel_rfl) (fun k hk => by cases hk) (by kernel_rfl) (laid_met os))) ?_
  intro W base args ds gs before hval0 hW _ hcond0 hsz0 hL _ _
  have hsz : (DataW.weightsEach Tryd.prog (Tryd.f3.params.toList ++ Rows.imageOneSpec.plain.varTypes Tryd.prog) (ds ++ gs)).all (· ≤ reachBytes) = true := hsz0
  have hval : ∀ (j : Nat) t v, Tryd.f3.params[j]? = some t → args[j]? = some v → Value.okWide Tryd.prog W .any base t v := hval0
  have hW' := hW
  obtain ⟨p, q, hA0, hV, rfl, hfz, hnd⟩ := hW
  have hA : DataW.TrodAll enc Tryd.prog W 0 (fun _ => true) true Tryd.f3.params.toList args.toList ds p := hA0
  rw [Tryd.params3] at hA hval hsz
  obtain ⟨v0, vs0, d0, ds0, p0, q0, hargs, rfl, rfl, h0, r0⟩ := trodAll_cons hA
  obtain ⟨rfl, rfl, rfl⟩ := trodAll_nil r0
  obtain rfl : args = #[v0] := by cases args; simp_all
  obtain ⟨rfl, rfl⟩ := trodVars_none hV
  have k0 := h0
  have lt0 : ∀ x ∈ p0, x.block < W.heap.size := by obtain ⟨m, hm⟩ := k0; exact DataW.trod_lt m _ _ _ hm
  obtain ⟨a0, len0, cap0, z0, rfl, x0⟩ : ∃ a len cap zs, v0 = .slice a len cap ∧ IsRow .u8 140737488351232 W a len cap zs := by
    obtain ⟨sa, sl, sc, rfl⟩ := okWide_slice Tryd.underlying22 (hval 0 22 v0 rfl rfl)
    obtain ⟨fuel, hf⟩ := h0
    rcases open_ints Tryd.underlying22 Tryd.underlying5 (by kernel_rfl) hf with ⟨hcs, _⟩ | ⟨x, l, c, zs, hcs, _, hl, hm, hz, hx, hcell, hwz⟩
    · simp [Value.cells] at hcs; obtain ⟨rfl, rfl, rfl⟩ := hcs
      exact ⟨none, 0, 0, [], rfl, .inl ⟨rfl, rfl, rfl, rfl⟩⟩
    · simp [Value.cells] at hcs; obtain ⟨rfl, rfl, rfl⟩ := hcs
      have hz' : zs.length = sc := by simpa using hz
      have hd : d0 = _ := congrArg Prod.fst hx
      have hb := sized_slice hsz (j := 0) (t := 22) (e := 5) rfl (congrArg some hd) Tryd.underlying22
      rw [show Tryd.prog.bytesOf 5 = 1 from by kernel_rfl] at hb
      simp only [lits, List.length_map, List.length_take, List.length_drop, reachBytes] at hb
      exact ⟨some x, sl, sc, zs, rfl, .inr ⟨_, rfl, hl, by omega, hz', hcell, hwz⟩⟩
  clear hA0 hval0
  simp only [List.append_nil] at hW'
  refine (walk a0 len0 cap0 z0 W x0 (tab_of hL)).mono fun e W' ⟨he, bel⟩ => ?_
  subst he
  exact ⟨_, rfl, _, _, _, [], _, [], hW', trodAll_mk1 (shut_bool Tryd.underlying4 _), (trodAll_cons_mk (Below.trod laidOut (by kernel_rfl) (of_decide_eq_true (by kernel_rfl)) k0 bel lt0) trodAll_mk0), rfl, bel.frame _, fun h => by cases h⟩

theorem over : Rows.imageOneRow.holds Tryd.pinned (OpenSpec.ofChange Rows.imageOneSpec) :=
  OpenClaim.holds_of_cond 3 Tryd.f3 rfl rfl rfl rfl rfl rfl rfl ⟨rfl, rfl, rfl, rfl, rfl⟩ rfl rfl rfl rfl rfl (by kernel_rfl) Tryd.func3 (by kernel_rfl)
    (of_decide_eq_true (by kernel_rfl)) (by unfold Func.isWrapper; first | (rw [if_pos (by decide +kernel)]; kernel_rfl) | (rw [if_neg (by decide +kernel)]; exact ⟨rfl, rfl⟩))
    (fun os started H enc _ F => by rw [OpenClaim.pre_eq_preRow]; exact lifted os started H enc F)

/-- No parameter wants a stand-in; the program's own looks are off. -/
theorem plain (f : FuncId) (fn : Func) (hf : Tryd.pinned.checked.prog.funcNamed "hawser/hawserlaw09.ImageOne" = some f) (hfn : Tryd.pinned.checked.prog.funcs[f]? = some fn) :
    false = Tryd.pinned.checked.prog.looks [] ∧ ∀ (j : Nat) t, fn.params[j]? = some t → Tryd.pinned.checked.prog.wantsStandIn t = false := by
  obtain rfl : f = 3 := Option.some.inj ((show Tryd.prog.funcNamed "hawser/hawserlaw09.ImageOne" = some 3 by kernel_rfl).symm.trans hf) |>.symm
  obtain rfl : fn = Tryd.f3 := (Option.some.inj (Tryd.func3.symm.trans hfn)).symm
  refine ⟨by kernel_rfl, fun j t ht => ?_⟩
  rw [Tryd.params3] at ht
  have hm : t ∈ [22] := by simpa using Array.mem_of_getElem? ht
  have hall : (([22] : List TypeId).all fun u => !Tryd.prog.wantsStandIn u) = true := by kernel_rfl
  exact (show Tryd.prog.wantsStandIn t = false by simpa using List.all_eq_true.1 hall t hm)
theorem card : Rows.ImageOneCardSaid :=
  Claim7.holds_tied_plain_at .later [] _ _ _ _ over (fun _ h => by cases h) (by kernel_rfl) (fun _ h => by cases h) imageOne_row_tie rfl ⟨rfl, rfl⟩ (by kernel_rfl) rfl plain (by kernel_rfl)

end Go.Proofs.YteilmkibbdlnoabDoor.imageOne
namespace Go.Proofs.YteilmkibbdlnoabDoor
theorem imageOne_holds : Rows.ImageOneCardSaid := imageOne.card
#print axioms imageOne_holds
end Go.Proofs.YteilmkibbdlnoabDoor
