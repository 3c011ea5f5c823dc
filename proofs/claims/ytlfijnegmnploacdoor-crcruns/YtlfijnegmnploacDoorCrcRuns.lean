/-
  Proved: for all bytes, every place and word, hawserlaw02.CrcRuns answers true: a text with any bits turned within 32 that follow one another has another sum, and so turned, what was sealed does not hold. No condition (the card ties the table of package crc to the program's text).
-/
import Derived.Test.YtlfijnegmnploacDoorRows
import Derived.Test.YtlfijnegmnploacDoorCards
import Derived.Test.YtlfijnegmnploacDoorTie
import Derived.Test.YtlfijnegmnploacDoorAwaC
import Derived.Test.YtlfijnegmnploacDoorRunC
import Derived.WalkKit
import Derived.ProofKit
import Derived.OpenShut
import Derived.ShutString
import Derived.ChangeOld
import Derived.Below
import Derived.Lib.SmallJoins
import Derived.JoinedCond
import Derived.SizedLaws
import Derived.Deep.DeepHandedRow
import Derived.Lib.LaidTab
namespace Go.Proofs.YtlfijnegmnploacDoor.crcRuns
open Go.ChangeShapes Go.WideShapes Go.ChangeAt Go.RowKit
set_option linter.unusedVariables false

theorem own : ownKnob Tryd.prog.godebug = none := by kernel_rfl
theorem laidOut : laidOutB Tryd.prog = true := by kernel_rfl

/-- What the walk is told of a slice of integers that came in. -/
def IsRow (k : IntKind) (R : Nat) (w : World) (a : Option Addr) (len cap : Nat) (zs : List Int) : Prop :=
  (a = none ∧ len = 0 ∧ cap = 0 ∧ zs = []) ∨
  ∃ x, a = some x ∧ len ≤ cap ∧ cap ≤ R ∧ zs.length = cap ∧ (∀ i, i < zs.length → w.cell? (x.add i) = some (.int k (zs.getD i 0))) ∧ ∀ n ∈ zs, (Lit.int k n).wf = true

theorem row_nil {k : IntKind} {R : Nat} {w : World} {a : Option Addr} {len cap : Nat} {zs : List Int} (h : IsRow k R w a len cap zs) : a = none → cap = 0 := by
  rcases h with ⟨_, _, h, _⟩ | ⟨x, h, _⟩
  · exact fun _ => h
  · intro h'; rw [h] at h'; cases h'

set_option maxHeartbeats 2000000 in
theorem walk (a : Option Addr) (len cap : Nat) (zs : List Int) (f a2 : Int) (w : World) (x0 : IsRow .u8 140737488351232 w a len cap zs) (w1 : (Lit.int .u64 f).wf = true) (w2 : (Lit.int .u32 a2).wf = true) (ht : Tab w) :
    Calls Tryd.prog 4 #[.slice a len cap, .int .u64 f, .int .u32 a2] w fun e w' => e = .returned (.bool true) ∧ Below w.heap.size w w' := by
  have b1 := bounds_u64 w1
  have b2 := bounds_u32 w2
  obtain ⟨v, rfl⟩ := W_of a2 b2.1 (by omega)
  obtain ⟨hs, hlc, hcr, hwf⟩ := seg_of_row x0
  have HN : Hid (a = none → cap = 0) := row_nil x0
  have HX : Hid (Bytes (zs.take len)) := fun i hi => wf_u8 (hwf i hi)
  obtain ⟨xs, hxs⟩ : ∃ xs, xs = zs.take len := ⟨_, rfl⟩
  rw [← hxs] at hs HX
  have HS : Hid (Seg .u8 w a len xs) := hs
  have HLN : Hid (xs.length = len) := hs.1
  have HT : Hid (Tab w) := ht
  have hl : len ≤ 140737488351232 := by omega
  have HF : Hid (0 ≤ f ∧ f < 18446744073709551616) := ⟨b1.1, by omega⟩
  clear ht w1 w2 x0 hwf hxs hs hlc hcr b1 b2
  by_cases hbig : (len : Int) > 134217724
  · go_enter Tryd.func4, Tryd.ntmps4
    go_wp2_with (go_at_call 8; go_must (refine (awake_c _ HT.out).mono ?_); rintro e w' ⟨rfl, HB⟩; replace HB : Hid _ := HB)
    go_ret
    exact ⟨rfl, HB.out⟩
  · have hsm : (len : Int) ≤ 134217724 := by omega
    clear hbig
    go_enter Tryd.func4, Tryd.ntmps4
    go_wp2_with (go_at_call 8; go_must (refine (awake_c _ HT.out).mono ?_); rintro e w1 ⟨rfl, HB1⟩; replace HB1 : Hid _ := HB1)
    have HT1 : Hid (Tab w1) := HT.out.below HB1.out
    refine (seal_c a len cap xs w1 HN.out (HS.out.below HB1.out) HX.out hl HT1.out).mono ?_
    rintro e w2 ⟨v2, rfl, ho2, hb2⟩
    obtain ⟨a3, c3, rfl, hs3, hn3, hlc3⟩ := ho2.seg
    have HB2 : Hid (Below w.heap.size w w2) := HB1.out.trans (hb2.mono HB1.out.size)
    have HS3 : Hid (Seg .u8 w2 a3 (len + 4) (sealed xs)) := hs3
    have HN3 : Hid (a3 = none → c3 = 0) := hn3
    have HX3 : Hid (Bytes (sealed xs)) := bytes_of_mem (sealed_bytes xs HX.out.mem)
    have hne : (((len + 4 : Nat) : Int) != (len : Int) + 4) = false := by simp
    clear ho2 hb2 hs3 hn3 HT1 HB1
    go_wp2_with fail
    refine (holds_c a3 (len + 4) c3 (sealed xs) w2 hlc3 HS3.out HX3.out (by omega) (HT.out.below HB2.out)).mono ?_
    rintro e w3 ⟨rfl, hb3⟩
    rw [sealed_holds]
    have HB3 : Hid (Below w.heap.size w w3) := HB2.out.trans (hb3.mono HB2.out.size)
    have HS4 : Hid (Seg .u8 w3 a3 (len + 4) (sealed xs)) := HS3.out.below hb3
    clear hb3 HS3
    go_wp2_with fail
    refine (run_c a len cap xs f v w3 HN.out (HS.out.below HB3.out) HX.out (by omega) HF.out.1 HF.out.2).mono ?_
    rintro e w4 ⟨u4, ys, A, rfl, ho4, hy4, hr4, hb4⟩
    obtain ⟨a5, c5, rfl, hs5, hn5, hlc5⟩ := Own.seg ho4
    have HB4 : Hid (Below w.heap.size w w4) := HB3.out.trans (hb4.mono HB3.out.size)
    have HS5 : Hid (Seg .u8 w4 a5 len ys) := hs5
    have HY4 : Hid (Bytes ys) := hy4
    have HR4 : Hid (A = true → sum ys ≠ sum xs) := fun h => sum_ne xs ys (hr4 h)
    have HS4' : Hid (Seg .u8 w4 a3 (len + 4) (sealed xs)) := HS4.out.below hb4
    clear ho4 hy4 hr4 hb4 hs5 hn5 HS4
    go_wp2_with fail
    refine (run_c a3 (len + 4) c3 (sealed xs) f v w4 HN3.out HS4'.out HX3.out (by omega) HF.out.1 HF.out.2).mono ?_
    rintro e w5 ⟨u5, qs, C, rfl, ho5, hy5, hr5, hb5⟩
    obtain ⟨a6, c6, rfl, hs6, hn6, hlc6⟩ := Own.seg ho5
    have HB5 : Hid (Below w.heap.size w w5) := HB4.out.trans (hb5.mono HB4.out.size)
    have HS6 : Hid (Seg .u8 w5 a5 len ys) := HS5.out.below hb5
    have HS7 : Hid (Seg .u8 w5 a len xs) := HS.out.below HB5.out
    have HS8 : Hid (Seg .u8 w5 a6 (len + 4) qs) := hs6
    have HY5 : Hid (Bytes qs) := hy5
    have HR5 : Hid (C = true → holds qs = false) := fun h => spoilt xs qs HX.out.mem hy5.mem (hr5 h)
    have HT5 : Hid (Tab w5) := HT.out.below HB5.out
    clear ho5 hy5 hr5 hb5 hs6 hn6 HS5 HS4' hlc5
    cases A with
    | false =>
      cases C with
      | false =>
        go_wp2
        go_ret
        exact ⟨rfl, HB5.out⟩
      | true =>
        have HH : Hid (holds qs = false) := HR5.out rfl
        go_wp2_with fail
        refine (holds_c a6 (len + 4) c6 qs _ hlc6 HS8.out HY5.out (by omega) HT5.out).mono ?_
        rintro e w6 ⟨rfl, hb6⟩
        rw [HH.out]
        have HB6 : Hid (Below w.heap.size w w6) := HB5.out.trans (hb6.mono HB5.out.size)
        clear hb6
        go_wp2
        go_ret
        exact ⟨rfl, HB6.out⟩
    | true =>
      have HNE : Hid ((W (sum ys) != W (sum xs)) = true) := by
        have := HR4.out rfl
        have h2 : W (sum ys) ≠ W (sum xs) := fun h => this (W_inj h)
        show (_ != _) = true
        simpa using h2
      go_wp2_with fail
      refine (sum_c _ 1 1 [ys] _ ?_ (HT5.out.below ((Below.refl _ _).alloc (Nat.le_refl _) _)) (by omega)).mono ?_
      · exact segs_at _ _ rfl HS6.out HY4.out (by omega)
      rintro e w' ⟨rfl, rfl⟩
      rw [show [ys].flatten = ys from by simp]
      go_wp2_with fail
      refine (sum_c _ 1 1 [xs] _ ?_ (HT5.out.below (((Below.refl _ _).alloc (Nat.le_refl _) _).alloc (by simp) _)) (by omega)).mono ?_
      · exact segs_at _ _ (by simp) (HS7.out.below ((Below.refl _ _).alloc (Nat.le_refl _) _)) HX.out (by omega)
      rintro e w' ⟨rfl, rfl⟩
      rw [show [xs].flatten = xs from by simp]
      have hne2 := HNE.out
      obtain ⟨P, hP⟩ : ∃ P, P = W (sum ys) := ⟨_, rfl⟩
      obtain ⟨Q, hQ⟩ : ∃ Q, Q = W (sum xs) := ⟨_, rfl⟩
      rw [← hP, ← hQ] at hne2 ⊢
      clear hP hQ
      have HB6 : Hid (Below w.heap.size w ((w5.alloc (Obj.cells #[.slice a5 len c5] 22)).alloc (Obj.cells #[.slice a len cap] 22))) := HB5.out.trans ((((Below.refl _ _).alloc (Nat.le_refl _) _).alloc (by simp) _).mono HB5.out.size)
      have HS9 : Hid (Seg .u8 ((w5.alloc (Obj.cells #[.slice a5 len c5] 22)).alloc (Obj.cells #[.slice a len cap] 22)) a6 (len + 4) qs) := HS8.out.below (((Below.refl _ _).alloc (Nat.le_refl _) _).alloc (by simp) _)
      generalize ((w5.alloc (Obj.cells #[.slice a5 len c5] 22)).alloc (Obj.cells #[.slice a len cap] 22)) = w6 at HB6 HS9 ⊢
      have HT6 : Hid (Tab w6) := HT.out.below HB6.out
      cases C with
      | false =>
        go_wp2
        go_ret
        exact ⟨rfl, HB6.out⟩
      | true =>
        have HH : Hid (holds qs = false) := HR5.out rfl
        go_wp2_with fail
        refine (holds_c a6 (len + 4) c6 qs _ hlc6 HS9.out HY5.out (by omega) HT6.out).mono ?_
        rintro e w7 ⟨rfl, hb7⟩
        rw [HH.out]
        have HB7 : Hid (Below w.heap.size w w7) := HB6.out.trans (hb7.mono HB6.out.size)
        clear hb7
        go_wp2
        go_ret
        exact ⟨rfl, HB7.out⟩

theorem gTab : Tryd.prog.globalNamed "hawser/crc.halves" = some 0 := by kernel_rfl
theorem gTabType : (Tryd.prog.globals[0]?).map (·.type) = some 52 := by kernel_rfl
theorem cellsT : Tryd.prog.cellsOf 52 = 16 := by kernel_rfl
theorem cellsE : Tryd.prog.cellsOf 26 = 1 := by kernel_rfl
/-- What the row's list gives: the table's cells. -/
theorem table {W : World} (h : laidMetH Tryd.prog Rows.crcRunsRow.laid W) : Lib.TabIs Tryd.prog W "hawser/crc.halves" .u32 tabl :=
  Lib.tabIs_of_head (rest := []) gTab gTabType Tryd.underlying52 Tryd.underlying26 cellsE cellsT h
theorem tab_of {W : World} (h : laidMetH Tryd.prog Rows.crcRunsRow.laid W) : Tab W := fun i hi => (table h).cell gTab i (show i < tabl.length from hi)
theorem laid_met (os : Os) : laidMet Tryd.prog Rows.crcRunsRow.laid (({ World.holding Tryd.prog os ⟨#[], #[], []⟩ with heap := (World.holding Tryd.prog os ⟨#[], #[], []⟩).heap.modify 0 fun | .cells _ t frozen => .cells (tabl.map fun z => Value.int .u32 z).toArray t frozen | o => o } : World).forCall (fun _ _ => 0) ⟨#[], #[.slice none 0 0, .int .u64 0, .int .u32 0], []⟩).memory :=
  laidMet_of_run' 8 (by kernel_rfl) (by kernel_rfl)
theorem reads (os : Os) {H : Type} (enc : TypeId × Value → H) : ∃ places, DataW.whole enc Tryd.prog (({ World.holding Tryd.prog os ⟨#[], #[], []⟩ with heap := (World.holding Tryd.prog os ⟨#[], #[], []⟩).heap.modify 0 fun | .cells _ t frozen => .cells (tabl.map fun z => Value.int .u32 z).toArray t frozen | o => o } : World).forCall (fun _ _ => 0) ⟨#[], #[.slice none 0 0, .int .u64 0, .int .u32 0], []⟩).memory Tryd.f4.params.toList Rows.crcRunsSpec.vars false (#[.slice none 0 0, .int .u64 0, .int .u32 0] : Array Value).toList 8 = some ([.nil, .lit (.int .u64 0), .lit (.int .u32 0)], [], places) :=
  ⟨[], by kernel_rfl⟩

set_option maxRecDepth 100000 in
theorem lifted (os : Os) (started : os.Started) (H : Type) (enc : TypeId × Value → H) (F : Stop.Interp) :
    ReturnsInHanded {} Tryd.checked os 4 .any ((OpenSpec.ofChange Rows.crcRunsSpec).preRow enc Tryd.prog Tryd.f4 Rows.crcRunsRow.domain false Rows.crcRunsRow.laid) (((OpenSpec.ofChange Rows.crcRunsSpec).at F).post enc Tryd.prog Tryd.f4 false true false false) := by
  obtain ⟨places, hx⟩ := reads os enc
  refine returnsInHanded_of_row (C := Tryd.checked) (s := OpenSpec.ofChange Rows.crcRunsSpec) own started (by kernel_rfl) Tryd.func4
    (witness_row_at (enc := enc) (C := Tryd.checked) false ({ World.holding Tryd.prog os ⟨#[], #[], []⟩ with heap := (World.holding Tryd.prog os ⟨#[], #[], []⟩).heap.modify 0 fun | .cells _ t frozen => .cells (tabl.map fun z => Value.int .u32 z).toArray t frozen | o => o } : World) #[.slice none 0 0, .int .u64 0, .int .u32 0] rfl (by kernel_rfl) (by kernel_rfl) (by kernel_rfl)
      (OpenSpec.preRow_of_cond 8 hx (by kernel_rfl) (fun k hk => by cases hk) (by kernel_rfl) (laid_met os))) ?_
  intro W base args ds gs before hval0 hW _ hcond0 hsz0 hL _ _
  have hsz : (DataW.weightsEach Tryd.prog (Tryd.f4.params.toList ++ Rows.crcRunsSpec.plain.varTypes Tryd.prog) (ds ++ gs)).all (· ≤ reachBytes) = true := hsz0
  have hval : ∀ (j : Nat) t v, Tryd.f4.params[j]? = some t → args[j]? = some v → Value.okWide Tryd.prog W .any base t v := hval0
  have hW' := hW
  obtain ⟨p, q, hA0, hV, rfl, hfz, hnd⟩ := hW
  have hA : DataW.TrodAll enc Tryd.prog W 0 (fun _ => true) true Tryd.f4.params.toList args.toList ds p := hA0
  rw [Tryd.params4] at hA hval hsz
  obtain ⟨v0, vs0, d0, ds0, p0, q0, hargs, rfl, rfl, h0, r0⟩ := trodAll_cons hA
  obtain ⟨v1, vs1, d1, ds1, p1, q1, rfl, rfl, rfl, h1, r1⟩ := trodAll_cons r0
  obtain ⟨v2, vs2, d2, ds2, p2, q2, rfl, rfl, rfl, h2, r2⟩ := trodAll_cons r1
  obtain ⟨rfl, rfl, rfl⟩ := trodAll_nil r2
  obtain rfl : args = #[v0, v1, v2] := by cases args; simp_all
  obtain ⟨rfl, rfl⟩ := trodVars_none hV
  have k0 := h0
  have lt0 : ∀ x ∈ p0, x.block < W.heap.size := by obtain ⟨m, hm⟩ := k0; exact DataW.trod_lt m _ _ _ hm
  obtain ⟨a0, len0, cap0, z0, rfl, x0⟩ : ∃ a len cap zs, v0 = .slice a len cap ∧ IsRow .u8 140737488351232 W a len cap zs := by
    obtain ⟨sa, sl, sc, rfl⟩ := okWide_slice Tryd.underlying22 (hval 0 22 v0 rfl rfl)
    obtain ⟨fuel, hf⟩ := h0
    rcases open_ints Tryd.underlying22 Tryd.underlying5 (by kernel_rfl) hf with ⟨hcs, _⟩ | ⟨x, l, c, zs, hcs, _, hl, hm, hz, hx, hcell, hwz⟩
    · simp [Value.cells] at hcs; obtain ⟨rfl, rfl, rfl⟩ := hcs
      exact ⟨none, 0, 0, [], rfl, .inl ⟨rfl, rfl, rfl, rfl⟩⟩
    · simp [Value.cells] at hcs; obtain ⟨rfl, rfl, rfl⟩ := hcs
      have hz' : zs.length = sc := by simpa using hz
      have hd : d0 = _ := congrArg Prod.fst hx
      have hb := sized_slice hsz (j := 0) (t := 22) (e := 5) rfl (congrArg some hd) Tryd.underlying22
      rw [show Tryd.prog.bytesOf 5 = 1 from by kernel_rfl] at hb
      simp only [lits, List.length_map, List.length_take, List.length_drop, reachBytes] at hb
      exact ⟨some x, sl, sc, zs, rfl, .inr ⟨_, rfl, hl, by omega, hz', hcell, hwz⟩⟩
  obtain ⟨a1, rfl, rfl, rfl, w1⟩ := open_int Tryd.underlying23 (hval 1 23 v1 rfl rfl) h1
  obtain ⟨a2, rfl, rfl, rfl, w2⟩ := open_int Tryd.underlying26 (hval 2 26 v2 rfl rfl) h2
  clear hA0 hval0
  simp only [List.append_nil] at hW'
  refine (walk a0 len0 cap0 z0 a1 a2 W x0 w1 w2 (tab_of hL)).mono fun e W' ⟨he, bel⟩ => ?_
  subst he
  exact ⟨_, rfl, _, _, _, [], _, [], hW', trodAll_mk1 (shut_bool Tryd.underlying4 _), (trodAll_cons_mk (Below.trod laidOut (by kernel_rfl) (of_decide_eq_true (by kernel_rfl)) k0 bel lt0) (trodAll_cons_mk (shut_int Tryd.underlying23 w1) (trodAll_cons_mk (shut_int Tryd.underlying26 w2) trodAll_mk0))), rfl, bel.frame _, fun h => by cases h⟩

theorem over : Rows.crcRunsRow.holds Tryd.pinned (OpenSpec.ofChange Rows.crcRunsSpec) :=
  OpenClaim.holds_of_cond 4 Tryd.f4 rfl rfl rfl rfl rfl rfl rfl ⟨rfl, rfl, rfl, rfl, rfl⟩ rfl rfl rfl rfl rfl (by kernel_rfl) Tryd.func4 (by kernel_rfl)
    (of_decide_eq_true (by kernel_rfl)) (by unfold Func.isWrapper; first | (rw [if_pos (by decide +kernel)]; kernel_rfl) | (rw [if_neg (by decide +kernel)]; exact ⟨rfl, rfl⟩))
    (fun os started H enc _ F => by rw [OpenClaim.pre_eq_preRow]; exact lifted os started H enc F)

/-- No parameter wants a stand-in; the program's own looks are off. -/
theorem plain (f : FuncId) (fn : Func) (hf : Tryd.pinned.checked.prog.funcNamed "hawser/hawserlaw02.CrcRuns" = some f) (hfn : Tryd.pinned.checked.prog.funcs[f]? = some fn) :
    false = Tryd.pinned.checked.prog.looks [] ∧ ∀ (j : Nat) t, fn.params[j]? = some t → Tryd.pinned.checked.prog.wantsStandIn t = false := by
  obtain rfl : f = 4 := Option.some.inj ((show Tryd.prog.funcNamed "hawser/hawserlaw02.CrcRuns" = some 4 by kernel_rfl).symm.trans hf) |>.symm
  obtain rfl : fn = Tryd.f4 := (Option.some.inj (Tryd.func4.symm.trans hfn)).symm
  refine ⟨by kernel_rfl, fun j t ht => ?_⟩
  rw [Tryd.params4] at ht
  have hm : t ∈ [22, 23, 26] := by simpa using Array.mem_of_getElem? ht
  have hall : (([22, 23, 26] : List TypeId).all fun u => !Tryd.prog.wantsStandIn u) = true := by kernel_rfl
  exact (show Tryd.prog.wantsStandIn t = false by simpa using List.all_eq_true.1 hall t hm)
theorem card : Rows.CrcRunsCardSaid :=
  Claim7.holds_tied_plain_at .later [] _ _ _ _ over (fun _ h => by cases h) (by kernel_rfl) (fun _ h => by cases h) crcRuns_row_tie rfl ⟨rfl, rfl⟩ (by kernel_rfl) rfl plain (by kernel_rfl)

end Go.Proofs.YtlfijnegmnploacDoor.crcRuns
namespace Go.Proofs.YtlfijnegmnploacDoor
theorem crcRuns_holds : Rows.CrcRunsCardSaid := crcRuns.card
#print axioms crcRuns_holds
end Go.Proofs.YtlfijnegmnploacDoor
