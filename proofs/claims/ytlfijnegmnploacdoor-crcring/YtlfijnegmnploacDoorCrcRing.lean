/-
  Proved: for all words a, b and c, hawserlaw02.CrcRing answers true: words with exclusive or and Mul are a ring. No condition (the card ties the table of package crc to the program's text).
-/
import Derived.Test.YtlfijnegmnploacDoorRows
import Derived.Test.YtlfijnegmnploacDoorCards
import Derived.Test.YtlfijnegmnploacDoorTie
import Derived.Test.YtlfijnegmnploacDoorAwaC
import Derived.Test.YtlfijnegmnploacDoorMulC
import Derived.Test.YtlfijnegmnploacDoorPowC
import Derived.WalkKit
import Derived.ProofKit
import Derived.OpenShut
import Derived.ShutString
import Derived.ChangeOld
import Derived.Below
import Derived.Lib.SmallJoins
import Derived.JoinedCond
import Derived.Deep.DeepHandedRow
import Derived.Lib.LaidTab
namespace Go.Proofs.YtlfijnegmnploacDoor.crcRing
open Go.ChangeShapes Go.WideShapes Go.ChangeAt Go.RowKit
set_option linter.unusedVariables false

theorem own : ownKnob Tryd.prog.godebug = none := by kernel_rfl
theorem laidOut : laidOutB Tryd.prog = true := by kernel_rfl

set_option maxHeartbeats 1000000 in
theorem walk (a b c : Int) (w : World) (w0 : (Lit.int .u32 a).wf = true) (w1 : (Lit.int .u32 b).wf = true) (w2 : (Lit.int .u32 c).wf = true) (ht : Tab w) :
    Calls Tryd.prog 7 #[.int .u32 a, .int .u32 b, .int .u32 c] w fun e w' => e = .returned (.bool true) ∧ Below w.heap.size w w' := by
  have b0 := bounds_u32 w0
  have b1 := bounds_u32 w1
  have b2 := bounds_u32 w2
  obtain ⟨x, rfl⟩ := W_of a b0.1 (by omega)
  obtain ⟨y, rfl⟩ := W_of b b1.1 (by omega)
  obtain ⟨z, rfl⟩ := W_of c b2.1 (by omega)
  clear w0 w1 w2 b0 b1 b2
  have HT : Hid (Tab w) := ht
  clear ht
  have HP : Hid (W (pw (0 : Int).toNat) = 2147483648) := by show _ = _; decide +kernel
  have HO : Hid ((2147483648 : Int) = W one) := by show _ = _; decide +kernel
  obtain ⟨p, hp⟩ : ∃ p, p = mul x y := ⟨_, rfl⟩
  obtain ⟨q, hq⟩ : ∃ q, q = mul y z := ⟨_, rfl⟩
  obtain ⟨r, hr⟩ : ∃ r, r = mul x z := ⟨_, rfl⟩
  obtain ⟨s, hs⟩ : ∃ s, s = mul x q := ⟨_, rfl⟩
  obtain ⟨t, hT⟩ : ∃ t, t = y ^^^ z := ⟨_, rfl⟩
  obtain ⟨u, hu⟩ : ∃ u, u = p ^^^ r := ⟨_, rfl⟩
  have h2 : mul p z = s := by rw [hp, hs, hq, mul_assoc]
  have h3 : mul x t = u := by rw [hT, hu, hp, hr]; exact mul_lin_r x y z
  have h5 : bits .xor .u32 (W y) (W z) = W t := by rw [hT]; exact W_xor y z
  have h6 : bits .xor .u32 (W p) (W r) = W u := by rw [hu]; exact W_xor p r
  have C1 : Hid (∀ w, Calls Tryd.prog 18 #[.int .u32 (W x), .int .u32 (W y)] w fun e w' => e = .returned (.int .u32 (W p)) ∧ w' = w) := fun w => by rw [hp]; exact mul_c x y w
  have C2 : Hid (∀ w, Calls Tryd.prog 18 #[.int .u32 (W y), .int .u32 (W x)] w fun e w' => e = .returned (.int .u32 (W p)) ∧ w' = w) := fun w => by rw [hp, mul_comm x y]; exact mul_c y x w
  have C3 : Hid (∀ w, Calls Tryd.prog 18 #[.int .u32 (W p), .int .u32 (W z)] w fun e w' => e = .returned (.int .u32 (W s)) ∧ w' = w) := fun w => by rw [← h2]; exact mul_c p z w
  have C4 : Hid (∀ w, Calls Tryd.prog 18 #[.int .u32 (W y), .int .u32 (W z)] w fun e w' => e = .returned (.int .u32 (W q)) ∧ w' = w) := fun w => by rw [hq]; exact mul_c y z w
  have C5 : Hid (∀ w, Calls Tryd.prog 18 #[.int .u32 (W x), .int .u32 (W q)] w fun e w' => e = .returned (.int .u32 (W s)) ∧ w' = w) := fun w => by rw [hs]; exact mul_c x q w
  have C6 : Hid (∀ w, Calls Tryd.prog 18 #[.int .u32 (W x), .int .u32 (W t)] w fun e w' => e = .returned (.int .u32 (W u)) ∧ w' = w) := fun w => by rw [← h3]; exact mul_c x t w
  have C7 : Hid (∀ w, Calls Tryd.prog 18 #[.int .u32 (W x), .int .u32 (W z)] w fun e w' => e = .returned (.int .u32 (W r)) ∧ w' = w) := fun w => by rw [hr]; exact mul_c x z w
  have C8 : Hid (∀ w, Calls Tryd.prog 18 #[.int .u32 (W x), .int .u32 2147483648] w fun e w' => e = .returned (.int .u32 (W x)) ∧ w' = w) := fun w => by
    have := mul_c x one w
    rw [mul_one] at this
    rw [HO.out]; exact this
  have CP : Hid (∀ w, Calls Tryd.prog 17 #[.int .u64 0] w fun e w' => e = .returned (.int .u32 2147483648) ∧ w' = w) := fun w => by
    have := power_c 0 (by omega) (by omega) w
    rw [HP.out] at this
    exact this
  clear hp hq hr hs hT hu h2 h3 HP HO
  go_enter Tryd.func7, Tryd.ntmps7
  go_wp2_with fail
  refine (awake_c _ HT.out).mono ?_
  rintro e w' ⟨rfl, HB⟩
  replace HB : Hid _ := HB
  go_wp2_with fail
  refine (CP.out _).mono ?_
  rintro e w' ⟨rfl, rfl⟩
  go_wp2_with fail
  refine (CP.out _).mono ?_
  rintro e w' ⟨rfl, rfl⟩
  go_wp2_with fail
  refine (C1.out _).mono ?_
  rintro e w' ⟨rfl, rfl⟩
  go_wp2_with fail
  refine (C2.out _).mono ?_
  rintro e w' ⟨rfl, rfl⟩
  go_wp2_with fail
  refine (C1.out _).mono ?_
  rintro e w' ⟨rfl, rfl⟩
  go_wp2_with fail
  refine (C3.out _).mono ?_
  rintro e w' ⟨rfl, rfl⟩
  go_wp2_with fail
  refine (C4.out _).mono ?_
  rintro e w' ⟨rfl, rfl⟩
  go_wp2_with fail
  refine (C5.out _).mono ?_
  rintro e w' ⟨rfl, rfl⟩
  go_wp2_with fail
  refine (C6.out _).mono ?_
  rintro e w' ⟨rfl, rfl⟩
  go_wp2_with fail
  refine (C1.out _).mono ?_
  rintro e w' ⟨rfl, rfl⟩
  go_wp2_with fail
  refine (C7.out _).mono ?_
  rintro e w' ⟨rfl, rfl⟩
  go_wp2_with fail
  refine (C8.out _).mono ?_
  rintro e w' ⟨rfl, rfl⟩
  go_wp2
  go_ret
  exact ⟨rfl, HB.out⟩

theorem gTab : Tryd.prog.globalNamed "hawser/crc.halves" = some 0 := by kernel_rfl
theorem gTabType : (Tryd.prog.globals[0]?).map (·.type) = some 52 := by kernel_rfl
theorem cellsT : Tryd.prog.cellsOf 52 = 16 := by kernel_rfl
theorem cellsE : Tryd.prog.cellsOf 26 = 1 := by kernel_rfl
/-- What the row's list gives: the table's cells. -/
theorem table {W : World} (h : laidMetH Tryd.prog Rows.crcRingRow.laid W) : Lib.TabIs Tryd.prog W "hawser/crc.halves" .u32 tabl :=
  Lib.tabIs_of_head (rest := []) gTab gTabType Tryd.underlying52 Tryd.underlying26 cellsE cellsT h
theorem tab_of {W : World} (h : laidMetH Tryd.prog Rows.crcRingRow.laid W) : Tab W := fun i hi => (table h).cell gTab i (show i < tabl.length from hi)
theorem laid_met (os : Os) : laidMet Tryd.prog Rows.crcRingRow.laid (({ World.holding Tryd.prog os ⟨#[], #[], []⟩ with heap := (World.holding Tryd.prog os ⟨#[], #[], []⟩).heap.modify 0 fun | .cells _ t frozen => .cells (tabl.map fun z => Value.int .u32 z).toArray t frozen | o => o } : World).forCall (fun _ _ => 0) ⟨#[], #[.int .u32 0, .int .u32 0, .int .u32 0], []⟩).memory :=
  laidMet_of_run' 8 (by kernel_rfl) (by kernel_rfl)
theorem reads (os : Os) {H : Type} (enc : TypeId × Value → H) : ∃ places, DataW.whole enc Tryd.prog (({ World.holding Tryd.prog os ⟨#[], #[], []⟩ with heap := (World.holding Tryd.prog os ⟨#[], #[], []⟩).heap.modify 0 fun | .cells _ t frozen => .cells (tabl.map fun z => Value.int .u32 z).toArray t frozen | o => o } : World).forCall (fun _ _ => 0) ⟨#[], #[.int .u32 0, .int .u32 0, .int .u32 0], []⟩).memory Tryd.f7.params.toList Rows.crcRingSpec.vars false (#[.int .u32 0, .int .u32 0, .int .u32 0] : Array Value).toList 8 = some ([.lit (.int .u32 0), .lit (.int .u32 0), .lit (.int .u32 0)], [], places) :=
  ⟨[], by kernel_rfl⟩

set_option maxRecDepth 100000 in
theorem lifted (os : Os) (started : os.Started) (H : Type) (enc : TypeId × Value → H) (F : Stop.Interp) :
    ReturnsInHanded {} Tryd.checked os 7 .any ((OpenSpec.ofChange Rows.crcRingSpec).preRow enc Tryd.prog Tryd.f7 Rows.crcRingRow.domain false Rows.crcRingRow.laid) (((OpenSpec.ofChange Rows.crcRingSpec).at F).post enc Tryd.prog Tryd.f7 false true false false) := by
  obtain ⟨places, hx⟩ := reads os enc
  refine returnsInHanded_of_row (C := Tryd.checked) (s := OpenSpec.ofChange Rows.crcRingSpec) own started (by kernel_rfl) Tryd.func7
    (witness_row_at (enc := enc) (C := Tryd.checked) false ({ World.holding Tryd.prog os ⟨#[], #[], []⟩ with heap := (World.holding Tryd.prog os ⟨#[], #[], []⟩).heap.modify 0 fun | .cells _ t frozen => .cells (tabl.map fun z => Value.int .u32 z).toArray t frozen | o => o } : World) #[.int .u32 0, .int .u32 0, .int .u32 0] rfl (by kernel_rfl) (by kernel_rfl) (by kernel_rfl)
      (OpenSpec.preRow_of_cond 8 hx (by kernel_rfl) (fun k hk => by cases hk) (by kernel_rfl) (laid_met os))) ?_
  intro W base args ds gs before hval0 hW _ hcond0 hsz0 hL _ _
  have hval : ∀ (j : Nat) t v, Tryd.f7.params[j]? = some t → args[j]? = some v → Value.okWide Tryd.prog W .any base t v := hval0
  have hW' := hW
  obtain ⟨p, q, hA0, hV, rfl, hfz, hnd⟩ := hW
  have hA : DataW.TrodAll enc Tryd.prog W 0 (fun _ => true) true Tryd.f7.params.toList args.toList ds p := hA0
  rw [Tryd.params7] at hA hval
  obtain ⟨v0, vs0, d0, ds0, p0, q0, hargs, rfl, rfl, h0, r0⟩ := trodAll_cons hA
  obtain ⟨v1, vs1, d1, ds1, p1, q1, rfl, rfl, rfl, h1, r1⟩ := trodAll_cons r0
  obtain ⟨v2, vs2, d2, ds2, p2, q2, rfl, rfl, rfl, h2, r2⟩ := trodAll_cons r1
  obtain ⟨rfl, rfl, rfl⟩ := trodAll_nil r2
  obtain rfl : args = #[v0, v1, v2] := by cases args; simp_all
  obtain ⟨rfl, rfl⟩ := trodVars_none hV
  obtain ⟨a0, rfl, rfl, rfl, w0⟩ := open_int Tryd.underlying26 (hval 0 26 v0 rfl rfl) h0
  obtain ⟨a1, rfl, rfl, rfl, w1⟩ := open_int Tryd.underlying26 (hval 1 26 v1 rfl rfl) h1
  obtain ⟨a2, rfl, rfl, rfl, w2⟩ := open_int Tryd.underlying26 (hval 2 26 v2 rfl rfl) h2
  clear hA0 hval0
  simp only [List.append_nil] at hW'
  refine (walk a0 a1 a2 W w0 w1 w2 (tab_of hL)).mono fun e W' ⟨he, bel⟩ => ?_
  subst he
  exact ⟨_, rfl, _, _, _, [], _, [], hW', trodAll_mk1 (shut_bool Tryd.underlying4 _), (trodAll_cons_mk (shut_int Tryd.underlying26 w0) (trodAll_cons_mk (shut_int Tryd.underlying26 w1) (trodAll_cons_mk (shut_int Tryd.underlying26 w2) trodAll_mk0))), rfl, bel.frame _, fun h => by cases h⟩

theorem over : Rows.crcRingRow.holds Tryd.pinned (OpenSpec.ofChange Rows.crcRingSpec) :=
  OpenClaim.holds_of_cond 7 Tryd.f7 rfl rfl rfl rfl rfl rfl rfl ⟨rfl, rfl, rfl, rfl, rfl⟩ rfl rfl rfl rfl rfl (by kernel_rfl) Tryd.func7 (by kernel_rfl)
    (of_decide_eq_true (by kernel_rfl)) (by unfold Func.isWrapper; first | (rw [if_pos (by decide +kernel)]; kernel_rfl) | (rw [if_neg (by decide +kernel)]; exact ⟨rfl, rfl⟩))
    (fun os started H enc _ F => by rw [OpenClaim.pre_eq_preRow]; exact lifted os started H enc F)

/-- No parameter wants a stand-in; the program's own looks are off. -/
theorem plain (f : FuncId) (fn : Func) (hf : Tryd.pinned.checked.prog.funcNamed "hawser/hawserlaw02.CrcRing" = some f) (hfn : Tryd.pinned.checked.prog.funcs[f]? = some fn) :
    false = Tryd.pinned.checked.prog.looks [] ∧ ∀ (j : Nat) t, fn.params[j]? = some t → Tryd.pinned.checked.prog.wantsStandIn t = false := by
  obtain rfl : f = 7 := Option.some.inj ((show Tryd.prog.funcNamed "hawser/hawserlaw02.CrcRing" = some 7 by kernel_rfl).symm.trans hf) |>.symm
  obtain rfl : fn = Tryd.f7 := (Option.some.inj (Tryd.func7.symm.trans hfn)).symm
  refine ⟨by kernel_rfl, fun j t ht => ?_⟩
  rw [Tryd.params7] at ht
  have hm : t ∈ [26, 26, 26] := by simpa using Array.mem_of_getElem? ht
  have hall : (([26, 26, 26] : List TypeId).all fun u => !Tryd.prog.wantsStandIn u) = true := by kernel_rfl
  exact (show Tryd.prog.wantsStandIn t = false by simpa using List.all_eq_true.1 hall t hm)
theorem card : Rows.CrcRingCardSaid :=
  Claim7.holds_tied_plain_at .later [] _ _ _ _ over (fun _ h => by cases h) (by kernel_rfl) (fun _ h => by cases h) crcRing_row_tie rfl ⟨rfl, rfl⟩ (by kernel_rfl) rfl plain (by kernel_rfl)

end Go.Proofs.YtlfijnegmnploacDoor.crcRing
namespace Go.Proofs.YtlfijnegmnploacDoor
theorem crcRing_holds : Rows.CrcRingCardSaid := crcRing.card
#print axioms crcRing_holds
end Go.Proofs.YtlfijnegmnploacDoor
