/-
  Proved: for all bytes, every place and mask, hawserlaw02.CrcTurnsBack answers true: Turned is the sum of the text of which that byte is turned, and leads back. No condition (the card ties the table of package crc to the program's text).
-/
import Derived.Test.YtlfijnegmnploacDoorRows
import Derived.Test.YtlfijnegmnploacDoorCards
import Derived.Test.YtlfijnegmnploacDoorTie
import Derived.Test.YtlfijnegmnploacDoorAwaC
import Derived.Test.YtlfijnegmnploacDoorTurnC
import Derived.Test.YtlfijnegmnploacDoorGrow
import Derived.Test.YtlfijnegmnploacDoorFlip
import Derived.WalkKit
import Derived.ProofKit
import Derived.OpenShut
import Derived.ShutString
import Derived.ChangeOld
import Derived.Below
import Derived.Lib.SmallJoins
import Derived.JoinedCond
import Derived.SizedLaws
import Derived.Deep.DeepHandedRow
import Derived.Lib.LaidTab
namespace Go.Proofs.YtlfijnegmnploacDoor.crcTurnsBack
open Go.ChangeShapes Go.WideShapes Go.ChangeAt Go.RowKit
set_option linter.unusedVariables false

theorem own : ownKnob Tryd.prog.godebug = none := by kernel_rfl
theorem laidOut : laidOutB Tryd.prog = true := by kernel_rfl

/-- What the walk is told of a slice of integers that came in. -/
def IsRow (k : IntKind) (R : Nat) (w : World) (a : Option Addr) (len cap : Nat) (zs : List Int) : Prop :=
  (a = none ∧ len = 0 ∧ cap = 0 ∧ zs = []) ∨
  ∃ x, a = some x ∧ len ≤ cap ∧ cap ≤ R ∧ zs.length = cap ∧ (∀ i, i < zs.length → w.cell? (x.add i) = some (.int k (zs.getD i 0))) ∧ ∀ n ∈ zs, (Lit.int k n).wf = true

theorem row_nil {k : IntKind} {R : Nat} {w : World} {a : Option Addr} {len cap : Nat} {zs : List Int} (h : IsRow k R w a len cap zs) : a = none → cap = 0 := by
  rcases h with ⟨_, _, h, _⟩ | ⟨x, h, _⟩
  · exact fun _ => h
  · intro h'; rw [h] at h'; cases h'
theorem turned_sum (xs : List Int) (k : Nat) (m : Int) (hk : k < xs.length) (hx : Bytes xs) (hm : 0 ≤ m) : sum [xs.set k (bx (xs[k]?.getD 0) m)].flatten = turned (sum [xs].flatten) (xs.length - 1 - k) m := by
  simp only [List.flatten_cons, List.flatten_nil, List.append_nil]
  unfold sum turned
  rw [reg_set xs ones k m hk (fun z hz => (hx.mem z hz).1) hm, BitVec.not_xor_left]
theorem turned_back (c : Wd) (n : Nat) (m : Int) : turned (turned c n m) n m = c := by
  unfold turned
  rw [BitVec.xor_assoc, BitVec.xor_self]
  exact BitVec.xor_zero

set_option maxHeartbeats 1000000 in
theorem walk (a : Option Addr) (len cap : Nat) (zs : List Int) (a1 a2 : Int) (w : World) (x0 : IsRow .u8 140737488351232 w a len cap zs) (w1 : (Lit.int .u64 a1).wf = true) (w2 : (Lit.int .u8 a2).wf = true) (ht : Tab w) :
    Calls Tryd.prog 6 #[.slice a len cap, .int .u64 a1, .int .u8 a2] w fun e w' => e = .returned (.bool true) ∧ Below w.heap.size w w' := by
  have b1 := bounds_u64 w1
  have b2 := wf_u8 w2
  obtain ⟨hs, hlc, hcr, hwf⟩ := seg_of_row x0
  have HN : Hid (a = none → cap = 0) := row_nil x0
  have HX : Hid (Bytes (zs.take len)) := fun i hi => wf_u8 (hwf i hi)
  obtain ⟨xs, hxs⟩ : ∃ xs, xs = zs.take len := ⟨_, rfl⟩
  rw [← hxs] at hs HX
  have HS : Hid (Seg .u8 w a len xs) := hs
  have HLN : Hid (xs.length = len) := hs.1
  have HT : Hid (Tab w) := ht
  have hl : len ≤ 140737488351232 := by omega
  clear ht w1 w2 x0 hwf hxs hs hlc hcr
  by_cases h0 : len = 0
  · have hc : ((len : Int) == 0) = true := by rw [h0]; rfl
    have H0 : Hid (len = 0) := h0
    clear h0
    go_enter Tryd.func6, Tryd.ntmps6
    go_wp2_with (go_at_call 8; go_must (refine (awake_c _ HT.out).mono ?_); rintro e w' ⟨rfl, HB⟩; replace HB : Hid _ := HB)
    go_ret
    exact ⟨rfl, HB.out⟩
  · have hc : ((len : Int) == 0) = false := by simpa using h0
    obtain ⟨I, hI⟩ : ∃ I : Int, a1.tmod (len : Int) = I := ⟨_, rfl⟩
    have hI2 : I = a1 % (len : Int) := by rw [← hI]; exact Int.tmod_eq_emod_of_nonneg b1.1
    have hI0 : 0 ≤ I := by rw [hI2]; exact Int.emod_nonneg _ (by omega)
    have hI1 : I < (len : Int) := by rw [hI2]; exact Int.emod_lt_of_pos _ (by omega)
    have H0 : Hid (len ≠ 0) := h0
    clear h0 hI2
    obtain ⟨k, hk⟩ : ∃ k, k = I.toNat := ⟨_, rfl⟩
    have hkl : k < len := by omega
    have hxk := HX.out k (by have := HLN.out; omega)
    have hy : bits .xor .u8 (xs[k]?.getD 0) a2 = bx (xs[k]?.getD 0) a2 := u8_xor _ _ hxk.1 hxk.2 b2.1 b2.2
    have HQ : Hid (sum [xs.set k (bx (xs[k]?.getD 0) a2)].flatten = turned (sum [xs].flatten) (len - 1 - k) a2) := by
      have := turned_sum xs k a2 (by have := HLN.out; omega) HX.out b2.1
      rw [HLN.out] at this; exact this
    have HR : Hid (turned (turned (sum [xs].flatten) (len - 1 - k) a2) (len - 1 - k) a2 = sum [xs].flatten) := turned_back _ _ _
    have HY : Hid (Bytes (xs.set k (bx (xs[k]?.getD 0) a2))) := by
      apply bytes_of_mem
      intro z hz
      rcases List.mem_or_eq_of_mem_set hz with h | h
      · exact HX.out.mem z h
      · rw [h]; exact bx_bd _ _ hxk.2 b2.2
    have HK : Hid ((len : Int) - 1 - I = ((len - 1 - k : Nat) : Int)) := by show _ = _; omega
    obtain ⟨c, hc⟩ : ∃ c, c = sum [xs].flatten := ⟨_, rfl⟩
    obtain ⟨d, hd⟩ : ∃ d, d = turned c (len - 1 - k) a2 := ⟨_, rfl⟩
    have CT : Hid (∀ w, Calls Tryd.prog 16 #[.int .u32 (W c), .int .i64 (len : Int), .int .i64 I, .int .u8 a2] w fun e w' => e = .returned (.tuple #[.int .u32 (W d), .int .i64 0]) ∧ w' = w) := fun w => by
      have := turned_c c (len : Int) I a2 (by omega) hI0 hI1 b2.1 b2.2 w
      rw [show ((len : Int) - 1 - I).toNat = len - 1 - k from by have := HK.out; omega, ← hd] at this
      exact this
    have CT2 : Hid (∀ w, Calls Tryd.prog 16 #[.int .u32 (W d), .int .i64 (len : Int), .int .i64 I, .int .u8 a2] w fun e w' => e = .returned (.tuple #[.int .u32 (W c), .int .i64 0]) ∧ w' = w) := fun w => by
      have := turned_c d (len : Int) I a2 (by omega) hI0 hI1 b2.1 b2.2 w
      rw [show ((len : Int) - 1 - I).toNat = len - 1 - k from by have := HK.out; omega, hd, hc, HR.out, ← hc] at this
      rw [hd]
      exact this
    rw [← hc, ← hd] at HQ
    replace hc : Hid _ := hc
    obtain ⟨y, hy2⟩ : ∃ y, y = bx (xs[k]?.getD 0) a2 := ⟨_, rfl⟩
    rw [← hy2] at hy HQ HY
    have hkt : I.toNat = k := hk.symm
    clear HR hd hy2 HK hk
    go_enter Tryd.func6, Tryd.ntmps6
    go_wp2_with (first
      | (go_at_call 8; go_must (refine (awake_c _ HT.out).mono ?_); rintro e w1 ⟨rfl, HB⟩; replace HB : Hid _ := HB)
      | (at_builtin; go_must (refine wpList_append_grow _ rfl _ _ rfl _ 0 _ [] rfl (own_nil _ _) a len cap xs rfl HN.out (HS.out.below HB.out) (by omega) (Nat.le_refl _) ?_); intro v1 w2 hown hb1; rw [Nat.zero_add, List.nil_append] at hown; obtain ⟨g, c1, rfl, hBg, hnc⟩ := hown.form (Nat.pos_of_ne_zero H0.out); obtain ⟨hcell, hfree⟩ := hown.cell k hkl; have HO := hown.set k hkl y; replace HO : Hid _ := HO; have HB2 : Hid (Below w1.heap.size w1 (w2.setCell ⟨g, k, none⟩ (.int .u8 y))) := hb1.setCell hBg _; clear hown hb1))
    have HBw2 : Hid (Below w.heap.size w (w2.setCell ⟨g, k, none⟩ (.int .u8 y))) := HB.out.trans (HB2.out.mono HB.out.size)
    have HOS : Hid (Seg .u8 (w2.setCell ⟨g, k, none⟩ (.int .u8 y)) (some ⟨g, 0, none⟩) len (xs.set k y)) := by
      obtain ⟨a', c', he, hseg, _⟩ := Own.seg HO.out
      cases he; exact hseg
    have HZ : Hid ((w2.setCell ⟨g, k, none⟩ (.int .u8 y)).heap.size = w2.heap.size) := by show _ = _; simp
    generalize w2.setCell ⟨g, k, none⟩ (.int .u8 y) = w3 at HBw2 HOS HZ ⊢
    clear HO HB2 hcell hfree
    have HT3 : Hid (Tab w3) := HT.out.below HBw2.out
    have HS3 : Hid (Seg .u8 w3 a len xs) := HS.out.below HBw2.out
    refine (sum_c _ 1 1 [xs] _ ?_ (HT3.out.below ((Below.refl _ _).alloc (Nat.le_refl _) _)) (by omega)).mono ?_
    · exact segs_at _ _ HZ.out.symm HS3.out HX.out (by omega)
    rintro e w' ⟨rfl, rfl⟩
    rw [← hc.out]
    generalize w2.heap.size = g9 at HZ ⊢
    go_wp2_with fail
    refine (CT.out _).mono ?_
    rintro e w' ⟨rfl, rfl⟩
    go_wp2_with fail
    refine (CT2.out _).mono ?_
    rintro e w' ⟨rfl, rfl⟩
    go_wp2_with fail
    refine (sum_c _ 1 1 [xs.set k y] _ ?_ (HT3.out.below (((Below.refl _ _).alloc (Nat.le_refl _) _).alloc (by simp) _)) (by omega)).mono ?_
    · exact segs_at _ _ (by simp) (HOS.out.below ((Below.refl _ _).alloc (Nat.le_refl _) _)) HY.out (by omega)
    rintro e w' ⟨rfl, rfl⟩
    rw [HQ.out]
    go_wp2_with fail
    refine (sum_c _ 1 1 [xs] _ ?_ (HT3.out.below ((((Below.refl _ _).alloc (Nat.le_refl _) _).alloc (by simp) _).alloc (by simp; omega) _)) (by omega)).mono ?_
    · exact segs_at _ _ (by simp) (HS3.out.below (((Below.refl _ _).alloc (Nat.le_refl _) _).alloc (by simp) _)) HX.out (by omega)
    rintro e w' ⟨rfl, rfl⟩
    rw [← hc.out]
    go_wp2
    go_ret
    exact ⟨rfl, HBw2.out.trans (((((Below.refl _ _).alloc (Nat.le_refl _) _).alloc (by simp) _).alloc (by simp; omega) _).mono HBw2.out.size)⟩

theorem gTab : Tryd.prog.globalNamed "hawser/crc.halves" = some 0 := by kernel_rfl
theorem gTabType : (Tryd.prog.globals[0]?).map (·.type) = some 52 := by kernel_rfl
theorem cellsT : Tryd.prog.cellsOf 52 = 16 := by kernel_rfl
theorem cellsE : Tryd.prog.cellsOf 26 = 1 := by kernel_rfl
/-- What the row's list gives: the table's cells. -/
theorem table {W : World} (h : laidMetH Tryd.prog Rows.crcTurnsBackRow.laid W) : Lib.TabIs Tryd.prog W "hawser/crc.halves" .u32 tabl :=
  Lib.tabIs_of_head (rest := []) gTab gTabType Tryd.underlying52 Tryd.underlying26 cellsE cellsT h
theorem tab_of {W : World} (h : laidMetH Tryd.prog Rows.crcTurnsBackRow.laid W) : Tab W := fun i hi => (table h).cell gTab i (show i < tabl.length from hi)
theorem laid_met (os : Os) : laidMet Tryd.prog Rows.crcTurnsBackRow.laid (({ World.holding Tryd.prog os ⟨#[], #[], []⟩ with heap := (World.holding Tryd.prog os ⟨#[], #[], []⟩).heap.modify 0 fun | .cells _ t frozen => .cells (tabl.map fun z => Value.int .u32 z).toArray t frozen | o => o } : World).forCall (fun _ _ => 0) ⟨#[], #[.slice none 0 0, .int .u64 0, .int .u8 0], []⟩).memory :=
  laidMet_of_run' 8 (by kernel_rfl) (by kernel_rfl)
theorem reads (os : Os) {H : Type} (enc : TypeId × Value → H) : ∃ places, DataW.whole enc Tryd.prog (({ World.holding Tryd.prog os ⟨#[], #[], []⟩ with heap := (World.holding Tryd.prog os ⟨#[], #[], []⟩).heap.modify 0 fun | .cells _ t frozen => .cells (tabl.map fun z => Value.int .u32 z).toArray t frozen | o => o } : World).forCall (fun _ _ => 0) ⟨#[], #[.slice none 0 0, .int .u64 0, .int .u8 0], []⟩).memory Tryd.f6.params.toList Rows.crcTurnsBackSpec.vars false (#[.slice none 0 0, .int .u64 0, .int .u8 0] : Array Value).toList 8 = some ([.nil, .lit (.int .u64 0), .lit (.int .u8 0)], [], places) :=
  ⟨[], by kernel_rfl⟩

set_option maxRecDepth 100000 in
theorem lifted (os : Os) (started : os.Started) (H : Type) (enc : TypeId × Value → H) (F : Stop.Interp) :
    ReturnsInHanded {} Tryd.checked os 6 .any ((OpenSpec.ofChange Rows.crcTurnsBackSpec).preRow enc Tryd.prog Tryd.f6 Rows.crcTurnsBackRow.domain false Rows.crcTurnsBackRow.laid) (((OpenSpec.ofChange Rows.crcTurnsBackSpec).at F).post enc Tryd.prog Tryd.f6 false true false false) := by
  obtain ⟨places, hx⟩ := reads os enc
  refine returnsInHanded_of_row (C := Tryd.checked) (s := OpenSpec.ofChange Rows.crcTurnsBackSpec) own started (by kernel_rfl) Tryd.func6
    (witness_row_at (enc := enc) (C := Tryd.checked) false ({ World.holding Tryd.prog os ⟨#[], #[], []⟩ with heap := (World.holding Tryd.prog os ⟨#[], #[], []⟩).heap.modify 0 fun | .cells _ t frozen => .cells (tabl.map fun z => Value.int .u32 z).toArray t frozen | o => o } : World) #[.slice none 0 0, .int .u64 0, .int .u8 0] rfl (by kernel_rfl) (by kernel_rfl) (by kernel_rfl)
      (OpenSpec.preRow_of_cond 8 hx (by kernel_rfl) (fun k hk => by cases hk) (by kernel_rfl) (laid_met os))) ?_
  intro W base args ds gs before hval0 hW _ hcond0 hsz0 hL _ _
  have hsz : (DataW.weightsEach Tryd.prog (Tryd.f6.params.toList ++ Rows.crcTurnsBackSpec.plain.varTypes Tryd.prog) (ds ++ gs)).all (· ≤ reachBytes) = true := hsz0
  have hval : ∀ (j : Nat) t v, Tryd.f6.params[j]? = some t → args[j]? = some v → Value.okWide Tryd.prog W .any base t v := hval0
  have hW' := hW
  obtain ⟨p, q, hA0, hV, rfl, hfz, hnd⟩ := hW
  have hA : DataW.TrodAll enc Tryd.prog W 0 (fun _ => true) true Tryd.f6.params.toList args.toList ds p := hA0
  rw [Tryd.params6] at hA hval hsz
  obtain ⟨v0, vs0, d0, ds0, p0, q0, hargs, rfl, rfl, h0, r0⟩ := trodAll_cons hA
  obtain ⟨v1, vs1, d1, ds1, p1, q1, rfl, rfl, rfl, h1, r1⟩ := trodAll_cons r0
  obtain ⟨v2, vs2, d2, ds2, p2, q2, rfl, rfl, rfl, h2, r2⟩ := trodAll_cons r1
  obtain ⟨rfl, rfl, rfl⟩ := trodAll_nil r2
  obtain rfl : args = #[v0, v1, v2] := by cases args; simp_all
  obtain ⟨rfl, rfl⟩ := trodVars_none hV
  have k0 := h0
  have lt0 : ∀ x ∈ p0, x.block < W.heap.size := by obtain ⟨m, hm⟩ := k0; exact DataW.trod_lt m _ _ _ hm
  obtain ⟨a0, len0, cap0, z0, rfl, x0⟩ : ∃ a len cap zs, v0 = .slice a len cap ∧ IsRow .u8 140737488351232 W a len cap zs := by
    obtain ⟨sa, sl, sc, rfl⟩ := okWide_slice Tryd.underlying22 (hval 0 22 v0 rfl rfl)
    obtain ⟨fuel, hf⟩ := h0
    rcases open_ints Tryd.underlying22 Tryd.underlying5 (by kernel_rfl) hf with ⟨hcs, _⟩ | ⟨x, l, c, zs, hcs, _, hl, hm, hz, hx, hcell, hwz⟩
    · simp [Value.cells] at hcs; obtain ⟨rfl, rfl, rfl⟩ := hcs
      exact ⟨none, 0, 0, [], rfl, .inl ⟨rfl, rfl, rfl, rfl⟩⟩
    · simp [Value.cells] at hcs; obtain ⟨rfl, rfl, rfl⟩ := hcs
      have hz' : zs.length = sc := by simpa using hz
      have hd : d0 = _ := congrArg Prod.fst hx
      have hb := sized_slice hsz (j := 0) (t := 22) (e := 5) rfl (congrArg some hd) Tryd.underlying22
      rw [show Tryd.prog.bytesOf 5 = 1 from by kernel_rfl] at hb
      simp only [lits, List.length_map, List.length_take, List.length_drop, reachBytes] at hb
      exact ⟨some x, sl, sc, zs, rfl, .inr ⟨_, rfl, hl, by omega, hz', hcell, hwz⟩⟩
  obtain ⟨a1, rfl, rfl, rfl, w1⟩ := open_int Tryd.underlying23 (hval 1 23 v1 rfl rfl) h1
  obtain ⟨a2, rfl, rfl, rfl, w2⟩ := open_int Tryd.underlying5 (hval 2 5 v2 rfl rfl) h2
  clear hA0 hval0
  simp only [List.append_nil] at hW'
  refine (walk a0 len0 cap0 z0 a1 a2 W x0 w1 w2 (tab_of hL)).mono fun e W' ⟨he, bel⟩ => ?_
  subst he
  exact ⟨_, rfl, _, _, _, [], _, [], hW', trodAll_mk1 (shut_bool Tryd.underlying4 _), (trodAll_cons_mk (Below.trod laidOut (by kernel_rfl) (of_decide_eq_true (by kernel_rfl)) k0 bel lt0) (trodAll_cons_mk (shut_int Tryd.underlying23 w1) (trodAll_cons_mk (shut_int Tryd.underlying5 w2) trodAll_mk0))), rfl, bel.frame _, fun h => by cases h⟩

theorem over : Rows.crcTurnsBackRow.holds Tryd.pinned (OpenSpec.ofChange Rows.crcTurnsBackSpec) :=
  OpenClaim.holds_of_cond 6 Tryd.f6 rfl rfl rfl rfl rfl rfl rfl ⟨rfl, rfl, rfl, rfl, rfl⟩ rfl rfl rfl rfl rfl (by kernel_rfl) Tryd.func6 (by kernel_rfl)
    (of_decide_eq_true (by kernel_rfl)) (by unfold Func.isWrapper; first | (rw [if_pos (by decide +kernel)]; kernel_rfl) | (rw [if_neg (by decide +kernel)]; exact ⟨rfl, rfl⟩))
    (fun os started H enc _ F => by rw [OpenClaim.pre_eq_preRow]; exact lifted os started H enc F)

/-- No parameter wants a stand-in; the program's own looks are off. -/
theorem plain (f : FuncId) (fn : Func) (hf : Tryd.pinned.checked.prog.funcNamed "hawser/hawserlaw02.CrcTurnsBack" = some f) (hfn : Tryd.pinned.checked.prog.funcs[f]? = some fn) :
    false = Tryd.pinned.checked.prog.looks [] ∧ ∀ (j : Nat) t, fn.params[j]? = some t → Tryd.pinned.checked.prog.wantsStandIn t = false := by
  obtain rfl : f = 6 := Option.some.inj ((show Tryd.prog.funcNamed "hawser/hawserlaw02.CrcTurnsBack" = some 6 by kernel_rfl).symm.trans hf) |>.symm
  obtain rfl : fn = Tryd.f6 := (Option.some.inj (Tryd.func6.symm.trans hfn)).symm
  refine ⟨by kernel_rfl, fun j t ht => ?_⟩
  rw [Tryd.params6] at ht
  have hm : t ∈ [22, 23, 5] := by simpa using Array.mem_of_getElem? ht
  have hall : (([22, 23, 5] : List TypeId).all fun u => !Tryd.prog.wantsStandIn u) = true := by kernel_rfl
  exact (show Tryd.prog.wantsStandIn t = false by simpa using List.all_eq_true.1 hall t hm)
theorem card : Rows.CrcTurnsBackCardSaid :=
  Claim7.holds_tied_plain_at .later [] _ _ _ _ over (fun _ h => by cases h) (by kernel_rfl) (fun _ h => by cases h) crcTurnsBack_row_tie rfl ⟨rfl, rfl⟩ (by kernel_rfl) rfl plain (by kernel_rfl)

end Go.Proofs.YtlfijnegmnploacDoor.crcTurnsBack
namespace Go.Proofs.YtlfijnegmnploacDoor
theorem crcTurnsBack_holds : Rows.CrcTurnsBackCardSaid := crcTurnsBack.card
#print axioms crcTurnsBack_holds
end Go.Proofs.YtlfijnegmnploacDoor
