/-
  Proved, in its second form: for all parts that hold together at most 2^20 values, hawserlaw02.CrcSums answers true: the sum of any parts is the remainder of the document's division, and the parts stay as they were. Condition: the second form's own (the card ties the table of package crc to the program's text).
-/
import Derived.Test.YtlfijnegmnploaaDoorRows
import Derived.Test.YtlfijnegmnploaaDoorCards
import Derived.Test.YtlfijnegmnploaaDoorTie
import Derived.Test.YtlfijnegmnploaaDoorTwinC
import Derived.Test.YtlfijnegmnploaaDoorRSumC
import Derived.WalkKit
import Derived.ProofKit
import Derived.OpenShut
import Derived.ShutString
import Derived.ChangeOld
import Derived.Below
import Derived.Lib.SmallJoins
import Derived.JoinedCond
import Derived.Deep.DeepHandedRow
import Derived.Lib.LaidTab
namespace Go.Proofs.YtlfijnegmnploaaDoor.crcSums
open Go.ChangeShapes Go.WideShapes Go.ChangeAt Go.RowKit
set_option linter.unusedVariables false

theorem own : ownKnob Tryd.prog.godebug = none := by kernel_rfl
theorem laidOut : laidOutB Tryd.prog = true := by kernel_rfl

set_option maxHeartbeats 1000000 in
theorem walk (a : Option Addr) (n cap : Nat) (X : List (List Int)) (w : World) (hp : Parts w a n X) (hl : X.flatten.length + n ≤ 1048576) (ht : Tab w) :
    Calls Tryd.prog 4 #[.slice a n cap] w fun e w' => e = .returned (.bool true) ∧ Below w.heap.size w w' := by
  have HP : Hid (Parts w a n X) := hp
  have HT : Hid (Tab w) := ht
  have HLN : Hid (X.length = n) := hp.1
  have HXB : Hid (∀ i, i < X.length → Bytes (X[i]?.getD []) ∧ (X[i]?.getD []).length ≤ 1048576) := fun i hi => by
    obtain ⟨b, off, _, _, hc⟩ := hp.2.resolve_left (by have := hp.1; omega)
    obtain ⟨_, pl, _, _, h2, h3, h4, _⟩ := hc i (by have := hp.1; omega)
    exact ⟨h3, by rw [h2.1]; exact h4⟩
  have HFB : Hid (Bytes X.flatten) := bytes_of_mem (fun z hz => by
    obtain ⟨l, hl', hz'⟩ := List.mem_flatten.1 hz
    obtain ⟨i, hi, rfl⟩ := List.getElem_of_mem hl'
    have := (HXB.out i hi).1.mem z (by simpa [hi] using hz')
    exact this)
  clear hp ht
  go_enter Tryd.func4, Tryd.ntmps4
  go_wp2_with fail
  refine (twin_c a n cap X w HP.out hl).mono ?_
  rintro e w1 ⟨v1, rfl, ht1, hb1⟩
  have HB1 : Hid (Below w.heap.size w w1) := hb1
  obtain ⟨a1, c1, hv1, hp1⟩ := Twins.parts (B := w.heap.size) (w := w1) (u := v1) (X := X) (by rw [HLN.out]; exact ht1) HXB.out
  rw [HLN.out] at hv1 hp1
  subst hv1
  have HP1 : Hid (Parts w1 a1 n X) := hp1
  clear ht1 hb1 hp1
  go_wp2_with fail
  refine (sum_c a1 n c1 X w1 HP1.out.segs (HT.out.below HB1.out) (by omega)).mono ?_
  rintro e w' ⟨rfl, rfl⟩
  obtain ⟨Z, hZ⟩ : ∃ Z, Z = W (sum X.flatten) := ⟨_, rfl⟩
  rw [← hZ]
  replace hZ : Hid _ := hZ
  go_wp2_with fail
  refine (sum_c a1 n c1 X w' HP1.out.segs (HT.out.below HB1.out) (by omega)).mono ?_
  rintro e w2 ⟨rfl, rfl⟩
  rw [← hZ.out]
  go_wp2_with fail
  refine (joined_c a n cap X _ (HP.out.below HB1.out) hl).mono ?_
  rintro e w3 ⟨v3, rfl, ho3, hb3⟩
  obtain ⟨a3, c3, rfl, hs3, hn3, hlc3⟩ := ho3.seg
  have HB3 : Hid (Below w.heap.size w w3) := HB1.out.trans (hb3.mono HB1.out.size)
  have HS3 : Hid (Seg .u8 w3 a3 X.flatten.length X.flatten) := hs3
  have HP3 : Hid (Parts w3 a1 n X) := HP1.out.below hb3
  clear ho3 hb3 hs3 hn3
  obtain ⟨L, hL⟩ : ∃ L, L = X.flatten.length := ⟨_, rfl⟩
  rw [← hL] at HS3 hlc3 hl ⊢
  replace hL : Hid _ := hL
  go_wp2_with fail
  refine (rsum_c a3 L c3 X.flatten w3 HS3.out HFB.out (by omega)).mono ?_
  rintro e w4 ⟨rfl, rfl⟩
  rw [← hZ.out]
  have hzz : (Z == Z) = true := by simp
  go_wp2_with fail
  refine (lsame_c a1 a n c1 cap X _ HP3.out (HP.out.below HB3.out) (by omega)).mono ?_
  rintro e w5 ⟨rfl, hb5⟩
  have HB5 : Hid (Below w.heap.size w w5) := HB3.out.trans (hb5.mono HB3.out.size)
  clear hb5
  go_wp2
  go_ret
  exact ⟨rfl, HB5.out⟩

theorem bulk_len {H : Type} (l : List (DataW H)) : l.length ≤ Rows.uptoBulkAll l := by
  induction l with
  | nil => simp
  | cons d r ih =>
    have : 1 ≤ Rows.uptoBulk d := by
      cases d with
      | lit x => cases x <;> simp [Rows.uptoBulk]
      | _ => simp [Rows.uptoBulk]
    simp only [Rows.uptoBulkAll, List.length_cons]; omega
theorem bulk_mem {H : Type} {d : DataW H} {l : List (DataW H)} (h : d ∈ l) : Rows.uptoBulk d ≤ Rows.uptoBulkAll l := by
  induction l with
  | nil => cases h
  | cons x r ih =>
    simp only [Rows.uptoBulkAll]
    rcases List.mem_cons.1 h with rfl | h
    · omega
    · have := ih h; omega
theorem bulk_slice {H : Type} {ds : List (DataW H)} {d : DataW H} {l r : List (DataW H)} (hk : Rows.uptoSmall H ds = true) (hd : d ∈ ds) (e : d = .slice l r) : l.length + r.length ≤ 1048576 := by
  have h0 : Rows.uptoBulkAll ds ≤ 1048576 := of_decide_eq_true hk
  have h1 := bulk_mem hd
  have h3 := bulk_len l
  have h4 := bulk_len r
  rw [e] at h1
  simp only [Rows.uptoBulk] at h1
  omega

theorem gTab : Tryd.prog.globalNamed "hawser/crc.halves" = some 0 := by kernel_rfl
theorem gTabType : (Tryd.prog.globals[0]?).map (·.type) = some 46 := by kernel_rfl
theorem cellsT : Tryd.prog.cellsOf 46 = 16 := by kernel_rfl
theorem cellsE : Tryd.prog.cellsOf 26 = 1 := by kernel_rfl
/-- What the row's list gives: the table's cells. -/
theorem table {W : World} (h : laidMetH Tryd.prog Rows.crcSumsUptoRow.laid W) : Lib.TabIs Tryd.prog W "hawser/crc.halves" .u32 tabl :=
  Lib.tabIs_of_head (rest := []) gTab gTabType Tryd.underlying46 Tryd.underlying26 cellsE cellsT h
theorem tab_of {W : World} (h : laidMetH Tryd.prog Rows.crcSumsUptoRow.laid W) : Tab W := fun i hi => (table h).cell gTab i (show i < tabl.length from hi)
theorem laid_met (os : Os) : laidMet Tryd.prog Rows.crcSumsUptoRow.laid (({ World.holding Tryd.prog os ⟨#[], #[], []⟩ with heap := (World.holding Tryd.prog os ⟨#[], #[], []⟩).heap.modify 0 fun | .cells _ t frozen => .cells (tabl.map fun z => Value.int .u32 z).toArray t frozen | o => o } : World).forCall (fun _ _ => 0) ⟨#[], #[.slice none 0 0], []⟩).memory :=
  laidMet_of_run' 8 (by kernel_rfl) (by kernel_rfl)
theorem reads (os : Os) {H : Type} (enc : TypeId × Value → H) : ∃ places, DataW.whole enc Tryd.prog (({ World.holding Tryd.prog os ⟨#[], #[], []⟩ with heap := (World.holding Tryd.prog os ⟨#[], #[], []⟩).heap.modify 0 fun | .cells _ t frozen => .cells (tabl.map fun z => Value.int .u32 z).toArray t frozen | o => o } : World).forCall (fun _ _ => 0) ⟨#[], #[.slice none 0 0], []⟩).memory Tryd.f4.params.toList Rows.crcSumsSpec.vars false (#[.slice none 0 0] : Array Value).toList 8 = some ([.nil], [], places) :=
  ⟨[], by kernel_rfl⟩

set_option maxRecDepth 100000 in
theorem lifted (os : Os) (started : os.Started) (H : Type) (enc : TypeId × Value → H) (F : Stop.Interp) :
    ReturnsInHanded {} Tryd.checked os 4 .any ((Rows.OpenSpec.upto Rows.crcSumsSpec).preRow enc Tryd.prog Tryd.f4 Rows.crcSumsUptoRow.domain false Rows.crcSumsUptoRow.laid) (((Rows.OpenSpec.upto Rows.crcSumsSpec).at F).post enc Tryd.prog Tryd.f4 false true false false) := by
  obtain ⟨places, hx⟩ := reads os enc
  refine returnsInHanded_of_row (C := Tryd.checked) (s := Rows.OpenSpec.upto Rows.crcSumsSpec) own started (by kernel_rfl) Tryd.func4
    (witness_row_at (enc := enc) (C := Tryd.checked) false ({ World.holding Tryd.prog os ⟨#[], #[], []⟩ with heap := (World.holding Tryd.prog os ⟨#[], #[], []⟩).heap.modify 0 fun | .cells _ t frozen => .cells (tabl.map fun z => Value.int .u32 z).toArray t frozen | o => o } : World) #[.slice none 0 0] rfl (by kernel_rfl) (by kernel_rfl) (by kernel_rfl)
      (OpenSpec.preRow_of_cond 8 hx (by kernel_rfl) (fun k hk => by cases hk; kernel_rfl) (by kernel_rfl) (laid_met os))) ?_
  intro W base args ds gs before hval0 hW _ hcond0 hsz0 hL _ _
  have hk : Rows.uptoSmall H (ds ++ gs) = true := hcond0 _ rfl
  have hval : ∀ (j : Nat) t v, Tryd.f4.params[j]? = some t → args[j]? = some v → Value.okWide Tryd.prog W .any base t v := hval0
  have hW' := hW
  obtain ⟨p, q, hA0, hV, rfl, hfz, hnd⟩ := hW
  have hA : DataW.TrodAll enc Tryd.prog W 0 (fun _ => true) true Tryd.f4.params.toList args.toList ds p := hA0
  rw [Tryd.params4] at hA hval
  obtain ⟨v0, vs0, d0, ds0, p0, q0, hargs, rfl, rfl, h0, r0⟩ := trodAll_cons hA
  obtain ⟨rfl, rfl, rfl⟩ := trodAll_nil r0
  obtain rfl : args = #[v0] := by cases args; simp_all
  obtain ⟨rfl, rfl⟩ := trodVars_none hV
  have k0 := h0
  have lt0 : ∀ x ∈ p0, x.block < W.heap.size := by obtain ⟨m, hm⟩ := k0; exact DataW.trod_lt m _ _ _ hm
  obtain ⟨a0, n0, cap0, X0, rfl, x0, y0⟩ : ∃ a n cap X, v0 = .slice a n cap ∧ Parts W a n X ∧ X.flatten.length + n ≤ 1048576 := by
    obtain ⟨sa, sl, sc, hv⟩ := okWide_slice Tryd.underlying28 (hval 0 28 v0 rfl rfl)
    have hAll : Rows.uptoBulkAll _ ≤ 1048576 := of_decide_eq_true hk
    exact parts_open sa sl sc hv h0 (Nat.le_trans (bulk_mem (show d0 ∈ _ by simp)) hAll)
  clear hA0 hval0
  simp only [List.append_nil] at hW'
  refine (walk a0 n0 cap0 X0 W x0 y0 (tab_of hL)).mono fun e W' ⟨he, bel⟩ => ?_
  subst he
  exact ⟨_, rfl, _, _, _, [], _, [], hW', trodAll_mk1 (shut_bool Tryd.underlying4 _), (trodAll_cons_mk (Below.trod laidOut (by kernel_rfl) (of_decide_eq_true (by kernel_rfl)) k0 bel lt0) trodAll_mk0), rfl, bel.frame _, fun h => by cases h⟩

theorem over : Rows.crcSumsUptoRow.holds Tryd.pinned (Rows.OpenSpec.upto Rows.crcSumsSpec) :=
  OpenClaim.holds_of_cond 4 Tryd.f4 rfl rfl rfl rfl rfl rfl rfl ⟨rfl, rfl, rfl, rfl, rfl⟩ rfl rfl rfl rfl rfl (by kernel_rfl) Tryd.func4 (by kernel_rfl)
    (of_decide_eq_true (by kernel_rfl)) (by unfold Func.isWrapper; first | (rw [if_pos (by decide +kernel)]; kernel_rfl) | (rw [if_neg (by decide +kernel)]; exact ⟨rfl, rfl⟩))
    (fun os started H enc _ F => by rw [OpenClaim.pre_eq_preRow]; exact lifted os started H enc F)

/-- No parameter wants a stand-in; the program's own looks are off. -/
theorem plain (f : FuncId) (fn : Func) (hf : Tryd.pinned.checked.prog.funcNamed "hawser/hawserlaw02.CrcSums" = some f) (hfn : Tryd.pinned.checked.prog.funcs[f]? = some fn) :
    false = Tryd.pinned.checked.prog.looks [] ∧ ∀ (j : Nat) t, fn.params[j]? = some t → Tryd.pinned.checked.prog.wantsStandIn t = false := by
  obtain rfl : f = 4 := Option.some.inj ((show Tryd.prog.funcNamed "hawser/hawserlaw02.CrcSums" = some 4 by kernel_rfl).symm.trans hf) |>.symm
  obtain rfl : fn = Tryd.f4 := (Option.some.inj (Tryd.func4.symm.trans hfn)).symm
  refine ⟨by kernel_rfl, fun j t ht => ?_⟩
  rw [Tryd.params4] at ht
  have hm : t ∈ [28] := by simpa using Array.mem_of_getElem? ht
  have hall : (([28] : List TypeId).all fun u => !Tryd.prog.wantsStandIn u) = true := by kernel_rfl
  exact (show Tryd.prog.wantsStandIn t = false by simpa using List.all_eq_true.1 hall t hm)
theorem card : Rows.CrcSumsUptoCardSaid :=
  Claim7.holds_tied_plain_at .later [] _ _ _ _ over (fun _ h => by cases h) (by kernel_rfl) (fun _ h => by cases h) crcSumsUpto_row_tie rfl ⟨rfl, rfl⟩ (by kernel_rfl) rfl plain (by kernel_rfl)

end Go.Proofs.YtlfijnegmnploaaDoor.crcSums
namespace Go.Proofs.YtlfijnegmnploaaDoor
theorem crcSums_holds : Rows.CrcSumsUptoCardSaid := crcSums.card
#print axioms crcSums_holds
end Go.Proofs.YtlfijnegmnploaaDoor
