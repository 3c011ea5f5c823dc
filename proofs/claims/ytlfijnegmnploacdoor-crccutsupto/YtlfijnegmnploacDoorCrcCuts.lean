/-
  Proved, in its second form: for all parts that hold together at most 2^20 values, hawserlaw02.CrcCuts answers true: the sum hangs on the bytes alone, not on how they are cut: by parts, by More, by Join. Condition: the second form's own (the card ties the table of package crc to the program's text).
-/
import Derived.Test.YtlfijnegmnploacDoorRows
import Derived.Test.YtlfijnegmnploacDoorCards
import Derived.Test.YtlfijnegmnploacDoorTie
import Derived.Test.YtlfijnegmnploacDoorAwaC
import Derived.Test.YtlfijnegmnploacDoorJoinC
import Derived.Test.YtlfijnegmnploacDoorParts
import Derived.Test.YtlfijnegmnploacDoorGrow
import Derived.Test.YtlfijnegmnploacDoorJoinedM
import Derived.WalkKit
import Derived.ProofKit
import Derived.OpenShut
import Derived.ShutString
import Derived.ChangeOld
import Derived.Below
import Derived.Lib.SmallJoins
import Derived.JoinedCond
import Derived.Deep.DeepHandedRow
import Derived.Lib.LaidTab
import Derived.Deep.RegionHeld3
namespace Go.Proofs.YtlfijnegmnploacDoor.crcCuts
open Go.ChangeShapes Go.WideShapes Go.ChangeAt Go.RowKit
set_option linter.unusedVariables false

theorem own : ownKnob Tryd.prog.godebug = none := by kernel_rfl
theorem laidOut : laidOutB Tryd.prog = true := by kernel_rfl

theorem join_sum (f x : List Int) : txn (8 * x.length) (sum f) ^^^ sum x = sum (f ++ x) := by
  have n : ∀ v : Wd, ~~~ v = v ^^^ ones := fun v => BitVec.xor_allOnes.symm
  unfold sum
  rw [reg_append, reg_zero (reg ones f) x, reg_zero ones x, n, n, n, txn_lin]
  generalize txn (8 * x.length) (reg ones f) = P
  generalize txn (8 * x.length) ones = Q
  generalize reg 0 x = R
  apply BitVec.eq_of_getLsbD_eq
  intro i hi
  simp only [BitVec.getLsbD_xor]
  cases P.getLsbD i <;> cases Q.getLsbD i <;> cases R.getLsbD i <;> cases ones.getLsbD i <;> rfl
theorem more_sum (f x : List Int) : ~~~ (reg (~~~ (sum f)) x) = sum (f ++ x) := by
  unfold sum
  rw [BitVec.not_not, reg_append]
theorem heldAlloc {w5 w' : World} {ad : Addr} {v : Value} {o : Obj} (h : w'.cell? ad = some v ∧ Hid (Below w5.heap.size w5 w')) : (w'.alloc o).cell? ad = some v ∧ Hid (Below w5.heap.size w5 (w'.alloc o)) := by
  have hb : Below w'.heap.size w' (w'.alloc o) := (Below.refl _ _).alloc (Nat.le_refl _) _
  exact ⟨(hb.cell (block_of_cell h.1)).trans h.1, h.2.out.trans (hb.mono h.2.out.size)⟩
theorem heldP {w5 w' : World} {ad : Addr} {v : Value} {pa : Option Addr} {pl : Nat} {x : List Int} (h2 : Seg .u8 w5 pa pl x) (h : w'.cell? ad = some v ∧ Hid (Below w5.heap.size w5 w')) : Seg .u8 w' pa pl x := h2.below h.2.out
theorem heldT {w5 w' : World} {ad : Addr} {v : Value} (h2 : Tab w5) (h : w'.cell? ad = some v ∧ Hid (Below w5.heap.size w5 w')) : Tab w' := h2.below h.2.out

set_option maxHeartbeats 2000000 in
theorem walk (a : Option Addr) (n cap : Nat) (X : List (List Int)) (w : World) (hp : Parts w a n X) (hl : X.flatten.length + n ≤ 1048576) (ht : Tab w) :
    Calls Tryd.prog 5 #[.slice a n cap] w fun e w' => e = .returned (.bool true) ∧ Below w.heap.size w w' := by
  have HP : Hid (Parts w a n X) := hp
  have HT : Hid (Tab w) := ht
  have HLN : Hid (X.length = n) := hp.1
  have HXB : Hid (∀ i, i < X.length → Bytes (X[i]?.getD []) ∧ (X[i]?.getD []).length ≤ 1048576) := fun i hi => by
    obtain ⟨b, off, _, _, hc⟩ := hp.2.resolve_left (by have := hp.1; omega)
    obtain ⟨_, pl, _, _, h2, h3, h4, _⟩ := hc i (by have := hp.1; omega)
    exact ⟨h3, by rw [h2.1]; exact h4⟩
  have HFB : Hid (Bytes X.flatten) := bytes_of_mem (fun z hz => by
    obtain ⟨l, hl', hz'⟩ := List.mem_flatten.1 hz
    obtain ⟨i, hi, rfl⟩ := List.getElem_of_mem hl'
    have := (HXB.out i hi).1.mem z (by simpa [hi] using hz')
    exact this)
  clear hp ht
  go_enter Tryd.func5, Tryd.ntmps5
  go_wp2_with (go_at_call 8; go_must (refine (awake_c _ HT.out).mono ?_); rintro e w1 ⟨rfl, HB1⟩; replace HB1 : Hid _ := HB1)
  go_loopw [3, 4, 5, 6] (fun u mo jo i wr => ∃ k : Nat, k ≤ n ∧ i = .int .i64 k ∧ mo = .int .u32 (W (sum (X.take k).flatten)) ∧ jo = .int .u32 (W (sum (X.take k).flatten)) ∧ Hid (Own w.heap.size wr u (X.take k).flatten.length (X.take k).flatten) ∧ Hid (Below w.heap.size w wr)) (fun _ _ _ i _ => n - (intOf i).toNat)
  case atStart => exact ⟨0, Nat.zero_le _, rfl, congrArg (Value.int .u32) (show (0 : Int) = W (~~~ ones) by decide +kernel), congrArg (Value.int .u32) (show (0 : Int) = W (~~~ ones) by decide +kernel), own_nil _ _, HB1.out⟩
  case round =>
    obtain ⟨k, hk, rfl, rfl, rfl, ho, hb⟩ := hrel
    by_cases hlt : k < n
    · obtain ⟨b, off, rfl, hbw, hc⟩ := HP.out.2.resolve_left (by omega)
      obtain ⟨pa, pl, pc, hcell, h2, h3, h4, h5⟩ := hc k hlt
      have hcw : wr.cell? ⟨b, off + k, none⟩ = some (.slice pa pl pc) := (hb.out.cell (p := ⟨b, off + k, none⟩) hbw).trans hcell
      obtain ⟨x, hx⟩ : ∃ x, x = X[k]?.getD [] := ⟨_, rfl⟩
      have HF : Hid ((X.take (k + 1)).flatten = (X.take k).flatten ++ x) := by rw [hx]; exact flat_snoc X k (by rw [HLN.out]; exact hlt)
      rw [← hx] at h2 h3
      have HSW : Hid (Seg .u8 w pa pl x) := h2
      have HX : Hid (Bytes x) := h3
      have HN5 : Hid (pa = none → pc = 0) := h5
      have hfl := flat_le X k
      obtain ⟨f, hf⟩ : ∃ f, f = (X.take k).flatten := ⟨_, rfl⟩
      rw [← hf] at HF ho hfl ⊢
      have HM := more_sum f x
      have HJ := join_sum f x
      rw [← HF.out] at HM HJ
      have HPL : Hid (x.length = pl) := h2.1
      have HFL : Hid ((X.take (k + 1)).flatten.length = f.length + pl) := by show _ = _; rw [HF.out, List.length_append, HPL.out]
      rw [HPL.out] at HJ
      obtain ⟨S, hS⟩ : ∃ S, S = sum (X.take (k + 1)).flatten := ⟨_, rfl⟩
      rw [← hS] at HM HJ
      obtain ⟨s0, hs0⟩ : ∃ s0, s0 = sum f := ⟨_, rfl⟩
      obtain ⟨sx, hsx⟩ : ∃ sx, sx = sum x := ⟨_, rfl⟩
      rw [← hs0] at HM HJ ⊢
      rw [← hsx] at HJ
      have HS : Hid (S = sum (X.take (k + 1)).flatten) := hS
      have HSX : Hid (sum [x].flatten = sx) := by rw [hsx]; show sum _ = _; simp
      have CJ : Hid (∀ w, Calls Tryd.prog 15 #[.int .u32 (W s0), .int .u32 (W sx), .int .i64 (pl : Int)] w fun e w' => e = .returned (.tuple #[.int .u32 (W S), .int .i64 0]) ∧ w' = w) := fun w => by
        have := join_c s0 sx (pl : Int) (by omega) (by omega) w
        rw [show ((pl : Int)).toNat = pl from by omega, HJ] at this
        exact this
      have CM : Hid (∀ w', Seg .u8 w' pa pl x → Tab w' → Calls Tryd.prog 14 #[.int .u32 (W s0), .slice pa pl pc] w' fun e w'' => e = .returned (.int .u32 (W S)) ∧ w'' = w') := fun w' h1 h2 => by
        have := more_c s0 pa pl pc x w' h1 HX.out h2 (by omega)
        rw [HM] at this
        exact this
      clear hc h2 h3 h5 hcell hx hf HM HJ hS hs0 hsx
      go_wp2_with (first
        | (at_builtin; go_must (refine wpList_append_grow _ rfl _ _ rfl w.heap.size _ _ _ rfl ho.out pa pl pc x rfl HN5.out (HSW.out.below hb.out) (by omega) hb.out.size ?_); intro v5 w5 ho5 hb5; replace ho5 : Hid _ := ho5; replace hb5 : Hid _ := hb5; have hcw5 := (hb5.out.cell (p := ⟨b, off + k, none⟩) hbw).trans hcw)
        | (go_at_call 14; go_must (refine (CM.out _ (HSW.out.below (hb.out.trans hb5.out)) (HT.out.below (hb.out.trans hb5.out))).mono ?_); rintro e w6 ⟨rfl, rfl⟩))
      have HB6 : Hid (Below w.heap.size w w6) := hb.out.trans hb5.out
      have HS6 : Hid (Seg .u8 w6 pa pl x) := HSW.out.below HB6.out
      have HSD : Hid (Seg .u8 w6.drew pa pl x) := HS6.out.below ((Below.refl _ _).drew)
      have HT6 : Hid (Tab w6) := HT.out.below HB6.out
      have i1 : (0 : Int) ≤ (k : Int) := by omega
      have i2 : (k : Int) < (n : Int) := by omega
      have hSt : w6.cell? ⟨b, off + k, none⟩ = some (.slice pa pl pc) ∧ Hid (Below w6.heap.size w6 w6) := ⟨hcw5, Below.refl _ _⟩
      have hSd : w6.drew.cell? ⟨b, off + k, none⟩ = some (.slice pa pl pc) ∧ Hid (Below w6.heap.size w6 w6.drew) := ⟨hcw5, (Below.refl _ _).drew⟩
      clear hcw hcw5
      go_region_held3 (fun w' => w'.cell? ⟨b, off + k, none⟩ = some (.slice pa pl pc) ∧ Hid (Below w6.heap.size w6 w')) (first | assumption | exact heldAlloc (by assumption)) (first
        | (go_at_call 9; refine (sum_c _ 1 1 [x] _ ?_ (heldT HT6.out (by assumption)) (by omega)).mono ?_; exact segs_at _ _ (by simp) HSD.out HX.out (by omega); rintro e w9 ⟨rfl, rfl⟩; rw [HSX.out])
        | (go_at_call 15; refine (CJ.out _).mono ?_; rintro e w9 ⟨rfl, rfl⟩))
      have HBD : Hid (Below w6.heap.size w6 (w6.alloc (Obj.cells #[.slice pa pl pc] 22)).drew) := ((Below.refl _ _).alloc (Nat.le_refl _) _).drew
      have HBR : Hid (Below w.heap.size w (w6.alloc (Obj.cells #[.slice pa pl pc] 22)).drew) := HB6.out.trans (HBD.out.mono HB6.out.size)
      have HOR : Hid (Own w.heap.size (w6.alloc (Obj.cells #[.slice pa pl pc] 22)).drew v5 (X.take (k + 1)).flatten.length (X.take (k + 1)).flatten) := by
        rw [HFL.out, HF.out]; exact Own.below ho5.out HBD.out
      have hSS : (0 : Int) = 0 := rfl
      go_wp2
      go_roundw
      case rel => exact ⟨k + 1, by omega, by go_num, by rw [HS.out], by rw [HS.out], HOR, HBR⟩
      case measure => simp [intOf]; omega
    · have HE : Hid (X.take k = X) := by
        show _ = _
        exact List.take_of_length_le (by rw [HLN.out]; omega)
      rw [HE.out] at ho ⊢
      obtain ⟨a3, c3, rfl, hs3, hn3, hlc3⟩ := Own.seg ho.out
      have HS3 : Hid (Seg .u8 wr a3 X.flatten.length X.flatten) := hs3
      have HTR : Hid (Tab wr) := HT.out.below hb.out
      clear ho hs3 hn3
      obtain ⟨L, hL⟩ : ∃ L, L = X.flatten.length := ⟨_, rfl⟩
      rw [← hL] at HS3 hlc3 hl ⊢
      replace hL : Hid _ := hL
      obtain ⟨Z, hZ⟩ : ∃ Z, Z = W (sum X.flatten) := ⟨_, rfl⟩
      rw [← hZ]
      replace hZ : Hid _ := hZ
      have hzz : (Z == Z) = true := by simp
      go_wp2_with fail
      refine (sum_c _ 1 1 [X.flatten] _ ?_ (HTR.out.below ((Below.refl _ _).alloc (Nat.le_refl _) _)) (by omega)).mono ?_
      · exact segs_at _ _ rfl HS3.out HFB.out (by omega)
      rintro e w' ⟨rfl, rfl⟩
      rw [show [X.flatten].flatten = X.flatten from by simp, ← hZ.out]
      go_wp2_with fail
      refine (sum_c a n cap X _ (HP.out.below (hb.out.alloc hb.out.size _)).segs (HTR.out.below ((Below.refl _ _).alloc (Nat.le_refl _) _)) (by omega)).mono ?_
      rintro e w' ⟨rfl, rfl⟩
      rw [← hZ.out]
      go_wp2
      go_ret
      exact ⟨rfl, hb.out.alloc hb.out.size _⟩

theorem bulk_len {H : Type} (l : List (DataW H)) : l.length ≤ Rows.uptoBulkAll l := by
  induction l with
  | nil => simp
  | cons d r ih =>
    have : 1 ≤ Rows.uptoBulk d := by
      cases d with
      | lit x => cases x <;> simp [Rows.uptoBulk]
      | _ => simp [Rows.uptoBulk]
    simp only [Rows.uptoBulkAll, List.length_cons]; omega
theorem bulk_mem {H : Type} {d : DataW H} {l : List (DataW H)} (h : d ∈ l) : Rows.uptoBulk d ≤ Rows.uptoBulkAll l := by
  induction l with
  | nil => cases h
  | cons x r ih =>
    simp only [Rows.uptoBulkAll]
    rcases List.mem_cons.1 h with rfl | h
    · omega
    · have := ih h; omega
theorem bulk_slice {H : Type} {ds : List (DataW H)} {d : DataW H} {l r : List (DataW H)} (hk : Rows.uptoSmall H ds = true) (hd : d ∈ ds) (e : d = .slice l r) : l.length + r.length ≤ 1048576 := by
  have h0 : Rows.uptoBulkAll ds ≤ 1048576 := of_decide_eq_true hk
  have h1 := bulk_mem hd
  have h3 := bulk_len l
  have h4 := bulk_len r
  rw [e] at h1
  simp only [Rows.uptoBulk] at h1
  omega

theorem gTab : Tryd.prog.globalNamed "hawser/crc.halves" = some 0 := by kernel_rfl
theorem gTabType : (Tryd.prog.globals[0]?).map (·.type) = some 52 := by kernel_rfl
theorem cellsT : Tryd.prog.cellsOf 52 = 16 := by kernel_rfl
theorem cellsE : Tryd.prog.cellsOf 26 = 1 := by kernel_rfl
/-- What the row's list gives: the table's cells. -/
theorem table {W : World} (h : laidMetH Tryd.prog Rows.crcCutsUptoRow.laid W) : Lib.TabIs Tryd.prog W "hawser/crc.halves" .u32 tabl :=
  Lib.tabIs_of_head (rest := []) gTab gTabType Tryd.underlying52 Tryd.underlying26 cellsE cellsT h
theorem tab_of {W : World} (h : laidMetH Tryd.prog Rows.crcCutsUptoRow.laid W) : Tab W := fun i hi => (table h).cell gTab i (show i < tabl.length from hi)
theorem laid_met (os : Os) : laidMet Tryd.prog Rows.crcCutsUptoRow.laid (({ World.holding Tryd.prog os ⟨#[], #[], []⟩ with heap := (World.holding Tryd.prog os ⟨#[], #[], []⟩).heap.modify 0 fun | .cells _ t frozen => .cells (tabl.map fun z => Value.int .u32 z).toArray t frozen | o => o } : World).forCall (fun _ _ => 0) ⟨#[], #[.slice none 0 0], []⟩).memory :=
  laidMet_of_run' 8 (by kernel_rfl) (by kernel_rfl)
theorem reads (os : Os) {H : Type} (enc : TypeId × Value → H) : ∃ places, DataW.whole enc Tryd.prog (({ World.holding Tryd.prog os ⟨#[], #[], []⟩ with heap := (World.holding Tryd.prog os ⟨#[], #[], []⟩).heap.modify 0 fun | .cells _ t frozen => .cells (tabl.map fun z => Value.int .u32 z).toArray t frozen | o => o } : World).forCall (fun _ _ => 0) ⟨#[], #[.slice none 0 0], []⟩).memory Tryd.f5.params.toList Rows.crcCutsSpec.vars false (#[.slice none 0 0] : Array Value).toList 8 = some ([.nil], [], places) :=
  ⟨[], by kernel_rfl⟩

set_option maxRecDepth 100000 in
theorem lifted (os : Os) (started : os.Started) (H : Type) (enc : TypeId × Value → H) (F : Stop.Interp) :
    ReturnsInHanded {} Tryd.checked os 5 .any ((Rows.OpenSpec.upto Rows.crcCutsSpec).preRow enc Tryd.prog Tryd.f5 Rows.crcCutsUptoRow.domain false Rows.crcCutsUptoRow.laid) (((Rows.OpenSpec.upto Rows.crcCutsSpec).at F).post enc Tryd.prog Tryd.f5 false true false false) := by
  obtain ⟨places, hx⟩ := reads os enc
  refine returnsInHanded_of_row (C := Tryd.checked) (s := Rows.OpenSpec.upto Rows.crcCutsSpec) own started (by kernel_rfl) Tryd.func5
    (witness_row_at (enc := enc) (C := Tryd.checked) false ({ World.holding Tryd.prog os ⟨#[], #[], []⟩ with heap := (World.holding Tryd.prog os ⟨#[], #[], []⟩).heap.modify 0 fun | .cells _ t frozen => .cells (tabl.map fun z => Value.int .u32 z).toArray t frozen | o => o } : World) #[.slice none 0 0] rfl (by kernel_rfl) (by kernel_rfl) (by kernel_rfl)
      (OpenSpec.preRow_of_cond 8 hx (by kernel_rfl) (fun k hk => by cases hk; kernel_rfl) (by kernel_rfl) (laid_met os))) ?_
  intro W base args ds gs before hval0 hW _ hcond0 hsz0 hL _ _
  have hk : Rows.uptoSmall H (ds ++ gs) = true := hcond0 _ rfl
  have hval : ∀ (j : Nat) t v, Tryd.f5.params[j]? = some t → args[j]? = some v → Value.okWide Tryd.prog W .any base t v := hval0
  have hW' := hW
  obtain ⟨p, q, hA0, hV, rfl, hfz, hnd⟩ := hW
  have hA : DataW.TrodAll enc Tryd.prog W 0 (fun _ => true) true Tryd.f5.params.toList args.toList ds p := hA0
  rw [Tryd.params5] at hA hval
  obtain ⟨v0, vs0, d0, ds0, p0, q0, hargs, rfl, rfl, h0, r0⟩ := trodAll_cons hA
  obtain ⟨rfl, rfl, rfl⟩ := trodAll_nil r0
  obtain rfl : args = #[v0] := by cases args; simp_all
  obtain ⟨rfl, rfl⟩ := trodVars_none hV
  have k0 := h0
  have lt0 : ∀ x ∈ p0, x.block < W.heap.size := by obtain ⟨m, hm⟩ := k0; exact DataW.trod_lt m _ _ _ hm
  obtain ⟨a0, n0, cap0, X0, rfl, x0, y0⟩ : ∃ a n cap X, v0 = .slice a n cap ∧ Parts W a n X ∧ X.flatten.length + n ≤ 1048576 := by
    obtain ⟨sa, sl, sc, hv⟩ := okWide_slice Tryd.underlying37 (hval 0 37 v0 rfl rfl)
    have hAll : Rows.uptoBulkAll _ ≤ 1048576 := of_decide_eq_true hk
    exact parts_open sa sl sc hv h0 (Nat.le_trans (bulk_mem (show d0 ∈ _ by simp)) hAll)
  clear hA0 hval0
  simp only [List.append_nil] at hW'
  refine (walk a0 n0 cap0 X0 W x0 y0 (tab_of hL)).mono fun e W' ⟨he, bel⟩ => ?_
  subst he
  exact ⟨_, rfl, _, _, _, [], _, [], hW', trodAll_mk1 (shut_bool Tryd.underlying4 _), (trodAll_cons_mk (Below.trod laidOut (by kernel_rfl) (of_decide_eq_true (by kernel_rfl)) k0 bel lt0) trodAll_mk0), rfl, bel.frame _, fun h => by cases h⟩

theorem over : Rows.crcCutsUptoRow.holds Tryd.pinned (Rows.OpenSpec.upto Rows.crcCutsSpec) :=
  OpenClaim.holds_of_cond 5 Tryd.f5 rfl rfl rfl rfl rfl rfl rfl ⟨rfl, rfl, rfl, rfl, rfl⟩ rfl rfl rfl rfl rfl (by kernel_rfl) Tryd.func5 (by kernel_rfl)
    (of_decide_eq_true (by kernel_rfl)) (by unfold Func.isWrapper; first | (rw [if_pos (by decide +kernel)]; kernel_rfl) | (rw [if_neg (by decide +kernel)]; exact ⟨rfl, rfl⟩))
    (fun os started H enc _ F => by rw [OpenClaim.pre_eq_preRow]; exact lifted os started H enc F)

/-- No parameter wants a stand-in; the program's own looks are off. -/
theorem plain (f : FuncId) (fn : Func) (hf : Tryd.pinned.checked.prog.funcNamed "hawser/hawserlaw02.CrcCuts" = some f) (hfn : Tryd.pinned.checked.prog.funcs[f]? = some fn) :
    false = Tryd.pinned.checked.prog.looks [] ∧ ∀ (j : Nat) t, fn.params[j]? = some t → Tryd.pinned.checked.prog.wantsStandIn t = false := by
  obtain rfl : f = 5 := Option.some.inj ((show Tryd.prog.funcNamed "hawser/hawserlaw02.CrcCuts" = some 5 by kernel_rfl).symm.trans hf) |>.symm
  obtain rfl : fn = Tryd.f5 := (Option.some.inj (Tryd.func5.symm.trans hfn)).symm
  refine ⟨by kernel_rfl, fun j t ht => ?_⟩
  rw [Tryd.params5] at ht
  have hm : t ∈ [37] := by simpa using Array.mem_of_getElem? ht
  have hall : (([37] : List TypeId).all fun u => !Tryd.prog.wantsStandIn u) = true := by kernel_rfl
  exact (show Tryd.prog.wantsStandIn t = false by simpa using List.all_eq_true.1 hall t hm)
theorem card : Rows.CrcCutsUptoCardSaid :=
  Claim7.holds_tied_plain_at .later [] _ _ _ _ over (fun _ h => by cases h) (by kernel_rfl) (fun _ h => by cases h) crcCutsUpto_row_tie rfl ⟨rfl, rfl⟩ (by kernel_rfl) rfl plain (by kernel_rfl)

end Go.Proofs.YtlfijnegmnploacDoor.crcCuts
namespace Go.Proofs.YtlfijnegmnploacDoor
theorem crcCuts_holds : Rows.CrcCutsUptoCardSaid := crcCuts.card
#print axioms crcCuts_holds
end Go.Proofs.YtlfijnegmnploacDoor
