/-
  Proved: hawserlaw02.CrcNames answers true: the errors have their numbers, and the sums of the chapter's examples are those that the document prints. No condition (the card ties the table of package crc to the program's text).
-/
import Derived.Test.YtlfijnegmnploaaDoorRows
import Derived.Test.YtlfijnegmnploaaDoorCards
import Derived.Test.YtlfijnegmnploaaDoorTie
import Derived.Test.YtlfijnegmnploaaDoorAwaC
import Derived.Test.YtlfijnegmnploaaDoorNumC
import Derived.Test.YtlfijnegmnploaaDoorMrow
import Derived.WalkKit
import Derived.ProofKit
import Derived.OpenShut
import Derived.ShutString
import Derived.ChangeOld
import Derived.Below
import Derived.Lib.SmallJoins
import Derived.JoinedCond
import Derived.Deep.DeepHandedRow
import Derived.Lib.LaidTab
import Derived.Lib.SlBytesConst
namespace Go.Proofs.YtlfijnegmnploaaDoor.crcNames
open Go.ChangeShapes Go.WideShapes Go.ChangeAt Go.RowKit
set_option linter.unusedVariables false

theorem own : ownKnob Tryd.prog.godebug = none := by kernel_rfl
theorem laidOut : laidOutB Tryd.prog = true := by kernel_rfl

def nought : List Int := List.replicate 32 0
def ffs (k : Nat) : List Int := List.replicate k 255 ++ List.replicate (32 - k) 0
theorem ffs_length (k : Nat) (h : k ≤ 32) : (ffs k).length = 32 := by simp [ffs]; omega
theorem ffs_set : ∀ k, k < 32 → (ffs k).set k 255 = ffs (k + 1) := by decide +kernel
theorem bytes_nought : Bytes nought := bytes_of_mem (by decide)
theorem bytes_ffs : Bytes (ffs 32) := bytes_of_mem (by decide)
theorem bytes_a : Bytes [(97 : Int)] := bytes_of_mem (by decide)
theorem sum_nought : W (sum [nought].flatten) = 2324772522 := by decide +kernel
theorem sum_ffs : W (sum [ffs 32].flatten) = 1655221059 := by decide +kernel
theorem sum_a : W (sum [[(97 : Int)]].flatten) = 3251651376 := by decide +kernel
theorem two_rows (w : World) (g : Nat) (hg : g = w.heap.size ∨ g = w.heap.size + 1) : Row .u8 5 ((w.alloc (Obj.cells (Array.replicate 32 (Value.int .u8 0)) 5)).alloc (Obj.cells (Array.replicate 32 (Value.int .u8 0)) 5)).drew g nought := by
  unfold Row
  show ((w.heap.push _).push _)[g]? = _
  rcases hg with rfl | rfl
  · rw [Array.getElem?_push, if_neg (by simp), Array.getElem?_push, if_pos rfl]; rfl
  · rw [Array.getElem?_push, if_pos (by simp)]; rfl

set_option maxHeartbeats 1000000 in
theorem walk (w : World) (ht : Tab w) :
    Calls Tryd.prog 3 #[] w fun e w' => e = .returned (.bool true) ∧ Below w.heap.size w w' := by
  have HT : Hid (Tab w) := ht
  clear ht
  have hmk : ∀ w, (Instr.makeSlice 22 (.int .i64 32) (.int .i64 32)).run Tryd.prog w = .ok (.slice (some ⟨w.heap.size, 0, none⟩) 32 32) (w.alloc (.cells (Array.replicate 32 (.int .u8 0)) 5)) := fun _ => by kernel_rfl
  go_enter Tryd.func3, Tryd.ntmps3
  go_wp2
  go_region
  · have hb : Below w.heap.size w ((w.alloc (Obj.cells (Array.replicate 32 (Value.int .u8 0)) 5)).alloc (Obj.cells (Array.replicate 32 (Value.int .u8 0)) 5)).drew := ((((Below.refl _ _).alloc (Nat.le_refl _) _).alloc (by simp) _).drew)
    have HR1 : Hid (Row .u8 5 ((w.alloc (Obj.cells (Array.replicate 32 (Value.int .u8 0)) 5)).alloc (Obj.cells (Array.replicate 32 (Value.int .u8 0)) 5)).drew w.heap.size nought) := two_rows w (w.heap.size) (.inl rfl)
    have HR2 : Hid (Row .u8 5 ((w.alloc (Obj.cells (Array.replicate 32 (Value.int .u8 0)) 5)).alloc (Obj.cells (Array.replicate 32 (Value.int .u8 0)) 5)).drew (w.heap.size + 1) nought) := two_rows w (w.heap.size + 1) (.inr rfl)
    have HB : Hid (Below w.heap.size w ((w.alloc (Obj.cells (Array.replicate 32 (Value.int .u8 0)) 5)).alloc (Obj.cells (Array.replicate 32 (Value.int .u8 0)) 5)).drew) := hb
    clear hb hmk
    generalize ((w.alloc (Obj.cells (Array.replicate 32 (Value.int .u8 0)) 5)).alloc (Obj.cells (Array.replicate 32 (Value.int .u8 0)) 5)).drew = w1 at HR1 HR2 HB ⊢
    obtain ⟨gb, hgb⟩ : ∃ g, g = w.heap.size + 1 := ⟨_, rfl⟩
    obtain ⟨ga, hga⟩ : ∃ g, g = w.heap.size := ⟨_, rfl⟩
    rw [← hgb, ← hga]
    rw [← hgb] at HR2
    rw [← hga] at HR1
    have HAB : Hid (ga ≠ gb ∧ w.heap.size ≤ ga ∧ w.heap.size ≤ gb) := by show _ ∧ _ ∧ _; omega
    have RA : Hid (Row .u8 5 w1 ga nought) := HR1
    have RB : Hid (Row .u8 5 w1 gb (ffs 0)) := HR2
    clear hga hgb HR1 HR2
    go_wp2
    go_loopw [3] (fun i wr => ∃ k : Nat, k ≤ 32 ∧ i = .int .i64 k ∧ Hid (Row .u8 5 wr ga nought) ∧ Hid (Row .u8 5 wr gb (ffs k)) ∧ Hid (Below w.heap.size w wr)) (fun i _ => 32 - (intOf i).toNat)
    case atStart => exact ⟨0, Nat.zero_le _, rfl, RA, RB, HB⟩
    case round =>
      obtain ⟨k, hk, rfl, ra, rb, hb⟩ := hrel
      clear RA RB HB
      by_cases hlt : k < 32
      · have hcell := rb.out.cell k (by rw [ffs_length k hk]; exact hlt)
        have hfree := rb.out.free k
        have hset := rb.out.set k 255
        rw [ffs_set k hlt] at hset
        have HRA : Hid (Row .u8 5 (wr.setCell ⟨gb, k, none⟩ (.int .u8 255)) ga nought) := by
          show _ = _
          rw [Below.heap_setCell _ _ _ _ (by exact HAB.out.1)]; exact ra.out
        have HRB : Hid (Row .u8 5 (wr.setCell ⟨gb, k, none⟩ (.int .u8 255)) gb (ffs (k + 1))) := hset
        have HB2 : Hid (Below w.heap.size w (wr.setCell ⟨gb, k, none⟩ (.int .u8 255))) := hb.out.setCell (p := ⟨gb, k, none⟩) HAB.out.2.2 _
        clear hset ra rb hb
        go_wp2
        go_round
        case rel => exact ⟨k + 1, by omega, by go_num, HRA, HRB, HB2⟩
        case measure => simp [intOf]; omega
      · obtain rfl : k = 32 := by omega
        have HTW : Hid (Tab wr) := HT.out.below hb.out
        clear hlt hk
        have kc := fun (w : World) (C : Array Value) (n c : Nat) => Lib.run_convert_bytes_const (P := Tryd.prog) w 22 5 C n c Tryd.underlying22 Tryd.underlying5
        go_wp2_with (go_at_call 7; go_must (refine (num_c _ _).mono ?_); rintro e w' ⟨rfl, rfl⟩)
        refine (awake_c _ HTW.out).mono ?_
        rintro e w2 ⟨rfl, hb2⟩
        have HB2 : Hid (Below w.heap.size w w2) := hb.out.trans (hb2.mono hb.out.size)
        have HT2 : Hid (Tab w2) := HTW.out.below hb2
        have SA : Hid (Seg .u8 w2 (some ⟨ga, 0, none⟩) 32 nought) := (ra.out.segAll 32 rfl).below hb2
        have SB : Hid (Seg .u8 w2 (some ⟨gb, 0, none⟩) 32 (ffs 32)) := (rb.out.segAll 32 rfl).below hb2
        clear hb2 ra rb hb HTW
        go_wp2_with fail
        refine (sum_c _ 1 1 [nought] _ ?_ (HT2.out.below ((Below.refl _ _).alloc (Nat.le_refl _) _)) (by omega)).mono ?_
        · exact segs_at _ _ rfl SA.out bytes_nought (by decide)
        rintro e w' ⟨rfl, rfl⟩
        rw [sum_nought]
        go_wp2_with fail
        refine (sum_c _ 1 1 [ffs 32] _ ?_ (HT2.out.below (((Below.refl _ _).alloc (Nat.le_refl _) _).alloc (by simp) _)) (by omega)).mono ?_
        · exact segs_at _ _ (by simp) (SB.out.below ((Below.refl _ _).alloc (Nat.le_refl _) _)) bytes_ffs (by decide)
        rintro e w' ⟨rfl, rfl⟩
        rw [sum_ffs]
        have kc2 := Go.Joins.run_convert_bytes_const_at (P := Tryd.prog) ((w2.alloc (Obj.cells #[.slice (some ⟨ga, 0, none⟩) 32 32] 22)).alloc (Obj.cells #[.slice (some ⟨gb, 0, none⟩) 32 32] 22)) 22 5 #[.int .u8 97] 1 1 (w2.heap.size + 1 + 1) (by simp) Tryd.underlying22 Tryd.underlying5
        go_wp2_with fail
        refine (sum_c _ 1 1 [[97]] _ ?_ (HT2.out.below (((((Below.refl _ _).alloc (Nat.le_refl _) _).alloc (by simp) _).alloc (by simp; omega) _).alloc (by simp; omega) _)) (by omega)).mono ?_
        · exact segs_at _ _ (by simp) (seg_mark _ _ _ _ _ _ _ _ (by simp) rfl rfl) bytes_a (by decide)
        rintro e w' ⟨rfl, rfl⟩
        rw [sum_a]
        go_wp2
        go_ret
        exact ⟨rfl, HB2.out.trans ((((((Below.refl _ _).alloc (Nat.le_refl _) _).alloc (by simp) _).alloc (by simp; omega) _).alloc (by simp; omega) _).mono HB2.out.size)⟩
  · have hb : Below w.heap.size w ((w.alloc (Obj.cells (Array.replicate 32 (Value.int .u8 0)) 5)).alloc (Obj.cells (Array.replicate 32 (Value.int .u8 0)) 5)).drew := ((((Below.refl _ _).alloc (Nat.le_refl _) _).alloc (by simp) _).drew)
    have HR1 : Hid (Row .u8 5 ((w.alloc (Obj.cells (Array.replicate 32 (Value.int .u8 0)) 5)).alloc (Obj.cells (Array.replicate 32 (Value.int .u8 0)) 5)).drew w.heap.size nought) := two_rows w (w.heap.size) (.inl rfl)
    have HR2 : Hid (Row .u8 5 ((w.alloc (Obj.cells (Array.replicate 32 (Value.int .u8 0)) 5)).alloc (Obj.cells (Array.replicate 32 (Value.int .u8 0)) 5)).drew (w.heap.size + 1) nought) := two_rows w (w.heap.size + 1) (.inr rfl)
    have HB : Hid (Below w.heap.size w ((w.alloc (Obj.cells (Array.replicate 32 (Value.int .u8 0)) 5)).alloc (Obj.cells (Array.replicate 32 (Value.int .u8 0)) 5)).drew) := hb
    clear hb hmk
    generalize ((w.alloc (Obj.cells (Array.replicate 32 (Value.int .u8 0)) 5)).alloc (Obj.cells (Array.replicate 32 (Value.int .u8 0)) 5)).drew = w1 at HR1 HR2 HB ⊢
    obtain ⟨ga, hga⟩ : ∃ g, g = w.heap.size + 1 := ⟨_, rfl⟩
    obtain ⟨gb, hgb⟩ : ∃ g, g = w.heap.size := ⟨_, rfl⟩
    rw [← hga, ← hgb]
    rw [← hga] at HR2
    rw [← hgb] at HR1
    have HAB : Hid (ga ≠ gb ∧ w.heap.size ≤ ga ∧ w.heap.size ≤ gb) := by show _ ∧ _ ∧ _; omega
    have RA : Hid (Row .u8 5 w1 ga nought) := HR2
    have RB : Hid (Row .u8 5 w1 gb (ffs 0)) := HR1
    clear hga hgb HR1 HR2
    go_wp2
    go_loopw [3] (fun i wr => ∃ k : Nat, k ≤ 32 ∧ i = .int .i64 k ∧ Hid (Row .u8 5 wr ga nought) ∧ Hid (Row .u8 5 wr gb (ffs k)) ∧ Hid (Below w.heap.size w wr)) (fun i _ => 32 - (intOf i).toNat)
    case atStart => exact ⟨0, Nat.zero_le _, rfl, RA, RB, HB⟩
    case round =>
      obtain ⟨k, hk, rfl, ra, rb, hb⟩ := hrel
      clear RA RB HB
      by_cases hlt : k < 32
      · have hcell := rb.out.cell k (by rw [ffs_length k hk]; exact hlt)
        have hfree := rb.out.free k
        have hset := rb.out.set k 255
        rw [ffs_set k hlt] at hset
        have HRA : Hid (Row .u8 5 (wr.setCell ⟨gb, k, none⟩ (.int .u8 255)) ga nought) := by
          show _ = _
          rw [Below.heap_setCell _ _ _ _ (by exact HAB.out.1)]; exact ra.out
        have HRB : Hid (Row .u8 5 (wr.setCell ⟨gb, k, none⟩ (.int .u8 255)) gb (ffs (k + 1))) := hset
        have HB2 : Hid (Below w.heap.size w (wr.setCell ⟨gb, k, none⟩ (.int .u8 255))) := hb.out.setCell (p := ⟨gb, k, none⟩) HAB.out.2.2 _
        clear hset ra rb hb
        go_wp2
        go_round
        case rel => exact ⟨k + 1, by omega, by go_num, HRA, HRB, HB2⟩
        case measure => simp [intOf]; omega
      · obtain rfl : k = 32 := by omega
        have HTW : Hid (Tab wr) := HT.out.below hb.out
        clear hlt hk
        have kc := fun (w : World) (C : Array Value) (n c : Nat) => Lib.run_convert_bytes_const (P := Tryd.prog) w 22 5 C n c Tryd.underlying22 Tryd.underlying5
        go_wp2_with (go_at_call 7; go_must (refine (num_c _ _).mono ?_); rintro e w' ⟨rfl, rfl⟩)
        refine (awake_c _ HTW.out).mono ?_
        rintro e w2 ⟨rfl, hb2⟩
        have HB2 : Hid (Below w.heap.size w w2) := hb.out.trans (hb2.mono hb.out.size)
        have HT2 : Hid (Tab w2) := HTW.out.below hb2
        have SA : Hid (Seg .u8 w2 (some ⟨ga, 0, none⟩) 32 nought) := (ra.out.segAll 32 rfl).below hb2
        have SB : Hid (Seg .u8 w2 (some ⟨gb, 0, none⟩) 32 (ffs 32)) := (rb.out.segAll 32 rfl).below hb2
        clear hb2 ra rb hb HTW
        go_wp2_with fail
        refine (sum_c _ 1 1 [nought] _ ?_ (HT2.out.below ((Below.refl _ _).alloc (Nat.le_refl _) _)) (by omega)).mono ?_
        · exact segs_at _ _ rfl SA.out bytes_nought (by decide)
        rintro e w' ⟨rfl, rfl⟩
        rw [sum_nought]
        go_wp2_with fail
        refine (sum_c _ 1 1 [ffs 32] _ ?_ (HT2.out.below (((Below.refl _ _).alloc (Nat.le_refl _) _).alloc (by simp) _)) (by omega)).mono ?_
        · exact segs_at _ _ (by simp) (SB.out.below ((Below.refl _ _).alloc (Nat.le_refl _) _)) bytes_ffs (by decide)
        rintro e w' ⟨rfl, rfl⟩
        rw [sum_ffs]
        have kc2 := Go.Joins.run_convert_bytes_const_at (P := Tryd.prog) ((w2.alloc (Obj.cells #[.slice (some ⟨ga, 0, none⟩) 32 32] 22)).alloc (Obj.cells #[.slice (some ⟨gb, 0, none⟩) 32 32] 22)) 22 5 #[.int .u8 97] 1 1 (w2.heap.size + 1 + 1) (by simp) Tryd.underlying22 Tryd.underlying5
        go_wp2_with fail
        refine (sum_c _ 1 1 [[97]] _ ?_ (HT2.out.below (((((Below.refl _ _).alloc (Nat.le_refl _) _).alloc (by simp) _).alloc (by simp; omega) _).alloc (by simp; omega) _)) (by omega)).mono ?_
        · exact segs_at _ _ (by simp) (seg_mark _ _ _ _ _ _ _ _ (by simp) rfl rfl) bytes_a (by decide)
        rintro e w' ⟨rfl, rfl⟩
        rw [sum_a]
        go_wp2
        go_ret
        exact ⟨rfl, HB2.out.trans ((((((Below.refl _ _).alloc (Nat.le_refl _) _).alloc (by simp) _).alloc (by simp; omega) _).alloc (by simp; omega) _).mono HB2.out.size)⟩

theorem gTab : Tryd.prog.globalNamed "hawser/crc.halves" = some 0 := by kernel_rfl
theorem gTabType : (Tryd.prog.globals[0]?).map (·.type) = some 46 := by kernel_rfl
theorem cellsT : Tryd.prog.cellsOf 46 = 16 := by kernel_rfl
theorem cellsE : Tryd.prog.cellsOf 26 = 1 := by kernel_rfl
/-- What the row's list gives: the table's cells. -/
theorem table {W : World} (h : laidMetH Tryd.prog Rows.crcNamesRow.laid W) : Lib.TabIs Tryd.prog W "hawser/crc.halves" .u32 tabl :=
  Lib.tabIs_of_head (rest := []) gTab gTabType Tryd.underlying46 Tryd.underlying26 cellsE cellsT h
theorem tab_of {W : World} (h : laidMetH Tryd.prog Rows.crcNamesRow.laid W) : Tab W := fun i hi => (table h).cell gTab i (show i < tabl.length from hi)
theorem laid_met (os : Os) : laidMet Tryd.prog Rows.crcNamesRow.laid (({ World.holding Tryd.prog os ⟨#[], #[], []⟩ with heap := (World.holding Tryd.prog os ⟨#[], #[], []⟩).heap.modify 0 fun | .cells _ t frozen => .cells (tabl.map fun z => Value.int .u32 z).toArray t frozen | o => o } : World).forCall (fun _ _ => 0) ⟨#[], #[], []⟩).memory :=
  laidMet_of_run' 8 (by kernel_rfl) (by kernel_rfl)
theorem reads (os : Os) {H : Type} (enc : TypeId × Value → H) : ∃ places, DataW.whole enc Tryd.prog (({ World.holding Tryd.prog os ⟨#[], #[], []⟩ with heap := (World.holding Tryd.prog os ⟨#[], #[], []⟩).heap.modify 0 fun | .cells _ t frozen => .cells (tabl.map fun z => Value.int .u32 z).toArray t frozen | o => o } : World).forCall (fun _ _ => 0) ⟨#[], #[], []⟩).memory Tryd.f3.params.toList Rows.crcNamesSpec.vars false (#[] : Array Value).toList 8 = some ([], [], places) :=
  ⟨[], by kernel_rfl⟩

set_option maxRecDepth 100000 in
theorem lifted (os : Os) (started : os.Started) (H : Type) (enc : TypeId × Value → H) (F : Stop.Interp) :
    ReturnsInHanded {} Tryd.checked os 3 .any ((OpenSpec.ofChange Rows.crcNamesSpec).preRow enc Tryd.prog Tryd.f3 Rows.crcNamesRow.domain false Rows.crcNamesRow.laid) (((OpenSpec.ofChange Rows.crcNamesSpec).at F).post enc Tryd.prog Tryd.f3 false true false false) := by
  obtain ⟨places, hx⟩ := reads os enc
  refine returnsInHanded_of_row (C := Tryd.checked) (s := OpenSpec.ofChange Rows.crcNamesSpec) own started (by kernel_rfl) Tryd.func3
    (witness_row_at (enc := enc) (C := Tryd.checked) false ({ World.holding Tryd.prog os ⟨#[], #[], []⟩ with heap := (World.holding Tryd.prog os ⟨#[], #[], []⟩).heap.modify 0 fun | .cells _ t frozen => .cells (tabl.map fun z => Value.int .u32 z).toArray t frozen | o => o } : World) #[] rfl (by kernel_rfl) (by kernel_rfl) (by kernel_rfl)
      (OpenSpec.preRow_of_cond 8 hx (by kernel_rfl) (fun k hk => by cases hk) (by kernel_rfl) (laid_met os))) ?_
  intro W base args ds gs before hval0 hW _ hcond0 hsz0 hL _ _
  have hval : ∀ (j : Nat) t v, Tryd.f3.params[j]? = some t → args[j]? = some v → Value.okWide Tryd.prog W .any base t v := hval0
  have hW' := hW
  obtain ⟨p, q, hA0, hV, rfl, hfz, hnd⟩ := hW
  have hA : DataW.TrodAll enc Tryd.prog W 0 (fun _ => true) true Tryd.f3.params.toList args.toList ds p := hA0
  rw [Tryd.params3] at hA hval
  obtain ⟨hargs, rfl, rfl⟩ := trodAll_nil hA
  obtain rfl : args = #[] := by cases args; simp_all
  obtain ⟨rfl, rfl⟩ := trodVars_none hV
  clear hA0 hval0
  simp only [List.append_nil] at hW'
  refine (walk  W  (tab_of hL)).mono fun e W' ⟨he, bel⟩ => ?_
  subst he
  exact ⟨_, rfl, _, _, _, [], _, [], hW', trodAll_mk1 (shut_bool Tryd.underlying4 _), trodAll_mk0, rfl, bel.frame _, fun h => by cases h⟩

theorem over : Rows.crcNamesRow.holds Tryd.pinned (OpenSpec.ofChange Rows.crcNamesSpec) :=
  OpenClaim.holds_of_cond 3 Tryd.f3 rfl rfl rfl rfl rfl rfl rfl ⟨rfl, rfl, rfl, rfl, rfl⟩ rfl rfl rfl rfl rfl (by kernel_rfl) Tryd.func3 (by kernel_rfl)
    (of_decide_eq_true (by kernel_rfl)) (by unfold Func.isWrapper; first | (rw [if_pos (by decide +kernel)]; kernel_rfl) | (rw [if_neg (by decide +kernel)]; exact ⟨rfl, rfl⟩))
    (fun os started H enc _ F => by rw [OpenClaim.pre_eq_preRow]; exact lifted os started H enc F)

/-- No parameter wants a stand-in; the program's own looks are off. -/
theorem plain (f : FuncId) (fn : Func) (hf : Tryd.pinned.checked.prog.funcNamed "hawser/hawserlaw02.CrcNames" = some f) (hfn : Tryd.pinned.checked.prog.funcs[f]? = some fn) :
    false = Tryd.pinned.checked.prog.looks [] ∧ ∀ (j : Nat) t, fn.params[j]? = some t → Tryd.pinned.checked.prog.wantsStandIn t = false := by
  obtain rfl : f = 3 := Option.some.inj ((show Tryd.prog.funcNamed "hawser/hawserlaw02.CrcNames" = some 3 by kernel_rfl).symm.trans hf) |>.symm
  obtain rfl : fn = Tryd.f3 := (Option.some.inj (Tryd.func3.symm.trans hfn)).symm
  refine ⟨by kernel_rfl, fun j t ht => ?_⟩
  rw [Tryd.params3] at ht
  simp at ht
theorem card : Rows.CrcNamesCardSaid :=
  Claim7.holds_tied_plain_at .later [] _ _ _ _ over (fun _ h => by cases h) (by kernel_rfl) (fun _ h => by cases h) crcNames_row_tie rfl ⟨rfl, rfl⟩ (by kernel_rfl) rfl plain (by kernel_rfl)

end Go.Proofs.YtlfijnegmnploaaDoor.crcNames
namespace Go.Proofs.YtlfijnegmnploaaDoor
theorem crcNames_holds : Rows.CrcNamesCardSaid := crcNames.card
#print axioms crcNames_holds
end Go.Proofs.YtlfijnegmnploaaDoor
