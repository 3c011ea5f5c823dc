/-
  Proved, in its second form: for all parts that hold together at most 2^20 values, hawsertop.WholeSums answers true: the sum of any parts is the rest of the division, worked bit by bit. Condition: the second form's own (the card ties the table of package crc to the program's text).
-/
import Derived.Test.YtdgoncpebfkbdadDoorRows
import Derived.Test.YtdgoncpebfkbdadDoorCards
import Derived.Test.YtdgoncpebfkbdadDoorTie
import Derived.Test.YtdgoncpebfkbdadDoorParts
import Derived.WalkKit
import Derived.ProofKit
import Derived.OpenShut
import Derived.ShutString
import Derived.ChangeOld
import Derived.Below
import Derived.Lib.SmallJoins
import Derived.JoinedCond
import Derived.Deep.DeepHandedRow
import Derived.Lib.LaidTab
namespace Go.Proofs.YtdgoncpebfkbdadDoor.wholeSums
open Go.ChangeShapes Go.WideShapes Go.ChangeAt Go.RowKit
set_option linter.unusedVariables false

theorem own : ownKnob Tryd.prog.godebug = none := by kernel_rfl
theorem laidOut : laidOutB Tryd.prog = true := by kernel_rfl

theorem u8_low (z : Int) (h0 : 0 ≤ z) (h1 : z < 256) (j : Nat) : bits .and .u8 (z / (2 : Int) ^ j) 1 = (if (wb z).getLsbD j then 1 else 0) ∨ 8 ≤ j := by
  by_cases hj : 8 ≤ j
  · exact .inr hj
  left
  have h2 : 0 ≤ z / (2 : Int) ^ j := Int.ediv_nonneg h0 (Int.le_of_lt (Int.pow_pos (by decide)))
  have h3 : z / (2 : Int) ^ j < 256 := Int.lt_of_le_of_lt (Int.ediv_le_self _ h0) h1
  have h := u8_and (z / (2 : Int) ^ j) 1 h2 h3 (by decide) (by decide)
  obtain ⟨n, rfl⟩ := Int.eq_ofNat_of_zero_le h0
  have e : (wb (n : Int)).getLsbD j = n.testBit j := by
    rw [wb_nat]
    show (BitVec.ofNat 32 n).toNat.testBit j = _
    rw [BitVec.toNat_ofNat, Nat.mod_eq_of_lt (by omega)]
  have e2 : ((n : Int) / (2 : Int) ^ j) = ((n / 2 ^ j : Nat) : Int) := by rw [Int.natCast_ediv, Int.natCast_pow]; rfl
  rw [h, show (1 : Int).toNat = 1 from rfl, Nat.and_one_is_mod, e, e2, Int.toNat_natCast, Nat.testBit_eq_decide_div_mod_eq]
  rcases Nat.mod_two_eq_zero_or_one (n / 2 ^ j) with q | q <;> simp [q]
/-- The register behind i bits of a byte. -/
def part (r : Wd) (z : Int) (i : Nat) : Wd := txn i (r ^^^ wb z) ^^^ (wb z >>> i)
theorem part_zero (r : Wd) (z : Int) : part r z 0 = r := by
  unfold part
  show (r ^^^ wb z) ^^^ (wb z >>> 0) = r
  rw [BitVec.ushiftRight_zero, BitVec.xor_assoc, BitVec.xor_self, BitVec.xor_zero]
theorem part_eight (r : Wd) (z : Int) (h0 : 0 ≤ z) (h1 : z < 256) : part r z 8 = stp r z := by
  unfold part stp
  have : wb z >>> 8 = 0 := by
    obtain ⟨n, rfl⟩ := Int.eq_ofNat_of_zero_le h0
    apply BitVec.eq_of_toNat_eq
    rw [wb_nat, BitVec.toNat_ushiftRight, BitVec.toNat_ofNat, Nat.shiftRight_eq_div_pow]
    show n % 2 ^ 32 / 2 ^ 8 = 0
    omega
  rw [this]; exact BitVec.xor_zero
theorem part_step (r : Wd) (z : Int) (i : Nat) : part r z (i + 1) = (if (part r z i).getLsbD 0 = (wb z).getLsbD i then part r z i >>> 1 else (part r z i >>> 1) ^^^ gen) := by
  have hb : (part r z i).getLsbD 0 = ((txn i (r ^^^ wb z)).getLsbD 0 ^^ (wb z).getLsbD i) := by
    unfold part
    rw [BitVec.getLsbD_xor, BitVec.getLsbD_ushiftRight]; rfl
  have hs : part r z i >>> 1 = (txn i (r ^^^ wb z) >>> 1) ^^^ (wb z >>> (i + 1)) := by
    unfold part
    rw [BitVec.ushiftRight_xor_distrib, BitVec.shiftRight_add]
  rw [hb, hs]
  show tx (txn i (r ^^^ wb z)) ^^^ (wb z >>> (i + 1)) = _
  unfold tx
  cases (txn i (r ^^^ wb z)).getLsbD 0 <;> cases (wb z).getLsbD i <;> simp
  all_goals (rw [BitVec.xor_assoc, BitVec.xor_comm gen, ← BitVec.xor_assoc])

set_option maxHeartbeats 2000000 in
theorem walk (a : Option Addr) (n cap : Nat) (X : List (List Int)) (w : World) (hp : Parts w a n X) (hl : X.flatten.length + n ≤ 1048576) (ht : Tab w) :
    Calls Tryd.prog 7 #[.slice a n cap] w fun e w' => e = .returned (.bool true) ∧ Below w.heap.size w w' := by
  have HP : Hid (Parts w a n X) := hp
  have HLN : Hid (X.length = n) := hp.1
  have HC : Hid _ := sum_c a n cap X w hp.segs ht (by omega)
  clear hp ht
  go_enter Tryd.func7, Tryd.ntmps7
  go_wp2
  go_loop [3, 12] (fun r i => ∃ k : Nat, k ≤ n ∧ i = .int .i64 k ∧ r = .int .u32 (W (reg ones (X.take k).flatten))) (fun _ i => n - (intOf i).toNat)
  case atStart => exact ⟨0, Nat.zero_le _, rfl, congrArg (Value.int .u32) (show (4294967295 : Int) = W ones by decide +kernel)⟩
  case round =>
    obtain ⟨k, hk, rfl, rfl⟩ := hrel
    by_cases hlt : k < n
    · obtain ⟨b, off, rfl, hbw, hc⟩ := HP.out.2.resolve_left (by omega)
      obtain ⟨pa, pl, pc, hcell, h2, h3, h4, h5⟩ := hc k hlt
      have HR : Hid (reg ones (X.take (k + 1)).flatten = reg (reg ones (X.take k).flatten) (X[k]?.getD [])) := by
        show _ = _
        rw [flat_snoc X k (by rw [HLN.out]; exact hlt), reg_append]
      obtain ⟨R0, hR0⟩ : ∃ R, R = reg ones (X.take k).flatten := ⟨_, rfl⟩
      obtain ⟨x, hx⟩ : ∃ x, x = X[k]?.getD [] := ⟨_, rfl⟩
      rw [← hR0] at HR ⊢
      rw [← hx] at HR h2 h3
      have HS : Hid (Seg .u8 w pa pl x) := h2
      have HXB : Hid (Bytes x ∧ x.length = pl) := ⟨h3, h2.1⟩
      clear hc h2 h3 h5 hR0 hx
      go_wp2
      go_loop [3, 18] (fun r i => ∃ j : Nat, j ≤ pl ∧ i = .int .i64 j ∧ r = .int .u32 (W (reg R0 (x.take j)))) (fun _ i => pl - (intOf i).toNat)
      case atStart => exact ⟨0, Nat.zero_le _, rfl, rfl⟩
      case round =>
        obtain ⟨j, hj, rfl, rfl⟩ := hrel
        by_cases hjt : j < pl
        · obtain ⟨b2, off2, rfl, hbw2, hc2⟩ := HS.out.2.resolve_left (by omega)
          have hcell2 := hc2 j hjt
          have hz := HXB.out.1 j (by rw [HXB.out.2]; exact hjt)
          have HR2 : Hid (reg R0 (x.take (j + 1)) = stp (reg R0 (x.take j)) (x[j]?.getD 0)) := by
            show _ = _
            rw [take_snoc x j (by rw [HXB.out.2]; exact hjt), reg_snoc]
          obtain ⟨R1, hR1⟩ : ∃ R, R = reg R0 (x.take j) := ⟨_, rfl⟩
          obtain ⟨z, hz0⟩ : ∃ z, z = x[j]?.getD (0 : Int) := ⟨_, rfl⟩
          rw [← hR1, ← hz0] at HR2
          rw [← hR1]
          rw [← hz0] at hcell2 hz
          clear hR1 hz0 hc2
          go_wp2
          go_loop [3, 8] (fun r i => ∃ i' : Nat, i' ≤ 8 ∧ i = .int .i64 i' ∧ r = .int .u32 (W (part R1 z i'))) (fun _ i => 8 - (intOf i).toNat)
          case atStart => exact ⟨0, Nat.zero_le _, rfl, by rw [part_zero]⟩
          case round =>
            obtain ⟨i, hi, rfl, rfl⟩ := hrel
            by_cases hit : i < 8
            · have HST : Hid _ := part_step R1 z i
              have f1 := W_low (part R1 z i)
              have f2 := (u8_low z hz.1 hz.2 i).resolve_right (by omega)
              have f3 := W_half (part R1 z i)
              have f5 : (W (part R1 z i)).tdiv (2 : Int) % (4294967296 : Int) = W (part R1 z i >>> 1) := by
                rw [Int.tdiv_eq_ediv_of_nonneg (W_nn _), W_half]
                have := W_nn (part R1 z i >>> 1)
                have := W_lt (part R1 z i >>> 1)
                omega
              have f4 := W_lit (part R1 z i >>> 1) 2197175160 gen (by decide +kernel)
              obtain ⟨R, hR⟩ : ∃ R, R = part R1 z i := ⟨_, rfl⟩
              rw [← hR] at HST f1 f3 f4 f5 ⊢
              obtain ⟨Q, hQ⟩ : ∃ Q, Q = R >>> 1 := ⟨_, rfl⟩
              rw [← hQ] at HST f3 f4 f5
              obtain ⟨Q2, hQ2⟩ : ∃ Q2, Q2 = Q ^^^ gen := ⟨_, rfl⟩
              rw [← hQ2] at HST f4
              clear hR hQ hQ2
              cases p1 : R.getLsbD 0 with
              | false =>
                cases p2 : (wb z).getLsbD i with
                | false =>
                  rw [p1, p2] at HST
                  rw [p1] at f1
                  rw [p2] at f2
                  rw [if_neg (by decide)] at f1
                  rw [if_neg (by decide)] at f2
                  clear p1 p2
                  go_wp2
                  go_round
                  case rel => exact ⟨i + 1, by omega, by go_num, congrArg (Value.int .u32) (by rw [HST.out]; first | rfl | (rw [f5]; rfl) | (rw [f5, f4]; rfl))⟩
                  case measure => simp [intOf]; omega
                | true =>
                  rw [p1, p2] at HST
                  rw [p1] at f1
                  rw [p2] at f2
                  rw [if_neg (by decide)] at f1
                  rw [if_pos rfl] at f2
                  clear p1 p2
                  go_wp2
                  go_round
                  case rel => exact ⟨i + 1, by omega, by go_num, congrArg (Value.int .u32) (by rw [HST.out]; first | rfl | (rw [f5]; rfl) | (rw [f5, f4]; rfl))⟩
                  case measure => simp [intOf]; omega
              | true =>
                cases p2 : (wb z).getLsbD i with
                | false =>
                  rw [p1, p2] at HST
                  rw [p1] at f1
                  rw [p2] at f2
                  rw [if_pos rfl] at f1
                  rw [if_neg (by decide)] at f2
                  clear p1 p2
                  go_wp2
                  go_round
                  case rel => exact ⟨i + 1, by omega, by go_num, congrArg (Value.int .u32) (by rw [HST.out]; first | rfl | (rw [f5]; rfl) | (rw [f5, f4]; rfl))⟩
                  case measure => simp [intOf]; omega
                | true =>
                  rw [p1, p2] at HST
                  rw [p1] at f1
                  rw [p2] at f2
                  rw [if_pos rfl] at f1
                  rw [if_pos rfl] at f2
                  clear p1 p2
                  go_wp2
                  go_round
                  case rel => exact ⟨i + 1, by omega, by go_num, congrArg (Value.int .u32) (by rw [HST.out]; first | rfl | (rw [f5]; rfl) | (rw [f5, f4]; rfl))⟩
                  case measure => simp [intOf]; omega
            · obtain rfl : i = 8 := by omega
              rw [part_eight R1 z hz.1 hz.2]
              go_wp2
              go_round
              case rel => exact ⟨j + 1, by omega, by go_num, by rw [HR2.out]⟩
              case measure => simp [intOf]; omega
        · obtain rfl : j = pl := by omega
          have HE : Hid (x.take j = x) := List.take_of_length_le (by rw [HXB.out.2]; exact Nat.le_refl _)
          rw [HE.out]
          go_wp2
          go_round
          case rel => exact ⟨k + 1, by omega, by go_num, by rw [HR.out]⟩
          case measure => simp [intOf]; omega
    · have HE : Hid (X.take k = X) := List.take_of_length_le (by rw [HLN.out]; omega)
      have f1 : (4294967295 : Int) - W (reg ones X.flatten) = W (sum X.flatten) := by
        unfold sum W
        rw [BitVec.toNat_not]
        have := (reg ones X.flatten).isLt
        omega
      have b1 := W_nn (sum X.flatten)
      have b2 := W_lt (sum X.flatten)
      rw [HE.out]
      obtain ⟨Z, hZ⟩ : ∃ Z, Z = W (sum X.flatten) := ⟨_, rfl⟩
      rw [← hZ] at f1 b1 b2 HC
      obtain ⟨Y, hY⟩ : ∃ Y, Y = W (reg ones X.flatten) := ⟨_, rfl⟩
      rw [← hY] at f1 ⊢
      obtain rfl : Y = 4294967295 - Z := by omega
      clear hY hZ
      go_wp2_with (go_at_call 24; go_must (refine (Calls.mono HC.out ?_)); rintro e w' ⟨rfl, rfl⟩)
      go_ret
      exact ⟨by first | rfl | (simp; omega), Below.refl _ _⟩

theorem bulk_len {H : Type} (l : List (DataW H)) : l.length ≤ Rows.uptoBulkAll l := by
  induction l with
  | nil => simp
  | cons d r ih =>
    have : 1 ≤ Rows.uptoBulk d := by
      cases d with
      | lit x => cases x <;> simp [Rows.uptoBulk]
      | _ => simp [Rows.uptoBulk]
    simp only [Rows.uptoBulkAll, List.length_cons]; omega
theorem bulk_mem {H : Type} {d : DataW H} {l : List (DataW H)} (h : d ∈ l) : Rows.uptoBulk d ≤ Rows.uptoBulkAll l := by
  induction l with
  | nil => cases h
  | cons x r ih =>
    simp only [Rows.uptoBulkAll]
    rcases List.mem_cons.1 h with rfl | h
    · omega
    · have := ih h; omega
theorem bulk_slice {H : Type} {ds : List (DataW H)} {d : DataW H} {l r : List (DataW H)} (hk : Rows.uptoSmall H ds = true) (hd : d ∈ ds) (e : d = .slice l r) : l.length + r.length ≤ 1048576 := by
  have h0 : Rows.uptoBulkAll ds ≤ 1048576 := of_decide_eq_true hk
  have h1 := bulk_mem hd
  have h3 := bulk_len l
  have h4 := bulk_len r
  rw [e] at h1
  simp only [Rows.uptoBulk] at h1
  omega

theorem gTab : Tryd.prog.globalNamed "hawser/crc.halves" = some 0 := by kernel_rfl
theorem gTabType : (Tryd.prog.globals[0]?).map (·.type) = some 89 := by kernel_rfl
theorem cellsT : Tryd.prog.cellsOf 89 = 16 := by kernel_rfl
theorem cellsE : Tryd.prog.cellsOf 36 = 1 := by kernel_rfl
/-- What the row's list gives: the table's cells. -/
theorem table {W : World} (h : laidMetH Tryd.prog Rows.wholeSumsUptoRow.laid W) : Lib.TabIs Tryd.prog W "hawser/crc.halves" .u32 tabl :=
  Lib.tabIs_of_head (rest := []) gTab gTabType Tryd.underlying89 Tryd.underlying36 cellsE cellsT h
theorem tab_of {W : World} (h : laidMetH Tryd.prog Rows.wholeSumsUptoRow.laid W) : Tab W := fun i hi => (table h).cell gTab i (show i < tabl.length from hi)
theorem laid_met (os : Os) : laidMet Tryd.prog Rows.wholeSumsUptoRow.laid (({ World.holding Tryd.prog os ⟨#[], #[], []⟩ with heap := (World.holding Tryd.prog os ⟨#[], #[], []⟩).heap.modify 0 fun | .cells _ t frozen => .cells (tabl.map fun z => Value.int .u32 z).toArray t frozen | o => o } : World).forCall (fun _ _ => 0) ⟨#[], #[.slice none 0 0], []⟩).memory :=
  laidMet_of_run' 8 (by kernel_rfl) (by kernel_rfl)
theorem reads (os : Os) {H : Type} (enc : TypeId × Value → H) : ∃ places, DataW.whole enc Tryd.prog (({ World.holding Tryd.prog os ⟨#[], #[], []⟩ with heap := (World.holding Tryd.prog os ⟨#[], #[], []⟩).heap.modify 0 fun | .cells _ t frozen => .cells (tabl.map fun z => Value.int .u32 z).toArray t frozen | o => o } : World).forCall (fun _ _ => 0) ⟨#[], #[.slice none 0 0], []⟩).memory Tryd.f7.params.toList Rows.wholeSumsSpec.vars false (#[.slice none 0 0] : Array Value).toList 8 = some ([.nil], [], places) :=
  ⟨[], by kernel_rfl⟩

set_option maxRecDepth 100000 in
theorem lifted (os : Os) (started : os.Started) (H : Type) (enc : TypeId × Value → H) (F : Stop.Interp) :
    ReturnsInHanded {} Tryd.checked os 7 .any ((Rows.OpenSpec.upto Rows.wholeSumsSpec).preRow enc Tryd.prog Tryd.f7 Rows.wholeSumsUptoRow.domain false Rows.wholeSumsUptoRow.laid) (((Rows.OpenSpec.upto Rows.wholeSumsSpec).at F).post enc Tryd.prog Tryd.f7 false true false false) := by
  obtain ⟨places, hx⟩ := reads os enc
  refine returnsInHanded_of_row (C := Tryd.checked) (s := Rows.OpenSpec.upto Rows.wholeSumsSpec) own started (by kernel_rfl) Tryd.func7
    (witness_row_at (enc := enc) (C := Tryd.checked) false ({ World.holding Tryd.prog os ⟨#[], #[], []⟩ with heap := (World.holding Tryd.prog os ⟨#[], #[], []⟩).heap.modify 0 fun | .cells _ t frozen => .cells (tabl.map fun z => Value.int .u32 z).toArray t frozen | o => o } : World) #[.slice none 0 0] rfl (by kernel_rfl) (by kernel_rfl) (by kernel_rfl)
      (OpenSpec.preRow_of_cond 8 hx (by kernel_rfl) (fun k hk => by cases hk; kernel_rfl) (by kernel_rfl) (laid_met os))) ?_
  intro W base args ds gs before hval0 hW _ hcond0 hsz0 hL _ _
  have hk : Rows.uptoSmall H (ds ++ gs) = true := hcond0 _ rfl
  have hval : ∀ (j : Nat) t v, Tryd.f7.params[j]? = some t → args[j]? = some v → Value.okWide Tryd.prog W .any base t v := hval0
  have hW' := hW
  obtain ⟨p, q, hA0, hV, rfl, hfz, hnd⟩ := hW
  have hA : DataW.TrodAll enc Tryd.prog W 0 (fun _ => true) true Tryd.f7.params.toList args.toList ds p := hA0
  rw [Tryd.params7] at hA hval
  obtain ⟨v0, vs0, d0, ds0, p0, q0, hargs, rfl, rfl, h0, r0⟩ := trodAll_cons hA
  obtain ⟨rfl, rfl, rfl⟩ := trodAll_nil r0
  obtain rfl : args = #[v0] := by cases args; simp_all
  obtain ⟨rfl, rfl⟩ := trodVars_none hV
  have k0 := h0
  have lt0 : ∀ x ∈ p0, x.block < W.heap.size := by obtain ⟨m, hm⟩ := k0; exact DataW.trod_lt m _ _ _ hm
  obtain ⟨a0, n0, cap0, X0, rfl, x0, y0⟩ : ∃ a n cap X, v0 = .slice a n cap ∧ Parts W a n X ∧ X.flatten.length + n ≤ 1048576 := by
    obtain ⟨sa, sl, sc, hv⟩ := okWide_slice Tryd.underlying41 (hval 0 41 v0 rfl rfl)
    have hAll : Rows.uptoBulkAll _ ≤ 1048576 := of_decide_eq_true hk
    exact parts_open sa sl sc hv h0 (Nat.le_trans (bulk_mem (show d0 ∈ _ by simp)) hAll)
  clear hA0 hval0
  simp only [List.append_nil] at hW'
  refine (walk a0 n0 cap0 X0 W x0 y0 (tab_of hL)).mono fun e W' ⟨he, bel⟩ => ?_
  subst he
  exact ⟨_, rfl, _, _, _, [], _, [], hW', trodAll_mk1 (shut_bool Tryd.underlying4 _), (trodAll_cons_mk (Below.trod laidOut (by kernel_rfl) (of_decide_eq_true (by kernel_rfl)) k0 bel lt0) trodAll_mk0), rfl, bel.frame _, fun h => by cases h⟩

theorem over : Rows.wholeSumsUptoRow.holds Tryd.pinned (Rows.OpenSpec.upto Rows.wholeSumsSpec) :=
  OpenClaim.holds_of_cond 7 Tryd.f7 rfl rfl rfl rfl rfl rfl rfl ⟨rfl, rfl, rfl, rfl, rfl⟩ rfl rfl rfl rfl rfl (by kernel_rfl) Tryd.func7 (by kernel_rfl)
    (of_decide_eq_true (by kernel_rfl)) (by unfold Func.isWrapper; first | (rw [if_pos (by decide +kernel)]; kernel_rfl) | (rw [if_neg (by decide +kernel)]; exact ⟨rfl, rfl⟩))
    (fun os started H enc _ F => by rw [OpenClaim.pre_eq_preRow]; exact lifted os started H enc F)

/-- No parameter wants a stand-in; the program's own looks are off. -/
theorem plain (f : FuncId) (fn : Func) (hf : Tryd.pinned.checked.prog.funcNamed "hawser/hawsertop.WholeSums" = some f) (hfn : Tryd.pinned.checked.prog.funcs[f]? = some fn) :
    false = Tryd.pinned.checked.prog.looks [] ∧ ∀ (j : Nat) t, fn.params[j]? = some t → Tryd.pinned.checked.prog.wantsStandIn t = false := by
  obtain rfl : f = 7 := Option.some.inj ((show Tryd.prog.funcNamed "hawser/hawsertop.WholeSums" = some 7 by kernel_rfl).symm.trans hf) |>.symm
  obtain rfl : fn = Tryd.f7 := (Option.some.inj (Tryd.func7.symm.trans hfn)).symm
  refine ⟨by kernel_rfl, fun j t ht => ?_⟩
  rw [Tryd.params7] at ht
  have hm : t ∈ [41] := by simpa using Array.mem_of_getElem? ht
  have hall : (([41] : List TypeId).all fun u => !Tryd.prog.wantsStandIn u) = true := by kernel_rfl
  exact (show Tryd.prog.wantsStandIn t = false by simpa using List.all_eq_true.1 hall t hm)
theorem card : Rows.WholeSumsUptoCardSaid :=
  Claim7.holds_tied_plain_at .later [] _ _ _ _ over (fun _ h => by cases h) (by kernel_rfl) (fun _ h => by cases h) wholeSumsUpto_row_tie rfl ⟨rfl, rfl⟩ (by kernel_rfl) rfl plain (by kernel_rfl)

end Go.Proofs.YtdgoncpebfkbdadDoor.wholeSums
namespace Go.Proofs.YtdgoncpebfkbdadDoor
theorem wholeSums_holds : Rows.WholeSumsUptoCardSaid := wholeSums.card
#print axioms wholeSums_holds
end Go.Proofs.YtdgoncpebfkbdadDoor
