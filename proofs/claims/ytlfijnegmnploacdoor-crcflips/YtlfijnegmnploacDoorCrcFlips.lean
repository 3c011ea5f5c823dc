/-
  Proved: for all bytes and every three numbers of bits, hawserlaw02.CrcFlips answers true: a text with one, two or three bits turned has another sum, and so turned, what was sealed does not hold. No condition (the card ties the table of package crc to the program's text).
-/
import Derived.Test.YtlfijnegmnploacDoorRows
import Derived.Test.YtlfijnegmnploacDoorCards
import Derived.Test.YtlfijnegmnploacDoorTie
import Derived.Test.YtlfijnegmnploacDoorAwaC
import Derived.Test.YtlfijnegmnploacDoorFlipC
import Derived.WalkKit
import Derived.ProofKit
import Derived.OpenShut
import Derived.ShutString
import Derived.ChangeOld
import Derived.Below
import Derived.Lib.SmallJoins
import Derived.JoinedCond
import Derived.SizedLaws
import Derived.Deep.DeepHandedRow
import Derived.Lib.LaidTab
import Derived.Laws.IdiomArrays
namespace Go.Proofs.YtlfijnegmnploacDoor.crcFlips
open Go.ChangeShapes Go.WideShapes Go.ChangeAt Go.RowKit
set_option linter.unusedVariables false

theorem own : ownKnob Tryd.prog.godebug = none := by kernel_rfl
theorem laidOut : laidOutB Tryd.prog = true := by kernel_rfl

/-- What the walk is told of a slice of integers that came in. -/
def IsRow (k : IntKind) (R : Nat) (w : World) (a : Option Addr) (len cap : Nat) (zs : List Int) : Prop :=
  (a = none ∧ len = 0 ∧ cap = 0 ∧ zs = []) ∨
  ∃ x, a = some x ∧ len ≤ cap ∧ cap ≤ R ∧ zs.length = cap ∧ (∀ i, i < zs.length → w.cell? (x.add i) = some (.int k (zs.getD i 0))) ∧ ∀ n ∈ zs, (Lit.int k n).wf = true

theorem row_nil {k : IntKind} {R : Nat} {w : World} {a : Option Addr} {len cap : Nat} {zs : List Int} (h : IsRow k R w a len cap zs) : a = none → cap = 0 := by
  rcases h with ⟨_, _, h, _⟩ | ⟨x, h, _⟩
  · exact fun _ => h
  · intro h'; rw [h] at h'; cases h'

set_option maxHeartbeats 2000000 in
theorem walk (a : Option Addr) (len cap : Nat) (zs : List Int) (V0 V1 V2 : Int) (w : World) (x0 : IsRow .u8 140737488351232 w a len cap zs) (w0 : (Lit.int .u64 V0).wf = true) (w1 : (Lit.int .u64 V1).wf = true) (w2 : (Lit.int .u64 V2).wf = true) (ht : Tab w) :
    Calls Tryd.prog 3 #[.slice a len cap, .agg #[.int .u64 V0, .int .u64 V1, .int .u64 V2]] w fun e w' => e = .returned (.bool true) ∧ Below w.heap.size w w' := by
  have b0 := bounds_u64 w0
  have b1 := bounds_u64 w1
  have b2 := bounds_u64 w2
  obtain ⟨hs, hlc, hcr, hwf⟩ := seg_of_row x0
  have HN : Hid (a = none → cap = 0) := row_nil x0
  have HX : Hid (Bytes (zs.take len)) := fun i hi => wf_u8 (hwf i hi)
  obtain ⟨xs, hxs⟩ : ∃ xs, xs = zs.take len := ⟨_, rfl⟩
  rw [← hxs] at hs HX
  have HS : Hid (Seg .u8 w a len xs) := hs
  have HLN : Hid (xs.length = len) := hs.1
  have HT : Hid (Tab w) := ht
  have hl : len ≤ 140737488351232 := by omega
  have HV : Hid (∀ n, n ≤ 3 → ∀ i, i < n → 0 ≤ ([V0, V1, V2].take n)[i]?.getD 0 ∧ ([V0, V1, V2].take n)[i]?.getD 0 < 18446744073709551616) := fun n hn i hi => by
    rw [List.getElem?_take_of_lt hi]
    match i, (show i < 3 by omega) with
    | 0, _ => exact ⟨b0.1, by show V0 < _; omega⟩
    | 1, _ => exact ⟨b1.1, by show V1 < _; omega⟩
    | 2, _ => exact ⟨b2.1, by show V2 < _; omega⟩
  clear ht w0 w1 w2 x0 hwf hxs hs hlc hcr b1 b2 b0
  by_cases hbig : (len : Int) > 134217724
  · go_enter Tryd.func3, Tryd.ntmps3
    go_wp2_with (go_at_call 8; go_must (refine (awake_c _ (HT.out.below ((Below.refl _ _).alloc (Nat.le_refl _) _))).mono ?_); rintro e w' ⟨rfl, HB⟩; replace HB : Hid _ := HB)
    go_ret
    exact ⟨rfl, ((Below.refl _ _).alloc (Nat.le_refl _) _).trans (HB.out.mono (by simp))⟩
  · have hsm : (len : Int) ≤ 134217724 := by omega
    clear hbig
    go_enter Tryd.func3, Tryd.ntmps3
    go_wp2_with (go_at_call 8; go_must (refine (awake_c _ (HT.out.below ((Below.refl _ _).alloc (Nat.le_refl _) _))).mono ?_); rintro e w1 ⟨rfl, HB1⟩; replace HB1 : Hid _ := HB1)
    have HW0 : Hid (Below w.heap.size w (w.alloc (Obj.cells #[.int .u64 V0, .int .u64 V1, .int .u64 V2] 24))) := (Below.refl _ _).alloc (Nat.le_refl _) _
    have HA0 : Hid (Seg .u64 (w.alloc (Obj.cells #[.int .u64 V0, .int .u64 V1, .int .u64 V2] 24)) (some ⟨w.heap.size, 0, none⟩) 3 [V0, V1, V2]) := seg_new w .u64 _ 24 3 [V0, V1, V2] rfl rfl
    have HT1 : Hid (Tab w1) := (HT.out.below HW0.out).below HB1.out
    have HS1 : Hid (Seg .u8 w1 a len xs) := (HS.out.below HW0.out).below HB1.out
    have HA1 : Hid (Seg .u64 w1 (some ⟨w.heap.size, 0, none⟩) 3 [V0, V1, V2]) := HA0.out.below HB1.out
    have HW1 : Hid (Below w.heap.size w w1) := HW0.out.trans (HB1.out.mono HW0.out.size)
    obtain ⟨g0, hg0⟩ : ∃ g, g = w.heap.size := ⟨_, rfl⟩
    rw [← hg0] at HA1 ⊢
    clear HB1 HW0 HA0 hg0
    refine (sum_c _ 1 1 [xs] _ ?_ (HT1.out.below ((Below.refl _ _).alloc (Nat.le_refl _) _)) (by omega)).mono ?_
    · exact segs_at _ _ rfl HS1.out HX.out (by omega)
    rintro e w' ⟨rfl, rfl⟩
    rw [show [xs].flatten = xs from by simp]
    obtain ⟨Z, hZ⟩ : ∃ Z, Z = W (sum xs) := ⟨_, rfl⟩
    rw [← hZ]
    replace hZ : Hid _ := hZ
    have HA2 : Hid (Below w1.heap.size w1 (w1.alloc (Obj.cells #[.slice a len cap] 22))) := (Below.refl _ _).alloc (Nat.le_refl _) _
    generalize (w1.alloc (Obj.cells #[.slice a len cap] 22)) = w2 at HA2 ⊢
    have HT2 : Hid (Tab w2) := HT1.out.below HA2.out
    have HS2 : Hid (Seg .u8 w2 a len xs) := HS1.out.below HA2.out
    have HB2 : Hid (Below w.heap.size w w2) := HW1.out.trans (HA2.out.mono HW1.out.size)
    have HV2 : Hid (Seg .u64 w2 (some ⟨g0, 0, none⟩) 3 [V0, V1, V2]) := HA1.out.below HA2.out
    clear HA2 HA1 HT1 HS1 HW1
    go_wp2_with fail
    refine (seal_c a len cap xs w2 HN.out HS2.out HX.out hl HT2.out).mono ?_
    rintro e wa ⟨v2, rfl, ho2, hb2⟩
    obtain ⟨a3, c3, rfl, hs3, hn3, hlc3⟩ := ho2.seg
    have HBa : Hid (Below w.heap.size w wa) := HB2.out.trans (hb2.mono HB2.out.size)
    have HVa : Hid (Seg .u64 wa (some ⟨g0, 0, none⟩) 3 [V0, V1, V2]) := HV2.out.below hb2
    have HSa : Hid (Seg .u8 wa a3 (len + 4) (sealed xs)) := hs3
    have HN3 : Hid (a3 = none → c3 = 0) := hn3
    have HX3 : Hid (Bytes (sealed xs)) := bytes_of_mem (sealed_bytes xs HX.out.mem)
    have hne : (((len + 4 : Nat) : Int) != (len : Int) + 4) = false := by simp
    clear ho2 hb2 hs3 hn3 HT2 HS2 HV2 HB2
    go_wp2_with fail
    refine (holds_c a3 (len + 4) c3 (sealed xs) wa hlc3 HSa.out HX3.out (by omega) (HT.out.below HBa.out)).mono ?_
    rintro e w3 ⟨rfl, hb3⟩
    rw [sealed_holds]
    have HB3 : Hid (Below w.heap.size w w3) := HBa.out.trans (hb3.mono HBa.out.size)
    have HSE3 : Hid (Seg .u8 w3 a3 (len + 4) (sealed xs)) := HSa.out.below hb3
    have HV3 : Hid (Seg .u64 w3 (some ⟨g0, 0, none⟩) 3 [V0, V1, V2]) := HVa.out.below hb3
    have HS3 : Hid (Seg .u8 w3 a len xs) := HS.out.below HB3.out
    have HT3 : Hid (Tab w3) := HT.out.below HB3.out
    clear hb3 HSa HVa HBa
    go_wp2
    go_loopw [7] (fun i wr => ∃ k : Nat, 1 ≤ k ∧ k ≤ 4 ∧ i = .int .i64 k ∧ Hid (Below w3.heap.size w3 wr)) (fun i _ => 4 - (intOf i).toNat)
    case atStart => exact ⟨1, Nat.le_refl _, by omega, rfl, Below.refl _ _⟩
    case round =>
      obtain ⟨k, hk1, hk4, rfl, hb⟩ := hrel
      by_cases hlt : k < 4
      · have hk3 : (k : Int) ≤ 3 := by omega
        have HVK : Hid (Seg .u64 wr (some ⟨g0, 0, none⟩) k ([V0, V1, V2].take k)) := by
          obtain ⟨gb', off', hgb, hgbw, hgc⟩ := HV3.out.2.resolve_left (by omega)
          cases hgb
          have h1 := hb.out.size
          refine ⟨by simp; omega, .inr ⟨g0, 0, rfl, by omega, fun i hi => ?_⟩⟩
          rw [List.getElem?_take_of_lt hi]
          exact (hb.out.cell (p := ⟨g0, 0 + i, none⟩) hgbw).trans (hgc i (by omega))
        go_wp2_with fail
        refine (flipped_c a len cap xs g0 k 3 ([V0, V1, V2].take k) wr HN.out (HS3.out.below hb.out) HX.out (by omega) HVK.out (HV.out k (by omega)) (by omega)).mono ?_
        rintro e w4 ⟨u4, ys, n, rfl, ho4, hy4, hr4, hb4⟩
        obtain ⟨a5, c5, rfl, hs5, hn5, hlc5⟩ := Own.seg ho4
        have HB4 : Hid (Below w3.heap.size w3 w4) := hb.out.trans (hb4.mono hb.out.size)
        have HVK4 : Hid (Seg .u64 w4 (some ⟨g0, 0, none⟩) k ([V0, V1, V2].take k)) := HVK.out.below hb4
        have HS5 : Hid (Seg .u8 w4 a5 len ys) := hs5
        have HY4 : Hid (Bytes ys) := hy4
        have HR4 : Hid (0 < n → sum ys ≠ sum xs) := fun h => sum_ne xs ys (hr4 h)
        clear ho4 hy4 hr4 hb4 hs5 hn5 HVK
        go_wp2_with fail
        refine (flipped_c a3 (len + 4) c3 (sealed xs) g0 k 3 ([V0, V1, V2].take k) w4 HN3.out (HSE3.out.below HB4.out) HX3.out (by omega) HVK4.out (HV.out k (by omega)) (by omega)).mono ?_
        rintro e w5 ⟨u5, qs, m, rfl, ho5, hy5, hr5, hb5⟩
        obtain ⟨a6, c6, rfl, hs6, hn6, hlc6⟩ := Own.seg ho5
        have HB5 : Hid (Below w3.heap.size w3 w5) := HB4.out.trans (hb5.mono HB4.out.size)
        have HS6 : Hid (Seg .u8 w5 a5 len ys) := HS5.out.below hb5
        have HS8 : Hid (Seg .u8 w5 a6 (len + 4) qs) := hs6
        have HY5 : Hid (Bytes qs) := hy5
        have HR5 : Hid (0 < m → holds qs = false) := fun h => spoilt xs qs HX.out.mem hy5.mem (hr5 h)
        have HT5 : Hid (Tab w5) := HT3.out.below HB5.out
        clear ho5 hy5 hr5 hb5 hs6 hn6 HS5 HVK4 hlc5 HB4 hb
        by_cases hn : 0 < n
        · have HNE : Hid ((W (sum ys) == Z) = false) := by
            have := HR4.out hn
            have h2 : W (sum ys) ≠ Z := fun h => this (W_inj (h.trans hZ.out))
            show (_ == _) = false
            simpa using h2
          by_cases hm : 0 < m
          · go_wp2_with fail
            refine (sum_c _ 1 1 [ys] _ ?_ (HT5.out.below ((Below.refl _ _).alloc (Nat.le_refl _) _)) (by omega)).mono ?_
            · exact segs_at _ _ rfl HS6.out HY4.out (by omega)
            rintro e w' ⟨rfl, rfl⟩
            rw [show [ys].flatten = ys from by simp]
            have hne2 := HNE.out
            obtain ⟨P, hP⟩ : ∃ P, P = W (sum ys) := ⟨_, rfl⟩
            rw [← hP] at hne2 ⊢
            clear hP
            have HB6 : Hid (Below w3.heap.size w3 (w5.alloc (Obj.cells #[.slice a5 len c5] 22))) := HB5.out.alloc HB5.out.size _
            have HS9 : Hid (Seg .u8 (w5.alloc (Obj.cells #[.slice a5 len c5] 22)) a6 (len + 4) qs) := HS8.out.below ((Below.refl _ _).alloc (Nat.le_refl _) _)
            generalize (w5.alloc (Obj.cells #[.slice a5 len c5] 22)) = w6 at HB6 HS9 ⊢
            have HT6 : Hid (Tab w6) := HT3.out.below HB6.out
            have HH : Hid (holds qs = false) := HR5.out hm
            go_wp2_with fail
            refine (holds_c a6 (len + 4) c6 qs _ hlc6 HS9.out HY5.out (by omega) HT6.out).mono ?_
            rintro e w7 ⟨rfl, hb7⟩
            rw [HH.out]
            have HB7 : Hid (Below w3.heap.size w3 w7) := HB6.out.trans (hb7.mono HB6.out.size)
            clear hb7
            go_wp2
            go_roundw
            case rel => exact ⟨k + 1, by omega, by omega, by go_num, HB7⟩
            case measure => simp [intOf]; omega
          · go_wp2_with fail
            refine (sum_c _ 1 1 [ys] _ ?_ (HT5.out.below ((Below.refl _ _).alloc (Nat.le_refl _) _)) (by omega)).mono ?_
            · exact segs_at _ _ rfl HS6.out HY4.out (by omega)
            rintro e w' ⟨rfl, rfl⟩
            rw [show [ys].flatten = ys from by simp]
            have hne2 := HNE.out
            obtain ⟨P, hP⟩ : ∃ P, P = W (sum ys) := ⟨_, rfl⟩
            rw [← hP] at hne2 ⊢
            clear hP
            have HB6 : Hid (Below w3.heap.size w3 (w5.alloc (Obj.cells #[.slice a5 len c5] 22))) := HB5.out.alloc HB5.out.size _
            have HS9 : Hid (Seg .u8 (w5.alloc (Obj.cells #[.slice a5 len c5] 22)) a6 (len + 4) qs) := HS8.out.below ((Below.refl _ _).alloc (Nat.le_refl _) _)
            generalize (w5.alloc (Obj.cells #[.slice a5 len c5] 22)) = w6 at HB6 HS9 ⊢
            have HT6 : Hid (Tab w6) := HT3.out.below HB6.out
            go_wp2
            go_roundw
            case rel => exact ⟨k + 1, by omega, by omega, by go_num, HB6⟩
            case measure => simp [intOf]; omega
        · by_cases hm : 0 < m
          · have HB6 : Hid (Below w3.heap.size w3 w5) := HB5
            have HS9 : Hid (Seg .u8 w5 a6 (len + 4) qs) := HS8
            have HT6 : Hid (Tab w5) := HT5
            have HH : Hid (holds qs = false) := HR5.out hm
            go_wp2_with fail
            refine (holds_c a6 (len + 4) c6 qs _ hlc6 HS9.out HY5.out (by omega) HT6.out).mono ?_
            rintro e w7 ⟨rfl, hb7⟩
            rw [HH.out]
            have HB7 : Hid (Below w3.heap.size w3 w7) := HB6.out.trans (hb7.mono HB6.out.size)
            clear hb7
            go_wp2
            go_roundw
            case rel => exact ⟨k + 1, by omega, by omega, by go_num, HB7⟩
            case measure => simp [intOf]; omega
          · have HB6 : Hid (Below w3.heap.size w3 w5) := HB5
            have HS9 : Hid (Seg .u8 w5 a6 (len + 4) qs) := HS8
            have HT6 : Hid (Tab w5) := HT5
            go_wp2
            go_roundw
            case rel => exact ⟨k + 1, by omega, by omega, by go_num, HB6⟩
            case measure => simp [intOf]; omega
      · go_wp2
        go_ret
        exact ⟨rfl, HB3.out.trans (hb.out.mono HB3.out.size)⟩

theorem gTab : Tryd.prog.globalNamed "hawser/crc.halves" = some 0 := by kernel_rfl
theorem gTabType : (Tryd.prog.globals[0]?).map (·.type) = some 52 := by kernel_rfl
theorem cellsT : Tryd.prog.cellsOf 52 = 16 := by kernel_rfl
theorem cellsE : Tryd.prog.cellsOf 26 = 1 := by kernel_rfl
/-- What the row's list gives: the table's cells. -/
theorem table {W : World} (h : laidMetH Tryd.prog Rows.crcFlipsRow.laid W) : Lib.TabIs Tryd.prog W "hawser/crc.halves" .u32 tabl :=
  Lib.tabIs_of_head (rest := []) gTab gTabType Tryd.underlying52 Tryd.underlying26 cellsE cellsT h
theorem tab_of {W : World} (h : laidMetH Tryd.prog Rows.crcFlipsRow.laid W) : Tab W := fun i hi => (table h).cell gTab i (show i < tabl.length from hi)
theorem laid_met (os : Os) : laidMet Tryd.prog Rows.crcFlipsRow.laid (({ World.holding Tryd.prog os ⟨#[], #[], []⟩ with heap := (World.holding Tryd.prog os ⟨#[], #[], []⟩).heap.modify 0 fun | .cells _ t frozen => .cells (tabl.map fun z => Value.int .u32 z).toArray t frozen | o => o } : World).forCall (fun _ _ => 0) ⟨#[], #[.slice none 0 0, .agg #[.int .u64 0, .int .u64 0, .int .u64 0]], []⟩).memory :=
  laidMet_of_run' 8 (by kernel_rfl) (by kernel_rfl)
theorem reads (os : Os) {H : Type} (enc : TypeId × Value → H) : ∃ places, DataW.whole enc Tryd.prog (({ World.holding Tryd.prog os ⟨#[], #[], []⟩ with heap := (World.holding Tryd.prog os ⟨#[], #[], []⟩).heap.modify 0 fun | .cells _ t frozen => .cells (tabl.map fun z => Value.int .u32 z).toArray t frozen | o => o } : World).forCall (fun _ _ => 0) ⟨#[], #[.slice none 0 0, .agg #[.int .u64 0, .int .u64 0, .int .u64 0]], []⟩).memory Tryd.f3.params.toList Rows.crcFlipsSpec.vars false (#[.slice none 0 0, .agg #[.int .u64 0, .int .u64 0, .int .u64 0]] : Array Value).toList 8 = some ([.nil, .agg [.lit (.int .u64 0), .lit (.int .u64 0), .lit (.int .u64 0)]], [], places) :=
  ⟨[], by kernel_rfl⟩

set_option maxRecDepth 100000 in
theorem lifted (os : Os) (started : os.Started) (H : Type) (enc : TypeId × Value → H) (F : Stop.Interp) :
    ReturnsInHanded {} Tryd.checked os 3 .any ((OpenSpec.ofChange Rows.crcFlipsSpec).preRow enc Tryd.prog Tryd.f3 Rows.crcFlipsRow.domain false Rows.crcFlipsRow.laid) (((OpenSpec.ofChange Rows.crcFlipsSpec).at F).post enc Tryd.prog Tryd.f3 false true false false) := by
  obtain ⟨places, hx⟩ := reads os enc
  refine returnsInHanded_of_row (C := Tryd.checked) (s := OpenSpec.ofChange Rows.crcFlipsSpec) own started (by kernel_rfl) Tryd.func3
    (witness_row_at (enc := enc) (C := Tryd.checked) false ({ World.holding Tryd.prog os ⟨#[], #[], []⟩ with heap := (World.holding Tryd.prog os ⟨#[], #[], []⟩).heap.modify 0 fun | .cells _ t frozen => .cells (tabl.map fun z => Value.int .u32 z).toArray t frozen | o => o } : World) #[.slice none 0 0, .agg #[.int .u64 0, .int .u64 0, .int .u64 0]] rfl (by kernel_rfl) (by kernel_rfl) (by kernel_rfl)
      (OpenSpec.preRow_of_cond 8 hx (by kernel_rfl) (fun k hk => by cases hk) (by kernel_rfl) (laid_met os))) ?_
  intro W base args ds gs before hval0 hW _ hcond0 hsz0 hL _ _
  have hsz : (DataW.weightsEach Tryd.prog (Tryd.f3.params.toList ++ Rows.crcFlipsSpec.plain.varTypes Tryd.prog) (ds ++ gs)).all (· ≤ reachBytes) = true := hsz0
  have hval : ∀ (j : Nat) t v, Tryd.f3.params[j]? = some t → args[j]? = some v → Value.okWide Tryd.prog W .any base t v := hval0
  have hW' := hW
  obtain ⟨p, q, hA0, hV, rfl, hfz, hnd⟩ := hW
  have hA : DataW.TrodAll enc Tryd.prog W 0 (fun _ => true) true Tryd.f3.params.toList args.toList ds p := hA0
  rw [Tryd.params3] at hA hval hsz
  obtain ⟨v0, vs0, d0, ds0, p0, q0, hargs, rfl, rfl, h0, r0⟩ := trodAll_cons hA
  obtain ⟨v1, vs1, d1, ds1, p1, q1, rfl, rfl, rfl, h1, r1⟩ := trodAll_cons r0
  obtain ⟨rfl, rfl, rfl⟩ := trodAll_nil r1
  obtain rfl : args = #[v0, v1] := by cases args; simp_all
  obtain ⟨rfl, rfl⟩ := trodVars_none hV
  have k0 := h0
  have lt0 : ∀ x ∈ p0, x.block < W.heap.size := by obtain ⟨m, hm⟩ := k0; exact DataW.trod_lt m _ _ _ hm
  obtain ⟨a0, len0, cap0, z0, rfl, x0⟩ : ∃ a len cap zs, v0 = .slice a len cap ∧ IsRow .u8 140737488351232 W a len cap zs := by
    obtain ⟨sa, sl, sc, rfl⟩ := okWide_slice Tryd.underlying22 (hval 0 22 v0 rfl rfl)
    obtain ⟨fuel, hf⟩ := h0
    rcases open_ints Tryd.underlying22 Tryd.underlying5 (by kernel_rfl) hf with ⟨hcs, _⟩ | ⟨x, l, c, zs, hcs, _, hl, hm, hz, hx, hcell, hwz⟩
    · simp [Value.cells] at hcs; obtain ⟨rfl, rfl, rfl⟩ := hcs
      exact ⟨none, 0, 0, [], rfl, .inl ⟨rfl, rfl, rfl, rfl⟩⟩
    · simp [Value.cells] at hcs; obtain ⟨rfl, rfl, rfl⟩ := hcs
      have hz' : zs.length = sc := by simpa using hz
      have hd : d0 = _ := congrArg Prod.fst hx
      have hb := sized_slice hsz (j := 0) (t := 22) (e := 5) rfl (congrArg some hd) Tryd.underlying22
      rw [show Tryd.prog.bytesOf 5 = 1 from by kernel_rfl] at hb
      simp only [lits, List.length_map, List.length_take, List.length_drop, reachBytes] at hb
      exact ⟨some x, sl, sc, zs, rfl, .inr ⟨_, rfl, hl, by omega, hz', hcell, hwz⟩⟩
  have k1 := h1
  have lt1 : ∀ x ∈ p1, x.block < W.heap.size := by obtain ⟨m, hm⟩ := k1; exact DataW.trod_lt m _ _ _ hm
  obtain ⟨cs1, rfl, hsz1⟩ : ∃ cs, v1 = .agg cs ∧ cs.size = Tryd.prog.cellsOf 24 := by
    have hv := hval 1 24 v1 rfl rfl
    unfold Value.okWide at hv
    rw [Tryd.underlying24] at hv
    obtain ⟨cs, h1, h2, _⟩ := hv
    exact ⟨cs, h1, h2⟩
  obtain ⟨c0, c1, c2, rfl⟩ := Go.Joins.array3 (hsz1.trans (show Tryd.prog.cellsOf 24 = 3 from by kernel_rfl))
  obtain ⟨V0, V1, V2, rfl, rfl, rfl, wV0, wV1, wV2⟩ : ∃ V0 V1 V2 : Int, c0 = .int .u64 V0 ∧ c1 = .int .u64 V1 ∧ c2 = .int .u64 V2 ∧ (Lit.int .u64 V0).wf = true ∧ (Lit.int .u64 V1).wf = true ∧ (Lit.int .u64 V2).wf = true := by
    obtain ⟨fuel, hf⟩ := h1
    obtain ⟨y0, y1, y2, m, _, hy0, hy1, hy2⟩ := trod_array3 Tryd.underlying24 (by kernel_rfl) hf
    obtain ⟨V0, eV0, _, wV0⟩ := DataW.trod_int Tryd.underlying23 hy0
    obtain ⟨V1, eV1, _, wV1⟩ := DataW.trod_int Tryd.underlying23 hy1
    obtain ⟨V2, eV2, _, wV2⟩ := DataW.trod_int Tryd.underlying23 hy2
    simp at eV0 eV1 eV2
    exact ⟨V0, V1, V2, eV0, eV1, eV2, wV0, wV1, wV2⟩
  clear hA0 hval0
  simp only [List.append_nil] at hW'
  refine (walk a0 len0 cap0 z0 V0 V1 V2 W x0 wV0 wV1 wV2 (tab_of hL)).mono fun e W' ⟨he, bel⟩ => ?_
  subst he
  exact ⟨_, rfl, _, _, _, [], _, [], hW', trodAll_mk1 (shut_bool Tryd.underlying4 _), (trodAll_cons_mk (Below.trod laidOut (by kernel_rfl) (of_decide_eq_true (by kernel_rfl)) k0 bel lt0) (trodAll_cons_mk (Below.trod laidOut (by kernel_rfl) (of_decide_eq_true (by kernel_rfl)) k1 bel lt1) trodAll_mk0)), rfl, bel.frame _, fun h => by cases h⟩

theorem over : Rows.crcFlipsRow.holds Tryd.pinned (OpenSpec.ofChange Rows.crcFlipsSpec) :=
  OpenClaim.holds_of_cond 3 Tryd.f3 rfl rfl rfl rfl rfl rfl rfl ⟨rfl, rfl, rfl, rfl, rfl⟩ rfl rfl rfl rfl rfl (by kernel_rfl) Tryd.func3 (by kernel_rfl)
    (of_decide_eq_true (by kernel_rfl)) (by unfold Func.isWrapper; first | (rw [if_pos (by decide +kernel)]; kernel_rfl) | (rw [if_neg (by decide +kernel)]; exact ⟨rfl, rfl⟩))
    (fun os started H enc _ F => by rw [OpenClaim.pre_eq_preRow]; exact lifted os started H enc F)

/-- No parameter wants a stand-in; the program's own looks are off. -/
theorem plain (f : FuncId) (fn : Func) (hf : Tryd.pinned.checked.prog.funcNamed "hawser/hawserlaw02.CrcFlips" = some f) (hfn : Tryd.pinned.checked.prog.funcs[f]? = some fn) :
    false = Tryd.pinned.checked.prog.looks [] ∧ ∀ (j : Nat) t, fn.params[j]? = some t → Tryd.pinned.checked.prog.wantsStandIn t = false := by
  obtain rfl : f = 3 := Option.some.inj ((show Tryd.prog.funcNamed "hawser/hawserlaw02.CrcFlips" = some 3 by kernel_rfl).symm.trans hf) |>.symm
  obtain rfl : fn = Tryd.f3 := (Option.some.inj (Tryd.func3.symm.trans hfn)).symm
  refine ⟨by kernel_rfl, fun j t ht => ?_⟩
  rw [Tryd.params3] at ht
  have hm : t ∈ [22, 24] := by simpa using Array.mem_of_getElem? ht
  have hall : (([22, 24] : List TypeId).all fun u => !Tryd.prog.wantsStandIn u) = true := by kernel_rfl
  exact (show Tryd.prog.wantsStandIn t = false by simpa using List.all_eq_true.1 hall t hm)
theorem card : Rows.CrcFlipsCardSaid :=
  Claim7.holds_tied_plain_at .later [] _ _ _ _ over (fun _ h => by cases h) (by kernel_rfl) (fun _ h => by cases h) crcFlips_row_tie rfl ⟨rfl, rfl⟩ (by kernel_rfl) rfl plain (by kernel_rfl)

end Go.Proofs.YtlfijnegmnploacDoor.crcFlips
namespace Go.Proofs.YtlfijnegmnploacDoor
theorem crcFlips_holds : Rows.CrcFlipsCardSaid := crcFlips.card
#print axioms crcFlips_holds
end Go.Proofs.YtlfijnegmnploacDoor
