/-
  Proved: for all bytes, hawserlaw02.CrcSeals answers true: Seal is the document's, in memory of its own, and what it was handed stays, the spare room behind it, too. No condition (the card ties the table of package crc to the program's text).
-/
import Derived.Test.YtlfijnegmnploabDoorRows
import Derived.Test.YtlfijnegmnploabDoorCards
import Derived.Test.YtlfijnegmnploabDoorTie
import Derived.Test.YtlfijnegmnploabDoorSealSt
import Derived.Test.YtlfijnegmnploabDoorRSealC
import Derived.Test.YtlfijnegmnploabDoorMstr
import Derived.WalkKit
import Derived.ProofKit
import Derived.OpenShut
import Derived.ShutString
import Derived.ChangeOld
import Derived.Below
import Derived.Lib.SmallJoins
import Derived.JoinedCond
import Derived.SizedLaws
import Derived.Deep.DeepHandedRow
import Derived.Lib.LaidTab
namespace Go.Proofs.YtlfijnegmnploabDoor.crcSeals
open Go.ChangeShapes Go.WideShapes Go.ChangeAt Go.RowKit
set_option linter.unusedVariables false

theorem own : ownKnob Tryd.prog.godebug = none := by kernel_rfl
theorem laidOut : laidOutB Tryd.prog = true := by kernel_rfl

/-- What the walk is told of a slice of integers that came in. -/
def IsRow (k : IntKind) (R : Nat) (w : World) (a : Option Addr) (len cap : Nat) (zs : List Int) : Prop :=
  (a = none ∧ len = 0 ∧ cap = 0 ∧ zs = []) ∨
  ∃ x, a = some x ∧ len ≤ cap ∧ cap ≤ R ∧ zs.length = cap ∧ (∀ i, i < zs.length → w.cell? (x.add i) = some (.int k (zs.getD i 0))) ∧ ∀ n ∈ zs, (Lit.int k n).wf = true

theorem row_nil {k : IntKind} {R : Nat} {w : World} {a : Option Addr} {len cap : Nat} {zs : List Int} (h : IsRow k R w a len cap zs) : a = none → cap = 0 := by
  rcases h with ⟨_, _, h, _⟩ | ⟨x, h, _⟩
  · exact fun _ => h
  · intro h'; rw [h] at h'; cases h'
theorem sameTrue (a b : Option Addr) (la ca lb cb : Nat) (w : World) (xs : List Int) (h1 : Seg .u8 w a la xs) (h2 : Seg .u8 w b lb xs) (hx : Bytes xs) :
    Calls Tryd.prog 11 #[.slice a la ca, .slice b lb cb] w fun e w' => e = .returned (.bool true) ∧ w' = w := by
  have := same_c a b la ca lb cb xs xs w h1 h2 hx hx
  rw [decide_eq_true rfl] at this
  exact this
theorem Seg.front {w : World} {g len : Nat} {xs ys : List Int} (h : Seg .u8 w (some ⟨g, 0, none⟩) (len + 8) (xs ++ ys)) (hl : xs.length = len) : Seg .u8 w (some ⟨g, 0, none⟩) len xs := by
  refine ⟨hl, ?_⟩
  rcases h.2 with h0 | ⟨b, off, ha, hw, hc⟩
  · omega
  · exact .inr ⟨b, off, ha, hw, fun i hi => by rw [hc i (by omega), List.getElem?_append_left (by omega)]⟩
theorem sealed_len (xs : List Int) : (sealed xs).length = xs.length + 4 := by unfold sealed; simp [by4]
theorem sealed_by (xs : List Int) (h : Bytes xs) : Bytes (sealed xs) := bytes_of_mem (fun z hz => by
  unfold sealed at hz
  rcases List.mem_append.1 hz with h' | h'
  · exact h.mem z h'
  · exact by4_bytes _ z h')

set_option maxHeartbeats 4000000 in
theorem walk (a : Option Addr) (len cap : Nat) (zs : List Int) (w : World) (x0 : IsRow .u8 140737488351232 w a len cap zs) (ht : Tab w) :
    Calls Tryd.prog 4 #[.slice a len cap] w fun e w' => e = .returned (.bool true) ∧ Below w.heap.size w w' := by
  obtain ⟨hs, hlc, hcr, hwf⟩ := seg_of_row x0
  have HN : Hid (a = none → cap = 0) := row_nil x0
  have HX : Hid (Bytes (zs.take len)) := fun i hi => wf_u8 (hwf i hi)
  obtain ⟨xs, hxs⟩ : ∃ xs, xs = zs.take len := ⟨_, rfl⟩
  rw [← hxs] at hs HX
  have HS : Hid (Seg .u8 w a len xs) := hs
  have HLN : Hid (xs.length = len) := hs.1
  have HT : Hid (Tab w) := ht
  have hl : len ≤ 140737488351232 := by omega
  have HXS : Hid (Bytes (sealed xs)) := sealed_by xs HX.out
  have HXE : Hid (Bytes (xs ++ eight)) := bytes_of_mem (fun z hz => by
    rcases List.mem_append.1 hz with h' | h'
    · exact HX.out.mem z h'
    · have : ∀ z ∈ eight, 0 ≤ z ∧ z < 256 := by decide
      exact this z h')
  clear ht x0 hwf hxs hs hlc hcr
  have HCO : Hid (#[Value.int .u8 201, .int .u8 202, .int .u8 203, .int .u8 204, .int .u8 205, .int .u8 206, .int .u8 207, .int .u8 208] = (eight.map (Value.int .u8)).toArray) := rfl
  go_enter Tryd.func4, Tryd.ntmps4
  go_wp2_with (first
    | (at_builtin; refine wpList_append_grow _ rfl _ _ rfl w.heap.size len _ xs rfl (Own.below hown1.out ((Below.refl _ _).alloc (Nat.le_refl _) _)) (some ⟨w1.heap.size, 0, none⟩) 8 8 eight rfl (fun h => by cases h) (seg_new w1 .u8 _ 5 8 eight rfl rfl) (by omega) (by have := hb1.out.size; simp; omega) ?_; intro v2 w2 hown2 hb2; obtain ⟨gr, cr, rfl, hBr, hnr⟩ := hown2.form (by omega); replace hown2 : Hid _ := hown2; replace hb2 : Hid _ := hb2)
    | (at_builtin; refine wpList_append_grow _ rfl _ _ rfl w.heap.size 0 _ [] rfl (own_nil _ _) a len cap xs rfl HN.out HS.out (by omega) (Nat.le_refl _) ?_; intro v1 w1 hown1 hb1; rw [Nat.zero_add, List.nil_append] at hown1; replace hown1 : Hid _ := hown1; replace hb1 : Hid _ := hb1))
  have HB2 : Hid (Below w.heap.size w w2) := (hb1.out.alloc hb1.out.size _).trans hb2.out
  have HR2 : Hid (Seg .u8 w2 (some ⟨gr, 0, none⟩) (len + 8) (xs ++ eight)) := by
    obtain ⟨a', c', he, hseg, _⟩ := Own.seg hown2.out
    cases he; exact hseg
  clear hown1 hb1 hown2 hb2
  refine (seal_c (some ⟨gr, 0, none⟩) len cr xs w2 (fun h => by cases h) (Seg.front HR2.out HLN.out) HX.out hl (HT.out.below HB2.out)).mono ?_
  rintro e w3 ⟨va, rfl, hoa, hb3⟩
  have HB3 : Hid (Below w.heap.size w w3) := HB2.out.trans (hb3.mono HB2.out.size)
  have HR3 : Hid (Seg .u8 w3 (some ⟨gr, 0, none⟩) (len + 8) (xs ++ eight)) := HR2.out.below hb3
  obtain ⟨ga, ca, rfl, hBa, hna⟩ := hoa.form (by omega)
  go_wp2_with fail
  refine (seal_c (some ⟨gr, 0, none⟩) len cr xs w3 (fun h => by cases h) (Seg.front HR3.out HLN.out) HX.out hl (HT.out.below HB3.out)).mono ?_
  rintro e w4 ⟨vb, rfl, hob, hb4⟩
  have HB4 : Hid (Below w.heap.size w w4) := HB3.out.trans (hb4.mono HB3.out.size)
  have HR4 : Hid (Seg .u8 w4 (some ⟨gr, 0, none⟩) (len + 8) (xs ++ eight)) := HR3.out.below hb4
  obtain ⟨gb, cb, rfl, hBb, hnb⟩ := hob.form (by omega)
  go_wp2_with fail
  refine (rseal_c a len cap xs w4 HN.out (HS.out.below HB4.out) HX.out hl).mono ?_
  rintro e w5 ⟨vw, rfl, how, hb5⟩
  have HB5 : Hid (Below w.heap.size w w5) := HB4.out.trans (hb5.mono HB4.out.size)
  obtain ⟨gw, cw, rfl, hBw, hnw⟩ := how.form (by omega)
  have HST : Hid (St w w5 gr gw len xs (.slice (some ⟨ga, 0, none⟩) (len + 4) ca) (.slice (some ⟨gb, 0, none⟩) (len + 4) cb) (len + 4) (len + 4) (sealed xs) (sealed xs)) := by
    have g1 := HR2.out.lt (by omega)
    have g2 := (hoa.lo ga rfl).2
    have g3 := (hob.lo gb rfl).2
    have hseg : Seg .u8 w5 (some ⟨gw, 0, none⟩) (len + 4) (sealed xs) := by
      obtain ⟨a', c', he, hseg, _⟩ := Own.seg how
      cases he; exact hseg
    refine ⟨HB5.out, HR4.out.below hb5, hseg, ((Own.base hoa HB2.out.size).below hb4).below hb5, (Own.base hob HB3.out.size).below hb5, ?_, ?_, ?_, ?_, ?_⟩
    all_goals intro q
    · have e : ga = gr := Option.some.inj q
      omega
    · have e : ga = gw := Option.some.inj q
      have := hb4.size
      omega
    · have e : gb = gr := Option.some.inj q
      have := hb3.size
      omega
    · have e : gb = gw := Option.some.inj q
      omega
    · intro h1 h2
      have e1 : ga = q := Option.some.inj h1
      have e2 : gb = q := Option.some.inj h2
      omega
  clear hb3 hoa hb4 hob hb5 how HR2 HR3 HR4 HB2 HB3 HB4 HB5 hBa hBb hBw hBr HCO
  have HSA : Hid (Seg .u8 w5 (some ⟨ga, 0, none⟩) (len + 4) (sealed xs)) := by
    obtain ⟨a', c', he, hseg, _⟩ := Own.seg HST.out.a
    cases he; exact hseg
  have HSB : Hid (Seg .u8 w5 (some ⟨gb, 0, none⟩) (len + 4) (sealed xs)) := by
    obtain ⟨a', c', he, hseg, _⟩ := Own.seg HST.out.b
    cases he; exact hseg
  go_wp2_with (go_at_call 11; first
    | (refine (sameTrue (some ⟨ga, 0, none⟩) (some ⟨gw, 0, none⟩) (len + 4) ca (len + 4) cw _ (sealed xs) HSA.out HST.out.want HXS.out).mono ?_; rintro e w' ⟨rfl, rfl⟩)
    | (refine (sameTrue (some ⟨gb, 0, none⟩) (some ⟨gw, 0, none⟩) (len + 4) cb (len + 4) cw _ (sealed xs) HSB.out HST.out.want HXS.out).mono ?_; rintro e w' ⟨rfl, rfl⟩))
  go_loopw [8] (fun i wr => ∃ k : Nat, k ≤ len + 4 ∧ i = .int .i64 k ∧ Hid (St w wr gr gw len xs (.slice (some ⟨ga, 0, none⟩) (len + 4) ca) (.slice (some ⟨gb, 0, none⟩) (len + 4) cb) (len + 4) (len + 4) (over 91 k (sealed xs)) (sealed xs))) (fun i _ => len + 4 - (intOf i).toNat)
  case atStart => exact ⟨0, Nat.zero_le _, rfl, by rw [over_zero]; exact HST⟩
  case round =>
    obtain ⟨k, hk, rfl, hst⟩ := hrel
    clear HSA HSB HST
    by_cases hlt : k < len + 4
    · obtain ⟨hcell, hfree⟩ := hst.out.a.cell k hlt
      have HS2 : Hid (St w (wr.setCell ⟨ga, k, none⟩ (.int .u8 91)) gr gw len xs (.slice (some ⟨ga, 0, none⟩) (len + 4) ca) (.slice (some ⟨gb, 0, none⟩) (len + 4) cb) (len + 4) (len + 4) (over 91 (k + 1) (sealed xs)) (sealed xs)) := by
        have := hst.out.setA k hlt 91
        rw [over_set 91 k (sealed xs) (by rw [sealed_len, HLN.out]; exact hlt)] at this
        exact this
      go_wp2
      go_round
      case rel => exact ⟨k + 1, by omega, by go_num, HS2⟩
      case measure => simp [intOf]; omega
    · have hge : len + 4 ≤ k := by omega
      have HK : Hid (k = len + 4) := by show _ = _; omega
      clear hlt hk
      rw [HK.out] at hst
      have HS1 : Hid (St w wr gr gw len xs (.slice (some ⟨ga, 0, none⟩) (len + 4) ca) (.slice (some ⟨gb, 0, none⟩) (len + 4) cb) (len + 4) (len + 4) (List.replicate (len + 4) 91) (sealed xs)) := by
        have h1 := over_all 91 (sealed xs)
        rw [sealed_len, HLN.out] at h1
        rw [← h1]; exact hst
      clear hst
      go_wp2
      go_loopw [9] (fun i wr => ∃ k : Nat, k ≤ len + 4 ∧ i = .int .i64 k ∧ Hid (St w wr gr gw len xs (.slice (some ⟨ga, 0, none⟩) (len + 4) ca) (.slice (some ⟨gb, 0, none⟩) (len + 4) cb) (len + 4) (len + 4) (List.replicate (len + 4) 91) (over 92 k (sealed xs)))) (fun i _ => len + 4 - (intOf i).toNat)
      case atStart => exact ⟨0, Nat.zero_le _, rfl, by rw [over_zero]; exact HS1⟩
      case round =>
        obtain ⟨k, hk, rfl, hst⟩ := hrel
        clear HS1
        by_cases hlt : k < len + 4
        · obtain ⟨hcell, hfree⟩ := hst.out.b.cell k hlt
          have HS2 : Hid (St w (wr.setCell ⟨gb, k, none⟩ (.int .u8 92)) gr gw len xs (.slice (some ⟨ga, 0, none⟩) (len + 4) ca) (.slice (some ⟨gb, 0, none⟩) (len + 4) cb) (len + 4) (len + 4) (List.replicate (len + 4) 91) (over 92 (k + 1) (sealed xs))) := by
            have := hst.out.setB k hlt 92
            rw [over_set 92 k (sealed xs) (by rw [sealed_len, HLN.out]; exact hlt)] at this
            exact this
          go_wp2
          go_roundw
          case rel => exact ⟨k + 1, by omega, by go_num, HS2⟩
          case measure => simp [intOf]; omega
        · have hge2 : len + 4 ≤ k := by omega
          have HK2 : Hid (k = len + 4) := by show _ = _; omega
          clear hlt hk
          rw [HK2.out] at hst
          have HS1 : Hid (St w wr gr gw len xs (.slice (some ⟨ga, 0, none⟩) (len + 4) ca) (.slice (some ⟨gb, 0, none⟩) (len + 4) cb) (len + 4) (len + 4) (List.replicate (len + 4) 91) (List.replicate (len + 4) 92)) := by
            have h1 := over_all 92 (sealed xs)
            rw [sealed_len, HLN.out] at h1
            rw [← h1]; exact hst
          clear hst
          go_wp2
          go_loopw [5, 6, 10] (fun ua ub i wr => ∃ k : Nat, k ≤ 40 ∧ i = .int .i64 k ∧ Hid (St w wr gr gw len xs ua ub (len + 4 + k) (len + 4 + k) ((List.replicate (len + 4) 91) ++ List.replicate k 93) ((List.replicate (len + 4) 92) ++ List.replicate k 94))) (fun _ _ i _ => 40 - (intOf i).toNat)
          case atStart => exact ⟨0, Nat.zero_le _, rfl, by rw [List.replicate_zero, List.append_nil, List.replicate_zero, List.append_nil]; exact HS1⟩
          case round =>
            obtain ⟨k, hk, rfl, hst⟩ := hrel
            clear HS1
            by_cases hlt : k < 40
            · go_wp2_with (first
                | (at_builtin; refine wpList_append_apart _ rfl _ _ rfl w.heap.size (len + 4 + k) _ ((List.replicate (len + 4) 92) ++ List.replicate k 94) rfl (St.keep HS5.out ((Below.refl _ _).alloc (Nat.le_refl _) _)).b (some ⟨w5.heap.size, 0, none⟩) 1 1 [94] rfl (fun h => by cases h) (seg_new w5 .u8 _ 5 1 [94] rfl rfl) (by omega) (St.keep HS5.out ((Below.refl _ _).alloc (Nat.le_refl _) _)).below.size ?_; intro v6 w6 ho6 hg6 hat6; have HS6 : Hid (St w w6 gr gw len xs v5 v6 _ _ _ _) := St.onB (St.keep HS5.out ((Below.refl _ _).alloc (Nat.le_refl _) _)) hg6 ho6 hat6; clear ho6 hg6 hat6)
                | (at_builtin; refine wpList_append_apart _ rfl _ _ rfl w.heap.size (len + 4 + k) _ ((List.replicate (len + 4) 91) ++ List.replicate k 93) rfl (St.keep hst.out ((Below.refl _ _).alloc (Nat.le_refl _) _)).a (some ⟨wr.heap.size, 0, none⟩) 1 1 [93] rfl (fun h => by cases h) (seg_new wr .u8 _ 5 1 [93] rfl rfl) (by omega) (St.keep hst.out ((Below.refl _ _).alloc (Nat.le_refl _) _)).below.size ?_; intro v5 w5 ho5 hg5 hat5; have HS5 : Hid (St w w5 gr gw len xs v5 u6 _ _ _ _) := St.onA (St.keep hst.out ((Below.refl _ _).alloc (Nat.le_refl _) _)) hg5 ho5 hat5; clear ho5 hg5 hat5))
              have HS7 : Hid (St w w6 gr gw len xs v5 v6 (len + 4 + (k + 1)) (len + 4 + (k + 1)) ((List.replicate (len + 4) 91) ++ List.replicate (k + 1) 93) ((List.replicate (len + 4) 92) ++ List.replicate (k + 1) 94)) := by
                rw [← rep_snoc, ← rep_snoc]; exact HS6.out
              clear HS5 HS6
              go_roundw
              case rel => exact ⟨k + 1, by omega, by go_num, HS7⟩
              case measure => simp [intOf]; omega
            · obtain rfl : k = 40 := by omega
              clear hlt hk
              obtain ⟨ga2, ca2, rfl, _, hna2⟩ := hst.out.a.form (by omega)
              obtain ⟨gb2, cb2, rfl, _, hnb2⟩ := hst.out.b.form (by omega)
              go_wp2_with fail
              refine (seal_c (some ⟨gr, 0, none⟩) len cr xs wr (fun h => by cases h) (Seg.front hst.out.room HLN.out) HX.out hl (HT.out.below hst.out.below)).mono ?_
              rintro e w7 ⟨vc, rfl, hoc, hb7⟩
              obtain ⟨gc, cc, rfl, _, hncc⟩ := hoc.form (by omega)
              have HS8 : Hid (St w w7 gr gw len xs (.slice (some ⟨ga2, 0, none⟩) (len + 4 + 40) ca2) (.slice (some ⟨gb2, 0, none⟩) (len + 4 + 40) cb2) (len + 4 + 40) (len + 4 + 40) ((List.replicate (len + 4) 91) ++ List.replicate 40 93) ((List.replicate (len + 4) 92) ++ List.replicate 40 94)) := St.keep hst.out hb7
              have HSC : Hid (Seg .u8 w7 (some ⟨gc, 0, none⟩) (len + 4) (sealed xs)) := by
                obtain ⟨a', c', he, hseg, _⟩ := Own.seg hoc
                cases he; exact hseg
              clear hoc hb7 hst
              go_wp2
              go_loop [12] (fun i => ∃ k : Nat, k ≤ len + 44 ∧ i = .int .i64 k) (fun i => len + 44 - (intOf i).toNat)
              case atStart => exact ⟨0, Nat.zero_le _, rfl⟩
              case round =>
                obtain ⟨k, hk, rfl⟩ := hrel
                by_cases hlt : k < len + 44
                · have hca := (HS8.out.a.cell k (by omega)).1
                  have hcb := (HS8.out.b.cell k (by omega)).1
                  rw [rep_get (len + 4) 40 k 91 93 (by omega)] at hca
                  rw [rep_get (len + 4) 40 k 92 94 (by omega)] at hcb
                  by_cases h4 : k < len + 4
                  · rw [if_pos h4] at hca hcb
                    go_wp2
                    go_round
                    case rel => exact ⟨k + 1, by omega, by go_num⟩
                    case measure => simp [intOf]; omega
                  · rw [if_neg h4] at hca hcb
                    go_wp2
                    go_round
                    case rel => exact ⟨k + 1, by omega, by go_num⟩
                    case measure => simp [intOf]; omega
                · clear hk
                  go_wp2_with (first
                    | (at_builtin; refine wpList_append_grow _ rfl _ _ rfl w7.heap.size len _ xs rfl (Own.below hown8.out ((Below.refl _ _).alloc (Nat.le_refl _) _)) (some ⟨w8.heap.size, 0, none⟩) 8 8 eight rfl (fun h => by cases h) (seg_new w8 .u8 _ 5 8 eight rfl rfl) (by omega) (Below.size (Below.alloc hb8.out hb8.out.size _)) ?_; intro v9 w9 hown9 hb9; obtain ⟨g9, c9, rfl, hB9, hn9⟩ := hown9.form (by omega); replace hown9 : Hid _ := hown9; replace hb9 : Hid _ := hb9)
                    | (at_builtin; refine wpList_append_grow _ rfl _ _ rfl w7.heap.size 0 _ [] rfl (own_nil _ _) a len cap xs rfl HN.out (HS.out.below HS8.out.below) (by omega) (Nat.le_refl _) ?_; intro v8 w8 hown8 hb8; rw [Nat.zero_add, List.nil_append] at hown8; replace hown8 : Hid _ := hown8; replace hb8 : Hid _ := hb8))
                  have HB9 : Hid (Below w7.heap.size w7 w9) := (Below.alloc hb8.out hb8.out.size _).trans hb9.out
                  have HS9 : Hid (St w w9 gr gw len xs (.slice (some ⟨ga2, 0, none⟩) (len + 4 + 40) ca2) (.slice (some ⟨gb2, 0, none⟩) (len + 4 + 40) cb2) (len + 4 + 40) (len + 4 + 40) ((List.replicate (len + 4) 91) ++ List.replicate 40 93) ((List.replicate (len + 4) 92) ++ List.replicate 40 94)) := St.keep HS8.out HB9.out
                  have HSC9 : Hid (Seg .u8 w9 (some ⟨gc, 0, none⟩) (len + 4) (sealed xs)) := HSC.out.below HB9.out
                  have HSB9 : Hid (Seg .u8 w9 (some ⟨g9, 0, none⟩) (len + 8) (xs ++ eight)) := by
                    obtain ⟨a', c', he, hseg, _⟩ := Own.seg hown9.out
                    cases he; exact hseg
                  refine (sameTrue (some ⟨gc, 0, none⟩) (some ⟨gw, 0, none⟩) (len + 4) cc (len + 4) cw _ (sealed xs) HSC9.out HS9.out.want HXS.out).mono ?_
                  rintro e w' ⟨rfl, rfl⟩
                  go_wp2_with fail
                  refine (sameTrue (some ⟨gr, 0, none⟩) (some ⟨g9, 0, none⟩) (len + 8) cr (len + 8) c9 _ (xs ++ eight) HS9.out.room HSB9.out HXE.out).mono ?_
                  rintro e w'' ⟨rfl, rfl⟩
                  go_wp2
                  go_ret
                  exact ⟨rfl, HS9.out.below⟩

theorem gTab : Tryd.prog.globalNamed "hawser/crc.halves" = some 0 := by kernel_rfl
theorem gTabType : (Tryd.prog.globals[0]?).map (·.type) = some 34 := by kernel_rfl
theorem cellsT : Tryd.prog.cellsOf 34 = 16 := by kernel_rfl
theorem cellsE : Tryd.prog.cellsOf 22 = 1 := by kernel_rfl
/-- What the row's list gives: the table's cells. -/
theorem table {W : World} (h : laidMetH Tryd.prog Rows.crcSealsRow.laid W) : Lib.TabIs Tryd.prog W "hawser/crc.halves" .u32 tabl :=
  Lib.tabIs_of_head (rest := []) gTab gTabType Tryd.underlying34 Tryd.underlying22 cellsE cellsT h
theorem tab_of {W : World} (h : laidMetH Tryd.prog Rows.crcSealsRow.laid W) : Tab W := fun i hi => (table h).cell gTab i (show i < tabl.length from hi)
theorem laid_met (os : Os) : laidMet Tryd.prog Rows.crcSealsRow.laid (({ World.holding Tryd.prog os ⟨#[], #[], []⟩ with heap := (World.holding Tryd.prog os ⟨#[], #[], []⟩).heap.modify 0 fun | .cells _ t frozen => .cells (tabl.map fun z => Value.int .u32 z).toArray t frozen | o => o } : World).forCall (fun _ _ => 0) ⟨#[], #[.slice none 0 0], []⟩).memory :=
  laidMet_of_run' 8 (by kernel_rfl) (by kernel_rfl)
theorem reads (os : Os) {H : Type} (enc : TypeId × Value → H) : ∃ places, DataW.whole enc Tryd.prog (({ World.holding Tryd.prog os ⟨#[], #[], []⟩ with heap := (World.holding Tryd.prog os ⟨#[], #[], []⟩).heap.modify 0 fun | .cells _ t frozen => .cells (tabl.map fun z => Value.int .u32 z).toArray t frozen | o => o } : World).forCall (fun _ _ => 0) ⟨#[], #[.slice none 0 0], []⟩).memory Tryd.f4.params.toList Rows.crcSealsSpec.vars false (#[.slice none 0 0] : Array Value).toList 8 = some ([.nil], [], places) :=
  ⟨[], by kernel_rfl⟩

set_option maxRecDepth 100000 in
theorem lifted (os : Os) (started : os.Started) (H : Type) (enc : TypeId × Value → H) (F : Stop.Interp) :
    ReturnsInHanded {} Tryd.checked os 4 .any ((OpenSpec.ofChange Rows.crcSealsSpec).preRow enc Tryd.prog Tryd.f4 Rows.crcSealsRow.domain false Rows.crcSealsRow.laid) (((OpenSpec.ofChange Rows.crcSealsSpec).at F).post enc Tryd.prog Tryd.f4 false true false false) := by
  obtain ⟨places, hx⟩ := reads os enc
  refine returnsInHanded_of_row (C := Tryd.checked) (s := OpenSpec.ofChange Rows.crcSealsSpec) own started (by kernel_rfl) Tryd.func4
    (witness_row_at (enc := enc) (C := Tryd.checked) false ({ World.holding Tryd.prog os ⟨#[], #[], []⟩ with heap := (World.holding Tryd.prog os ⟨#[], #[], []⟩).heap.modify 0 fun | .cells _ t frozen => .cells (tabl.map fun z => Value.int .u32 z).toArray t frozen | o => o } : World) #[.slice none 0 0] rfl (by kernel_rfl) (by kernel_rfl) (by kernel_rfl)
      (OpenSpec.preRow_of_cond 8 hx (by kernel_rfl) (fun k hk => by cases hk) (by kernel_rfl) (laid_met os))) ?_
  intro W base args ds gs before hval0 hW _ hcond0 hsz0 hL _ _
  have hsz : (DataW.weightsEach Tryd.prog (Tryd.f4.params.toList ++ Rows.crcSealsSpec.plain.varTypes Tryd.prog) (ds ++ gs)).all (· ≤ reachBytes) = true := hsz0
  have hval : ∀ (j : Nat) t v, Tryd.f4.params[j]? = some t → args[j]? = some v → Value.okWide Tryd.prog W .any base t v := hval0
  have hW' := hW
  obtain ⟨p, q, hA0, hV, rfl, hfz, hnd⟩ := hW
  have hA : DataW.TrodAll enc Tryd.prog W 0 (fun _ => true) true Tryd.f4.params.toList args.toList ds p := hA0
  rw [Tryd.params4] at hA hval hsz
  obtain ⟨v0, vs0, d0, ds0, p0, q0, hargs, rfl, rfl, h0, r0⟩ := trodAll_cons hA
  obtain ⟨rfl, rfl, rfl⟩ := trodAll_nil r0
  obtain rfl : args = #[v0] := by cases args; simp_all
  obtain ⟨rfl, rfl⟩ := trodVars_none hV
  have k0 := h0
  have lt0 : ∀ x ∈ p0, x.block < W.heap.size := by obtain ⟨m, hm⟩ := k0; exact DataW.trod_lt m _ _ _ hm
  obtain ⟨a0, len0, cap0, z0, rfl, x0⟩ : ∃ a len cap zs, v0 = .slice a len cap ∧ IsRow .u8 140737488351232 W a len cap zs := by
    obtain ⟨sa, sl, sc, rfl⟩ := okWide_slice Tryd.underlying26 (hval 0 26 v0 rfl rfl)
    obtain ⟨fuel, hf⟩ := h0
    rcases open_ints Tryd.underlying26 Tryd.underlying5 (by kernel_rfl) hf with ⟨hcs, _⟩ | ⟨x, l, c, zs, hcs, _, hl, hm, hz, hx, hcell, hwz⟩
    · simp [Value.cells] at hcs; obtain ⟨rfl, rfl, rfl⟩ := hcs
      exact ⟨none, 0, 0, [], rfl, .inl ⟨rfl, rfl, rfl, rfl⟩⟩
    · simp [Value.cells] at hcs; obtain ⟨rfl, rfl, rfl⟩ := hcs
      have hz' : zs.length = sc := by simpa using hz
      have hd : d0 = _ := congrArg Prod.fst hx
      have hb := sized_slice hsz (j := 0) (t := 26) (e := 5) rfl (congrArg some hd) Tryd.underlying26
      rw [show Tryd.prog.bytesOf 5 = 1 from by kernel_rfl] at hb
      simp only [lits, List.length_map, List.length_take, List.length_drop, reachBytes] at hb
      exact ⟨some x, sl, sc, zs, rfl, .inr ⟨_, rfl, hl, by omega, hz', hcell, hwz⟩⟩
  clear hA0 hval0
  simp only [List.append_nil] at hW'
  refine (walk a0 len0 cap0 z0 W x0 (tab_of hL)).mono fun e W' ⟨he, bel⟩ => ?_
  subst he
  exact ⟨_, rfl, _, _, _, [], _, [], hW', trodAll_mk1 (shut_bool Tryd.underlying4 _), (trodAll_cons_mk (Below.trod laidOut (by kernel_rfl) (of_decide_eq_true (by kernel_rfl)) k0 bel lt0) trodAll_mk0), rfl, bel.frame _, fun h => by cases h⟩

theorem over : Rows.crcSealsRow.holds Tryd.pinned (OpenSpec.ofChange Rows.crcSealsSpec) :=
  OpenClaim.holds_of_cond 4 Tryd.f4 rfl rfl rfl rfl rfl rfl rfl ⟨rfl, rfl, rfl, rfl, rfl⟩ rfl rfl rfl rfl rfl (by kernel_rfl) Tryd.func4 (by kernel_rfl)
    (of_decide_eq_true (by kernel_rfl)) (by unfold Func.isWrapper; first | (rw [if_pos (by decide +kernel)]; kernel_rfl) | (rw [if_neg (by decide +kernel)]; exact ⟨rfl, rfl⟩))
    (fun os started H enc _ F => by rw [OpenClaim.pre_eq_preRow]; exact lifted os started H enc F)

/-- No parameter wants a stand-in; the program's own looks are off. -/
theorem plain (f : FuncId) (fn : Func) (hf : Tryd.pinned.checked.prog.funcNamed "hawser/hawserlaw02.CrcSeals" = some f) (hfn : Tryd.pinned.checked.prog.funcs[f]? = some fn) :
    false = Tryd.pinned.checked.prog.looks [] ∧ ∀ (j : Nat) t, fn.params[j]? = some t → Tryd.pinned.checked.prog.wantsStandIn t = false := by
  obtain rfl : f = 4 := Option.some.inj ((show Tryd.prog.funcNamed "hawser/hawserlaw02.CrcSeals" = some 4 by kernel_rfl).symm.trans hf) |>.symm
  obtain rfl : fn = Tryd.f4 := (Option.some.inj (Tryd.func4.symm.trans hfn)).symm
  refine ⟨by kernel_rfl, fun j t ht => ?_⟩
  rw [Tryd.params4] at ht
  have hm : t ∈ [26] := by simpa using Array.mem_of_getElem? ht
  have hall : (([26] : List TypeId).all fun u => !Tryd.prog.wantsStandIn u) = true := by kernel_rfl
  exact (show Tryd.prog.wantsStandIn t = false by simpa using List.all_eq_true.1 hall t hm)
theorem card : Rows.CrcSealsCardSaid :=
  Claim7.holds_tied_plain_at .later [] _ _ _ _ over (fun _ h => by cases h) (by kernel_rfl) (fun _ h => by cases h) crcSeals_row_tie rfl ⟨rfl, rfl⟩ (by kernel_rfl) rfl plain (by kernel_rfl)

end Go.Proofs.YtlfijnegmnploabDoor.crcSeals
namespace Go.Proofs.YtlfijnegmnploabDoor
theorem crcSeals_holds : Rows.CrcSealsCardSaid := crcSeals.card
#print axioms crcSeals_holds
end Go.Proofs.YtlfijnegmnploabDoor
