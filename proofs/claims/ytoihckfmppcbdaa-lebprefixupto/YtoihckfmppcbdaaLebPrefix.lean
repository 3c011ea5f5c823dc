/-
  Proved: for every two numbers of 64 bits and every two lists of them hawserlaw01.LebPrefix answers true: no number's bytes begin another one's, and lists of numbers with the same bytes are the same. Condition: what is handed in is of bulk at most 1048576 (the second form of the statement).
-/
import Derived.Test.YtoihckfmppcbdaaRows
import Derived.Test.YtoihckfmppcbdaaEncC
import Derived.Test.YtoihckfmppcbdaaSme
import Derived.WalkKit
import Derived.ProofKit
import Derived.OpenShut
import Derived.ShutString
import Derived.ChangeOld
import Derived.Below
import Derived.Lib.SmallJoins
import Derived.JoinedCond
import Derived.BigQuiet
import Derived.Deep.QuietTactic
import Derived.Deep.RegionHeld3
namespace Go.Proofs.Ytoihckfmppcbdaa.lebPrefix
open Go.ChangeShapes Go.WideShapes Go.ChangeAt Go.RowKit
open Go.ChangeMaps (open_string shut_string)
set_option linter.unusedVariables false

theorem own : ownKnob Try.prog.godebug = none := by kernel_rfl
theorem laidOut : laidOutB Try.prog = true := by kernel_rfl

/-- What the walk is told of a slice of integers that came in. -/
def IsRow (k : IntKind) (R : Nat) (w : World) (a : Option Addr) (len cap : Nat) (zs : List Int) : Prop :=
  (a = none ∧ len = 0 ∧ cap = 0 ∧ zs = []) ∨
  ∃ x, a = some x ∧ len ≤ cap ∧ cap ≤ R ∧ zs.length = cap ∧ (∀ i, i < zs.length → w.cell? (x.add i) = some (.int k (zs.getD i 0))) ∧ ∀ n ∈ zs, (Lit.int k n).wf = true

theorem one64 (a : Int) (h : 0 ≤ a ∧ a < 18446744073709551616) : Bits64 [a] := fun i hi => by
  simp at hi; subst hi; simpa using h
theorem encs_one (a : Int) : encs [a] = enc a.toNat := by simp [encs]
theorem bulk_len {H : Type} (l : List (DataW H)) : l.length ≤ Rows.uptoBulkAll l := by
  induction l with
  | nil => simp
  | cons d r ih =>
    have : 1 ≤ Rows.uptoBulk d := by
      cases d with
      | lit x => cases x <;> simp [Rows.uptoBulk]
      | _ => simp [Rows.uptoBulk]
    simp only [Rows.uptoBulkAll, List.length_cons]; omega
theorem bulk_mem {H : Type} {d : DataW H} {l : List (DataW H)} (h : d ∈ l) : Rows.uptoBulk d ≤ Rows.uptoBulkAll l := by
  induction l with
  | nil => cases h
  | cons x r ih =>
    simp only [Rows.uptoBulkAll]
    rcases List.mem_cons.1 h with rfl | h
    · omega
    · have := ih h; omega
/-- A slice in a field of an argument is no longer than the bulk. -/
theorem bulk_field {H : Type} {ds fs : List (DataW H)} {d f : DataW H} {l r : List (DataW H)} (hk : Rows.uptoSmall H ds = true) (hd : d ∈ ds) (e : d = .agg fs) (hf : f ∈ fs) (e2 : f = .slice l r) : l.length + r.length ≤ 1048576 := by
  have h0 : Rows.uptoBulkAll ds ≤ 1048576 := of_decide_eq_true hk
  have h1 := bulk_mem hd
  have h2 := bulk_mem hf
  have h3 := bulk_len l
  have h4 := bulk_len r
  rw [e] at h1
  rw [e2] at h2
  simp only [Rows.uptoBulk] at h1 h2
  omega

theorem mem64 {l : List Int} (h : Bits64 l) : ∀ v ∈ l, 0 ≤ v ∧ v < 18446744073709551616 := by
  intro v hv
  obtain ⟨i, hi, rfl⟩ := List.getElem_of_mem hv
  simpa [hi] using h i hi

set_option maxHeartbeats 4000000 in
theorem walk (V V' : Int) (e2 : Option Addr) (len2 cap2 : Nat) (z2 : List Int) (e3 : Option Addr) (len3 cap3 : Nat) (z3 : List Int) (w : World)
    (wV : (Lit.int .u64 V).wf = true) (wV' : (Lit.int .u64 V').wf = true) (x2 : IsRow .u64 1048576 w e2 len2 cap2 z2) (x3 : IsRow .u64 1048576 w e3 len3 cap3 z3) :
    Calls Try.prog 5 #[.agg #[.int .u64 V, .int .u64 V', .slice e2 len2 cap2, .slice e3 len3 cap3]] w fun e w' => e = .returned (.bool true) ∧ Below w.heap.size w w' := by
  have hV := wf_u64 wV
  have hV' := wf_u64 wV'
  obtain ⟨hs2, hlc2, hR2, hwf2⟩ := seg_of_row x2
  obtain ⟨hs3, hlc3, hR3, hwf3⟩ := seg_of_row x3
  obtain ⟨ls, hls⟩ : ∃ ls, ls = z2.take len2 := ⟨_, rfl⟩
  obtain ⟨ms, hms⟩ : ∃ ms, ms = z3.take len3 := ⟨_, rfl⟩
  rw [← hls] at hs2 hwf2
  rw [← hms] at hs3 hwf3
  have HL : Hid (Seg .u64 w e2 len2 ls) := hs2
  have HM : Hid (Seg .u64 w e3 len3 ms) := hs3
  have HL64 : Hid (Bits64 ls) := fun i hi => wf_u64 (hwf2 i hi)
  have HM64 : Hid (Bits64 ms) := fun i hi => wf_u64 (hwf3 i hi)
  have HA64 : Hid (Bits64 [V]) := one64 V hV
  have HB64 : Hid (Bits64 [V']) := one64 V' hV'
  have HAB : Hid (Bytes (encs [V])) := bytes_of_mem (encs_bytes _)
  have HBB : Hid (Bytes (encs [V'])) := bytes_of_mem (encs_bytes _)
  have hl2 : len2 ≤ 1048576 := by omega
  have hl3 : len3 ≤ 1048576 := by omega
  clear x2 x3 wV wV' hs2 hs3 hwf2 hwf3 hls hms
  go_enter Try.func5, Try.ntmps5
  go_wp2
  go_quiet (fail)
  obtain ⟨W0, HB0, hW⟩ : ∃ W0, Hid (Below w.heap.size w W0) ∧ (w.alloc (.cells #[.int .u64 V, .int .u64 V', .slice e2 len2 cap2, .slice e3 len3 cap3] 41)).drewN nq = W0 := ⟨_, below_drewN ((Below.refl _ _).alloc (Nat.le_refl _) _) _, rfl⟩
  rw [hW]
  clear hW
  go_wp2_with fail
  refine (encode_c _ 1 1 [V] _ (seg_new _ _ _ _ _ _ rfl rfl) HA64.out (by omega)).mono ?_
  rintro e w1 ⟨g1, n1, rfl, hn1, hg1, hr1, hb1⟩
  have hz0 := HB0.out.size
  have HB1 : Hid (Below w.heap.size w w1) := (HB0.out.alloc hz0 _).trans (hb1.mono (by simp; omega))
  have HR1 : Hid (Row .u8 5 w1 g1 (encs [V])) := hr1
  have HN1 : Hid (n1 = (encs [V]).length) := hn1
  have hp1 : 1 ≤ n1 := by rw [hn1, encs_one]; exact enc_pos _
  clear hn1 hg1 hr1 hb1
  go_wp2_with fail
  refine (encode_c _ 1 1 [V'] _ (seg_new _ _ _ _ _ _ rfl rfl) HB64.out (by omega)).mono ?_
  rintro e w2 ⟨g2, n2, rfl, hn2, hg2, hr2, hb2⟩
  have hz1 := HB1.out.size
  have HB2 : Hid (Below w.heap.size w w2) := (HB1.out.alloc hz1 _).trans (hb2.mono (by simp; omega))
  have HR1' : Hid (Row .u8 5 w2 g1 (encs [V])) := HR1.out.below (((Below.refl w1.heap.size w1).alloc (Nat.le_refl _) _).trans (hb2.mono (by simp))) HR1.out.lt
  have HR2 : Hid (Row .u8 5 w2 g2 (encs [V'])) := hr2
  have HN2 : Hid (n2 = (encs [V']).length) := hn2
  have hp2 : 1 ≤ n2 := by rw [hn2, encs_one]; exact enc_pos _
  have c1 : ((n1 : Int) == 0) = false := by simp; omega
  have c2 : ((n2 : Int) == 0) = false := by simp; omega
  have hmx : n1 ≤ 10 ∧ n2 ≤ 10 := by
    rw [HN1.out, HN2.out, encs_one, encs_one, enc_length _ (by omega), enc_length _ (by omega)]
    exact ⟨(sz_bd _).2, (sz_bd _).2⟩
  clear hn2 hg2 hr2 hb2 HR1 HB0 HB1 hz0 hz1
  by_cases hvw : V = V'
  · have hb : (V != V') = false := by simp [hvw]
    have HQ : Hid (V = V') := hvw
    clear hvw
    by_cases hll : len2 = len3
    · have hbl : ((len2 : Int) == (len3 : Int)) = true := by simp; omega
      have HLL0 : Hid (len2 = len3) := hll
      clear hll
      go_wp2
      go_loopw [9, 10] (fun s i wr => ∃ k n : Nat, k ≤ len2 ∧ i = .int .i64 k ∧ wr = w2.drewN n ∧ ((s = .bool true ∧ len2 = len3 ∧ ls.take k = ms.take k) ∨ (s = .bool false ∧ ls ≠ ms))) (fun _ i _ => len2 - (intOf i).toNat)
      case atStart => exact ⟨0, 0, Nat.zero_le _, rfl, rfl, .inl ⟨rfl, HLL0.out, rfl⟩⟩
      case round =>
        obtain ⟨k, n, hk, rfl, rfl, ⟨rfl, hll, htk⟩ | ⟨rfl, hne⟩⟩ := hrel
        · have HLL : Hid (len2 = len3) := hll
          have HT : Hid (ls.take k = ms.take k) := htk
          clear htk hll
          by_cases hlt : k < len2
          · have hlt3 : k < len3 := by have := HLL.out; omega
            rcases HL.out.2 with h0 | ⟨b, off, hb2, hbw, hc⟩
            · omega
            rcases HM.out.2 with h0 | ⟨b', off', hb3, hbw', hc'⟩
            · have := HLL.out; omega
            subst hb2 hb3
            have hcell : w2.cell? ⟨b, off + k, none⟩ = some (.int .u64 (ls[k]?.getD 0)) := (HB2.out.cell (p := ⟨b, off + k, none⟩) hbw).trans (hc k hlt)
            have hcell' : w2.cell? ⟨b', off' + k, none⟩ = some (.int .u64 (ms[k]?.getD 0)) := (HB2.out.cell (p := ⟨b', off' + k, none⟩) hbw').trans (hc' k hlt3)
            clear hc hc'
            by_cases hq : ls[k]?.getD 0 = ms[k]?.getD 0
            · have HT2 : Hid (ls.take (k + 1) = ms.take (k + 1)) := by
                show _ = _
                rw [take_snoc ls k (by rw [HL.out.1]; exact hlt), take_snoc ms k (by rw [HM.out.1]; exact hlt3), HT.out, hq]
              have hqb : (ls[k]?.getD 0 == ms[k]?.getD 0) = true := by simp [hq]
              clear hq
              go_wp2
              go_quiet (fail)
              go_wp2
              go_roundw
              case rel => exact ⟨k + 1, _, by omega, by go_num, rfl, .inl ⟨rfl, HLL.out, HT2.out⟩⟩
              case measure => simp [intOf]; omega
            · have HNE : Hid (ls ≠ ms) := fun h => hq (by rw [h])
              have hqb : (ls[k]?.getD 0 == ms[k]?.getD 0) = false := by simp [hq]
              clear hq
              go_wp2
              go_quiet (fail)
              go_wp2
              go_roundw
              case rel => exact ⟨k + 1, _, by omega, by go_num, rfl, .inr ⟨rfl, HNE.out⟩⟩
              case measure => simp [intOf]; omega
          · have HEQ : Hid (ls = ms) := by
              have h := HT.out
              rw [List.take_of_length_le (by rw [HL.out.1]; omega), List.take_of_length_le (by rw [HM.out.1, ← HLL.out]; omega)] at h
              exact h
            go_wp2_with fail
            refine (encode_c e2 len2 cap2 ls _ (HL.out.below (below_drewN HB2.out _)) HL64.out (by omega)).mono ?_
            rintro e w4 ⟨g4, n4, rfl, hn4, hg4, hr4, hb4⟩
            have hz2 := HB2.out.size
            have HB4 : Hid (Below w.heap.size w w4) := (below_drewN HB2.out _).trans (hb4.mono (by simpa using hz2))
            have HR4 : Hid (Row .u8 5 w4 g4 (encs ls)) := hr4
            have HN4 : Hid (n4 = (encs ls).length) := hn4
            clear hn4 hg4 hr4 hb4
            go_wp2_with fail
            refine (encode_c e3 len3 cap3 ms _ (HM.out.below HB4.out) HM64.out (by omega)).mono ?_
            rintro e w5 ⟨g5, n5, rfl, hn5, hg5, hr5, hb5⟩
            have hz4 := HB4.out.size
            have HB5 : Hid (Below w.heap.size w w5) := HB4.out.trans (hb5.mono hz4)
            have HR4' : Hid (Row .u8 5 w5 g4 (encs ls)) := HR4.out.below hb5 HR4.out.lt
            have HR5 : Hid (Row .u8 5 w5 g5 (encs ms)) := hr5
            have HN5 : Hid (n5 = (encs ms).length) := hn5
            clear hn5 hg5 hr5 hb5
            go_wp2_with fail
            refine (same_c _ _ _ _ _ _ (encs ls) (encs ms) _ (HR4'.out.segAll _ HN4.out) (HR5.out.segAll _ HN5.out) (bytes_of_mem (encs_bytes _)) (bytes_of_mem (encs_bytes _))).mono ?_
            rintro e w6 ⟨rfl, rfl⟩
            rw [show decide (encs ls = encs ms) = true from by rw [HEQ.out]; simp]
            go_wp2
            go_ret
            exact ⟨rfl, HB5.out⟩
        · have HNE : Hid (ls ≠ ms) := hne
          clear hne
          go_wp2_with fail
          refine (encode_c e2 len2 cap2 ls _ (HL.out.below (below_drewN HB2.out _)) HL64.out (by omega)).mono ?_
          rintro e w4 ⟨g4, n4, rfl, hn4, hg4, hr4, hb4⟩
          have hz2 := HB2.out.size
          have HB4 : Hid (Below w.heap.size w w4) := (below_drewN HB2.out _).trans (hb4.mono (by simpa using hz2))
          have HR4 : Hid (Row .u8 5 w4 g4 (encs ls)) := hr4
          have HN4 : Hid (n4 = (encs ls).length) := hn4
          clear hn4 hg4 hr4 hb4
          go_wp2_with fail
          refine (encode_c e3 len3 cap3 ms _ (HM.out.below HB4.out) HM64.out (by omega)).mono ?_
          rintro e w5 ⟨g5, n5, rfl, hn5, hg5, hr5, hb5⟩
          have hz4 := HB4.out.size
          have HB5 : Hid (Below w.heap.size w w5) := HB4.out.trans (hb5.mono hz4)
          have HR4' : Hid (Row .u8 5 w5 g4 (encs ls)) := HR4.out.below hb5 HR4.out.lt
          have HR5 : Hid (Row .u8 5 w5 g5 (encs ms)) := hr5
          have HN5 : Hid (n5 = (encs ms).length) := hn5
          clear hn5 hg5 hr5 hb5
          go_wp2_with fail
          refine (same_c _ _ _ _ _ _ (encs ls) (encs ms) _ (HR4'.out.segAll _ HN4.out) (HR5.out.segAll _ HN5.out) (bytes_of_mem (encs_bytes _)) (bytes_of_mem (encs_bytes _))).mono ?_
          rintro e w6 ⟨rfl, rfl⟩
          rw [show decide (encs ls = encs ms) = false from by rw [decide_eq_false_iff_not]; exact fun h => HNE.out (encs_inj ls ms (mem64 HL64.out) (mem64 HM64.out) h)]
          go_wp2
          go_ret
          exact ⟨rfl, HB5.out⟩
    · have hbl : ((len2 : Int) == (len3 : Int)) = false := by simp; omega
      have HLL0 : Hid (¬ len2 = len3) := hll
      clear hll
      go_wp2
      go_loopw [9, 10] (fun s i wr => ∃ k n : Nat, k ≤ len2 ∧ i = .int .i64 k ∧ wr = w2.drewN n ∧ ((s = .bool true ∧ len2 = len3 ∧ ls.take k = ms.take k) ∨ (s = .bool false ∧ ls ≠ ms))) (fun _ i _ => len2 - (intOf i).toNat)
      case atStart => exact ⟨0, 0, Nat.zero_le _, rfl, rfl, .inr ⟨rfl, fun h => HLL0.out (by rw [← HL.out.1, ← HM.out.1, h])⟩⟩
      case round =>
        obtain ⟨k, n, hk, rfl, rfl, ⟨rfl, hll, htk⟩ | ⟨rfl, hne⟩⟩ := hrel
        · have HLL : Hid (len2 = len3) := hll
          have HT : Hid (ls.take k = ms.take k) := htk
          clear htk hll
          by_cases hlt : k < len2
          · have hlt3 : k < len3 := by have := HLL.out; omega
            rcases HL.out.2 with h0 | ⟨b, off, hb2, hbw, hc⟩
            · omega
            rcases HM.out.2 with h0 | ⟨b', off', hb3, hbw', hc'⟩
            · have := HLL.out; omega
            subst hb2 hb3
            have hcell : w2.cell? ⟨b, off + k, none⟩ = some (.int .u64 (ls[k]?.getD 0)) := (HB2.out.cell (p := ⟨b, off + k, none⟩) hbw).trans (hc k hlt)
            have hcell' : w2.cell? ⟨b', off' + k, none⟩ = some (.int .u64 (ms[k]?.getD 0)) := (HB2.out.cell (p := ⟨b', off' + k, none⟩) hbw').trans (hc' k hlt3)
            clear hc hc'
            by_cases hq : ls[k]?.getD 0 = ms[k]?.getD 0
            · have HT2 : Hid (ls.take (k + 1) = ms.take (k + 1)) := by
                show _ = _
                rw [take_snoc ls k (by rw [HL.out.1]; exact hlt), take_snoc ms k (by rw [HM.out.1]; exact hlt3), HT.out, hq]
              have hqb : (ls[k]?.getD 0 == ms[k]?.getD 0) = true := by simp [hq]
              clear hq
              go_wp2
              go_quiet (fail)
              go_wp2
              go_roundw
              case rel => exact ⟨k + 1, _, by omega, by go_num, rfl, .inl ⟨rfl, HLL.out, HT2.out⟩⟩
              case measure => simp [intOf]; omega
            · have HNE : Hid (ls ≠ ms) := fun h => hq (by rw [h])
              have hqb : (ls[k]?.getD 0 == ms[k]?.getD 0) = false := by simp [hq]
              clear hq
              go_wp2
              go_quiet (fail)
              go_wp2
              go_roundw
              case rel => exact ⟨k + 1, _, by omega, by go_num, rfl, .inr ⟨rfl, HNE.out⟩⟩
              case measure => simp [intOf]; omega
          · have HEQ : Hid (ls = ms) := by
              have h := HT.out
              rw [List.take_of_length_le (by rw [HL.out.1]; omega), List.take_of_length_le (by rw [HM.out.1, ← HLL.out]; omega)] at h
              exact h
            go_wp2_with fail
            refine (encode_c e2 len2 cap2 ls _ (HL.out.below (below_drewN HB2.out _)) HL64.out (by omega)).mono ?_
            rintro e w4 ⟨g4, n4, rfl, hn4, hg4, hr4, hb4⟩
            have hz2 := HB2.out.size
            have HB4 : Hid (Below w.heap.size w w4) := (below_drewN HB2.out _).trans (hb4.mono (by simpa using hz2))
            have HR4 : Hid (Row .u8 5 w4 g4 (encs ls)) := hr4
            have HN4 : Hid (n4 = (encs ls).length) := hn4
            clear hn4 hg4 hr4 hb4
            go_wp2_with fail
            refine (encode_c e3 len3 cap3 ms _ (HM.out.below HB4.out) HM64.out (by omega)).mono ?_
            rintro e w5 ⟨g5, n5, rfl, hn5, hg5, hr5, hb5⟩
            have hz4 := HB4.out.size
            have HB5 : Hid (Below w.heap.size w w5) := HB4.out.trans (hb5.mono hz4)
            have HR4' : Hid (Row .u8 5 w5 g4 (encs ls)) := HR4.out.below hb5 HR4.out.lt
            have HR5 : Hid (Row .u8 5 w5 g5 (encs ms)) := hr5
            have HN5 : Hid (n5 = (encs ms).length) := hn5
            clear hn5 hg5 hr5 hb5
            go_wp2_with fail
            refine (same_c _ _ _ _ _ _ (encs ls) (encs ms) _ (HR4'.out.segAll _ HN4.out) (HR5.out.segAll _ HN5.out) (bytes_of_mem (encs_bytes _)) (bytes_of_mem (encs_bytes _))).mono ?_
            rintro e w6 ⟨rfl, rfl⟩
            rw [show decide (encs ls = encs ms) = true from by rw [HEQ.out]; simp]
            go_wp2
            go_ret
            exact ⟨rfl, HB5.out⟩
        · have HNE : Hid (ls ≠ ms) := hne
          clear hne
          go_wp2_with fail
          refine (encode_c e2 len2 cap2 ls _ (HL.out.below (below_drewN HB2.out _)) HL64.out (by omega)).mono ?_
          rintro e w4 ⟨g4, n4, rfl, hn4, hg4, hr4, hb4⟩
          have hz2 := HB2.out.size
          have HB4 : Hid (Below w.heap.size w w4) := (below_drewN HB2.out _).trans (hb4.mono (by simpa using hz2))
          have HR4 : Hid (Row .u8 5 w4 g4 (encs ls)) := hr4
          have HN4 : Hid (n4 = (encs ls).length) := hn4
          clear hn4 hg4 hr4 hb4
          go_wp2_with fail
          refine (encode_c e3 len3 cap3 ms _ (HM.out.below HB4.out) HM64.out (by omega)).mono ?_
          rintro e w5 ⟨g5, n5, rfl, hn5, hg5, hr5, hb5⟩
          have hz4 := HB4.out.size
          have HB5 : Hid (Below w.heap.size w w5) := HB4.out.trans (hb5.mono hz4)
          have HR4' : Hid (Row .u8 5 w5 g4 (encs ls)) := HR4.out.below hb5 HR4.out.lt
          have HR5 : Hid (Row .u8 5 w5 g5 (encs ms)) := hr5
          have HN5 : Hid (n5 = (encs ms).length) := hn5
          clear hn5 hg5 hr5 hb5
          go_wp2_with fail
          refine (same_c _ _ _ _ _ _ (encs ls) (encs ms) _ (HR4'.out.segAll _ HN4.out) (HR5.out.segAll _ HN5.out) (bytes_of_mem (encs_bytes _)) (bytes_of_mem (encs_bytes _))).mono ?_
          rintro e w6 ⟨rfl, rfl⟩
          rw [show decide (encs ls = encs ms) = false from by rw [decide_eq_false_iff_not]; exact fun h => HNE.out (encs_inj ls ms (mem64 HL64.out) (mem64 HM64.out) h)]
          go_wp2
          go_ret
          exact ⟨rfl, HB5.out⟩
  · have hb : (V != V') = true := by simp [hvw]
    by_cases hle : n1 ≤ n2
    · have HD : Hid (decide (encs [V] = (encs [V']).take n1) = false) := by
        show _ = false
        rw [decide_eq_false_iff_not]
        intro h
        apply hvw
        rw [encs_one, encs_one] at h
        have := enc_prefix V.toNat V'.toNat (by omega) (by omega) ((enc V'.toNat).drop n1) (by rw [h, List.take_append_drop])
        omega
      have HBT : Hid (Bytes ((encs [V']).take n1)) := bytes_of_mem (fun c hc => encs_bytes _ c (List.mem_of_mem_take hc))
      clear hvw
      go_wp2_with fail
      refine (same_c _ _ _ _ _ _ (encs [V]) ((encs [V']).take n1) _ (HR1'.out.segAll _ HN1.out) (HR2.out.seg n1 (by rw [← HN2.out]; exact hle)) HAB.out HBT.out).mono ?_
      rintro e w3 ⟨rfl, hw3⟩
      rw [HD.out, hw3]
      clear hw3 w3
      by_cases hll : len2 = len3
      · have hbl : ((len2 : Int) == (len3 : Int)) = true := by simp; omega
        have HLL0 : Hid (len2 = len3) := hll
        clear hll
        go_wp2
        go_loopw [9, 10] (fun s i wr => ∃ k n : Nat, k ≤ len2 ∧ i = .int .i64 k ∧ wr = w2.drewN n ∧ ((s = .bool true ∧ len2 = len3 ∧ ls.take k = ms.take k) ∨ (s = .bool false ∧ ls ≠ ms))) (fun _ i _ => len2 - (intOf i).toNat)
        case atStart => exact ⟨0, 0, Nat.zero_le _, rfl, rfl, .inl ⟨rfl, HLL0.out, rfl⟩⟩
        case round =>
          obtain ⟨k, n, hk, rfl, rfl, ⟨rfl, hll, htk⟩ | ⟨rfl, hne⟩⟩ := hrel
          · have HLL : Hid (len2 = len3) := hll
            have HT : Hid (ls.take k = ms.take k) := htk
            clear htk hll
            by_cases hlt : k < len2
            · have hlt3 : k < len3 := by have := HLL.out; omega
              rcases HL.out.2 with h0 | ⟨b, off, hb2, hbw, hc⟩
              · omega
              rcases HM.out.2 with h0 | ⟨b', off', hb3, hbw', hc'⟩
              · have := HLL.out; omega
              subst hb2 hb3
              have hcell : w2.cell? ⟨b, off + k, none⟩ = some (.int .u64 (ls[k]?.getD 0)) := (HB2.out.cell (p := ⟨b, off + k, none⟩) hbw).trans (hc k hlt)
              have hcell' : w2.cell? ⟨b', off' + k, none⟩ = some (.int .u64 (ms[k]?.getD 0)) := (HB2.out.cell (p := ⟨b', off' + k, none⟩) hbw').trans (hc' k hlt3)
              clear hc hc'
              by_cases hq : ls[k]?.getD 0 = ms[k]?.getD 0
              · have HT2 : Hid (ls.take (k + 1) = ms.take (k + 1)) := by
                  show _ = _
                  rw [take_snoc ls k (by rw [HL.out.1]; exact hlt), take_snoc ms k (by rw [HM.out.1]; exact hlt3), HT.out, hq]
                have hqb : (ls[k]?.getD 0 == ms[k]?.getD 0) = true := by simp [hq]
                clear hq
                go_wp2
                go_quiet (fail)
                go_wp2
                go_roundw
                case rel => exact ⟨k + 1, _, by omega, by go_num, rfl, .inl ⟨rfl, HLL.out, HT2.out⟩⟩
                case measure => simp [intOf]; omega
              · have HNE : Hid (ls ≠ ms) := fun h => hq (by rw [h])
                have hqb : (ls[k]?.getD 0 == ms[k]?.getD 0) = false := by simp [hq]
                clear hq
                go_wp2
                go_quiet (fail)
                go_wp2
                go_roundw
                case rel => exact ⟨k + 1, _, by omega, by go_num, rfl, .inr ⟨rfl, HNE.out⟩⟩
                case measure => simp [intOf]; omega
            · have HEQ : Hid (ls = ms) := by
                have h := HT.out
                rw [List.take_of_length_le (by rw [HL.out.1]; omega), List.take_of_length_le (by rw [HM.out.1, ← HLL.out]; omega)] at h
                exact h
              go_wp2_with fail
              refine (encode_c e2 len2 cap2 ls _ (HL.out.below (below_drewN HB2.out _)) HL64.out (by omega)).mono ?_
              rintro e w4 ⟨g4, n4, rfl, hn4, hg4, hr4, hb4⟩
              have hz2 := HB2.out.size
              have HB4 : Hid (Below w.heap.size w w4) := (below_drewN HB2.out _).trans (hb4.mono (by simpa using hz2))
              have HR4 : Hid (Row .u8 5 w4 g4 (encs ls)) := hr4
              have HN4 : Hid (n4 = (encs ls).length) := hn4
              clear hn4 hg4 hr4 hb4
              go_wp2_with fail
              refine (encode_c e3 len3 cap3 ms _ (HM.out.below HB4.out) HM64.out (by omega)).mono ?_
              rintro e w5 ⟨g5, n5, rfl, hn5, hg5, hr5, hb5⟩
              have hz4 := HB4.out.size
              have HB5 : Hid (Below w.heap.size w w5) := HB4.out.trans (hb5.mono hz4)
              have HR4' : Hid (Row .u8 5 w5 g4 (encs ls)) := HR4.out.below hb5 HR4.out.lt
              have HR5 : Hid (Row .u8 5 w5 g5 (encs ms)) := hr5
              have HN5 : Hid (n5 = (encs ms).length) := hn5
              clear hn5 hg5 hr5 hb5
              go_wp2_with fail
              refine (same_c _ _ _ _ _ _ (encs ls) (encs ms) _ (HR4'.out.segAll _ HN4.out) (HR5.out.segAll _ HN5.out) (bytes_of_mem (encs_bytes _)) (bytes_of_mem (encs_bytes _))).mono ?_
              rintro e w6 ⟨rfl, rfl⟩
              rw [show decide (encs ls = encs ms) = true from by rw [HEQ.out]; simp]
              go_wp2
              go_ret
              exact ⟨rfl, HB5.out⟩
          · have HNE : Hid (ls ≠ ms) := hne
            clear hne
            go_wp2_with fail
            refine (encode_c e2 len2 cap2 ls _ (HL.out.below (below_drewN HB2.out _)) HL64.out (by omega)).mono ?_
            rintro e w4 ⟨g4, n4, rfl, hn4, hg4, hr4, hb4⟩
            have hz2 := HB2.out.size
            have HB4 : Hid (Below w.heap.size w w4) := (below_drewN HB2.out _).trans (hb4.mono (by simpa using hz2))
            have HR4 : Hid (Row .u8 5 w4 g4 (encs ls)) := hr4
            have HN4 : Hid (n4 = (encs ls).length) := hn4
            clear hn4 hg4 hr4 hb4
            go_wp2_with fail
            refine (encode_c e3 len3 cap3 ms _ (HM.out.below HB4.out) HM64.out (by omega)).mono ?_
            rintro e w5 ⟨g5, n5, rfl, hn5, hg5, hr5, hb5⟩
            have hz4 := HB4.out.size
            have HB5 : Hid (Below w.heap.size w w5) := HB4.out.trans (hb5.mono hz4)
            have HR4' : Hid (Row .u8 5 w5 g4 (encs ls)) := HR4.out.below hb5 HR4.out.lt
            have HR5 : Hid (Row .u8 5 w5 g5 (encs ms)) := hr5
            have HN5 : Hid (n5 = (encs ms).length) := hn5
            clear hn5 hg5 hr5 hb5
            go_wp2_with fail
            refine (same_c _ _ _ _ _ _ (encs ls) (encs ms) _ (HR4'.out.segAll _ HN4.out) (HR5.out.segAll _ HN5.out) (bytes_of_mem (encs_bytes _)) (bytes_of_mem (encs_bytes _))).mono ?_
            rintro e w6 ⟨rfl, rfl⟩
            rw [show decide (encs ls = encs ms) = false from by rw [decide_eq_false_iff_not]; exact fun h => HNE.out (encs_inj ls ms (mem64 HL64.out) (mem64 HM64.out) h)]
            go_wp2
            go_ret
            exact ⟨rfl, HB5.out⟩
      · have hbl : ((len2 : Int) == (len3 : Int)) = false := by simp; omega
        have HLL0 : Hid (¬ len2 = len3) := hll
        clear hll
        go_wp2
        go_loopw [9, 10] (fun s i wr => ∃ k n : Nat, k ≤ len2 ∧ i = .int .i64 k ∧ wr = w2.drewN n ∧ ((s = .bool true ∧ len2 = len3 ∧ ls.take k = ms.take k) ∨ (s = .bool false ∧ ls ≠ ms))) (fun _ i _ => len2 - (intOf i).toNat)
        case atStart => exact ⟨0, 0, Nat.zero_le _, rfl, rfl, .inr ⟨rfl, fun h => HLL0.out (by rw [← HL.out.1, ← HM.out.1, h])⟩⟩
        case round =>
          obtain ⟨k, n, hk, rfl, rfl, ⟨rfl, hll, htk⟩ | ⟨rfl, hne⟩⟩ := hrel
          · have HLL : Hid (len2 = len3) := hll
            have HT : Hid (ls.take k = ms.take k) := htk
            clear htk hll
            by_cases hlt : k < len2
            · have hlt3 : k < len3 := by have := HLL.out; omega
              rcases HL.out.2 with h0 | ⟨b, off, hb2, hbw, hc⟩
              · omega
              rcases HM.out.2 with h0 | ⟨b', off', hb3, hbw', hc'⟩
              · have := HLL.out; omega
              subst hb2 hb3
              have hcell : w2.cell? ⟨b, off + k, none⟩ = some (.int .u64 (ls[k]?.getD 0)) := (HB2.out.cell (p := ⟨b, off + k, none⟩) hbw).trans (hc k hlt)
              have hcell' : w2.cell? ⟨b', off' + k, none⟩ = some (.int .u64 (ms[k]?.getD 0)) := (HB2.out.cell (p := ⟨b', off' + k, none⟩) hbw').trans (hc' k hlt3)
              clear hc hc'
              by_cases hq : ls[k]?.getD 0 = ms[k]?.getD 0
              · have HT2 : Hid (ls.take (k + 1) = ms.take (k + 1)) := by
                  show _ = _
                  rw [take_snoc ls k (by rw [HL.out.1]; exact hlt), take_snoc ms k (by rw [HM.out.1]; exact hlt3), HT.out, hq]
                have hqb : (ls[k]?.getD 0 == ms[k]?.getD 0) = true := by simp [hq]
                clear hq
                go_wp2
                go_quiet (fail)
                go_wp2
                go_roundw
                case rel => exact ⟨k + 1, _, by omega, by go_num, rfl, .inl ⟨rfl, HLL.out, HT2.out⟩⟩
                case measure => simp [intOf]; omega
              · have HNE : Hid (ls ≠ ms) := fun h => hq (by rw [h])
                have hqb : (ls[k]?.getD 0 == ms[k]?.getD 0) = false := by simp [hq]
                clear hq
                go_wp2
                go_quiet (fail)
                go_wp2
                go_roundw
                case rel => exact ⟨k + 1, _, by omega, by go_num, rfl, .inr ⟨rfl, HNE.out⟩⟩
                case measure => simp [intOf]; omega
            · have HEQ : Hid (ls = ms) := by
                have h := HT.out
                rw [List.take_of_length_le (by rw [HL.out.1]; omega), List.take_of_length_le (by rw [HM.out.1, ← HLL.out]; omega)] at h
                exact h
              go_wp2_with fail
              refine (encode_c e2 len2 cap2 ls _ (HL.out.below (below_drewN HB2.out _)) HL64.out (by omega)).mono ?_
              rintro e w4 ⟨g4, n4, rfl, hn4, hg4, hr4, hb4⟩
              have hz2 := HB2.out.size
              have HB4 : Hid (Below w.heap.size w w4) := (below_drewN HB2.out _).trans (hb4.mono (by simpa using hz2))
              have HR4 : Hid (Row .u8 5 w4 g4 (encs ls)) := hr4
              have HN4 : Hid (n4 = (encs ls).length) := hn4
              clear hn4 hg4 hr4 hb4
              go_wp2_with fail
              refine (encode_c e3 len3 cap3 ms _ (HM.out.below HB4.out) HM64.out (by omega)).mono ?_
              rintro e w5 ⟨g5, n5, rfl, hn5, hg5, hr5, hb5⟩
              have hz4 := HB4.out.size
              have HB5 : Hid (Below w.heap.size w w5) := HB4.out.trans (hb5.mono hz4)
              have HR4' : Hid (Row .u8 5 w5 g4 (encs ls)) := HR4.out.below hb5 HR4.out.lt
              have HR5 : Hid (Row .u8 5 w5 g5 (encs ms)) := hr5
              have HN5 : Hid (n5 = (encs ms).length) := hn5
              clear hn5 hg5 hr5 hb5
              go_wp2_with fail
              refine (same_c _ _ _ _ _ _ (encs ls) (encs ms) _ (HR4'.out.segAll _ HN4.out) (HR5.out.segAll _ HN5.out) (bytes_of_mem (encs_bytes _)) (bytes_of_mem (encs_bytes _))).mono ?_
              rintro e w6 ⟨rfl, rfl⟩
              rw [show decide (encs ls = encs ms) = true from by rw [HEQ.out]; simp]
              go_wp2
              go_ret
              exact ⟨rfl, HB5.out⟩
          · have HNE : Hid (ls ≠ ms) := hne
            clear hne
            go_wp2_with fail
            refine (encode_c e2 len2 cap2 ls _ (HL.out.below (below_drewN HB2.out _)) HL64.out (by omega)).mono ?_
            rintro e w4 ⟨g4, n4, rfl, hn4, hg4, hr4, hb4⟩
            have hz2 := HB2.out.size
            have HB4 : Hid (Below w.heap.size w w4) := (below_drewN HB2.out _).trans (hb4.mono (by simpa using hz2))
            have HR4 : Hid (Row .u8 5 w4 g4 (encs ls)) := hr4
            have HN4 : Hid (n4 = (encs ls).length) := hn4
            clear hn4 hg4 hr4 hb4
            go_wp2_with fail
            refine (encode_c e3 len3 cap3 ms _ (HM.out.below HB4.out) HM64.out (by omega)).mono ?_
            rintro e w5 ⟨g5, n5, rfl, hn5, hg5, hr5, hb5⟩
            have hz4 := HB4.out.size
            have HB5 : Hid (Below w.heap.size w w5) := HB4.out.trans (hb5.mono hz4)
            have HR4' : Hid (Row .u8 5 w5 g4 (encs ls)) := HR4.out.below hb5 HR4.out.lt
            have HR5 : Hid (Row .u8 5 w5 g5 (encs ms)) := hr5
            have HN5 : Hid (n5 = (encs ms).length) := hn5
            clear hn5 hg5 hr5 hb5
            go_wp2_with fail
            refine (same_c _ _ _ _ _ _ (encs ls) (encs ms) _ (HR4'.out.segAll _ HN4.out) (HR5.out.segAll _ HN5.out) (bytes_of_mem (encs_bytes _)) (bytes_of_mem (encs_bytes _))).mono ?_
            rintro e w6 ⟨rfl, rfl⟩
            rw [show decide (encs ls = encs ms) = false from by rw [decide_eq_false_iff_not]; exact fun h => HNE.out (encs_inj ls ms (mem64 HL64.out) (mem64 HM64.out) h)]
            go_wp2
            go_ret
            exact ⟨rfl, HB5.out⟩
    · clear hvw
      have hd : decide (n1 ≤ n2) = false := by simp; omega
      by_cases hll : len2 = len3
      · have hbl : ((len2 : Int) == (len3 : Int)) = true := by simp; omega
        have HLL0 : Hid (len2 = len3) := hll
        clear hll
        go_wp2
        go_loopw [9, 10] (fun s i wr => ∃ k n : Nat, k ≤ len2 ∧ i = .int .i64 k ∧ wr = w2.drewN n ∧ ((s = .bool true ∧ len2 = len3 ∧ ls.take k = ms.take k) ∨ (s = .bool false ∧ ls ≠ ms))) (fun _ i _ => len2 - (intOf i).toNat)
        case atStart => exact ⟨0, 0, Nat.zero_le _, rfl, rfl, .inl ⟨rfl, HLL0.out, rfl⟩⟩
        case round =>
          obtain ⟨k, n, hk, rfl, rfl, ⟨rfl, hll, htk⟩ | ⟨rfl, hne⟩⟩ := hrel
          · have HLL : Hid (len2 = len3) := hll
            have HT : Hid (ls.take k = ms.take k) := htk
            clear htk hll
            by_cases hlt : k < len2
            · have hlt3 : k < len3 := by have := HLL.out; omega
              rcases HL.out.2 with h0 | ⟨b, off, hb2, hbw, hc⟩
              · omega
              rcases HM.out.2 with h0 | ⟨b', off', hb3, hbw', hc'⟩
              · have := HLL.out; omega
              subst hb2 hb3
              have hcell : w2.cell? ⟨b, off + k, none⟩ = some (.int .u64 (ls[k]?.getD 0)) := (HB2.out.cell (p := ⟨b, off + k, none⟩) hbw).trans (hc k hlt)
              have hcell' : w2.cell? ⟨b', off' + k, none⟩ = some (.int .u64 (ms[k]?.getD 0)) := (HB2.out.cell (p := ⟨b', off' + k, none⟩) hbw').trans (hc' k hlt3)
              clear hc hc'
              by_cases hq : ls[k]?.getD 0 = ms[k]?.getD 0
              · have HT2 : Hid (ls.take (k + 1) = ms.take (k + 1)) := by
                  show _ = _
                  rw [take_snoc ls k (by rw [HL.out.1]; exact hlt), take_snoc ms k (by rw [HM.out.1]; exact hlt3), HT.out, hq]
                have hqb : (ls[k]?.getD 0 == ms[k]?.getD 0) = true := by simp [hq]
                clear hq
                go_wp2
                go_quiet (fail)
                go_wp2
                go_roundw
                case rel => exact ⟨k + 1, _, by omega, by go_num, rfl, .inl ⟨rfl, HLL.out, HT2.out⟩⟩
                case measure => simp [intOf]; omega
              · have HNE : Hid (ls ≠ ms) := fun h => hq (by rw [h])
                have hqb : (ls[k]?.getD 0 == ms[k]?.getD 0) = false := by simp [hq]
                clear hq
                go_wp2
                go_quiet (fail)
                go_wp2
                go_roundw
                case rel => exact ⟨k + 1, _, by omega, by go_num, rfl, .inr ⟨rfl, HNE.out⟩⟩
                case measure => simp [intOf]; omega
            · have HEQ : Hid (ls = ms) := by
                have h := HT.out
                rw [List.take_of_length_le (by rw [HL.out.1]; omega), List.take_of_length_le (by rw [HM.out.1, ← HLL.out]; omega)] at h
                exact h
              go_wp2_with fail
              refine (encode_c e2 len2 cap2 ls _ (HL.out.below (below_drewN HB2.out _)) HL64.out (by omega)).mono ?_
              rintro e w4 ⟨g4, n4, rfl, hn4, hg4, hr4, hb4⟩
              have hz2 := HB2.out.size
              have HB4 : Hid (Below w.heap.size w w4) := (below_drewN HB2.out _).trans (hb4.mono (by simpa using hz2))
              have HR4 : Hid (Row .u8 5 w4 g4 (encs ls)) := hr4
              have HN4 : Hid (n4 = (encs ls).length) := hn4
              clear hn4 hg4 hr4 hb4
              go_wp2_with fail
              refine (encode_c e3 len3 cap3 ms _ (HM.out.below HB4.out) HM64.out (by omega)).mono ?_
              rintro e w5 ⟨g5, n5, rfl, hn5, hg5, hr5, hb5⟩
              have hz4 := HB4.out.size
              have HB5 : Hid (Below w.heap.size w w5) := HB4.out.trans (hb5.mono hz4)
              have HR4' : Hid (Row .u8 5 w5 g4 (encs ls)) := HR4.out.below hb5 HR4.out.lt
              have HR5 : Hid (Row .u8 5 w5 g5 (encs ms)) := hr5
              have HN5 : Hid (n5 = (encs ms).length) := hn5
              clear hn5 hg5 hr5 hb5
              go_wp2_with fail
              refine (same_c _ _ _ _ _ _ (encs ls) (encs ms) _ (HR4'.out.segAll _ HN4.out) (HR5.out.segAll _ HN5.out) (bytes_of_mem (encs_bytes _)) (bytes_of_mem (encs_bytes _))).mono ?_
              rintro e w6 ⟨rfl, rfl⟩
              rw [show decide (encs ls = encs ms) = true from by rw [HEQ.out]; simp]
              go_wp2
              go_ret
              exact ⟨rfl, HB5.out⟩
          · have HNE : Hid (ls ≠ ms) := hne
            clear hne
            go_wp2_with fail
            refine (encode_c e2 len2 cap2 ls _ (HL.out.below (below_drewN HB2.out _)) HL64.out (by omega)).mono ?_
            rintro e w4 ⟨g4, n4, rfl, hn4, hg4, hr4, hb4⟩
            have hz2 := HB2.out.size
            have HB4 : Hid (Below w.heap.size w w4) := (below_drewN HB2.out _).trans (hb4.mono (by simpa using hz2))
            have HR4 : Hid (Row .u8 5 w4 g4 (encs ls)) := hr4
            have HN4 : Hid (n4 = (encs ls).length) := hn4
            clear hn4 hg4 hr4 hb4
            go_wp2_with fail
            refine (encode_c e3 len3 cap3 ms _ (HM.out.below HB4.out) HM64.out (by omega)).mono ?_
            rintro e w5 ⟨g5, n5, rfl, hn5, hg5, hr5, hb5⟩
            have hz4 := HB4.out.size
            have HB5 : Hid (Below w.heap.size w w5) := HB4.out.trans (hb5.mono hz4)
            have HR4' : Hid (Row .u8 5 w5 g4 (encs ls)) := HR4.out.below hb5 HR4.out.lt
            have HR5 : Hid (Row .u8 5 w5 g5 (encs ms)) := hr5
            have HN5 : Hid (n5 = (encs ms).length) := hn5
            clear hn5 hg5 hr5 hb5
            go_wp2_with fail
            refine (same_c _ _ _ _ _ _ (encs ls) (encs ms) _ (HR4'.out.segAll _ HN4.out) (HR5.out.segAll _ HN5.out) (bytes_of_mem (encs_bytes _)) (bytes_of_mem (encs_bytes _))).mono ?_
            rintro e w6 ⟨rfl, rfl⟩
            rw [show decide (encs ls = encs ms) = false from by rw [decide_eq_false_iff_not]; exact fun h => HNE.out (encs_inj ls ms (mem64 HL64.out) (mem64 HM64.out) h)]
            go_wp2
            go_ret
            exact ⟨rfl, HB5.out⟩
      · have hbl : ((len2 : Int) == (len3 : Int)) = false := by simp; omega
        have HLL0 : Hid (¬ len2 = len3) := hll
        clear hll
        go_wp2
        go_loopw [9, 10] (fun s i wr => ∃ k n : Nat, k ≤ len2 ∧ i = .int .i64 k ∧ wr = w2.drewN n ∧ ((s = .bool true ∧ len2 = len3 ∧ ls.take k = ms.take k) ∨ (s = .bool false ∧ ls ≠ ms))) (fun _ i _ => len2 - (intOf i).toNat)
        case atStart => exact ⟨0, 0, Nat.zero_le _, rfl, rfl, .inr ⟨rfl, fun h => HLL0.out (by rw [← HL.out.1, ← HM.out.1, h])⟩⟩
        case round =>
          obtain ⟨k, n, hk, rfl, rfl, ⟨rfl, hll, htk⟩ | ⟨rfl, hne⟩⟩ := hrel
          · have HLL : Hid (len2 = len3) := hll
            have HT : Hid (ls.take k = ms.take k) := htk
            clear htk hll
            by_cases hlt : k < len2
            · have hlt3 : k < len3 := by have := HLL.out; omega
              rcases HL.out.2 with h0 | ⟨b, off, hb2, hbw, hc⟩
              · omega
              rcases HM.out.2 with h0 | ⟨b', off', hb3, hbw', hc'⟩
              · have := HLL.out; omega
              subst hb2 hb3
              have hcell : w2.cell? ⟨b, off + k, none⟩ = some (.int .u64 (ls[k]?.getD 0)) := (HB2.out.cell (p := ⟨b, off + k, none⟩) hbw).trans (hc k hlt)
              have hcell' : w2.cell? ⟨b', off' + k, none⟩ = some (.int .u64 (ms[k]?.getD 0)) := (HB2.out.cell (p := ⟨b', off' + k, none⟩) hbw').trans (hc' k hlt3)
              clear hc hc'
              by_cases hq : ls[k]?.getD 0 = ms[k]?.getD 0
              · have HT2 : Hid (ls.take (k + 1) = ms.take (k + 1)) := by
                  show _ = _
                  rw [take_snoc ls k (by rw [HL.out.1]; exact hlt), take_snoc ms k (by rw [HM.out.1]; exact hlt3), HT.out, hq]
                have hqb : (ls[k]?.getD 0 == ms[k]?.getD 0) = true := by simp [hq]
                clear hq
                go_wp2
                go_quiet (fail)
                go_wp2
                go_roundw
                case rel => exact ⟨k + 1, _, by omega, by go_num, rfl, .inl ⟨rfl, HLL.out, HT2.out⟩⟩
                case measure => simp [intOf]; omega
              · have HNE : Hid (ls ≠ ms) := fun h => hq (by rw [h])
                have hqb : (ls[k]?.getD 0 == ms[k]?.getD 0) = false := by simp [hq]
                clear hq
                go_wp2
                go_quiet (fail)
                go_wp2
                go_roundw
                case rel => exact ⟨k + 1, _, by omega, by go_num, rfl, .inr ⟨rfl, HNE.out⟩⟩
                case measure => simp [intOf]; omega
            · have HEQ : Hid (ls = ms) := by
                have h := HT.out
                rw [List.take_of_length_le (by rw [HL.out.1]; omega), List.take_of_length_le (by rw [HM.out.1, ← HLL.out]; omega)] at h
                exact h
              go_wp2_with fail
              refine (encode_c e2 len2 cap2 ls _ (HL.out.below (below_drewN HB2.out _)) HL64.out (by omega)).mono ?_
              rintro e w4 ⟨g4, n4, rfl, hn4, hg4, hr4, hb4⟩
              have hz2 := HB2.out.size
              have HB4 : Hid (Below w.heap.size w w4) := (below_drewN HB2.out _).trans (hb4.mono (by simpa using hz2))
              have HR4 : Hid (Row .u8 5 w4 g4 (encs ls)) := hr4
              have HN4 : Hid (n4 = (encs ls).length) := hn4
              clear hn4 hg4 hr4 hb4
              go_wp2_with fail
              refine (encode_c e3 len3 cap3 ms _ (HM.out.below HB4.out) HM64.out (by omega)).mono ?_
              rintro e w5 ⟨g5, n5, rfl, hn5, hg5, hr5, hb5⟩
              have hz4 := HB4.out.size
              have HB5 : Hid (Below w.heap.size w w5) := HB4.out.trans (hb5.mono hz4)
              have HR4' : Hid (Row .u8 5 w5 g4 (encs ls)) := HR4.out.below hb5 HR4.out.lt
              have HR5 : Hid (Row .u8 5 w5 g5 (encs ms)) := hr5
              have HN5 : Hid (n5 = (encs ms).length) := hn5
              clear hn5 hg5 hr5 hb5
              go_wp2_with fail
              refine (same_c _ _ _ _ _ _ (encs ls) (encs ms) _ (HR4'.out.segAll _ HN4.out) (HR5.out.segAll _ HN5.out) (bytes_of_mem (encs_bytes _)) (bytes_of_mem (encs_bytes _))).mono ?_
              rintro e w6 ⟨rfl, rfl⟩
              rw [show decide (encs ls = encs ms) = true from by rw [HEQ.out]; simp]
              go_wp2
              go_ret
              exact ⟨rfl, HB5.out⟩
          · have HNE : Hid (ls ≠ ms) := hne
            clear hne
            go_wp2_with fail
            refine (encode_c e2 len2 cap2 ls _ (HL.out.below (below_drewN HB2.out _)) HL64.out (by omega)).mono ?_
            rintro e w4 ⟨g4, n4, rfl, hn4, hg4, hr4, hb4⟩
            have hz2 := HB2.out.size
            have HB4 : Hid (Below w.heap.size w w4) := (below_drewN HB2.out _).trans (hb4.mono (by simpa using hz2))
            have HR4 : Hid (Row .u8 5 w4 g4 (encs ls)) := hr4
            have HN4 : Hid (n4 = (encs ls).length) := hn4
            clear hn4 hg4 hr4 hb4
            go_wp2_with fail
            refine (encode_c e3 len3 cap3 ms _ (HM.out.below HB4.out) HM64.out (by omega)).mono ?_
            rintro e w5 ⟨g5, n5, rfl, hn5, hg5, hr5, hb5⟩
            have hz4 := HB4.out.size
            have HB5 : Hid (Below w.heap.size w w5) := HB4.out.trans (hb5.mono hz4)
            have HR4' : Hid (Row .u8 5 w5 g4 (encs ls)) := HR4.out.below hb5 HR4.out.lt
            have HR5 : Hid (Row .u8 5 w5 g5 (encs ms)) := hr5
            have HN5 : Hid (n5 = (encs ms).length) := hn5
            clear hn5 hg5 hr5 hb5
            go_wp2_with fail
            refine (same_c _ _ _ _ _ _ (encs ls) (encs ms) _ (HR4'.out.segAll _ HN4.out) (HR5.out.segAll _ HN5.out) (bytes_of_mem (encs_bytes _)) (bytes_of_mem (encs_bytes _))).mono ?_
            rintro e w6 ⟨rfl, rfl⟩
            rw [show decide (encs ls = encs ms) = false from by rw [decide_eq_false_iff_not]; exact fun h => HNE.out (encs_inj ls ms (mem64 HL64.out) (mem64 HM64.out) h)]
            go_wp2
            go_ret
            exact ⟨rfl, HB5.out⟩

set_option maxRecDepth 100000 in
theorem lifted (os : Os) (started : os.Started) (H : Type) (enc : TypeId × Value → H) (F : Stop.Interp) :
    ReturnsInHanded {} Try.checked os 5 .any ((Rows.OpenSpec.upto Rows.lebPrefixSpec).pre6 enc Try.prog Try.f5 Rows.lebPrefixUptoRow.domain false) (((Rows.OpenSpec.upto Rows.lebPrefixSpec).at F).post enc Try.prog Try.f5 false true false false) := by
  refine returnsInHanded_of_cond (C := Try.checked) (s := Rows.OpenSpec.upto Rows.lebPrefixSpec) (k := Rows.uptoSmall) rfl own started (by kernel_rfl) Try.func5
    (OpenSpec.witness (enc := enc) (C := Try.checked) (s := Rows.OpenSpec.upto Rows.lebPrefixSpec) (k := Rows.uptoSmall) rfl false ⟨#[], #[.agg #[.int .u64 0, .int .u64 0, .slice none 0 0, .slice none 0 0]], []⟩ 8 (by kernel_rfl) (by kernel_rfl) (by kernel_rfl)
      (x := ([.agg [.lit (.int .u64 0), .lit (.int .u64 0), .nil, .nil]], [], [])) (by kernel_rfl) rfl (by kernel_rfl)) ?_
  intro W base args ds gs before hval0 hW hcnd hk _
  have hval : ∀ (j : Nat) t v, Try.f5.params[j]? = some t → args[j]? = some v → Value.okWide Try.prog W .any base t v := hval0
  have hW' := hW
  obtain ⟨p, q, hA0, hV, rfl, hfz, hnd⟩ := hW
  have hA : DataW.TrodAll enc Try.prog W 0 (fun _ => true) true Try.f5.params.toList args.toList ds p := hA0
  rw [Try.params5] at hA hval
  obtain ⟨v0, vs0, d0, ds0, p0, q0, hargs, rfl, rfl, h0, r0⟩ := trodAll_cons hA
  obtain ⟨rfl, rfl, rfl⟩ := trodAll_nil r0
  obtain rfl : args = #[v0] := by cases args; simp_all
  obtain ⟨rfl, rfl⟩ := trodVars_none hV
  have k0 := h0
  have lt0 : ∀ x ∈ p0, x.block < W.heap.size := by obtain ⟨m, hm⟩ := k0; exact DataW.trod_lt m _ _ _ hm
  obtain ⟨c0, c1, c2, c3, y0, y1, y2, y3, m, rfl, hd0, hp0, hy0, hy1, hy2, hy3⟩ := Go.Joins.open_agg4 Try.underlying41 (by kernel_rfl) (by kernel_rfl) (hval 0 41 v0 rfl rfl) h0
  obtain ⟨V, eV, _, wV⟩ := DataW.trod_int Try.underlying32 hy0
  obtain ⟨V', eV', _, wV'⟩ := DataW.trod_int Try.underlying32 hy1
  simp at eV eV'
  subst eV eV'
  obtain ⟨e2, len2, cap2, z2, rfl, x2⟩ : ∃ a len cap zs, c2 = .slice a len cap ∧ IsRow .u64 1048576 W a len cap zs := by
    rcases open_ints Try.underlying39 Try.underlying32 (by kernel_rfl) hy2 with ⟨hcs, _⟩ | ⟨x, l, c, zs, hcs, _, hl, hm, hz, hx, hcell, hwz⟩
    · simp at hcs; subst hcs
      exact ⟨none, 0, 0, [], rfl, .inl ⟨rfl, rfl, rfl, rfl⟩⟩
    · simp at hcs; subst hcs
      have hz' : zs.length = c := by simpa using hz
      have hb := bulk_field hk (show d0 ∈ _ by simp) hd0 (show y2.1 ∈ _ by simp) (congrArg Prod.fst hx)
      simp only [lits, List.length_map, List.length_take, List.length_drop] at hb
      exact ⟨some x, l, c, zs, rfl, .inr ⟨_, rfl, hl, by omega, hz', hcell, hwz⟩⟩
  obtain ⟨e3, len3, cap3, z3, rfl, x3⟩ : ∃ a len cap zs, c3 = .slice a len cap ∧ IsRow .u64 1048576 W a len cap zs := by
    rcases open_ints Try.underlying39 Try.underlying32 (by kernel_rfl) hy3 with ⟨hcs, _⟩ | ⟨x, l, c, zs, hcs, _, hl, hm, hz, hx, hcell, hwz⟩
    · simp at hcs; subst hcs
      exact ⟨none, 0, 0, [], rfl, .inl ⟨rfl, rfl, rfl, rfl⟩⟩
    · simp at hcs; subst hcs
      have hz' : zs.length = c := by simpa using hz
      have hb := bulk_field hk (show d0 ∈ _ by simp) hd0 (show y3.1 ∈ _ by simp) (congrArg Prod.fst hx)
      simp only [lits, List.length_map, List.length_take, List.length_drop] at hb
      exact ⟨some x, l, c, zs, rfl, .inr ⟨_, rfl, hl, by omega, hz', hcell, hwz⟩⟩
  clear hA0 hval0
  refine (walk V V' e2 len2 cap2 z2 e3 len3 cap3 z3 W wV wV' x2 x3).mono fun e W' ⟨he, bel⟩ => ?_
  subst he
  exact ⟨_, rfl, _, _, _, [], _, [], hW', trodAll_mk1 (shut_bool Try.underlying4 _), (trodAll_cons_mk (Below.trod laidOut (by kernel_rfl) (of_decide_eq_true (by kernel_rfl)) k0 bel lt0) trodAll_mk0), rfl, bel.frame _, fun h => by cases h⟩

theorem over : Rows.lebPrefixUptoRow.holds Try.pinned (Rows.OpenSpec.upto Rows.lebPrefixSpec) :=
  OpenClaim.holds_of_cond 5 Try.f5 rfl rfl rfl rfl rfl rfl rfl ⟨rfl, rfl, rfl, rfl, rfl⟩ rfl rfl rfl rfl rfl (by kernel_rfl) Try.func5 (by kernel_rfl)
    (of_decide_eq_true (by kernel_rfl)) (by unfold Func.isWrapper; first | (rw [if_pos (by decide +kernel)]; kernel_rfl) | (rw [if_neg (by decide +kernel)]; exact ⟨rfl, rfl⟩))
    (fun os started H enc _ F => lifted os started H enc F)

end Go.Proofs.Ytoihckfmppcbdaa.lebPrefix
namespace Go.Proofs.Ytoihckfmppcbdaa
theorem lebPrefix_holds : Rows.LebPrefixUptoSaid := lebPrefix.over
#print axioms lebPrefix_holds
end Go.Proofs.Ytoihckfmppcbdaa
