/-
  Proved, in its second form: for numbers that hold together at most 2^20 values, hawserlaw01.LebEncodes answers true: the bytes of any numbers are the document's, and how many they are; what is handed in stays, what comes out is one's own. Condition: the second form's own.
-/
import Derived.Test.YtplelldomephaaaRows
import Derived.Test.YtplelldomephaaaOwD
import Derived.Test.YtplelldomephaaaRefEnc
import Derived.Test.YtplelldomephaaaNumbers
import Derived.Test.YtplelldomephaaaStr
import Derived.Test.YtplelldomephaaaEncC
import Derived.WalkKit
import Derived.ProofKit
import Derived.OpenShut
import Derived.ShutString
import Derived.ChangeOld
import Derived.Below
import Derived.Lib.SmallJoins
import Derived.JoinedCond
import Derived.BigQuiet
import Derived.Deep.QuietTactic
namespace Go.Proofs.Ytplelldomephaaa.lebEncodes
open Go.ChangeShapes Go.WideShapes Go.ChangeAt Go.RowKit
set_option linter.unusedVariables false

theorem own : ownKnob Try.prog.godebug = none := by kernel_rfl
theorem laidOut : laidOutB Try.prog = true := by kernel_rfl

/-- What the walk is told of a slice of integers that came in. -/
def IsRow (k : IntKind) (R : Nat) (w : World) (a : Option Addr) (len cap : Nat) (zs : List Int) : Prop :=
  (a = none ∧ len = 0 ∧ cap = 0 ∧ zs = []) ∨
  ∃ x, a = some x ∧ len ≤ cap ∧ cap ≤ R ∧ zs.length = cap ∧ (∀ i, i < zs.length → w.cell? (x.add i) = some (.int k (zs.getD i 0))) ∧ ∀ n ∈ zs, (Lit.int k n).wf = true

theorem same_t (a b : Option Addr) (la ca lb cb : Nat) (xs : List Int) (w : World) (h1 : Seg .u8 w a la xs) (h2 : Seg .u8 w b lb xs) (hx : Bytes xs) :
    Calls Try.prog 12 #[.slice a la ca, .slice b lb cb] w fun e w' => e = .returned (.bool true) ∧ w' = w := by
  have := same_c a b la ca lb cb xs xs w h1 h2 hx hx
  rw [decide_eq_true rfl] at this
  exact this
theorem row_part {w : World} {g len : Nat} {X : List Int} (hr : Row .u64 30 w g (marked X (len + 3))) (hl : X.length = len) : Seg .u64 w (some ⟨g, 0, none⟩) len X := by
  have := hr.seg len (by rw [marked_length]; omega)
  rw [← hl, marked_take] at this
  rw [← hl]; exact this
theorem rowg {k : IntKind} {T : TypeId} {w w' : World} {g : Nat} {xs : List Int} (h : Row k T w g xs) (hg : w.grownBy w' none) : Row k T w' g xs := h.grew hg (by simp)
theorem encs_last : encs [5, 300] = [5, 172, 2] := by
  simp only [encs]
  rw [show (5 : Int).toNat = 5 from rfl, show (300 : Int).toNat = 300 from rfl, enc_small (by omega), enc_big (by omega), enc_small (by omega)]
  rfl
theorem tail_bel {w w8 w9 : World} {o : Obj} (h : Below w.heap.size w w8) (k : Below (w8.alloc o).heap.size (w8.alloc o) w9) : Below w.heap.size w w9 ∧ w.heap.size ≤ w9.heap.size := by
  have h1 := h.size
  have h2 := k.size
  have h3 := World.size_alloc w8 o
  exact ⟨(h.alloc h1 o).trans (k.mono (by omega)), by omega⟩
theorem bytes_last : Bytes [5, 172, 2] := bytes_of_mem (fun z hz => by simp at hz; omega)
theorem bits_last : Bits64 [5, 300] := fun i hi => by
  match i, hi with
  | 0, _ => simp
  | 1, _ => simp
theorem enc2_c (W : World) : Calls Try.prog 11 #[.slice (some ⟨W.heap.size, 0, none⟩) 2 2] (W.alloc (.cells #[.int .u64 5, .int .u64 300] 30)) fun e w' => ∃ g, e = .returned (.slice (some ⟨g, 0, none⟩) 3 3) ∧ Row .u8 5 w' g [5, 172, 2] ∧ Below (W.alloc (.cells #[.int .u64 5, .int .u64 300] 30)).heap.size (W.alloc (.cells #[.int .u64 5, .int .u64 300] 30)) w' := by
  refine (encode_c (some ⟨W.heap.size, 0, none⟩) 2 2 [5, 300] _ (seg_new W .u64 _ 30 2 [5, 300] rfl rfl) bits_last (by omega)).mono ?_
  rintro r w9 ⟨gz, nz, hr, hnz, hgz, rz, kz⟩
  rw [encs_last] at rz hnz
  have e3 : nz = 3 := hnz
  subst e3
  exact ⟨gz, hr, rz, kz⟩
set_option maxRecDepth 20000 in
set_option maxHeartbeats 8000000 in
theorem walk (a0 : Option Addr) (len0 cap0 : Nat) (z0 : List Int) (a1 : Option Addr) (len1 cap1 : Nat) (z1 : List Int) (w : World) (x0 : IsRow .u64 1048576 w a0 len0 cap0 z0) (x1 : IsRow .u64 1048576 w a1 len1 cap1 z1) :
    Calls Try.prog 3 #[.slice a0 len0 cap0, .slice a1 len1 cap1] w fun e w' => e = .returned (.bool true) ∧ Below w.heap.size w w' := by
  obtain ⟨s0, lc0, cr0, f0⟩ := seg_of_row x0
  obtain ⟨s1, lc1, cr1, f1⟩ := seg_of_row x1
  have HS0 : Hid (Seg .u64 w a0 len0 (z0.take len0) ∧ Bits64 (z0.take len0)) := ⟨s0, fun i hi => wf_u64 (f0 i hi)⟩
  have HS1 : Hid (Seg .u64 w a1 len1 (z1.take len1) ∧ Bits64 (z1.take len1)) := ⟨s1, fun i hi => wf_u64 (f1 i hi)⟩
  obtain ⟨X, hX⟩ : ∃ X, X = z0.take len0 := ⟨_, rfl⟩
  obtain ⟨Y, hY⟩ : ∃ Y, Y = z1.take len1 := ⟨_, rfl⟩
  rw [← hX] at HS0
  rw [← hY] at HS1
  have hl0 : len0 ≤ 1048576 := by omega
  have hl1 : len1 ≤ 1048576 := by omega
  have HXL : Hid (X.length = len0) := HS0.out.1.1
  have HYL : Hid (Y.length = len1) := HS1.out.1.1
  have HBE : Hid (Bytes (encs X) ∧ Bytes (encs Y) ∧ (encs X).length ≤ 10485760 ∧ (encs Y).length ≤ 10485760) := by
    have e1 := szs_le X
    have e2 := szs_le Y
    rw [← encs_length X HS0.out.2, HXL.out] at e1
    rw [← encs_length Y HS1.out.2, HYL.out] at e2
    exact ⟨bytes_of_mem (encs_bytes X), bytes_of_mem (encs_bytes Y), by omega, by omega⟩
  obtain ⟨N, hN⟩ : ∃ N, N = (encs X).length := ⟨_, rfl⟩
  have HN : Hid (N = (encs X).length ∧ N = szs X) := ⟨hN, by rw [hN]; exact encs_length X HS0.out.2⟩
  have HSZ : Hid (∀ a cap W, Seg .u64 W a len0 X → Calls Try.prog 13 #[.slice a len0 cap] W fun e w' => e = .returned (.int .i64 (N : Int)) ∧ w' = W) := fun a cap W h => by
    have := size_c a len0 cap X W h HS0.out.2 (by omega)
    rw [← HN.out.2] at this
    exact this
  have hNN : ((N : Int) != (N : Int)) = false := by simp
  clear x0 x1 s0 s1 lc0 lc1 cr0 cr1 f0 f1 hX hY hN
  go_enter Try.func3, Try.ntmps3
  go_wp2_with (first
    | ((fail_if_success (have z := H1)); go_at_call 9; go_must (refine (refencode_c a0 len0 cap0 X w HS0.out.1 HS0.out.2 (by omega)).mono ?_); rintro r w1 ⟨b1, n1, c1, rfl, _, _, h1, k1⟩; obtain rfl : n1 = N := (by rw [HN.out.1]; exact h1.1.symm); have H1 : Hid (Seg .u8 w1 b1 n1 (encs X) ∧ w.grownBy w1 none) := ⟨h1, grownBy_below k1 none⟩; clear h1 k1)
    | ((fail_if_success (have z := H2)); go_at_call 9; go_must (refine (refencode_c a1 len1 cap1 Y w1 (HS1.out.1.grew H1.out.2 (by simp)) HS1.out.2 (by omega)).mono ?_); rintro r w2 ⟨b2, n2, c2, rfl, _, _, h1, k1⟩; have hg := grownBy_below k1 none; have H2 : Hid (Seg .u8 w2 b1 n1 (encs X) ∧ Seg .u8 w2 b2 n2 (encs Y) ∧ w.grownBy w2 none) := ⟨H1.out.1.grew hg (by simp), h1, gb_trans H1.out.2 hg⟩; clear h1 k1 hg)
    | (go_at_call 10; go_must (refine (numbers_c a0 len0 cap0 X w2 (HS0.out.1.grew H2.out.2.2 (by simp)) (by omega)).mono ?_); rintro r w3 ⟨g, rfl, hg3, h3, k3⟩; have hg := grownBy_below k3 none; have H3 : Hid (Seg .u8 w3 b1 n1 (encs X) ∧ Seg .u8 w3 b2 n2 (encs Y) ∧ w.grownBy w3 none ∧ Row .u64 30 w3 g (marked X (len0 + 3))) := ⟨H2.out.1.grew hg (by simp), H2.out.2.1.grew hg (by simp), gb_trans H2.out.2.2 hg, h3⟩; clear h3 k3 hg hg3)
    | ((fail_if_success (have z := H4)); have z := H3; clear z; go_at_call 11; go_must (refine (encode_c (some ⟨g, 0, none⟩) len0 (len0 + 3) X w3 (row_part H3.out.2.2.2 HXL.out) HS0.out.2 (by omega)).mono ?_); rintro r w4 ⟨ga, na, rfl, hna, hga, ra, ka⟩; obtain rfl : na = n1 := hna.trans HN.out.1.symm; have hg := grownBy_below ka none; have H4 : Hid (Seg .u8 w4 b1 na (encs X) ∧ Seg .u8 w4 b2 n2 (encs Y) ∧ w.grownBy w4 none ∧ Row .u64 30 w4 g (marked X (len0 + 3)) ∧ Row .u8 5 w4 ga (encs X) ∧ w.heap.size ≤ ga) := ⟨H3.out.1.grew hg (by simp), H3.out.2.1.grew hg (by simp), gb_trans H3.out.2.2.1 hg, rowg H3.out.2.2.2 hg, ra, Nat.le_trans H3.out.2.2.1.size hga⟩; clear hga ra ka hg hna)
    | ((fail_if_success (have z := H5)); have z := H4; clear z; go_at_call 11; go_must (refine (encode_c (some ⟨g, 0, none⟩) len0 (len0 + 3) X w4 (row_part H4.out.2.2.2.1 HXL.out) HS0.out.2 (by omega)).mono ?_); rintro r w5 ⟨gb, nb, rfl, hnb, hgb, rb, kb⟩; obtain rfl : nb = na := hnb.trans HN.out.1.symm; have hg := grownBy_below kb none; have H5 : Hid (Seg .u8 w5 b1 nb (encs X) ∧ Seg .u8 w5 b2 n2 (encs Y) ∧ w.grownBy w5 none ∧ Row .u64 30 w5 g (marked X (len0 + 3)) ∧ (Row .u8 5 w5 ga (encs X) ∧ w.heap.size ≤ ga) ∧ Row .u8 5 w5 gb (encs X) ∧ ga < gb) := ⟨H4.out.1.grew hg (by simp), H4.out.2.1.grew hg (by simp), gb_trans H4.out.2.2.1 hg, rowg H4.out.2.2.2.1 hg, ⟨rowg H4.out.2.2.2.2.1 hg, H4.out.2.2.2.2.2⟩, rb, Nat.lt_of_lt_of_le H4.out.2.2.2.2.1.lt hgb⟩; clear hgb rb kb hg hnb)
    | ((fail_if_success (have z := H6)); have z := H5; clear z; go_at_call 11; go_must (refine (encode_c a1 len1 cap1 Y w5 (HS1.out.1.grew H5.out.2.2.1 (by simp)) HS1.out.2 (by omega)).mono ?_); rintro r w6 ⟨gc, nc, rfl, hnc, hgc, rc, kc⟩; have hg := grownBy_below kc none; have H6 : Hid (Seg .u8 w6 b1 nb (encs X) ∧ Seg .u8 w6 b2 n2 (encs Y) ∧ w.grownBy w6 none ∧ Row .u64 30 w6 g (marked X (len0 + 3)) ∧ (Row .u8 5 w6 ga (encs X) ∧ w.heap.size ≤ ga) ∧ (Row .u8 5 w6 gb (encs X) ∧ ga < gb) ∧ Row .u8 5 w6 gc (encs Y) ∧ gb < gc ∧ nc = (encs Y).length) := ⟨H5.out.1.grew hg (by simp), H5.out.2.1.grew hg (by simp), gb_trans H5.out.2.2.1 hg, rowg H5.out.2.2.2.1 hg, ⟨rowg H5.out.2.2.2.2.1.1 hg, H5.out.2.2.2.2.1.2⟩, ⟨rowg H5.out.2.2.2.2.2.1 hg, H5.out.2.2.2.2.2.2⟩, rc, Nat.lt_of_lt_of_le H5.out.2.2.2.2.2.1.lt hgc, hnc⟩; clear hgc rc kc hg hnc)
    | ((fail_if_success (have z := H7)); have z := H6; clear z; go_at_call 12; go_must (refine (same_t (some ⟨ga, 0, none⟩) b1 nb nb nb c1 (encs X) w6 (H6.out.2.2.2.2.1.1.segAll nb HN.out.1) H6.out.1 HBE.out.1).mono ?_); rintro r w7 ⟨rfl, h7⟩; obtain rfl := h7.symm; have H7 : Hid True := trivial)
    | (have z := H7; clear z; (fail_if_success (have z := H8)); go_at_call 12; go_must (refine (same_t (some ⟨gb, 0, none⟩) b1 nb nb nb c1 (encs X) w6 (H6.out.2.2.2.2.2.1.1.segAll nb HN.out.1) H6.out.1 HBE.out.1).mono ?_); rintro r w7 ⟨rfl, h7⟩; obtain rfl := h7.symm; have H8 : Hid True := trivial)
    | (have z := H8; clear z; (fail_if_success (have z := H9)); go_at_call 12; go_must (refine (same_t (some ⟨gc, 0, none⟩) b2 nc nc n2 c2 (encs Y) w6 (H6.out.2.2.2.2.2.2.1.segAll nc H6.out.2.2.2.2.2.2.2.2) H6.out.2.1 HBE.out.2.1).mono ?_); rintro r w7 ⟨rfl, h7⟩; obtain rfl := h7.symm; have H9 : Hid True := trivial)
    | (have z := H9; clear z; go_at_call 13; go_must (refine (HSZ.out (some ⟨g, 0, none⟩) (len0 + 3) w6 (row_part H6.out.2.2.2.1 HXL.out)).mono ?_); rintro r w7 ⟨rfl, h7⟩; obtain rfl := h7.symm))
  go_wp2
  go_loopw [53] (fun i wr => ∃ k n : Nat, k ≤ len0 + 3 ∧ i = .int .i64 k ∧ wr = w6.drewN n) (fun i _ => len0 + 3 - (intOf i).toNat)
  case atStart => exact ⟨0, 0, Nat.zero_le _, rfl, rfl⟩
  case round =>
    obtain ⟨k, n, hk, rfl, rfl⟩ := hrel
    by_cases hlt : k < len0
    · obtain ⟨b, off, rfl, hbw, hc⟩ := HS0.out.1.2.resolve_left (by omega)
      have hcell : w6.cell? ⟨b, off + k, none⟩ = some (.int .u64 (X[k]?.getD 0)) := H6.out.2.2.1.cell (hc k hlt) (by simp)
      have hcell2 : w6.cell? ⟨g, k, none⟩ = some (.int .u64 (X[k]?.getD 0)) := by
        have := H6.out.2.2.2.1.cell k (by rw [marked_length, HXL.out]; omega)
        rw [marked_lo X _ k (by rw [HXL.out]; exact hlt)] at this
        exact this
      have hd1 : decide (len0 ≤ k) = false := by simp; omega
      clear hc
      go_wp2
      go_quiet (fail)
      go_wp2
      go_roundw
      case rel => exact ⟨k + 1, _, by omega, by go_num, rfl⟩
      case measure => simp [intOf]; omega
    · by_cases hlt2 : k < len0 + 3
      · have hcell2 : w6.cell? ⟨g, k, none⟩ = some (.int .u64 ((1000 : Int) + k)) := by
          have := H6.out.2.2.2.1.cell k (by rw [marked_length, HXL.out]; omega)
          rw [← HXL.out, marked_hi X k (by rw [HXL.out]; omega) (by rw [HXL.out]; omega)] at this
          exact this
        have hd1 : decide (k < len0) = false := by simp; omega
        have hd2 : decide (len0 ≤ k) = true := by simp; omega
        have hw1 : IntKind.i64.wrap ((1000 : Int) + k) = 1000 + k := by rw [IntKind.wrap_i64]; omega
        have hw2 : IntKind.u64.wrap ((1000 : Int) + k) = 1000 + k := by simp [IntKind.wrap, IntKind.signed, IntKind.bits]; omega
        go_wp2
        go_quiet (fail)
        go_wp2
        go_roundw
        case rel => exact ⟨k + 1, _, by omega, by go_num, rfl⟩
        case measure => simp [intOf]; omega
      · have HG6 : Hid (w6.grownBy (w6.drewN n) none) := gb_drewN (World.grownBy.refl _ _) n
        have HRA : Hid (Own w.heap.size (w6.drewN n) (.slice (some ⟨ga, 0, none⟩) nb nb) nb (encs X) ∧ Own w.heap.size (w6.drewN n) (.slice (some ⟨gb, 0, none⟩) nb nb) nb (encs X) ∧ Own w.heap.size (w6.drewN n) (.slice (some ⟨gc, 0, none⟩) nc nc) nc (encs Y)) := by
          have e1 := H6.out.2.2.2.2.1.2
          have e2 := H6.out.2.2.2.2.2.1.2
          have e3 := H6.out.2.2.2.2.2.2.2.1
          have m1 := HBE.out.2.2.1
          have m2 := HBE.out.2.2.2
          exact ⟨own_of_row (rowg H6.out.2.2.2.2.1.1 HG6.out) e1 (by unfold maxLen; omega) nb HN.out.1, own_of_row (rowg H6.out.2.2.2.2.2.1.1 HG6.out) (by omega) (by unfold maxLen; omega) nb HN.out.1, own_of_row (rowg H6.out.2.2.2.2.2.2.1 HG6.out) (by omega) (by unfold maxLen; omega) nc H6.out.2.2.2.2.2.2.2.2⟩
        have HOW : Hid (Calls Try.prog 14 #[.slice (some ⟨(w6.drewN n).heap.size, 0, none⟩) 3 3] ((w6.drewN n).alloc (.cells #[.slice (some ⟨ga, 0, none⟩) nb nb, .slice (some ⟨gb, 0, none⟩) nb nb, .slice (some ⟨gc, 0, none⟩) nc nc] 23)) fun r w' => r = .returned (.bool true) ∧ Below w.heap.size (w6.drewN n) w') := by
          have e1 := H6.out.2.2.2.2.2.1.2
          have e2 := H6.out.2.2.2.2.2.2.2.1
          have m1 := HBE.out.2.2.1
          have m2 := HBE.out.2.2.2
          have k1 := HN.out.1
          have k2 := H6.out.2.2.2.2.2.2.2.2
          refine own3_c w.heap.size (w6.drewN n) _ _ _ nb nb nc (encs X) (encs X) (encs Y) HRA.out.1 HRA.out.2.1 HRA.out.2.2 (fun q h e => ?_) (fun q h e => ?_) (fun q h e => ?_) (by omega) (by omega) (by omega) (by have := H6.out.2.2.1.size; have := HG6.out.size; omega)
          all_goals (cases h; have e' := Option.some.inj e; simp only at e'; omega)
        have HG7 : Hid (w.grownBy (w6.drewN n) none) := gb_trans H6.out.2.2.1 HG6.out
        generalize World.drewN w6 n = W6 at HRA HOW HG7
        clear HG6
        go_wp2_with (first
          | (go_at_call 14; go_must (refine (Calls.mono HOW.out ?_)); rintro r w8 ⟨rfl, h8⟩; have H8' : Hid (Below w.heap.size w w8) := (Below.refl w.heap.size w).grown HG7.out (Nat.le_refl _) (fun _ e => by cases e) |>.trans h8; clear h8)
          | (have z := H8'; clear z; go_at_call 11; go_must (refine (enc2_c w8).mono ?_); rintro r w9 ⟨gz, rfl, rz, kz⟩; have H9' : Hid (Below w.heap.size w w9 ∧ Row .u8 5 w9 gz [5, 172, 2] ∧ w.heap.size ≤ w9.heap.size) := ⟨(tail_bel H8'.out kz).1, rz, (tail_bel H8'.out kz).2⟩; clear rz kz)
          | (have z := H9'; clear z; go_at_call 12; go_must (refine (same_t (some ⟨gz, 0, none⟩) (some ⟨w9.heap.size, 0, none⟩) 3 3 3 3 [5, 172, 2] _ ((rowg H9'.out.2.1 (World.grownBy_alloc _ _ _)).segAll 3 rfl) (seg_new w9 .u8 _ 5 3 [5, 172, 2] rfl rfl) bytes_last).mono ?_); rintro r w10 ⟨rfl, h10⟩; obtain rfl := h10.symm))
        go_ret
        exact ⟨rfl, H9'.out.1.alloc H9'.out.2.2 _⟩

theorem bulk_len {H : Type} (l : List (DataW H)) : l.length ≤ Rows.uptoBulkAll l := by
  induction l with
  | nil => simp
  | cons d r ih =>
    have : 1 ≤ Rows.uptoBulk d := by
      cases d with
      | lit x => cases x <;> simp [Rows.uptoBulk]
      | _ => simp [Rows.uptoBulk]
    simp only [Rows.uptoBulkAll, List.length_cons]; omega
theorem bulk_mem {H : Type} {d : DataW H} {l : List (DataW H)} (h : d ∈ l) : Rows.uptoBulk d ≤ Rows.uptoBulkAll l := by
  induction l with
  | nil => cases h
  | cons x r ih =>
    simp only [Rows.uptoBulkAll]
    rcases List.mem_cons.1 h with rfl | h
    · omega
    · have := ih h; omega
theorem bulk_slice {H : Type} {ds : List (DataW H)} {d : DataW H} {l r : List (DataW H)} (hk : Rows.uptoSmall H ds = true) (hd : d ∈ ds) (e : d = .slice l r) : l.length + r.length ≤ 1048576 := by
  have h0 : Rows.uptoBulkAll ds ≤ 1048576 := of_decide_eq_true hk
  have h1 := bulk_mem hd
  have h3 := bulk_len l
  have h4 := bulk_len r
  rw [e] at h1
  simp only [Rows.uptoBulk] at h1
  omega

set_option maxRecDepth 100000 in
theorem lifted (os : Os) (started : os.Started) (H : Type) (enc : TypeId × Value → H) (F : Stop.Interp) :
    ReturnsInHanded {} Try.checked os 3 .any ((Rows.OpenSpec.upto Rows.lebEncodesSpec).pre6 enc Try.prog Try.f3 Rows.lebEncodesUptoRow.domain false) (((Rows.OpenSpec.upto Rows.lebEncodesSpec).at F).post enc Try.prog Try.f3 false true false false) := by
  refine returnsInHanded_of_cond (C := Try.checked) (s := Rows.OpenSpec.upto Rows.lebEncodesSpec) (k := Rows.uptoSmall) rfl own started (by kernel_rfl) Try.func3
    (OpenSpec.witness (enc := enc) (C := Try.checked) (s := Rows.OpenSpec.upto Rows.lebEncodesSpec) (k := Rows.uptoSmall) rfl false ⟨#[], #[.slice none 0 0, .slice none 0 0], []⟩ 8 (by kernel_rfl) (by kernel_rfl) (by kernel_rfl)
      (x := ([.nil, .nil], [], [])) (by kernel_rfl) rfl (by kernel_rfl)) ?_
  intro W base args ds gs before hval0 hW hcnd hk _
  have hval : ∀ (j : Nat) t v, Try.f3.params[j]? = some t → args[j]? = some v → Value.okWide Try.prog W .any base t v := hval0
  have hW' := hW
  obtain ⟨p, q, hA0, hV, rfl, hfz, hnd⟩ := hW
  have hA : DataW.TrodAll enc Try.prog W 0 (fun _ => true) true Try.f3.params.toList args.toList ds p := hA0
  rw [Try.params3] at hA hval
  obtain ⟨v0, vs0, d0, ds0, p0, q0, hargs, rfl, rfl, h0, r0⟩ := trodAll_cons hA
  obtain ⟨v1, vs1, d1, ds1, p1, q1, rfl, rfl, rfl, h1, r1⟩ := trodAll_cons r0
  obtain ⟨rfl, rfl, rfl⟩ := trodAll_nil r1
  obtain rfl : args = #[v0, v1] := by cases args; simp_all
  obtain ⟨rfl, rfl⟩ := trodVars_none hV
  have k0 := h0
  have lt0 : ∀ x ∈ p0, x.block < W.heap.size := by obtain ⟨m, hm⟩ := k0; exact DataW.trod_lt m _ _ _ hm
  obtain ⟨a0, len0, cap0, z0, rfl, x0⟩ : ∃ a len cap zs, v0 = .slice a len cap ∧ IsRow .u64 1048576 W a len cap zs := by
    obtain ⟨sa, sl, sc, rfl⟩ := okWide_slice Try.underlying22 (hval 0 22 v0 rfl rfl)
    obtain ⟨fuel, hf⟩ := h0
    rcases open_ints Try.underlying22 Try.underlying30 (by kernel_rfl) hf with ⟨hcs, _⟩ | ⟨x, l, c, zs, hcs, _, hl, hm, hz, hx, hcell, hwz⟩
    · simp [Value.cells] at hcs; obtain ⟨rfl, rfl, rfl⟩ := hcs
      exact ⟨none, 0, 0, [], rfl, .inl ⟨rfl, rfl, rfl, rfl⟩⟩
    · simp [Value.cells] at hcs; obtain ⟨rfl, rfl, rfl⟩ := hcs
      have hz' : zs.length = sc := by simpa using hz
      have hd : d0 = _ := congrArg Prod.fst hx
      have hb := bulk_slice hk (show d0 ∈ _ by simp) hd
      simp only [lits, List.length_map, List.length_take, List.length_drop] at hb
      exact ⟨some x, sl, sc, zs, rfl, .inr ⟨_, rfl, hl, by omega, hz', hcell, hwz⟩⟩
  have k1 := h1
  have lt1 : ∀ x ∈ p1, x.block < W.heap.size := by obtain ⟨m, hm⟩ := k1; exact DataW.trod_lt m _ _ _ hm
  obtain ⟨a1, len1, cap1, z1, rfl, x1⟩ : ∃ a len cap zs, v1 = .slice a len cap ∧ IsRow .u64 1048576 W a len cap zs := by
    obtain ⟨sa, sl, sc, rfl⟩ := okWide_slice Try.underlying22 (hval 1 22 v1 rfl rfl)
    obtain ⟨fuel, hf⟩ := h1
    rcases open_ints Try.underlying22 Try.underlying30 (by kernel_rfl) hf with ⟨hcs, _⟩ | ⟨x, l, c, zs, hcs, _, hl, hm, hz, hx, hcell, hwz⟩
    · simp [Value.cells] at hcs; obtain ⟨rfl, rfl, rfl⟩ := hcs
      exact ⟨none, 0, 0, [], rfl, .inl ⟨rfl, rfl, rfl, rfl⟩⟩
    · simp [Value.cells] at hcs; obtain ⟨rfl, rfl, rfl⟩ := hcs
      have hz' : zs.length = sc := by simpa using hz
      have hd : d1 = _ := congrArg Prod.fst hx
      have hb := bulk_slice hk (show d1 ∈ _ by simp) hd
      simp only [lits, List.length_map, List.length_take, List.length_drop] at hb
      exact ⟨some x, sl, sc, zs, rfl, .inr ⟨_, rfl, hl, by omega, hz', hcell, hwz⟩⟩
  clear hA0 hval0
  refine (walk a0 len0 cap0 z0 a1 len1 cap1 z1 W x0 x1).mono fun e W' ⟨he, bel⟩ => ?_
  subst he
  exact ⟨_, rfl, _, _, _, [], _, [], hW', trodAll_mk1 (shut_bool Try.underlying4 _), (trodAll_cons_mk (Below.trod laidOut (by kernel_rfl) (of_decide_eq_true (by kernel_rfl)) k0 bel lt0) (trodAll_cons_mk (Below.trod laidOut (by kernel_rfl) (of_decide_eq_true (by kernel_rfl)) k1 bel lt1) trodAll_mk0)), rfl, bel.frame _, fun h => by cases h⟩

theorem over : Rows.lebEncodesUptoRow.holds Try.pinned (Rows.OpenSpec.upto Rows.lebEncodesSpec) :=
  OpenClaim.holds_of_cond 3 Try.f3 rfl rfl rfl rfl rfl rfl rfl ⟨rfl, rfl, rfl, rfl, rfl⟩ rfl rfl rfl rfl rfl (by kernel_rfl) Try.func3 (by kernel_rfl)
    (of_decide_eq_true (by kernel_rfl)) (by unfold Func.isWrapper; first | (rw [if_pos (by decide +kernel)]; kernel_rfl) | (rw [if_neg (by decide +kernel)]; exact ⟨rfl, rfl⟩))
    (fun os started H enc _ F => lifted os started H enc F)

end Go.Proofs.Ytplelldomephaaa.lebEncodes
namespace Go.Proofs.Ytplelldomephaaa
theorem lebEncodes_holds : Rows.LebEncodesUptoSaid := lebEncodes.over
#print axioms lebEncodes_holds
end Go.Proofs.Ytplelldomephaaa
