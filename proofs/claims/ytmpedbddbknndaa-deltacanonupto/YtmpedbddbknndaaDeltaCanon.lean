/-
  Proved: for every list of bytes within the form's own bulk, hawserlaw08.DeltaCanon answers true: what Decode takes Encode writes again, and what Split takes is the stream of it. No condition but the form's own bulk.
-/
import Derived.Test.YtmpedbddbknndaaRows
import Derived.Test.YtmpedbddbknndaaDSq
import Derived.WalkKit
import Derived.ProofKit
import Derived.OpenShut
import Derived.ShutString
import Derived.ChangeOld
import Derived.Below
import Derived.Lib.SmallJoins
import Derived.JoinedCond
import Derived.Laws.StructEq
namespace Go.Proofs.Ytmpedbddbknndaa.deltaCanon
open Go.ChangeShapes Go.WideShapes Go.ChangeAt Go.RowKit
set_option linter.unusedVariables false

theorem own : ownKnob Try.prog.godebug = none := by kernel_rfl
theorem laidOut : laidOutB Try.prog = true := by kernel_rfl

/-- What the walk is told of a slice of integers that came in. -/
def IsRow (k : IntKind) (R : Nat) (w : World) (a : Option Addr) (len cap : Nat) (zs : List Int) : Prop :=
  (a = none ∧ len = 0 ∧ cap = 0 ∧ zs = []) ∨
  ∃ x, a = some x ∧ len ≤ cap ∧ cap ≤ R ∧ zs.length = cap ∧ (∀ i, i < zs.length → w.cell? (x.add i) = some (.int k (zs.getD i 0))) ∧ ∀ n ∈ zs, (Lit.int k n).wf = true

end Go.Proofs.Ytmpedbddbknndaa.deltaCanon
namespace Go.Proofs.Ytmpedbddbknndaa.Dl
open Go.RowKit
set_option linter.unusedVariables false
def litC : List Int := [1, 1, 1, 1, 1, 97, 1, 120]
theorem litC_bytes : Bytes litC := by
  have : ∀ i, i < 8 → 0 ≤ litC[i]?.getD 0 ∧ litC[i]?.getD 0 < 256 := by decide
  exact this
theorem litC_err : Upd.err ⟨1, 1, 1, 1, { data := #[97] }, { data := #[120] }, 0⟩ = 0 := by decide +kernel
theorem litC_is : Upd.bytes ⟨1, 1, 1, 1, { data := #[97] }, { data := #[120] }, 0⟩ = litC := by
  unfold Upd.bytes updB updA litC
  have e1 : enc 1 = [1] := enc_small (by omega)
  have z : ByteArray.size { data := #[97] } = 1 := rfl
  have z2 : ByteArray.size { data := #[120] } = 1 := rfl
  simp [e1, z, z2, sb]
theorem litC_dec : dres litC = #[.int .i64 1, .int .i64 1, .int .i64 1, .int .i64 1, .string { data := #[97] }, .string { data := #[120] }, .int .i64 0] ∧ derr litC = 0 := by
  have h := there _ litC_err
  rw [litC_is] at h
  unfold dres derr
  rw [if_pos h.1, if_pos h.1, h.2]
  exact ⟨rfl, rfl⟩
theorem litC_seg (w : World) : Seg .u8 (w.alloc (.cells #[.int .u8 1, .int .u8 1, .int .u8 1, .int .u8 1, .int .u8 1, .int .u8 97, .int .u8 1, .int .u8 120] 5 (8, 9))) (some ⟨w.heap.size, 0, none⟩) 8 litC := by
  refine ⟨rfl, .inr ⟨w.heap.size, 0, rfl, by simp, fun i hi => ?_⟩⟩
  rw [Nat.zero_add, World.cell?_alloc_mark]
  rcases (by omega : i = 0 ∨ i = 1 ∨ i = 2 ∨ i = 3 ∨ i = 4 ∨ i = 5 ∨ i = 6 ∨ i = 7) with rfl | rfl | rfl | rfl | rfl | rfl | rfl | rfl <;> rfl
theorem litC_decode (w : World) : Calls Try.prog 13 #[.slice (some ⟨w.heap.size, 0, none⟩) 8 8] (w.alloc (.cells #[.int .u8 1, .int .u8 1, .int .u8 1, .int .u8 1, .int .u8 1, .int .u8 97, .int .u8 1, .int .u8 120] 5 (8, 9))) fun r w' => r = .returned (.tuple #[.agg #[.int .i64 1, .int .i64 1, .int .i64 1, .int .i64 1, .string { data := #[97] }, .string { data := #[120] }, .int .i64 0], .int .i64 0]) ∧ w.grownBy w' none := by
  have h := decode_c (some ⟨w.heap.size, 0, none⟩) 8 8 litC _ (litC_seg w) litC_bytes (by omega) (fun q => by cases q)
  rw [litC_dec.1, litC_dec.2] at h
  refine h.mono ?_
  rintro r w' ⟨h1, h2⟩
  exact ⟨h1, gb_trans (gb_alloc _ _) (below_gb h2)⟩
/-- What is known along the way. -/
def CN (w W : World) (a : Option Addr) (len : Nat) (xs : List Int) : Prop := Seg .u8 W a len xs ∧ w.grownBy W none
theorem CN.new {w W W' a len xs} (h : CN w W a len xs) (hg : W.grownBy W' none) : CN w W' a len xs := ⟨h.1.grew hg (by simp), gb_trans h.2 hg⟩
theorem CN.str {w W a len xs} (h : CN w W a len xs) (cap : Nat) : (convert 27 9 (.slice a len cap)).run Try.prog W = .ok (.string (strOfNums xs)) W := seg_string (P := Try.prog) 27 9 5 cap h.1 Try.underlying27 Try.underlying5 Try.underlying9
set_option maxRecDepth 20000 in
set_option maxHeartbeats 4000000 in
theorem canon_walk (a : Option Addr) (len cap : Nat) (xs : List Int) (w : World) (hs : Seg .u8 w a len xs) (hx : Bytes xs) (hlc : len ≤ cap) (hl : len ≤ 1048576) (hnz : a = none → cap = 0) :
    Calls Try.prog 8 #[.slice a len cap] w fun e w' => e = .returned (.bool true) ∧ Below w.heap.size w w' := by
  have HS : Hid (Bytes xs ∧ len ≤ cap ∧ len ≤ 1048576 ∧ (a = none → cap = 0) ∧ xs.length = len) := ⟨hx, hlc, hl, hnz, hs.1⟩
  have H0 : Hid (CN w w a len xs) := ⟨hs, gb_refl _⟩
  obtain ⟨u, E, hE, hd, hU⟩ : ∃ (u : Upd) (E : Int), E = derr xs ∧ dres xs = u.cells.toArray ∧ (E = 0 → u.err = 0 ∧ u.bytes = xs) := by
    cases h : dok xs with
    | true => exact ⟨dupd xs, 0, by unfold derr; rw [if_pos h], by unfold dres; rw [if_pos h], fun _ => again hx h⟩
    | false => exact ⟨zUpd, 86, by unfold derr; rw [if_neg (by rw [h]; decide)], by unfold dres; rw [if_neg (by rw [h]; decide)]; rfl, fun z => by omega⟩
  obtain ⟨q, c, n, k, key, val, ver⟩ := u
  have HD : Hid (∀ W, CN w W a len xs → Calls Try.prog 13 #[.slice a len cap] W fun r w' => r = .returned (.tuple #[.agg #[.int .i64 q, .int .i64 c, .int .i64 n, .int .i64 k, .string key, .string val, .int .i64 ver], .int .i64 E]) ∧ CN w w' a len xs) := fun W hW => by
    have := decode_c a len cap xs W hW.1 hx (by omega) hnz
    rw [hd, ← hE] at this
    exact this.mono fun r w' ⟨h3, h4⟩ => ⟨h3, hW.new (below_gb h4)⟩
  have HP : Hid (∀ W, CN w W a len xs → Calls Try.prog 19 #[.slice a len cap] W fun r w' => ∃ la lc L p, r = .returned (.tuple #[.slice la L.length lc, .int .i64 ((p : Nat) : Int)]) ∧ SplitIs xs L p ∧ Upds w' la L.length L ∧ CN w w' a len xs) := fun W hW => by
    refine (split_c a len cap xs W hW.1 hx hl hnz).mono ?_
    rintro r w' ⟨v, L, p, rfl, h1, h2, h3⟩
    obtain ⟨la, lc, rfl, h4⟩ := own_upds h2
    exact ⟨la, lc, L, p, rfl, h1, h4, hW.new (below_gb h3)⟩
  have HEN : Hid (E = 0 → ∀ W, CN w W a len xs → Calls Try.prog 9 #[.agg #[.int .i64 q, .int .i64 c, .int .i64 n, .int .i64 k, .string key, .string val, .int .i64 ver]] W fun r w' => ∃ va vc, r = .returned (.tuple #[.slice va len vc, .int .i64 0]) ∧ Own W.heap.size w' (.slice va len vc) len xs ∧ CN w w' a len xs) := fun z W hW => by
    have h := encode_c q c n k key val ver W
    unfold EA at h
    have e1 : updE q c n k key val ver = 0 := (hU z).1
    have e2 : updZ q c n k key val ver = xs := by unfold updZ; rw [if_pos e1]; exact (hU z).2
    rw [e1, e2, hs.1] at h
    exact h.mono fun r w' ⟨va, vc, h1, h2, h3⟩ => ⟨va, vc, h1, h2, hW.new (below_gb h3)⟩
  have hone := upd_one q c n k key val ver
  have hE2 : E = 0 ∨ E = 86 := by rw [hE]; unfold derr; split <;> simp
  clear hs hx hlc hl hnz hd hE hU
  rcases hE2 with rfl | rfl
  · replace HEN := HEN.out rfl
    have HEM : Hid _ := HEN
    clear HEN
    go_enter Try.func8, Try.ntmps8
    go_wp2_with (first
      | ((fail_if_success (have z := H1)); go_at_call 13; go_must (refine (Calls.mono (HD.out _ H0.out) ?_)); rintro r w1 ⟨rfl, h⟩; have H1 : Hid (CN w w1 a len xs) := h; clear h)
      | ((fail_if_success (have z := H2)); have z := H1; clear z; refine wpList_store_bk 26 rfl (.tmp 3) (.tmp 16) rfl infoUpd w1.heap.size noUpd #[.int .i64 q, .int .i64 c, .int .i64 n, .int .i64 k, .string key, .string val, .int .i64 ver] rfl rfl (blk_new w1 26 noUpd).1 rfl rfl hone ?_; intro w2 k1 k2; have H2 : Hid (CN w w2 a len xs ∧ Bk 26 w2 w1.heap.size #[.int .i64 q, .int .i64 c, .int .i64 n, .int .i64 k, .string key, .string val, .int .i64 ver]) := ⟨H1.out.new (gb_newer (gb_alloc _ _) k2 (Nat.le_refl _)), k1⟩; clear k1 k2)
      | ((fail_if_success (have z := H3)); have z := H2; clear z; refine wpList_load_bk 26 rfl (.tmp 3) rfl Try.underlying26 rfl infoUpd w1.heap.size _ rfl H2.out.2 rfl ?_)
      | ((fail_if_success (have z := H3)); have z := H2; clear z; go_at_call 9; go_must (refine (Calls.mono (HEM.out _ H2.out.1) ?_)); rintro r w3 ⟨va, vc, rfl, h1, h2⟩; have H3 : Hid (CN w w3 a len xs) := h2; have s1 := str_ownD h1; have s2 := h2.str cap; generalize strOfNums xs = S at s1 s2; clear h1 h2)
      | ((fail_if_success (have z := H5)); have z := H3; clear z; go_at_call 19; go_must (refine (Calls.mono (HP.out _ H3.out) ?_)); rintro r w5 ⟨la, lc, L, p, rfl, h1, h2, h3⟩; have hp1 : p ≤ len := (by have := h1.le; have := HS.out.2.2.2.2; omega); have H5 : Hid (SplitIs xs L p ∧ Upds w5 la L.length L ∧ CN w w5 a len xs ∧ L.length ≤ 1048576) := ⟨h1, h2, h3, by have := h1.few; have := HS.out.2.2.1; omega⟩; clear h1 h2 h3)
      | ((fail_if_success (have z := H6)); have z := H5; clear z; go_at_call 15; go_must (refine (Calls.mono (stream_of la lc xs L p _ H5.out.1 H5.out.2.1 H5.out.2.2.2) ?_)); rintro r w6 ⟨ve, vf, rfl, h1, h2⟩; have H6 : Hid (Own w5.heap.size w6 (.slice ve p vf) p (xs.take p) ∧ CN w w6 a len xs) := ⟨h1, H5.out.2.2.1.new h2⟩; have hcv := Go.Joins.run_convert_bytes_const_at (P := Try.prog) w6 27 5 #[.int .u8 1, .int .u8 1, .int .u8 1, .int .u8 1, .int .u8 1, .int .u8 97, .int .u8 1, .int .u8 120] 8 8 w6.heap.size rfl Try.underlying27 Try.underlying5; clear h1 h2)
      | ((fail_if_success (have z := H7)); have z := H6; clear z; go_at_call 13; go_must (refine (Calls.mono (litC_decode _) ?_)); rintro r w7 ⟨rfl, h⟩; have H7 : Hid (Own w5.heap.size w7 (.slice ve p vf) p (xs.take p) ∧ CN w w7 a len xs) := ⟨own_keepQ H6.out.1 h, H6.out.2.new h⟩; clear h)
      | ((fail_if_success (have z := H8)); have z := H7; clear z; refine wpList_store_bk 26 rfl (.tmp 11) (.tmp 56) rfl infoUpd w7.heap.size noUpd #[.int .i64 1, .int .i64 1, .int .i64 1, .int .i64 1, .string { data := #[97] }, .string { data := #[120] }, .int .i64 0] rfl rfl (blk_new w7 26 noUpd).1 rfl rfl (upd_one _ _ _ _ _ _ _) ?_; intro w8 k1 k2; have H8 : Hid (Own w5.heap.size w8 (.slice ve p vf) p (xs.take p) ∧ CN w w8 a len xs ∧ Bk 26 w8 w7.heap.size #[.int .i64 1, .int .i64 1, .int .i64 1, .int .i64 1, .string { data := #[97] }, .string { data := #[120] }, .int .i64 0]) := ⟨own_keepQ H7.out.1 (gb_newer (gb_alloc _ _) k2 (Nat.le_refl _)), H7.out.2.new (gb_newer (gb_alloc _ _) k2 (Nat.le_refl _)), k1⟩; clear k1 k2))

    have r3 : ∀ z, (gw w8 z).cell? ⟨w7.heap.size, 5, none⟩ = some (.string { data := #[120] }) := fun z => (bk_gw H8.out.2.2 z).cell 5
    have s3 : ∀ z, (convert 27 9 (.slice ve p vf)).run Try.prog (gw w8 z) = .ok (.string (strOfNums (xs.take p))) (gw w8 z) := fun z => str_ownD (own_keepQ H8.out.1 (gw_gb w8 z))
    have s4 : ∀ z, (convert 27 9 (.slice a p cap)).run Try.prog (gw w8 z) = .ok (.string (strOfNums (xs.take p))) (gw w8 z) := fun z => seg_string (P := Try.prog) 27 9 5 cap (seg_takeQ (H8.out.2.1.new (gw_gb w8 z)).1 p hp1) Try.underlying27 Try.underlying5 Try.underlying9
    have s5 := slice_hd a len cap p (Nat.le_trans hp1 HS.out.2.1)
    generalize strOfNums (xs.take p) = S3 at s3 s4
    refine wp_region_gb (by kernel_rfl) (by kernel_rfl) ?_
    repeat (quiet_step (fail))
    refine wpQuiet_nil ?_
    intro _ hw'
    obtain ⟨pq, rfl⟩ := hw'
    go_wp2
    go_ret
    exact ⟨rfl, gb_below (H8.out.2.1.new (gw_gb _ _)).2⟩
  · clear HEN
    go_enter Try.func8, Try.ntmps8
    go_wp2_with (first
      | ((fail_if_success (have z := H1)); go_at_call 13; go_must (refine (Calls.mono (HD.out _ H0.out) ?_)); rintro r w1 ⟨rfl, h⟩; have H1 : Hid (CN w w1 a len xs) := h; clear h)
      | ((fail_if_success (have z := H2)); have z := H1; clear z; refine wpList_store_bk 26 rfl (.tmp 3) (.tmp 16) rfl infoUpd w1.heap.size noUpd #[.int .i64 q, .int .i64 c, .int .i64 n, .int .i64 k, .string key, .string val, .int .i64 ver] rfl rfl (blk_new w1 26 noUpd).1 rfl rfl hone ?_; intro w2 k1 k2; have H2 : Hid (CN w w2 a len xs ∧ Bk 26 w2 w1.heap.size #[.int .i64 q, .int .i64 c, .int .i64 n, .int .i64 k, .string key, .string val, .int .i64 ver]) := ⟨H1.out.new (gb_newer (gb_alloc _ _) k2 (Nat.le_refl _)), k1⟩; clear k1 k2)
      | ((fail_if_success (have z := H5)); have z := H2; clear z; go_at_call 19; go_must (refine (Calls.mono (HP.out _ H2.out.1) ?_)); rintro r w5 ⟨la, lc, L, p, rfl, h1, h2, h3⟩; have hp1 : p ≤ len := (by have := h1.le; have := HS.out.2.2.2.2; omega); have H5 : Hid (SplitIs xs L p ∧ Upds w5 la L.length L ∧ CN w w5 a len xs ∧ L.length ≤ 1048576) := ⟨h1, h2, h3, by have := h1.few; have := HS.out.2.2.1; omega⟩; clear h1 h2 h3)
      | ((fail_if_success (have z := H6)); have z := H5; clear z; go_at_call 15; go_must (refine (Calls.mono (stream_of la lc xs L p _ H5.out.1 H5.out.2.1 H5.out.2.2.2) ?_)); rintro r w6 ⟨ve, vf, rfl, h1, h2⟩; have H6 : Hid (Own w5.heap.size w6 (.slice ve p vf) p (xs.take p) ∧ CN w w6 a len xs) := ⟨h1, H5.out.2.2.1.new h2⟩; have hcv := Go.Joins.run_convert_bytes_const_at (P := Try.prog) w6 27 5 #[.int .u8 1, .int .u8 1, .int .u8 1, .int .u8 1, .int .u8 1, .int .u8 97, .int .u8 1, .int .u8 120] 8 8 w6.heap.size rfl Try.underlying27 Try.underlying5; clear h1 h2)
      | ((fail_if_success (have z := H7)); have z := H6; clear z; go_at_call 13; go_must (refine (Calls.mono (litC_decode _) ?_)); rintro r w7 ⟨rfl, h⟩; have H7 : Hid (Own w5.heap.size w7 (.slice ve p vf) p (xs.take p) ∧ CN w w7 a len xs) := ⟨own_keepQ H6.out.1 h, H6.out.2.new h⟩; clear h)
      | ((fail_if_success (have z := H8)); have z := H7; clear z; refine wpList_store_bk 26 rfl (.tmp 11) (.tmp 56) rfl infoUpd w7.heap.size noUpd #[.int .i64 1, .int .i64 1, .int .i64 1, .int .i64 1, .string { data := #[97] }, .string { data := #[120] }, .int .i64 0] rfl rfl (blk_new w7 26 noUpd).1 rfl rfl (upd_one _ _ _ _ _ _ _) ?_; intro w8 k1 k2; have H8 : Hid (Own w5.heap.size w8 (.slice ve p vf) p (xs.take p) ∧ CN w w8 a len xs ∧ Bk 26 w8 w7.heap.size #[.int .i64 1, .int .i64 1, .int .i64 1, .int .i64 1, .string { data := #[97] }, .string { data := #[120] }, .int .i64 0]) := ⟨own_keepQ H7.out.1 (gb_newer (gb_alloc _ _) k2 (Nat.le_refl _)), H7.out.2.new (gb_newer (gb_alloc _ _) k2 (Nat.le_refl _)), k1⟩; clear k1 k2))

    have r3 : ∀ z, (gw w8 z).cell? ⟨w7.heap.size, 5, none⟩ = some (.string { data := #[120] }) := fun z => (bk_gw H8.out.2.2 z).cell 5
    have s3 : ∀ z, (convert 27 9 (.slice ve p vf)).run Try.prog (gw w8 z) = .ok (.string (strOfNums (xs.take p))) (gw w8 z) := fun z => str_ownD (own_keepQ H8.out.1 (gw_gb w8 z))
    have s4 : ∀ z, (convert 27 9 (.slice a p cap)).run Try.prog (gw w8 z) = .ok (.string (strOfNums (xs.take p))) (gw w8 z) := fun z => seg_string (P := Try.prog) 27 9 5 cap (seg_takeQ (H8.out.2.1.new (gw_gb w8 z)).1 p hp1) Try.underlying27 Try.underlying5 Try.underlying9
    have s5 := slice_hd a len cap p (Nat.le_trans hp1 HS.out.2.1)
    generalize strOfNums (xs.take p) = S3 at s3 s4
    refine wp_region_gb (by kernel_rfl) (by kernel_rfl) ?_
    repeat (quiet_step (fail))
    refine wpQuiet_nil ?_
    intro _ hw'
    obtain ⟨pq, rfl⟩ := hw'
    go_wp2
    go_ret
    exact ⟨rfl, gb_below (H8.out.2.1.new (gw_gb _ _)).2⟩
end Go.Proofs.Ytmpedbddbknndaa.Dl
namespace Go.Proofs.Ytmpedbddbknndaa.deltaCanon
open Go.ChangeShapes Go.WideShapes Go.ChangeAt Go.RowKit
set_option linter.unusedVariables false
theorem walk (a0 : Option Addr) (len0 cap0 : Nat) (z0 : List Int) (w : World) (w0 : IsRow .u8 1048576 w a0 len0 cap0 z0) :
    Calls Try.prog 8 #[.slice a0 len0 cap0] w fun e w' => e = .returned (.bool true) ∧ Below w.heap.size w w' := by
  obtain ⟨hs, hlc, hR, hwf⟩ := seg_of_row w0
  have hnz : a0 = none → cap0 = 0 := by
    intro q
    rcases w0 with ⟨_, _, q2, _⟩ | ⟨x, q2, _⟩
    · exact q2
    · rw [q] at q2; cases q2
  exact Dl.canon_walk a0 len0 cap0 _ w hs (fun i hi => wf_u8 (hwf i hi)) hlc (by omega) hnz

theorem bulk_len {H : Type} (l : List (DataW H)) : l.length ≤ Rows.uptoBulkAll l := by
  induction l with
  | nil => simp
  | cons d r ih =>
    have : 1 ≤ Rows.uptoBulk d := by
      cases d with
      | lit x => cases x <;> simp [Rows.uptoBulk]
      | _ => simp [Rows.uptoBulk]
    simp only [Rows.uptoBulkAll, List.length_cons]; omega
theorem bulk_mem {H : Type} {d : DataW H} {l : List (DataW H)} (h : d ∈ l) : Rows.uptoBulk d ≤ Rows.uptoBulkAll l := by
  induction l with
  | nil => cases h
  | cons x r ih =>
    simp only [Rows.uptoBulkAll]
    rcases List.mem_cons.1 h with rfl | h
    · omega
    · have := ih h; omega
theorem bulk_slice {H : Type} {ds : List (DataW H)} {d : DataW H} {l r : List (DataW H)} (hk : Rows.uptoSmall H ds = true) (hd : d ∈ ds) (e : d = .slice l r) : l.length + r.length ≤ 1048576 := by
  have h0 : Rows.uptoBulkAll ds ≤ 1048576 := of_decide_eq_true hk
  have h1 := bulk_mem hd
  have h3 := bulk_len l
  have h4 := bulk_len r
  rw [e] at h1
  simp only [Rows.uptoBulk] at h1
  omega

set_option maxRecDepth 100000 in
theorem lifted (os : Os) (started : os.Started) (H : Type) (enc : TypeId × Value → H) (F : Stop.Interp) :
    ReturnsInHanded {} Try.checked os 8 .any ((Rows.OpenSpec.upto Rows.deltaCanonSpec).pre6 enc Try.prog Try.f8 Rows.deltaCanonUptoRow.domain false) (((Rows.OpenSpec.upto Rows.deltaCanonSpec).at F).post enc Try.prog Try.f8 false true false false) := by
  refine returnsInHanded_of_cond (C := Try.checked) (s := Rows.OpenSpec.upto Rows.deltaCanonSpec) (k := Rows.uptoSmall) rfl own started (by kernel_rfl) Try.func8
    (OpenSpec.witness (enc := enc) (C := Try.checked) (s := Rows.OpenSpec.upto Rows.deltaCanonSpec) (k := Rows.uptoSmall) rfl false ⟨#[], #[.slice none 0 0], []⟩ 8 (by kernel_rfl) (by kernel_rfl) (by kernel_rfl)
      (x := ([.nil], [], [])) (by kernel_rfl) rfl (by kernel_rfl)) ?_
  intro W base args ds gs before hval0 hW hcnd hk _
  have hval : ∀ (j : Nat) t v, Try.f8.params[j]? = some t → args[j]? = some v → Value.okWide Try.prog W .any base t v := hval0
  have hW' := hW
  obtain ⟨p, q, hA0, hV, rfl, hfz, hnd⟩ := hW
  have hA : DataW.TrodAll enc Try.prog W 0 (fun _ => true) true Try.f8.params.toList args.toList ds p := hA0
  rw [Try.params8] at hA hval
  obtain ⟨v0, vs0, d0, ds0, p0, q0, hargs, rfl, rfl, h0, r0⟩ := trodAll_cons hA
  obtain ⟨rfl, rfl, rfl⟩ := trodAll_nil r0
  obtain rfl : args = #[v0] := by cases args; simp_all
  obtain ⟨rfl, rfl⟩ := trodVars_none hV
  have k0 := h0
  have lt0 : ∀ x ∈ p0, x.block < W.heap.size := by obtain ⟨m, hm⟩ := k0; exact DataW.trod_lt m _ _ _ hm
  obtain ⟨a0, len0, cap0, z0, rfl, x0⟩ : ∃ a len cap zs, v0 = .slice a len cap ∧ IsRow .u8 1048576 W a len cap zs := by
    obtain ⟨sa, sl, sc, rfl⟩ := okWide_slice Try.underlying27 (hval 0 27 v0 rfl rfl)
    obtain ⟨fuel, hf⟩ := h0
    rcases open_ints Try.underlying27 Try.underlying5 (by kernel_rfl) hf with ⟨hcs, _⟩ | ⟨x, l, c, zs, hcs, _, hl, hm, hz, hx, hcell, hwz⟩
    · simp [Value.cells] at hcs; obtain ⟨rfl, rfl, rfl⟩ := hcs
      exact ⟨none, 0, 0, [], rfl, .inl ⟨rfl, rfl, rfl, rfl⟩⟩
    · simp [Value.cells] at hcs; obtain ⟨rfl, rfl, rfl⟩ := hcs
      have hz' : zs.length = sc := by simpa using hz
      have hd : d0 = _ := congrArg Prod.fst hx
      have hb := bulk_slice hk (show d0 ∈ _ by simp) hd
      simp only [lits, List.length_map, List.length_take, List.length_drop] at hb
      exact ⟨some x, sl, sc, zs, rfl, .inr ⟨_, rfl, hl, by omega, hz', hcell, hwz⟩⟩
  clear hA0 hval0
  refine (walk a0 len0 cap0 z0 W x0).mono fun e W' ⟨he, bel⟩ => ?_
  subst he
  exact ⟨_, rfl, _, _, _, [], _, [], hW', trodAll_mk1 (shut_bool Try.underlying4 _), (trodAll_cons_mk (Below.trod laidOut (by kernel_rfl) (of_decide_eq_true (by kernel_rfl)) k0 bel lt0) trodAll_mk0), rfl, bel.frame _, fun h => by cases h⟩

theorem over : Rows.deltaCanonUptoRow.holds Try.pinned (Rows.OpenSpec.upto Rows.deltaCanonSpec) :=
  OpenClaim.holds_of_cond 8 Try.f8 rfl rfl rfl rfl rfl rfl rfl ⟨rfl, rfl, rfl, rfl, rfl⟩ rfl rfl rfl rfl rfl (by kernel_rfl) Try.func8 (by kernel_rfl)
    (of_decide_eq_true (by kernel_rfl)) (by unfold Func.isWrapper; first | (rw [if_pos (by decide +kernel)]; kernel_rfl) | (rw [if_neg (by decide +kernel)]; exact ⟨rfl, rfl⟩))
    (fun os started H enc _ F => lifted os started H enc F)

end Go.Proofs.Ytmpedbddbknndaa.deltaCanon
namespace Go.Proofs.Ytmpedbddbknndaa
theorem deltaCanon_holds : Rows.DeltaCanonUptoSaid := deltaCanon.over
#print axioms deltaCanon_holds
end Go.Proofs.Ytmpedbddbknndaa
