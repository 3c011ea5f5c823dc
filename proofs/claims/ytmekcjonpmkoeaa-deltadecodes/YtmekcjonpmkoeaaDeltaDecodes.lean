/-
  Proved: for every list of bytes, hawserlaw08.DeltaDecodes answers true: Decode answers the document's update or its error, and the bytes stay. No condition but the form's own reach.
-/
import Derived.Test.YtmekcjonpmkoeaaRows
import Derived.Test.YtmekcjonpmkoeaaDGq
import Derived.WalkKit
import Derived.ProofKit
import Derived.OpenShut
import Derived.ShutString
import Derived.ChangeOld
import Derived.Below
import Derived.Lib.SmallJoins
import Derived.JoinedCond
import Derived.SizedLaws
import Derived.Laws.StructEq
namespace Go.Proofs.Ytmekcjonpmkoeaa.deltaDecodes
open Go.ChangeShapes Go.WideShapes Go.ChangeAt Go.RowKit
set_option linter.unusedVariables false

theorem own : ownKnob Try.prog.godebug = none := by kernel_rfl
theorem laidOut : laidOutB Try.prog = true := by kernel_rfl

/-- What the walk is told of a slice of integers that came in. -/
def IsRow (k : IntKind) (R : Nat) (w : World) (a : Option Addr) (len cap : Nat) (zs : List Int) : Prop :=
  (a = none ∧ len = 0 ∧ cap = 0 ∧ zs = []) ∨
  ∃ x, a = some x ∧ len ≤ cap ∧ cap ≤ R ∧ zs.length = cap ∧ (∀ i, i < zs.length → w.cell? (x.add i) = some (.int k (zs.getD i 0))) ∧ ∀ n ∈ zs, (Lit.int k n).wf = true

end Go.Proofs.Ytmekcjonpmkoeaa.deltaDecodes
namespace Go.Proofs.Ytmekcjonpmkoeaa.Dl
open Go.RowKit
set_option linter.unusedVariables false
theorem eqInt (d : Nat) (n : Int) (w : World) : (Op.equalIn (d + 1) 3 (.int .i64 n) (.int .i64 n)).run Try.prog w = .ok true w := by simp [Op.equalIn, run_underlying Try.underlying3]
theorem eqStr (d : Nat) (s : ByteArray) (w : World) : (Op.equalIn (d + 1) 9 (.string s) (.string s)).run Try.prog w = .ok true w := by
  simp [Op.equalIn, run_underlying Try.underlying9]
  cases s
  rename_i dt
  show (dt == dt) = true
  exact beq_self_eq_true dt
theorem eqOp (d : Nat) (k : Int) (key val : ByteArray) (ver : Int) (w : World) : (Op.equalIn (d + 2) 36 (.agg #[.int .i64 k, .string key, .string val, .int .i64 ver]) (.agg #[.int .i64 k, .string key, .string val, .int .i64 ver])).run Try.prog w = .ok true w := by
  have hs := fun s => eqStr d s w
  have hi := fun n => eqInt d n w
  rw [Op.equalIn]
  simp [run_underlying Try.underlying36, part, isAgg, run_underlying Try.underlying9, run_underlying Try.underlying3, hs, hi]
theorem eqUpd (q c n k : Int) (key val : ByteArray) (ver : Int) (w : World) : (Op.equalIn 10000 41 (.agg #[.int .i64 q, .int .i64 c, .int .i64 n, .int .i64 k, .string key, .string val, .int .i64 ver]) (.agg #[.int .i64 q, .int .i64 c, .int .i64 n, .int .i64 k, .string key, .string val, .int .i64 ver])).run Try.prog w = .ok true w := by
  have ho := eqOp 9997 k key val ver w
  have hi := fun n => eqInt 9998 n w
  rw [Op.equalIn]
  simp [run_underlying Try.underlying41, part, isAgg, run_underlying Try.underlying36, run_underlying Try.underlying3, hi, ho]
theorem dres_form (xs : List Int) : ∃ (q c n k : Int) (key val : ByteArray) (ver : Int), dres xs = #[.int .i64 q, .int .i64 c, .int .i64 n, .int .i64 k, .string key, .string val, .int .i64 ver] := by
  unfold dres
  split
  · exact ⟨_, _, _, _, _, _, _, rfl⟩
  · exact ⟨_, _, _, _, _, _, _, rfl⟩
def litB : List Int := [1, 1, 1, 2, 1, 97]
theorem litB_bytes : Bytes litB := by
  have : ∀ i, i < 6 → 0 ≤ litB[i]?.getD 0 ∧ litB[i]?.getD 0 < 256 := by decide
  exact this
theorem lit_err : Upd.err ⟨1, 1, 1, 2, { data := #[97] }, .empty, 0⟩ = 0 := by decide +kernel
theorem lit_bytes : Upd.bytes ⟨1, 1, 1, 2, { data := #[97] }, .empty, 0⟩ = litB := by
  unfold Upd.bytes updB updA litB
  have e1 : enc 1 = [1] := enc_small (by omega)
  have e2 : enc 2 = [2] := enc_small (by omega)
  have z : ByteArray.size { data := #[97] } = 1 := rfl
  simp [e1, e2, z, sb]
theorem lit_dec : dres litB = #[.int .i64 1, .int .i64 1, .int .i64 1, .int .i64 2, .string { data := #[97] }, .string .empty, .int .i64 0] ∧ derr litB = 0 := by
  have h := there _ lit_err
  rw [lit_bytes] at h
  unfold dres derr
  rw [if_pos h.1, if_pos h.1, h.2]
  exact ⟨rfl, rfl⟩
theorem lit_seg (w : World) : Seg .u8 (w.alloc (.cells #[.int .u8 1, .int .u8 1, .int .u8 1, .int .u8 2, .int .u8 1, .int .u8 97] 5 (6, 7))) (some ⟨w.heap.size, 0, none⟩) 6 litB := by
  refine ⟨rfl, .inr ⟨w.heap.size, 0, rfl, by simp, fun i hi => ?_⟩⟩
  rw [Nat.zero_add, World.cell?_alloc_mark]
  rcases (by omega : i = 0 ∨ i = 1 ∨ i = 2 ∨ i = 3 ∨ i = 4 ∨ i = 5) with rfl | rfl | rfl | rfl | rfl | rfl <;> rfl
theorem lit_decode (w : World) : Calls Try.prog 20 #[.slice (some ⟨w.heap.size, 0, none⟩) 6 6] (w.alloc (.cells #[.int .u8 1, .int .u8 1, .int .u8 1, .int .u8 2, .int .u8 1, .int .u8 97] 5 (6, 7))) fun r w' => r = .returned (.tuple #[.agg #[.int .i64 1, .int .i64 1, .int .i64 1, .int .i64 2, .string { data := #[97] }, .string .empty, .int .i64 0], .int .i64 0]) ∧ w.grownBy w' none := by
  have h := decode_c (some ⟨w.heap.size, 0, none⟩) 6 6 litB _ (lit_seg w) litB_bytes (by omega) (fun q => by cases q)
  rw [lit_dec.1, lit_dec.2] at h
  refine h.mono ?_
  rintro r w' ⟨h1, h2⟩
  exact ⟨h1, gb_trans (gb_alloc _ _) (below_gb h2)⟩
set_option maxRecDepth 20000 in
set_option maxHeartbeats 4000000 in
theorem decodes_walk (a : Option Addr) (len cap : Nat) (xs : List Int) (w : World) (hs : Seg .u8 w a len xs) (hx : Bytes xs) (hlc : len ≤ cap) (hl : len ≤ 140737488355328) (hnz : a = none → cap = 0) :
    Calls Try.prog 6 #[.slice a len cap] w fun e w' => e = .returned (.bool true) ∧ Below w.heap.size w w' := by
  have HS : Hid (Seg .u8 w a len xs ∧ Bytes xs ∧ len ≤ cap ∧ len ≤ 140737488355328 ∧ (a = none → cap = 0) ∧ xs.length = len) := ⟨hs, hx, hlc, hl, hnz, hs.1⟩
  obtain ⟨q, c, n, k, key, val, ver, hd⟩ := dres_form xs
  obtain ⟨E, hE⟩ : ∃ E, E = derr xs := ⟨_, rfl⟩
  have HD : Hid (∀ al cl W, Seg .u8 W al len xs → (al = none → cl = 0) → Calls Try.prog 20 #[.slice al len cl] W fun r w' => r = .returned (.tuple #[.agg #[.int .i64 q, .int .i64 c, .int .i64 n, .int .i64 k, .string key, .string val, .int .i64 ver], .int .i64 E]) ∧ W.grownBy w' none) := fun al cl W h1 h2 => by
    have := decode_c al len cl xs W h1 hx hl h2
    rw [hd, ← hE] at this
    exact this.mono fun r w' ⟨h3, h4⟩ => ⟨h3, below_gb h4⟩
  have HG : Hid (∀ W, w.grownBy W none → Calls Try.prog 21 #[.slice a len cap] W fun r w' => r = .returned (.tuple #[.agg #[.int .i64 q, .int .i64 c, .int .i64 n, .int .i64 k, .string key, .string val, .int .i64 ver], .int .i64 E]) ∧ W.grownBy w' none) := fun W hg => by
    have := gdecode_c a len cap xs W (hs.grew hg (by simp)) hx hl hlc
    unfold GA at this
    rw [(same_ans hx).1, (same_ans hx).2, hd, ← hE] at this
    exact this.mono fun r w' ⟨h3, h4⟩ => ⟨h3, below_gb h4⟩
  have HL : Hid (∀ W, Calls Try.prog 17 #[.agg #[.int .i64 q, .int .i64 c, .int .i64 n, .int .i64 k, .string key, .string val, .int .i64 ver]] W fun r w' => r = .returned (.agg #[.int .i64 q, .int .i64 c, .int .i64 n, .int .i64 k, .string key, .string val, .int .i64 ver]) ∧ W.grownBy w' none) := plain_c q c n k key val ver
  have HM : Hid (∀ (x : Int) W, Calls Try.prog 9 #[.int .i64 x] W fun r w' => r = .returned (.int .i64 x) ∧ w' = W) := fun x W => by
    go_enter Try.func9, Try.ntmps9
    go_wp2
    go_ret
    exact ⟨rfl, rfl⟩
  have hone := upd_one q c n k key val ver
  have heq := eqUpd q c n k key val ver
  clear hs hx hlc hl hnz hd hE
  go_enter Try.func6, Try.ntmps6
  go_wp2_with (first
    | (at_builtin; go_must (refine wpList_append_apart _ rfl _ (.tmp 10) rfl w.heap.size 0 (.slice none 0 0) [] rfl (own_nil _ _) a len cap xs rfl HS.out.2.2.2.2.1 HS.out.1 (by have := HS.out.2.2.2.1; omega) (Nat.le_refl _) ?_); intro v1 w1 ho hg _; rw [Nat.zero_add, List.nil_append] at ho; obtain ⟨al, cl, rfl, hsl, hln, _⟩ := ho.seg; have H1 : Hid (Seg .u8 w1 al len xs ∧ (al = none → cl = 0) ∧ w.grownBy w1 none) := ⟨hsl, hln, below_gb ((Below.refl _ _).grown hg (Nat.le_refl _) (fun k hk => by cases hk))⟩; clear ho hg hsl hln)
    | ((fail_if_success (have z := H2)); have z := H1; clear z; go_at_call 20; go_must (refine (Calls.mono (HD.out al cl _ H1.out.1 H1.out.2.1) ?_)); rintro r w2 ⟨rfl, h⟩; have H2 : Hid (Seg .u8 w2 al len xs ∧ w.grownBy w2 none) := ⟨H1.out.1.grew h (by simp), gb_trans H1.out.2.2 h⟩; clear h)
    | ((fail_if_success (have z := H3)); have z := H2; clear z; refine wpList_store_bk 33 rfl (.tmp 4) (.tmp 15) rfl infoUpd w2.heap.size noUpd #[.int .i64 q, .int .i64 c, .int .i64 n, .int .i64 k, .string key, .string val, .int .i64 ver] rfl rfl (blk_new w2 33 noUpd).1 rfl rfl hone ?_; intro w3 k1 k2; have H3 : Hid (Seg .u8 w3 al len xs ∧ w.grownBy w3 none ∧ Bk 33 w3 w2.heap.size #[.int .i64 q, .int .i64 c, .int .i64 n, .int .i64 k, .string key, .string val, .int .i64 ver] ∧ w2.heap.size < w3.heap.size) := ⟨H2.out.1.grew (gb_newer (gb_alloc _ _) k2 (Nat.le_refl _)) (by simp), gb_newer (gb_trans H2.out.2 (gb_alloc _ _)) k2 H2.out.2.size, k1, lt_of_block k1⟩; clear k1 k2)
    | (have z := H3; clear z; go_at_call 21; go_must (refine (Calls.mono (HG.out _ H3.out.2.1) ?_)); rintro r w4 ⟨rfl, h⟩; have H4 : Hid (Seg .u8 w4 al len xs ∧ w.grownBy w4 none ∧ Bk 33 w4 w2.heap.size #[.int .i64 q, .int .i64 c, .int .i64 n, .int .i64 k, .string key, .string val, .int .i64 ver] ∧ w2.heap.size < w4.heap.size) := ⟨H3.out.1.grew h (by simp), gb_trans H3.out.2.1 h, H3.out.2.2.1.grew h (by simp), by have := h.size; have := H3.out.2.2.2; omega⟩; clear h)
    | ((fail_if_success (have z := H5)); have z := H4; clear z; refine wpList_store_bk 41 rfl (.tmp 6) (.tmp 20) rfl infoGupd w4.heap.size noUpd #[.int .i64 q, .int .i64 c, .int .i64 n, .int .i64 k, .string key, .string val, .int .i64 ver] rfl rfl (blk_new w4 41 noUpd).1 rfl rfl hone ?_; intro w5 k1 k2; have H5 : Hid (Seg .u8 w5 al len xs ∧ w.grownBy w5 none ∧ Bk 33 w5 w2.heap.size #[.int .i64 q, .int .i64 c, .int .i64 n, .int .i64 k, .string key, .string val, .int .i64 ver] ∧ Bk 41 w5 w4.heap.size #[.int .i64 q, .int .i64 c, .int .i64 n, .int .i64 k, .string key, .string val, .int .i64 ver]) := ⟨H4.out.1.grew (gb_newer (gb_alloc _ _) k2 (Nat.le_refl _)) (by simp), gb_newer (gb_trans H4.out.2.1 (gb_alloc _ _)) k2 H4.out.2.1.size, (H4.out.2.2.1.grew (gb_alloc _ _) (by simp)).grew k2 (fun z => by have := Option.some.inj z; have := H4.out.2.2.2; omega), k1⟩; have hcv := Go.Joins.run_convert_bytes_const_at (P := Try.prog) w5 44 5 #[.int .u8 1, .int .u8 1, .int .u8 1, .int .u8 2, .int .u8 1, .int .u8 97] 6 6 w5.heap.size rfl Try.underlying44 Try.underlying5; clear k1 k2)
    | (have z := H5; clear z; (fail_if_success (have z := H6)); go_at_call 20; go_must (refine (Calls.mono (lit_decode _) ?_)); rintro r w6 ⟨rfl, h⟩; have H6 : Hid (Seg .u8 w6 al len xs ∧ w.grownBy w6 none ∧ Bk 33 w6 w2.heap.size #[.int .i64 q, .int .i64 c, .int .i64 n, .int .i64 k, .string key, .string val, .int .i64 ver] ∧ Bk 41 w6 w4.heap.size #[.int .i64 q, .int .i64 c, .int .i64 n, .int .i64 k, .string key, .string val, .int .i64 ver]) := ⟨H5.out.1.grew h (by simp), gb_trans H5.out.2.1 h, H5.out.2.2.1.grew h (by simp), H5.out.2.2.2.grew h (by simp)⟩; clear h)
    | (have z := H6; clear z; (fail_if_success (have z := H7)); refine wpList_store_bk 33 rfl (.tmp 8) (.tmp 26) rfl infoUpd w6.heap.size noUpd #[.int .i64 1, .int .i64 1, .int .i64 1, .int .i64 2, .string { data := #[97] }, .string .empty, .int .i64 0] rfl rfl (blk_new w6 33 noUpd).1 rfl rfl (upd_one _ _ _ _ _ _ _) ?_; intro w7 k1 k2; have H7 : Hid (Seg .u8 w7 al len xs ∧ w.grownBy w7 none ∧ Bk 33 w7 w2.heap.size #[.int .i64 q, .int .i64 c, .int .i64 n, .int .i64 k, .string key, .string val, .int .i64 ver] ∧ Bk 41 w7 w4.heap.size #[.int .i64 q, .int .i64 c, .int .i64 n, .int .i64 k, .string key, .string val, .int .i64 ver] ∧ Bk 33 w7 w6.heap.size #[.int .i64 1, .int .i64 1, .int .i64 1, .int .i64 2, .string { data := #[97] }, .string .empty, .int .i64 0]) := ⟨H6.out.1.grew (gb_newer (gb_alloc _ _) k2 (Nat.le_refl _)) (by simp), gb_newer (gb_trans H6.out.2.1 (gb_alloc _ _)) k2 H6.out.2.1.size, (H6.out.2.2.1.grew (gb_alloc _ _) (by simp)).grew k2 (fun z => by have := Option.some.inj z; have := lt_of_block H6.out.2.2.1; omega), (H6.out.2.2.2.grew (gb_alloc _ _) (by simp)).grew k2 (fun z => by have := Option.some.inj z; have := lt_of_block H6.out.2.2.2; omega), k1⟩; clear k1 k2))
  have r1 : ∀ p, (loadVar 33 ⟨w2.heap.size, 0, none⟩).run Try.prog (gw w7 p) = .ok (.agg #[.int .i64 q, .int .i64 c, .int .i64 n, .int .i64 k, .string key, .string val, .int .i64 ver]) (gw w7 p) := fun p => bk_load Try.underlying33 rfl infoUpd (bk_gw H7.out.2.2.1 p) rfl
  have r2 : ∀ p, (loadVar 41 ⟨w4.heap.size, 0, none⟩).run Try.prog (gw w7 p) = .ok (.agg #[.int .i64 q, .int .i64 c, .int .i64 n, .int .i64 k, .string key, .string val, .int .i64 ver]) (gw w7 p) := fun p => bk_load Try.underlying41 rfl infoGupd (bk_gw H7.out.2.2.2.1 p) rfl
  have r3 : ∀ p, (gw w7 p).cell? ⟨w6.heap.size, 4, none⟩ = some (.string { data := #[97] }) := fun p => (bk_gw H7.out.2.2.2.2 p).cell 4
  have s1 : ∀ p, (convert 44 9 (.slice al len cl)).run Try.prog (gw w7 p) = .ok (.string (strOfNums xs)) (gw w7 p) := fun p => seg_string (P := Try.prog) 44 9 5 cl (H7.out.1.grew (gw_gb w7 p) (by simp)) Try.underlying44 Try.underlying5 Try.underlying9
  have s2 : ∀ p, (convert 44 9 (.slice a len cap)).run Try.prog (gw w7 p) = .ok (.string (strOfNums xs)) (gw w7 p) := fun p => seg_string (P := Try.prog) 44 9 5 cap (HS.out.1.grew (gb_trans H7.out.2.1 (gw_gb w7 p)) (by simp)) Try.underlying44 Try.underlying5 Try.underlying9
  have heg : Try.prog.eqGuardType Try.prog.depth 41 = false := by kernel_rfl
  generalize strOfNums xs = S at s1 s2
  refine wp_region_gb (by kernel_rfl) (by kernel_rfl) ?_
  repeat (first
    | (refine wpQuiet_loadv rfl 33 _ rfl ⟨w2.heap.size, 0, none⟩ _ rfl (fun w hw => by obtain ⟨p, rfl⟩ := hw; exact r1 p) ?_)
    | (refine wpQuiet_loadv rfl 41 _ rfl ⟨w4.heap.size, 0, none⟩ _ rfl (fun w hw => by obtain ⟨p, rfl⟩ := hw; exact r2 p) ?_)
    | quiet_step (first
      | (go_at_call 17; exact calls_gb (HL.out _))
      | (go_at_call 9; exact calls_gw (HM.out _ _))))
  refine wpQuiet_nil ?_
  intro _ hw'
  obtain ⟨pq, rfl⟩ := hw'
  go_wp2
  go_ret
  exact ⟨rfl, gb_below (gb_trans H7.out.2.1 (gw_gb _ _))⟩
end Go.Proofs.Ytmekcjonpmkoeaa.Dl
namespace Go.Proofs.Ytmekcjonpmkoeaa.deltaDecodes
open Go.ChangeShapes Go.WideShapes Go.ChangeAt Go.RowKit
set_option linter.unusedVariables false
theorem walk (a0 : Option Addr) (len0 cap0 : Nat) (z0 : List Int) (w : World) (w0 : IsRow .u8 140737488351232 w a0 len0 cap0 z0) :
    Calls Try.prog 6 #[.slice a0 len0 cap0] w fun e w' => e = .returned (.bool true) ∧ Below w.heap.size w w' := by
  obtain ⟨hs, hlc, hR, hwf⟩ := seg_of_row w0
  have hnz : a0 = none → cap0 = 0 := by
    intro q
    rcases w0 with ⟨_, _, q2, _⟩ | ⟨x, q2, _⟩
    · exact q2
    · rw [q] at q2; cases q2
  exact Dl.decodes_walk a0 len0 cap0 _ w hs (fun i hi => wf_u8 (hwf i hi)) hlc (by omega) hnz

set_option maxRecDepth 100000 in
theorem lifted (os : Os) (started : os.Started) (H : Type) (enc : TypeId × Value → H) :
    ReturnsInHanded {} Try.checked os 6 .any (Rows.deltaDecodesSpec.pre6 enc Try.prog Try.f6 Rows.deltaDecodesRow.domain false) (Rows.deltaDecodesSpec.post enc Try.prog Try.f6 false true false false) := by
  refine returnsInHanded_of_change_sized (C := Try.checked) own started (by kernel_rfl) Try.func6
    (ChangeSpec.witness6 (enc := enc) (C := Try.checked) false ⟨#[], #[.slice none 0 0], []⟩ 8 (by kernel_rfl) (by kernel_rfl) (by kernel_rfl) (by kernel_rfl)) ?_
  intro W base args ds gs before hval0 hW hcnd hsz0 _
  have hsz : (DataW.weightsEach Try.prog (Try.f6.params.toList ++ Rows.deltaDecodesSpec.plain.varTypes Try.prog) (ds ++ gs)).all (· ≤ reachBytes) = true := hsz0
  have hval : ∀ (j : Nat) t v, Try.f6.params[j]? = some t → args[j]? = some v → Value.okWide Try.prog W .any base t v := hval0
  have hW' := hW
  obtain ⟨p, q, hA0, hV, rfl, hfz, hnd⟩ := hW
  have hA : DataW.TrodAll enc Try.prog W 0 (fun _ => true) true Try.f6.params.toList args.toList ds p := hA0
  rw [Try.params6] at hA hval hsz
  obtain ⟨v0, vs0, d0, ds0, p0, q0, hargs, rfl, rfl, h0, r0⟩ := trodAll_cons hA
  obtain ⟨rfl, rfl, rfl⟩ := trodAll_nil r0
  obtain rfl : args = #[v0] := by cases args; simp_all
  obtain ⟨rfl, rfl⟩ := trodVars_none hV
  have k0 := h0
  have lt0 : ∀ x ∈ p0, x.block < W.heap.size := by obtain ⟨m, hm⟩ := k0; exact DataW.trod_lt m _ _ _ hm
  obtain ⟨a0, len0, cap0, z0, rfl, x0⟩ : ∃ a len cap zs, v0 = .slice a len cap ∧ IsRow .u8 140737488351232 W a len cap zs := by
    obtain ⟨sa, sl, sc, rfl⟩ := okWide_slice Try.underlying44 (hval 0 44 v0 rfl rfl)
    obtain ⟨fuel, hf⟩ := h0
    rcases open_ints Try.underlying44 Try.underlying5 (by kernel_rfl) hf with ⟨hcs, _⟩ | ⟨x, l, c, zs, hcs, _, hl, hm, hz, hx, hcell, hwz⟩
    · simp [Value.cells] at hcs; obtain ⟨rfl, rfl, rfl⟩ := hcs
      exact ⟨none, 0, 0, [], rfl, .inl ⟨rfl, rfl, rfl, rfl⟩⟩
    · simp [Value.cells] at hcs; obtain ⟨rfl, rfl, rfl⟩ := hcs
      have hz' : zs.length = sc := by simpa using hz
      have hd : d0 = _ := congrArg Prod.fst hx
      have hb := sized_slice hsz (j := 0) (t := 44) (e := 5) rfl (congrArg some hd) Try.underlying44
      rw [show Try.prog.bytesOf 5 = 1 from by kernel_rfl] at hb
      simp only [lits, List.length_map, List.length_take, List.length_drop, reachBytes] at hb
      exact ⟨some x, sl, sc, zs, rfl, .inr ⟨_, rfl, hl, by omega, hz', hcell, hwz⟩⟩
  clear hA0 hval0
  refine (walk a0 len0 cap0 z0 W x0).mono fun e W' ⟨he, bel⟩ => ?_
  subst he
  exact ⟨_, rfl, _, _, _, [], _, [], hW', trodAll_mk1 (shut_bool Try.underlying4 _), (trodAll_cons_mk (Below.trod laidOut (by kernel_rfl) (of_decide_eq_true (by kernel_rfl)) k0 bel lt0) trodAll_mk0), rfl, bel.frame _, fun h => by cases h⟩

theorem over : Rows.deltaDecodesRow.holds Try.pinned (OpenSpec.ofChange Rows.deltaDecodesSpec) :=
  OpenClaim.holds_of_wide 6 Try.f6 rfl rfl rfl rfl rfl rfl rfl ⟨rfl, rfl, rfl, rfl, rfl⟩ rfl rfl rfl rfl rfl (by kernel_rfl) Try.func6 (by kernel_rfl)
    (of_decide_eq_true (by kernel_rfl)) (by unfold Func.isWrapper; first | (rw [if_pos (by decide +kernel)]; kernel_rfl) | (rw [if_neg (by decide +kernel)]; exact ⟨rfl, rfl⟩))
    (fun os started H enc _ => lifted os started H enc)

end Go.Proofs.Ytmekcjonpmkoeaa.deltaDecodes
namespace Go.Proofs.Ytmekcjonpmkoeaa
theorem deltaDecodes_holds : Rows.DeltaDecodesSaid := deltaDecodes.over
#print axioms deltaDecodes_holds
end Go.Proofs.Ytmekcjonpmkoeaa
