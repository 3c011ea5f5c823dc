/-
  Proved, in its second form: for all arguments of Verify that hold together at most 2^20 values, hawserlaw10.MerkleVerifies answers true: merkle.Verify is the document's, and the path stays as it was. Condition: the second form's own.
-/
import Derived.Test.YthbnbomdngecmaaRows
import Derived.Test.YthbnbomdngecmaaMVw
import Derived.WalkKit
import Derived.ProofKit
import Derived.OpenShut
import Derived.ShutString
import Derived.ChangeOld
import Derived.Below
import Derived.Lib.SmallJoins
import Derived.JoinedCond
namespace Go.Proofs.Ythbnbomdngecmaa.merkleVerifies
open Go.ChangeShapes Go.WideShapes Go.ChangeAt Go.RowKit
set_option linter.unusedVariables false

theorem own : ownKnob Try.prog.godebug = none := by kernel_rfl
theorem laidOut : laidOutB Try.prog = true := by kernel_rfl

set_option maxRecDepth 20000 in
set_option maxHeartbeats 2000000 in
theorem walk (root : List Int) (d b : Int) (leaf : List Int) (a : Option Addr) (n cap : Nat) (ps : List Int) (w : World) (hr : root.length = 32) (hrb : Bytes root) (hl : leaf.length = 32) (hlb : Bytes leaf) (hs : Seg .u8 w a (32 * n) ps) (hpb : Bytes ps) (hc : n ≤ cap) (hcm : cap ≤ maxLen) (hao : a = none → cap = 0) (hn : n ≤ 1048576) :
    Calls Try.prog 6 #[.agg (pcs root d b leaf a n cap)] w fun e w' => e = .returned (.bool true) ∧ Below w.heap.size w w' := by
  have HB : Hid (Bk 39 (w.alloc (.cells (pcs root d b leaf a n cap) 39)) w.heap.size (pcs root d b leaf a n cap) ∧ w.grownBy (w.alloc (.cells (pcs root d b leaf a n cap) 39)) none) := blk_new w _ _
  have HS : Hid (Seg .u8 w a (32 * n) ps) := hs
  have HPI : Hid _ := pcs_int hr hl d b a n cap
  have HV : Hid (∀ a' c' W, Seg .u8 W a' (32 * n) ps → n ≤ c' → c' ≤ maxLen → Calls Try.prog 13 #[.agg (u8s root), .int .i64 d, .int .i64 b, .agg (u8s leaf), .slice a' n c'] W fun r w' => r = .returned (.int .i64 (vE root d b leaf ps n)) ∧ W.grownBy w' none) := fun a' c' W h1 h2 h3 => verify_c root d b leaf ps a' n c' W hr hrb hl hlb h1 hpb h2 h3
  have HG : Hid (∀ W, w.grownBy W none → Calls Try.prog 14 #[.agg (u8s root), .int .i64 d, .int .i64 b, .agg (u8s leaf), .slice a n cap] W fun r w' => r = .returned (.int .i64 (vE root d b leaf ps n)) ∧ W.grownBy w' none) := fun W hW => gverify_c root d b leaf ps a n cap W hr hrb hl hlb (hs.below (gb_below hW)) hpb hc hcm
  have HZ : Hid (∀ W, Calls Try.prog 13 #[.agg (u8s root), .int .i64 0, .int .i64 0, .agg (u8s leaf), .slice none 0 0] W fun r w' => r = .returned (.int .i64 61) ∧ W.grownBy w' none) := fun W => verify_c root 0 0 leaf [] none 0 0 W hr hrb hl hlb ⟨rfl, .inl rfl⟩ (fun i hi => by simp at hi) (Nat.le_refl _) (Nat.zero_le _)
  have HSD : Hid (∀ a' c' W, Seg .u8 W a' (32 * n) ps → w.grownBy W none → Calls Try.prog 15 #[.slice a' n c', .slice a n cap] W fun r w' => r = .returned (.bool true) ∧ W.grownBy w' none) := fun a' c' W h1 h2 => sameD_c a' a n c' cap ps W h1 (hs.below (gb_below h2)) hpb (by omega)
  have HRL : Hid (root.length = 32 ∧ leaf.length = 32) := ⟨hr, hl⟩
  obtain ⟨E, hE⟩ : ∃ E, E = vE root d b leaf ps n := ⟨_, rfl⟩
  rw [← hE] at HV HG
  obtain ⟨C, hC⟩ : ∃ C, C = pcs root d b leaf a n cap := ⟨_, rfl⟩
  have HCC : Hid (C = pcs root d b leaf a n cap) := hC
  rw [← hC] at HB HPI ⊢
  clear hE hC hr hrb hl hlb hs hpb
  have hc66 : (w.alloc (.cells C 39)).cell? ⟨w.heap.size, 66, none⟩ = some (.slice a n cap) := by rw [HB.out.1.cell]; exact HPI.out.2.2
  go_enter Try.func6, Try.ntmps6
  go_wp2_with (first
    | (at_builtin; go_must (refine wpList_allD rfl _ _ rfl rfl a n cap ps rfl hao hc (HS.out.below (gb_below HB.out.2)) hn ?_); intro a2 c2 w2 q1 q2 q3 q4; have H2 : Hid (Seg .u8 w2 a2 (32 * n) ps ∧ n ≤ c2 ∧ c2 ≤ maxLen ∧ Bk 39 w2 w.heap.size C ∧ w.grownBy w2 none) := ⟨q1, q2, q3, HB.out.1.gb q4, gb_trans HB.out.2 q4⟩; have hc32 : w2.cell? ⟨w.heap.size, 32, none⟩ = some (.int .i64 d) := (by rw [H2.out.2.2.2.1.cell]; exact HPI.out.1); have hc33 : w2.cell? ⟨w.heap.size, 33, none⟩ = some (.int .i64 b) := (by rw [H2.out.2.2.2.1.cell]; exact HPI.out.2.1); clear q1 q2 q3 q4)
    | (refine wpList_load_rg rfl (.tmp 8) rfl w.heap.size 0 root HRL.out.1 rfl (pcs_root (HCC.out ▸ H2.out.2.2.2.1)) ?_)
    | (refine wpList_load_rg rfl (.tmp 14) rfl w.heap.size 34 leaf HRL.out.2 rfl (pcs_leaf HRL.out.1 (HCC.out ▸ H2.out.2.2.2.1)) ?_)
    | (go_at_call 13; go_must (refine (Calls.mono (HV.out a2 c2 w2 H2.out.1 H2.out.2.1 H2.out.2.2.1) ?_)); rintro r w3 ⟨rfl, q⟩; have H3 : Hid (Seg .u8 w3 a2 (32 * n) ps ∧ Bk 39 w3 w.heap.size C ∧ w.grownBy w3 none) := ⟨H2.out.1.below (gb_below q), H2.out.2.2.2.1.gb q, gb_trans H2.out.2.2.2.2 q⟩; clear q))
  have e32 := fun p => cell_gw (show w3.cell? ⟨w.heap.size, 32, none⟩ = some (.int .i64 d) by rw [H3.out.2.1.cell]; exact HPI.out.1) p
  have e33 := fun p => cell_gw (show w3.cell? ⟨w.heap.size, 33, none⟩ = some (.int .i64 b) by rw [H3.out.2.1.cell]; exact HPI.out.2.1) p
  have e66 := fun p => cell_gw (show w3.cell? ⟨w.heap.size, 66, none⟩ = some (.slice a n cap) by rw [H3.out.2.1.cell]; exact HPI.out.2.2) p
  have HRR : Hid (w3.rangeAt w.heap.size 0 (u8s root).toList ∧ w3.rangeAt w.heap.size 34 (u8s leaf).toList) := ⟨pcs_root (HCC.out ▸ H3.out.2.1), pcs_leaf HRL.out.1 (HCC.out ▸ H3.out.2.1)⟩
  clear hc32 hc33 hc66
  refine wp_region_gb (by kernel_rfl) (by kernel_rfl) ?_
  repeat (first
    | (refine wpQuiet_load_rg rfl (.tmp 20) rfl w.heap.size 0 root HRL.out.1 rfl (fun W hW => by obtain ⟨p, rfl⟩ := hW; exact range_gw HRR.out.1 p) ?_)
    | (refine wpQuiet_load_rg rfl (.tmp 26) rfl w.heap.size 34 leaf HRL.out.2 rfl (fun W hW => by obtain ⟨p, rfl⟩ := hW; exact range_gw HRR.out.2 p) ?_)
    | (refine wpQuiet_load_rg rfl (.tmp 39) rfl w.heap.size 0 root HRL.out.1 rfl (fun W hW => by obtain ⟨p, rfl⟩ := hW; exact range_gw HRR.out.1 p) ?_)
    | (refine wpQuiet_load_rg rfl (.tmp 41) rfl w.heap.size 34 leaf HRL.out.2 rfl (fun W hW => by obtain ⟨p, rfl⟩ := hW; exact range_gw HRR.out.2 p) ?_)
    | quiet_step (first
      | (go_at_call 7; exact calls_gw (num_c _ _))
      | (go_at_call 14; exact calls_gb (HG.out _ (gb_trans H3.out.2.2 (gw_gb _ _))))
      | (go_at_call 15; exact calls_gb (HSD.out _ _ _ (H3.out.1.below (gb_below (gw_gb _ _))) (gb_trans H3.out.2.2 (gw_gb _ _))))
      | (go_at_call 13; exact calls_gb (HZ.out _))))
  refine wpQuiet_nil ?_
  intro w6 hw'
  obtain ⟨pq, hw6⟩ := hw'
  have H6 : Hid (w.grownBy w6 none) := by rw [hw6]; exact gb_trans H3.out.2.2 (gw_gb _ _)
  clear hw6 e32 e33 e66
  go_wp2
  go_ret
  exact ⟨rfl, gb_below H6.out⟩

set_option maxRecDepth 100000 in
theorem lifted (os : Os) (started : os.Started) (H : Type) (enc : TypeId × Value → H) (F : Stop.Interp) :
    ReturnsInHanded {} Try.checked os 6 .any ((Rows.OpenSpec.upto Rows.merkleVerifiesSpec).pre6 enc Try.prog Try.f6 Rows.merkleVerifiesUptoRow.domain false) (((Rows.OpenSpec.upto Rows.merkleVerifiesSpec).at F).post enc Try.prog Try.f6 false true false false) := by
  refine returnsInHanded_of_cond (C := Try.checked) (s := Rows.OpenSpec.upto Rows.merkleVerifiesSpec) (k := Rows.uptoSmall) rfl own started (by kernel_rfl) Try.func6
    (OpenSpec.witness (enc := enc) (C := Try.checked) (s := Rows.OpenSpec.upto Rows.merkleVerifiesSpec) (k := Rows.uptoSmall) rfl false ⟨#[], #[.agg #[.int .u8 0, .int .u8 0, .int .u8 0, .int .u8 0, .int .u8 0, .int .u8 0, .int .u8 0, .int .u8 0, .int .u8 0, .int .u8 0, .int .u8 0, .int .u8 0, .int .u8 0, .int .u8 0, .int .u8 0, .int .u8 0, .int .u8 0, .int .u8 0, .int .u8 0, .int .u8 0, .int .u8 0, .int .u8 0, .int .u8 0, .int .u8 0, .int .u8 0, .int .u8 0, .int .u8 0, .int .u8 0, .int .u8 0, .int .u8 0, .int .u8 0, .int .u8 0, .int .i64 0, .int .i64 0, .int .u8 0, .int .u8 0, .int .u8 0, .int .u8 0, .int .u8 0, .int .u8 0, .int .u8 0, .int .u8 0, .int .u8 0, .int .u8 0, .int .u8 0, .int .u8 0, .int .u8 0, .int .u8 0, .int .u8 0, .int .u8 0, .int .u8 0, .int .u8 0, .int .u8 0, .int .u8 0, .int .u8 0, .int .u8 0, .int .u8 0, .int .u8 0, .int .u8 0, .int .u8 0, .int .u8 0, .int .u8 0, .int .u8 0, .int .u8 0, .int .u8 0, .int .u8 0, .slice none 0 0]], []⟩ 8 (by kernel_rfl) (by kernel_rfl) (by kernel_rfl)
      (x := ([.agg [.agg [.lit (.int .u8 0), .lit (.int .u8 0), .lit (.int .u8 0), .lit (.int .u8 0), .lit (.int .u8 0), .lit (.int .u8 0), .lit (.int .u8 0), .lit (.int .u8 0), .lit (.int .u8 0), .lit (.int .u8 0), .lit (.int .u8 0), .lit (.int .u8 0), .lit (.int .u8 0), .lit (.int .u8 0), .lit (.int .u8 0), .lit (.int .u8 0), .lit (.int .u8 0), .lit (.int .u8 0), .lit (.int .u8 0), .lit (.int .u8 0), .lit (.int .u8 0), .lit (.int .u8 0), .lit (.int .u8 0), .lit (.int .u8 0), .lit (.int .u8 0), .lit (.int .u8 0), .lit (.int .u8 0), .lit (.int .u8 0), .lit (.int .u8 0), .lit (.int .u8 0), .lit (.int .u8 0), .lit (.int .u8 0)], .lit (.int .i64 0), .lit (.int .i64 0), .agg [.lit (.int .u8 0), .lit (.int .u8 0), .lit (.int .u8 0), .lit (.int .u8 0), .lit (.int .u8 0), .lit (.int .u8 0), .lit (.int .u8 0), .lit (.int .u8 0), .lit (.int .u8 0), .lit (.int .u8 0), .lit (.int .u8 0), .lit (.int .u8 0), .lit (.int .u8 0), .lit (.int .u8 0), .lit (.int .u8 0), .lit (.int .u8 0), .lit (.int .u8 0), .lit (.int .u8 0), .lit (.int .u8 0), .lit (.int .u8 0), .lit (.int .u8 0), .lit (.int .u8 0), .lit (.int .u8 0), .lit (.int .u8 0), .lit (.int .u8 0), .lit (.int .u8 0), .lit (.int .u8 0), .lit (.int .u8 0), .lit (.int .u8 0), .lit (.int .u8 0), .lit (.int .u8 0), .lit (.int .u8 0)], .nil]], [], [])) (by kernel_rfl) rfl (by kernel_rfl)) ?_
  intro W base args ds gs before hval0 hW hcnd hk _
  have hval : ∀ (j : Nat) t v, Try.f6.params[j]? = some t → args[j]? = some v → Value.okWide Try.prog W .any base t v := hval0
  have hW' := hW
  obtain ⟨p, q, hA0, hV, rfl, hfz, hnd⟩ := hW
  have hA : DataW.TrodAll enc Try.prog W 0 (fun _ => true) true Try.f6.params.toList args.toList ds p := hA0
  rw [Try.params6] at hA hval
  obtain ⟨v0, vs0, d0, ds0, p0, q0, hargs, rfl, rfl, h0, r0⟩ := trodAll_cons hA
  obtain ⟨rfl, rfl, rfl⟩ := trodAll_nil r0
  obtain rfl : args = #[v0] := by cases args; simp_all
  obtain ⟨rfl, rfl⟩ := trodVars_none hV
  have k0 := h0
  have lt0 : ∀ x ∈ p0, x.block < W.heap.size := by obtain ⟨m, hm⟩ := k0; exact DataW.trod_lt m _ _ _ hm
  obtain ⟨cs0, rfl, hsz0⟩ : ∃ cs, v0 = .agg cs ∧ cs.size = Try.prog.cellsOf 39 := by
    have hv := hval 0 39 v0 rfl rfl
    unfold Value.okWide at hv
    rw [Try.underlying39] at hv
    obtain ⟨cs, h1, h2, _⟩ := hv
    exact ⟨cs, h1, h2⟩
  obtain ⟨root0, dep0, buc0, leaf0, a0, n0, cap0, ps0, hP0, x00, x10, x20, x30, x40, x50, x60, x70, x80, x90⟩ := proof_open cs0 rfl (hsz0.trans (show Try.prog.cellsOf 39 = 67 from by kernel_rfl)) h0
  obtain rfl : cs0 = pcs root0 dep0 buc0 leaf0 a0 n0 cap0 := by injection hP0
  have y90 : n0 ≤ 1048576 := by
    have hAll : Rows.uptoBulkAll _ ≤ 1048576 := of_decide_eq_true hk
    exact Nat.le_trans x90 (Nat.le_trans (bulk_memM (show d0 ∈ _ by simp)) hAll)
  clear hA0 hval0
  refine (walk root0 dep0 buc0 leaf0 a0 n0 cap0 ps0 W x00 x10 x20 x30 x40 x50 x60 x70 x80 y90).mono fun e W' ⟨he, bel⟩ => ?_
  subst he
  exact ⟨_, rfl, _, _, _, [], _, [], hW', trodAll_mk1 (shut_bool Try.underlying4 _), (trodAll_cons_mk (Below.trod laidOut (by kernel_rfl) (of_decide_eq_true (by kernel_rfl)) k0 bel lt0) trodAll_mk0), rfl, bel.frame _, fun h => by cases h⟩

theorem over : Rows.merkleVerifiesUptoRow.holds Try.pinned (Rows.OpenSpec.upto Rows.merkleVerifiesSpec) :=
  OpenClaim.holds_of_cond 6 Try.f6 rfl rfl rfl rfl rfl rfl rfl ⟨rfl, rfl, rfl, rfl, rfl⟩ rfl rfl rfl rfl rfl (by kernel_rfl) Try.func6 (by kernel_rfl)
    (of_decide_eq_true (by kernel_rfl)) (by unfold Func.isWrapper; first | (rw [if_pos (by decide +kernel)]; kernel_rfl) | (rw [if_neg (by decide +kernel)]; exact ⟨rfl, rfl⟩))
    (fun os started H enc _ F => lifted os started H enc F)

end Go.Proofs.Ythbnbomdngecmaa.merkleVerifies
namespace Go.Proofs.Ythbnbomdngecmaa
theorem merkleVerifies_holds : Rows.MerkleVerifiesUptoSaid := merkleVerifies.over
#print axioms merkleVerifies_holds
end Go.Proofs.Ythbnbomdngecmaa
