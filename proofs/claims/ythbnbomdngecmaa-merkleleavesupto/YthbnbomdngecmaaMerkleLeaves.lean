/-
  Proved, in its second form: for all rows that hold together at most 2^20 values, hawserlaw10.MerkleLeaves answers true: merkle.Leaf is the document's digest of them, and they stay as they were, what stands behind them, too. Condition: the second form's own.
-/
import Derived.Test.YthbnbomdngecmaaRows
import Derived.Test.YthbnbomdngecmaaMRl
import Derived.WalkKit
import Derived.ProofKit
import Derived.OpenShut
import Derived.ShutString
import Derived.ChangeOld
import Derived.Below
import Derived.Lib.SmallJoins
import Derived.JoinedCond
namespace Go.Proofs.Ythbnbomdngecmaa.merkleLeaves
open Go.ChangeShapes Go.WideShapes Go.ChangeAt Go.RowKit
set_option linter.unusedVariables false

theorem own : ownKnob Try.prog.godebug = none := by kernel_rfl
theorem laidOut : laidOutB Try.prog = true := by kernel_rfl

def rMark : Rw := (⟨#[109, 97, 114, 107]⟩, ⟨#[]⟩, 0)
def rKram : Rw := (⟨#[107, 114, 97, 109]⟩, ⟨#[]⟩, 0)
theorem lit_news (w : World) : ∀ j u, (flW [rMark, rKram])[j]? = some u → (w.alloc (.cells (flW [rMark, rKram]).toArray 30)).cell? ((⟨w.heap.size, 0, none⟩ : Addr).add j) = some u := World.news_of_block (heap_new w _)
/-- The rows and the two behind them, in a block. -/
def Full (w : World) (g : Nat) (X : List Rw) : Prop := Rws w.heap.size w (some ⟨g, 0, none⟩) X ∧ w.cell? ⟨g, X.length * 3, none⟩ = some (.string ⟨#[109, 97, 114, 107]⟩) ∧ w.cell? ⟨g, (X.length + 1) * 3, none⟩ = some (.string ⟨#[107, 114, 97, 109]⟩) ∧ g < w.heap.size
theorem Full.later {w W : World} {g : Nat} {X : List Rw} (h : Full w g X) (hg : w.grownBy W none) : Full W g X := by
  obtain ⟨h1, h2, h3, h4⟩ := h
  refine ⟨?_, ((gb_below hg).cell (p := ⟨g, X.length * 3, none⟩) h4).trans h2, ((gb_below hg).cell (p := ⟨g, (X.length + 1) * 3, none⟩) h4).trans h3, Nat.lt_of_lt_of_le h4 hg.size⟩
  rcases h1.kb (KB.gb hg (Nat.le_refl _)) with q | ⟨b, off, ha, hb, hc⟩
  · exact .inl q
  · exact .inr ⟨b, off, ha, Nat.lt_of_lt_of_le hb hg.size, hc⟩
theorem own_cap {B : Nat} {w : World} {g m c : Nat} {xs : List Value} (h : w.ownsRow B 30 3 (.slice (some ⟨g, 0, none⟩) m c) m xs) : m ≤ c := by
  rcases h.2 with ⟨h0, _⟩ | ⟨g', cap', cur, hv, _, _, hc, _⟩
  · cases h0
  · cases hv; exact hc
theorem full_of {B : Nat} {w : World} {g m c : Nat} {X : List Rw} (h : w.ownsRow B 30 3 (.slice (some ⟨g, 0, none⟩) m c) m (flW (X ++ [rMark, rKram]))) (hm : (X ++ [rMark, rKram]).length = m) : Full w g X := by
  have hm' : X.length + 2 = m := by simpa using hm
  have g0 := flW_get (X ++ [rMark, rKram]) X.length (by simp)
  have g1 := flW_get (X ++ [rMark, rKram]) (X.length + 1) (by simp)
  have e0 : (X ++ [rMark, rKram]).getD X.length rw0 = rMark := by simp
  have e1 : (X ++ [rMark, rKram]).getD (X.length + 1) rw0 = rKram := by simp
  rw [e0] at g0
  rw [e1] at g1
  refine ⟨own_rws h hm, (own_cellR h _ (by omega)).trans g0.1, (own_cellR h _ (by omega)).trans g1.1, ?_⟩
  rcases h.2 with ⟨h0, _⟩ | ⟨g', cap', cur, hv, _, hb, _⟩
  · cases h0
  · cases hv; exact lt_of_block hb
set_option maxRecDepth 20000 in
set_option maxHeartbeats 2000000 in
theorem walk (a : Option Addr) (cap : Nat) (X : List Rw) (w : World) (hR : Rws w.heap.size w a X) (hlc : X.length ≤ cap) (hcm : cap ≤ maxLen) (hnz : a = none → cap = 0) (hT : totR X ≤ 1048576) :
    Calls Try.prog 4 #[.slice a X.length cap] w fun e w' => e = .returned (.bool true) ∧ Below w.heap.size w w' := by
  have hzd := zD
  have hXl : X.length ≤ 262144 := by have := tot_len X; omega
  have HR : Hid (Rws w.heap.size w a X) := hR
  have HL : Hid (∀ a' c' W, Rws W.heap.size W a' X → Calls Try.prog 8 #[.slice a' X.length c'] W fun e w' => e = .returned (.agg (u8s (sha (0 :: picB X (List.range X.length))))) ∧ W.grownBy w' none) := fun a' c' W h => leaf_c a' c' X W (by omega) (sml_of hT) h
  have HG : Hid (∀ W, w.grownBy W none → Calls Try.prog 10 #[.slice a X.length cap] W fun e w' => e = .returned (.agg (u8s (sha (0 :: picB X (List.range X.length))))) ∧ W.grownBy w' none) := fun W hW => gleaf_c a cap X W (by omega) (sml_of hT) (pic_small hT) (by
    rcases hR.kb (KB.gb hW (Nat.le_refl _)) with q | ⟨b, off, ha, hb, hc⟩
    · exact .inl q
    · exact .inr ⟨b, off, ha, Nat.lt_of_lt_of_le hb hW.size, hc⟩)
  have HSA : Hid (∀ a' c' W, Rws W.heap.size W a' X → w.grownBy W none → Calls Try.prog 9 #[.slice a' X.length c', .slice a X.length cap] W fun r w' => r = .returned (.bool true) ∧ W.grownBy w' none) := fun a' c' W h hW => sameR_c a' a c' cap W.heap.size w.heap.size X W h (hR.kb (KB.gb hW (Nat.le_refl _))) (Nat.le_refl _) hW.size (by omega)
  have HSL : Hid ((sha (0 :: picB X (List.range X.length))).length = 32) := sha_len _
  have heq := fun W => eqD (sha (0 :: picB X (List.range X.length))) (sha_bytes _) (sha_len _) W
  have HNW : Hid (∀ W, w.grownBy W none → ∀ ad, a = some ad → ∀ j u, (flW X)[j]? = some u → W.cell? (ad.add j) = some u) := fun W hW ad ha => by
    have h := hR.kb (KB.gb hW (Nat.le_refl _))
    rw [ha] at h
    exact rws_news h
  have HNZ : Hid (a = none → cap = 0 ∧ X = []) := fun e => ⟨hnz e, by rcases hR with q | ⟨b, off, ha, _⟩; exact q; rw [e] at ha; cases ha⟩
  obtain ⟨E, hE⟩ : ∃ E, E = sha (0 :: picB X (List.range X.length)) := ⟨_, rfl⟩
  rw [← hE] at HL HG HSL heq
  have HFL : Hid ((X ++ [rMark, rKram]).length = X.length + 2) := by show _ = _; simp
  clear hE hR hT hcm hnz
  obtain ⟨N, hN⟩ : ∃ N, N = X.length := ⟨_, rfl⟩
  have HN : Hid (N = X.length) := hN
  rw [← hN] at hXl HL HG HSA HFL ⊢
  clear hN hlc
  have i0 : (0 : Int) ≤ N := by omega
  have i1 : (N : Int) < ((N + 2 : Nat) : Int) := by omega
  have i2 : (N : Int) + 1 < ((N + 2 : Nat) : Int) := by omega
  obtain ⟨M, hM⟩ : ∃ M, M = N + 2 := ⟨_, rfl⟩
  rw [← hM] at i1 i2 HFL
  have HM : Hid (M = N + 2) := hM
  clear hM
  go_enter Try.func4, Try.ntmps4
  go_wp2_with (first
    | ((fail_if_success (have z := H1)); at_builtin; go_must (refine wpList_catR rfl _ (.tmp 6) rfl w.heap.size (.slice none 0 0) [] rfl ⟨rfl, .inl ⟨rfl, rfl⟩⟩ a cap X (by rw [← HN.out]; rfl) HNZ.out (HNW.out w (World.grownBy.refl _ _)) (by rw [← HN.out]; simp; omega) (Nat.le_refl _) ?_); intro v1 w1 k1 k2; have H1 : Hid (w1.ownsRow w.heap.size 30 3 v1 X.length (flW X) ∧ w.grownBy w1 none) := ⟨k1, k2⟩; clear k1 k2)
    | (have z := H1; clear z; (fail_if_success (have z := H2)); at_builtin; go_must (refine wpList_catR rfl (.tmp 7) (.tmp 10) rfl w.heap.size v1 X rfl (own_gb H1.out.1 (gb_alloc w1 (.cells (flW [rMark, rKram]).toArray 30))) (some ⟨w1.heap.size, 0, none⟩) 2 [rMark, rKram] rfl (fun e => by cases e) (fun ad e => by cases e; exact lit_news w1) (by rw [← HN.out]; simp; omega) (Nat.le_trans H1.out.2.size (gb_alloc w1 _).size) ?_); intro v2 w2 k1 k2; rw [HFL.out] at k1; obtain ⟨g, cp, rfl, hg1, hg2⟩ := World.ownsRow.form k1 (by have := HM.out; omega); have H2 : Hid (w2.ownsRow w.heap.size 30 3 (.slice (some ⟨g, 0, none⟩) M cp) M (flW (X ++ [rMark, rKram])) ∧ w.grownBy w2 none) := ⟨k1, grown_ofM (((gb_below H1.out.2).trans ((Below.refl _ w1).alloc H1.out.2.size _)).trans (gb_own (own_gb H1.out.1 (gb_alloc w1 (.cells (flW [rMark, rKram]).toArray 30))) k2 (Nat.le_trans H1.out.2.size (gb_alloc w1 _).size)))⟩; have HF2 : Hid (Full w2 g X ∧ N ≤ cp ∧ w.grownBy w2 none) := ⟨full_of H2.out.1 (HFL.out), by have := own_cap H2.out.1; have := HM.out; omega, H2.out.2⟩; have hsl := fun W => slice_rh g M cp N HF2.out.2.1 W; clear k1 k2 hg1 hg2)
    | (go_at_call 8; go_must (refine (Calls.mono (HL.out _ _ _ HF2.out.1.1) ?_)); rintro r w3 ⟨rfl, q⟩; have H3 : Hid (Full w3 g X ∧ w.grownBy w3 none) := ⟨HF2.out.1.later q, gb_trans HF2.out.2.2 q⟩; clear q)
    | (refine wpList_store_bk 25 rfl (.tmp 4) (.tmp 16) rfl infoD w3.heap.size (u8s dz32) (u8s E) rfl rfl (blk_new w3 _ _).1 rfl (by rw [u8s_size]; exact HSL.out) (u8s_one _) ?_; intro w4 q1 q2; have H4 : Hid (Bk 25 w4 w3.heap.size (u8s E) ∧ Full w4 g X ∧ w.grownBy w4 none) := ⟨q1, H3.out.1.later (gb_new (blk_new w3 _ _).2 q2), gb_trans H3.out.2 (gb_new (blk_new w3 _ _).2 q2)⟩; clear q1 q2)
    | (go_at_call 9; go_must (refine (Calls.mono (HSA.out _ _ _ H4.out.2.1.1 H4.out.2.2) ?_)); rintro r w5 ⟨rfl, q⟩; have H5 : Hid (Bk 25 w5 w3.heap.size (u8s E) ∧ Full w5 g X ∧ w.grownBy w5 none) := ⟨H4.out.1.gb q, H4.out.2.1.later q, gb_trans H4.out.2.2 q⟩; have cm : w5.cell? ⟨g, N * 3, none⟩ = some (.string ⟨#[109, 97, 114, 107]⟩) := (by rw [HN.out]; exact H5.out.2.1.2.1); have ck : w5.cell? ⟨g, (N + 1) * 3, none⟩ = some (.string ⟨#[107, 114, 97, 109]⟩) := (by rw [HN.out]; exact H5.out.2.1.2.2.1); clear q))
  clear cm ck hsl
  refine wp_region_gb (by kernel_rfl) (by kernel_rfl) ?_
  repeat (first
    | (refine wpQuiet_load_bk rfl 25 (.tmp 4) rfl Try.underlying25 rfl infoD w3.heap.size (u8s E) rfl (fun W hW => by obtain ⟨p, rfl⟩ := hW; exact bk_gw H5.out.1 p) (by rw [u8s_size]; exact HSL.out) ?_)
    | quiet_step (first | (go_at_call 10; exact calls_gb (HG.out _ (gb_trans H5.out.2.2 (gw_gb _ _))))))
  refine wpQuiet_nil ?_
  intro w6 hw'
  obtain ⟨pq, hw6⟩ := hw'
  have H6 : Hid (w.grownBy w6 none) := by rw [hw6]; exact gb_trans H5.out.2.2 (gw_gb _ _)
  clear hw6 heq
  go_wp2
  go_ret
  exact ⟨rfl, gb_below H6.out⟩

set_option maxRecDepth 100000 in
theorem lifted (os : Os) (started : os.Started) (H : Type) (enc : TypeId × Value → H) (F : Stop.Interp) :
    ReturnsInHanded {} Try.checked os 4 .any ((Rows.OpenSpec.upto Rows.merkleLeavesSpec).pre6 enc Try.prog Try.f4 Rows.merkleLeavesUptoRow.domain false) (((Rows.OpenSpec.upto Rows.merkleLeavesSpec).at F).post enc Try.prog Try.f4 false true false false) := by
  refine returnsInHanded_of_cond (C := Try.checked) (s := Rows.OpenSpec.upto Rows.merkleLeavesSpec) (k := Rows.uptoSmall) rfl own started (by kernel_rfl) Try.func4
    (OpenSpec.witness (enc := enc) (C := Try.checked) (s := Rows.OpenSpec.upto Rows.merkleLeavesSpec) (k := Rows.uptoSmall) rfl false ⟨#[], #[.slice none 0 0], []⟩ 8 (by kernel_rfl) (by kernel_rfl) (by kernel_rfl)
      (x := ([.nil], [], [])) (by kernel_rfl) rfl (by kernel_rfl)) ?_
  intro W base args ds gs before hval0 hW hcnd hk _
  have hval : ∀ (j : Nat) t v, Try.f4.params[j]? = some t → args[j]? = some v → Value.okWide Try.prog W .any base t v := hval0
  have hW' := hW
  obtain ⟨p, q, hA0, hV, rfl, hfz, hnd⟩ := hW
  have hA : DataW.TrodAll enc Try.prog W 0 (fun _ => true) true Try.f4.params.toList args.toList ds p := hA0
  rw [Try.params4] at hA hval
  obtain ⟨v0, vs0, d0, ds0, p0, q0, hargs, rfl, rfl, h0, r0⟩ := trodAll_cons hA
  obtain ⟨rfl, rfl, rfl⟩ := trodAll_nil r0
  obtain rfl : args = #[v0] := by cases args; simp_all
  obtain ⟨rfl, rfl⟩ := trodVars_none hV
  have k0 := h0
  have lt0 : ∀ x ∈ p0, x.block < W.heap.size := by obtain ⟨m, hm⟩ := k0; exact DataW.trod_lt m _ _ _ hm
  obtain ⟨a0, cap0, X0, rfl, x0, lc0, cm0, nz0, y0⟩ : ∃ a cap X, v0 = .slice a X.length cap ∧ Rws W.heap.size W a X ∧ X.length ≤ cap ∧ cap ≤ maxLen ∧ (a = none → cap = 0) ∧ totR X ≤ 1048576 := by
    obtain ⟨sa, sl, sc, hv⟩ := okWide_slice Try.underlying28 (hval 0 28 v0 rfl rfl)
    obtain ⟨a, cap, X, h1, h2, h3, h4, h5, h6⟩ := rows_open sa sl sc hv h0
    have hAll : Rows.uptoBulkAll _ ≤ 1048576 := of_decide_eq_true hk
    exact ⟨a, cap, X, h1, h2, h3, h4, h5, Nat.le_trans h6 (Nat.le_trans (bulk_memR (show d0 ∈ _ by simp)) hAll)⟩
  clear hA0 hval0
  refine (walk a0 cap0 X0 W x0 lc0 cm0 nz0 y0).mono fun e W' ⟨he, bel⟩ => ?_
  subst he
  exact ⟨_, rfl, _, _, _, [], _, [], hW', trodAll_mk1 (shut_bool Try.underlying4 _), (trodAll_cons_mk (Below.trod laidOut (by kernel_rfl) (of_decide_eq_true (by kernel_rfl)) k0 bel lt0) trodAll_mk0), rfl, bel.frame _, fun h => by cases h⟩

theorem over : Rows.merkleLeavesUptoRow.holds Try.pinned (Rows.OpenSpec.upto Rows.merkleLeavesSpec) :=
  OpenClaim.holds_of_cond 4 Try.f4 rfl rfl rfl rfl rfl rfl rfl ⟨rfl, rfl, rfl, rfl, rfl⟩ rfl rfl rfl rfl rfl (by kernel_rfl) Try.func4 (by kernel_rfl)
    (of_decide_eq_true (by kernel_rfl)) (by unfold Func.isWrapper; first | (rw [if_pos (by decide +kernel)]; kernel_rfl) | (rw [if_neg (by decide +kernel)]; exact ⟨rfl, rfl⟩))
    (fun os started H enc _ F => lifted os started H enc F)

end Go.Proofs.Ythbnbomdngecmaa.merkleLeaves
namespace Go.Proofs.Ythbnbomdngecmaa
theorem merkleLeaves_holds : Rows.MerkleLeavesUptoSaid := merkleLeaves.over
#print axioms merkleLeaves_holds
end Go.Proofs.Ythbnbomdngecmaa
