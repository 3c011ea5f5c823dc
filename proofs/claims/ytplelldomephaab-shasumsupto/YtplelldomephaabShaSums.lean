/-
  Proved, in its second form: for all parts that hold together at most 2^20 values, hawserlaw05.ShaSums answers true: the digest of any parts is the document's, and the parts stay as they were. Condition: the second form's own.
-/
import Derived.Test.YtplelldomephaabRows
import Derived.Test.YtplelldomephaabSLs
import Derived.Test.YtplelldomephaabSGz
import Derived.Test.YtplelldomephaabSEq
import Derived.Test.YtplelldomephaabSSm
import Derived.WalkKit
import Derived.ProofKit
import Derived.OpenShut
import Derived.ShutString
import Derived.ChangeOld
import Derived.Below
import Derived.Lib.SmallJoins
import Derived.JoinedCond
namespace Go.Proofs.Ytplelldomephaab.shaSums
open Go.ChangeShapes Go.WideShapes Go.ChangeAt Go.RowKit
set_option linter.unusedVariables false

theorem own : ownKnob Try.prog.godebug = none := by kernel_rfl
theorem laidOut : laidOutB Try.prog = true := by kernel_rfl

theorem oneS {a : Option Addr} {l c : Nat} : ∀ u ∈ (#[Value.slice a l c] : Array Value).toList, u.oneCell' = true := by
  intro u hu
  simp at hu
  rw [hu]; rfl
theorem xlen {w : World} {a : Option Addr} {n : Nat} {X : List (List Int)} (h : Parts w a n X) : ∀ i, i < X.length → Bytes (X[i]?.getD []) ∧ (X[i]?.getD []).length ≤ 1048576 := fun i hi => by
  obtain ⟨b, off, _, _, hc⟩ := h.2.resolve_left (by have := h.1; omega)
  obtain ⟨_, pl, _, _, h2, h3, h4, _⟩ := hc i (by have := h.1; omega)
  exact ⟨h3, by rw [h2.1]; exact h4⟩
set_option maxRecDepth 20000 in
set_option maxHeartbeats 2000000 in
theorem walk (a : Option Addr) (n cap : Nat) (X : List (List Int)) (w : World) (hp : Parts w a n X) (hl : X.flatten.length + n ≤ 1048576) :
    Calls Try.prog 4 #[.slice a n cap] w fun e w' => e = .returned (.bool true) ∧ Below w.heap.size w w' := by
  have hzd := zD
  have HP : Hid (Parts w a n X) := hp
  have HLN : Hid (X.length = n) := hp.1
  have HXB : Hid (∀ i, i < X.length → Bytes (X[i]?.getD []) ∧ (X[i]?.getD []).length ≤ 1048576) := xlen hp
  have HNL : Hid (X.flatten.length + n ≤ 1048576) := hl
  have hn : n ≤ 1048576 := by omega
  obtain ⟨B, hB⟩ : ∃ B, B = w.heap.size := ⟨_, rfl⟩
  have HB : Hid (B = w.heap.size) := hB
  clear hp hl hB
  go_enter Try.func4, Try.ntmps4
  go_wp2
  go_loopw [3, 4, 14] (fun v u i wr => ∃ k : Nat, k ≤ n ∧ i = .int .i64 k ∧ Hid (Lents B wr v u k X ∧ w.grownBy wr none)) (fun _ _ i _ => n - (intOf i).toNat)
  case atStart => exact ⟨0, Nat.zero_le _, rfl, lents_none _ _ _, World.grownBy.refl _ _⟩
  case round =>
    obtain ⟨k, hk, rfl, hr⟩ := hrel
    by_cases hlt : k < n
    · have hi1 : (k : Int) < n := by omega
      obtain ⟨b, off, rfl, hbw, hcell⟩ := HP.out.2.resolve_left (by omega)
      obtain ⟨pa, pl, pc, c1, s1, b1, l1, m1⟩ := hcell k hlt
      have kc : wr.cell? ⟨b, off + k, none⟩ = some (.slice pa pl pc) := ((gb_below hr.out.2).cell (p := ⟨b, off + k, none⟩) hbw).trans c1
      obtain ⟨vs, us, ov, ou, hd, hi⟩ := hr.out.1
      have HLS : Hid (_ ∧ _ ∧ _ ∧ _) := ⟨ov, ou, hd, hi⟩
      have HSG : Hid (Seg .u8 wr pa pl (X[k]?.getD []) ∧ Bytes (X[k]?.getD []) ∧ pl ≤ 1048576) := ⟨s1.below (gb_below hr.out.2), b1, l1⟩
      have HBR : Hid (B ≤ wr.heap.size) := by show B ≤ _; rw [HB.out]; exact hr.out.2.size
      clear hcell c1 s1 b1 m1 ov ou hd hi
      go_wp2_with (first
        | (go_at_call 15; go_must (refine (lend_c pa pl pc _ wr HSG.out.1 HSG.out.2.1 (by omega)).mono ?_); rintro r w1 ⟨g, rfl, hg1, hr1, hb1⟩; have H1 : Hid (wr.heap.size ≤ g ∧ Row .u8 5 w1 g (lent (X[k]?.getD [])) ∧ Below wr.heap.size wr w1) := ⟨hg1, hr1, hb1⟩; have HOV : Hid (w1.ownsRow B 32 1 u3 k vs ∧ w1.ownsRow B 32 1 u4 k us ∧ B ≤ w1.heap.size) := ⟨rowGr HLS.out.1 (row := none) (grown_of hb1) (by simp), rowGr HLS.out.2.1 (row := none) (grown_of hb1) (by simp), Nat.le_trans HBR.out hb1.size⟩; clear hg1 hr1 hb1)
        | ((fail_if_success (have z := H2)); have z := H1; clear z; at_builtin; go_must (refine wpList_lit rfl _ _ 50 rfl B 32 (.slice none 0 0) 1 24 Try.underlying50 infoS8 rfl (by decide) w1 #[.slice (some ⟨g, 0, none⟩) (pl + 9) (pl + 9)] rfl u3 k vs rfl HOV.out.1 rfl rfl oneS (by unfold maxLen; omega) (by omega) HOV.out.2.2 ?_); intro g1 c1 w2 o1 b1 gr1 at1 lt1; have H2 : Hid (_ ∧ _ ∧ _ ∧ _ ∧ _) := ⟨o1, b1, gr1, at1, lt1⟩; have HO2 : Hid (w2.ownsRow B 32 1 u4 k us ∧ B ≤ w2.heap.size) := ⟨rowGr HOV.out.2.1 gr1 (fun q hq e => HLS.out.2.2.1 q e hq), Nat.le_trans HOV.out.2.2 gr1.size⟩; clear o1 b1 gr1 at1 lt1)
        | (have z := H2; clear z; at_builtin; go_must (refine wpList_lit rfl _ _ 50 rfl B 32 (.slice none 0 0) 1 24 Try.underlying50 infoS8 rfl (by decide) w2 #[.slice (some ⟨g, 0, none⟩) pl (pl + 9)] rfl u4 k us rfl HO2.out.1 rfl rfl oneS (by unfold maxLen; omega) (by omega) HO2.out.2 ?_); intro g2 c2 w3 o2 b2 gr2 at2 lt2; have H3 : Hid (_ ∧ _ ∧ _ ∧ _ ∧ _) := ⟨o2, b2, gr2, at2, lt2⟩; clear o2 b2 gr2 at2 lt2))
      have HFF : Hid (Lents B w3 (.slice (some ⟨g1, 0, none⟩) (k + 1) c1) (.slice (some ⟨g2, 0, none⟩) (k + 1) c2) (k + 1) X ∧ w.grownBy w3 none) := by
        refine ⟨lents_step HSG.out.1.1 HLS.out.1 HLS.out.2.1 HLS.out.2.2.1 HLS.out.2.2.2 H1.out.2.2 H1.out.1 H1.out.2.1 H2.out.1 H2.out.2.2.1 H2.out.2.2.2.1 H2.out.2.2.2.2 H3.out.1 H3.out.2.2.1 H3.out.2.2.2.1, ?_⟩
        have e1 : Below B w w1 := by rw [HB.out]; exact (gb_below hr.out.2).trans (H1.out.2.2.mono hr.out.2.size)
        have e2 := (e1.trans H2.out.2.1).trans H3.out.2.1
        rw [HB.out] at e2
        exact grown_of e2
      go_roundw
      case rel => exact ⟨k + 1, by omega, by go_num, HFF.out⟩
      case measure => simp [intOf]; omega
    · obtain rfl : k = n := by omega
      have hge : ¬ (k : Int) < k := by omega
      obtain ⟨wl, hwl⟩ : ∃ wl, wl = wr := ⟨_, rfl⟩
      subst hwl
      rw [← HLN.out] at hr
      obtain ⟨ua, uc, hu4, hsp⟩ := hr.out.1.part HXB.out
      obtain ⟨va, vc, hu3, hwh⟩ := hr.out.1.whole
      rw [HLN.out] at hu3 hu4
      subst hu3 hu4
      rw [HLN.out] at hsp hwh hr
      have HSP : Hid (SParts wl ua k X) := hsp
      have HWH : Hid (k = 0 ∨ ∃ b, va = some ⟨b, 0, none⟩ ∧ b < wl.heap.size ∧ ∀ i, i < k → ∃ g, wl.cell? ⟨b, 0 + i, none⟩ = some (.slice (some ⟨g, 0, none⟩) ((X[i]?.getD []).length + 9) ((X[i]?.getD []).length + 9)) ∧ Row .u8 5 wl g (lent (X[i]?.getD []))) := hwh
      have HGW : Hid (w.grownBy wl none) := hr.out.2
      have HT : Hid (X.flatten.length < 2305843009213693952) := by have := HNL.out; show _ < _; omega
      have HSL : Hid ((sha X.flatten).length = 32 ∧ Bytes (sha X.flatten)) := ⟨sha_len _, sha_bytes _⟩
      have HS1 : Hid (Calls Try.prog 16 #[.slice ua k uc] wl fun r w' => r = .returned (.agg (u8s (sha X.flatten))) ∧ wl.grownBy w' none) := sum_c ua k uc X wl HSP.out (by omega) HT.out
      have HS2 : Hid (∀ W, w.grownBy W none → Calls Try.prog 17 #[.slice a k cap] W fun r w' => r = .returned (.agg (u8s (sha X.flatten))) ∧ W.grownBy w' none) := fun W hW => gsums_c a k cap X W (HP.out.below (gb_below hW)) (by omega) HT.out
      obtain ⟨E, hE⟩ : ∃ E, E = sha X.flatten := ⟨_, rfl⟩
      rw [← hE] at HSL HS1 HS2
      have heq := fun W => eqD E HSL.out.2 HSL.out.1 W
      clear hE hsp hwh hr
      go_wp2_with (first
        | (go_at_call 16; go_must (refine (Calls.mono HS1.out ?_)); rintro r w4 ⟨rfl, h4⟩; have H4 : Hid (wl.grownBy w4 none) := h4; clear h4)
        | (refine wpList_store_bk 53 rfl (.tmp 9) (.tmp 33) rfl infoD w4.heap.size (u8s dz32) (u8s E) rfl rfl (blk_new w4 _ _).1 rfl (by rw [u8s_size]; exact HSL.out.1) (u8s_one _) ?_; intro w5 h1 h2; have H5 : Hid (Bk 53 w5 w4.heap.size (u8s E) ∧ w4.grownBy w5 none) := ⟨h1, gb_new (blk_new w4 _ _).2 h2⟩; clear h1 h2))
      have HG5 : Hid (wl.grownBy w5 none) := gb_trans H4.out H5.out.2
      obtain ⟨D, hD⟩ : ∃ D, D = w4.heap.size := ⟨_, rfl⟩
      rw [← hD] at H5 ⊢
      clear hD
      refine wp_region_gb (by kernel_rfl) (by kernel_rfl) ?_
      repeat (first
        | (refine wpQuiet_load_bk rfl 53 (.tmp 9) rfl Try.underlying53 rfl infoD D (u8s E) rfl (fun W hW => by obtain ⟨p, rfl⟩ := hW; exact bk_gw H5.out.1 p) (by rw [u8s_size]; exact HSL.out.1) ?_)
        | quiet_step (first | (go_at_call 17; exact calls_gb (HS2.out _ (gb_trans (gb_trans HGW.out HG5.out) (gw_gb _ _))))))
      refine wpQuiet_nil ?_
      intro w6 hw'
      obtain ⟨pq, hw6⟩ := hw'
      have H6 : Hid (wl.grownBy w6 none) := by rw [hw6]; exact gb_trans HG5.out (gw_gb _ _)
      clear hw6 heq
      go_wp2
      go_loopw [40] (fun i wr => ∃ j : Nat, j ≤ k ∧ i = .int .i64 j ∧ Hid (wl.grownBy wr none)) (fun i _ => k - (intOf i).toNat)
      case atStart => exact ⟨0, Nat.zero_le _, rfl, H6.out⟩
      case round =>
        obtain ⟨j, hj, rfl, hx⟩ := hrel
        by_cases hlt2 : j < k
        · have hi1 : (j : Int) < k := by omega
          have hi0 : (0 : Int) ≤ j := by omega
          obtain ⟨b, off, rfl, hbw, hcell⟩ := HP.out.2.resolve_left (by omega)
          obtain ⟨pa, pl, pc, c1, s1, b1, l1, m1⟩ := hcell j hlt2
          obtain ⟨b2, rfl, hb2, hcell2⟩ := HWH.out.resolve_left (by omega)
          obtain ⟨g, c2, r2⟩ := hcell2 j hlt2
          rw [s1.1, Nat.zero_add] at c2
          have kc : wr.cell? ⟨b, off + j, none⟩ = some (.slice pa pl pc) := ((gb_below (gb_trans HGW.out hx.out)).cell (p := ⟨b, off + j, none⟩) hbw).trans c1
          have kc2 : wr.cell? ⟨b2, j, none⟩ = some (.slice (some ⟨g, 0, none⟩) (pl + 9) (pl + 9)) := ((gb_below hx.out).cell (p := ⟨b2, j, none⟩) hb2).trans c2
          have HKP : Hid (Calls Try.prog 18 #[.slice (some ⟨g, 0, none⟩) (pl + 9) (pl + 9), .slice pa pl pc] wr fun e w' => e = .returned (.bool true) ∧ ∃ n, w' = wr.drewN n) := kept_c g (pl + 9) pa pl pc _ wr (r2.gr hx.out (by simp)) (s1.below (gb_below (gb_trans HGW.out hx.out))) b1 (by omega)
          clear hcell c1 s1 b1 l1 m1 hcell2 c2 r2
          go_wp2_with (first
            | (go_at_call 18; go_must (refine (Calls.mono HKP.out ?_)); rintro r w7 ⟨rfl, m, rfl⟩))
          go_roundw
          case rel => exact ⟨j + 1, by omega, by go_num, gb_drewN hx.out m⟩
          case measure => simp [intOf]; omega
        · go_wp2
          go_ret
          exact ⟨rfl, gb_below (gb_trans HGW.out hx.out)⟩

theorem bulk_len {H : Type} (l : List (DataW H)) : l.length ≤ Rows.uptoBulkAll l := by
  induction l with
  | nil => simp
  | cons d r ih =>
    have : 1 ≤ Rows.uptoBulk d := by
      cases d with
      | lit x => cases x <;> simp [Rows.uptoBulk]
      | _ => simp [Rows.uptoBulk]
    simp only [Rows.uptoBulkAll, List.length_cons]; omega
theorem bulk_mem {H : Type} {d : DataW H} {l : List (DataW H)} (h : d ∈ l) : Rows.uptoBulk d ≤ Rows.uptoBulkAll l := by
  induction l with
  | nil => cases h
  | cons x r ih =>
    simp only [Rows.uptoBulkAll]
    rcases List.mem_cons.1 h with rfl | h
    · omega
    · have := ih h; omega
theorem bulk_slice {H : Type} {ds : List (DataW H)} {d : DataW H} {l r : List (DataW H)} (hk : Rows.uptoSmall H ds = true) (hd : d ∈ ds) (e : d = .slice l r) : l.length + r.length ≤ 1048576 := by
  have h0 : Rows.uptoBulkAll ds ≤ 1048576 := of_decide_eq_true hk
  have h1 := bulk_mem hd
  have h3 := bulk_len l
  have h4 := bulk_len r
  rw [e] at h1
  simp only [Rows.uptoBulk] at h1
  omega

set_option maxRecDepth 100000 in
theorem lifted (os : Os) (started : os.Started) (H : Type) (enc : TypeId × Value → H) (F : Stop.Interp) :
    ReturnsInHanded {} Try.checked os 4 .any ((Rows.OpenSpec.upto Rows.shaSumsSpec).pre6 enc Try.prog Try.f4 Rows.shaSumsUptoRow.domain false) (((Rows.OpenSpec.upto Rows.shaSumsSpec).at F).post enc Try.prog Try.f4 false true false false) := by
  refine returnsInHanded_of_cond (C := Try.checked) (s := Rows.OpenSpec.upto Rows.shaSumsSpec) (k := Rows.uptoSmall) rfl own started (by kernel_rfl) Try.func4
    (OpenSpec.witness (enc := enc) (C := Try.checked) (s := Rows.OpenSpec.upto Rows.shaSumsSpec) (k := Rows.uptoSmall) rfl false ⟨#[], #[.slice none 0 0], []⟩ 8 (by kernel_rfl) (by kernel_rfl) (by kernel_rfl)
      (x := ([.nil], [], [])) (by kernel_rfl) rfl (by kernel_rfl)) ?_
  intro W base args ds gs before hval0 hW hcnd hk _
  have hval : ∀ (j : Nat) t v, Try.f4.params[j]? = some t → args[j]? = some v → Value.okWide Try.prog W .any base t v := hval0
  have hW' := hW
  obtain ⟨p, q, hA0, hV, rfl, hfz, hnd⟩ := hW
  have hA : DataW.TrodAll enc Try.prog W 0 (fun _ => true) true Try.f4.params.toList args.toList ds p := hA0
  rw [Try.params4] at hA hval
  obtain ⟨v0, vs0, d0, ds0, p0, q0, hargs, rfl, rfl, h0, r0⟩ := trodAll_cons hA
  obtain ⟨rfl, rfl, rfl⟩ := trodAll_nil r0
  obtain rfl : args = #[v0] := by cases args; simp_all
  obtain ⟨rfl, rfl⟩ := trodVars_none hV
  have k0 := h0
  have lt0 : ∀ x ∈ p0, x.block < W.heap.size := by obtain ⟨m, hm⟩ := k0; exact DataW.trod_lt m _ _ _ hm
  obtain ⟨a0, n0, cap0, X0, rfl, x0, y0⟩ : ∃ a n cap X, v0 = .slice a n cap ∧ Parts W a n X ∧ X.flatten.length + n ≤ 1048576 := by
    obtain ⟨sa, sl, sc, hv⟩ := okWide_slice Try.underlying50 (hval 0 50 v0 rfl rfl)
    have hAll : Rows.uptoBulkAll _ ≤ 1048576 := of_decide_eq_true hk
    exact parts_open sa sl sc hv h0 (Nat.le_trans (bulk_mem (show d0 ∈ _ by simp)) hAll)
  clear hA0 hval0
  refine (walk a0 n0 cap0 X0 W x0 y0).mono fun e W' ⟨he, bel⟩ => ?_
  subst he
  exact ⟨_, rfl, _, _, _, [], _, [], hW', trodAll_mk1 (shut_bool Try.underlying4 _), (trodAll_cons_mk (Below.trod laidOut (by kernel_rfl) (of_decide_eq_true (by kernel_rfl)) k0 bel lt0) trodAll_mk0), rfl, bel.frame _, fun h => by cases h⟩

theorem over : Rows.shaSumsUptoRow.holds Try.pinned (Rows.OpenSpec.upto Rows.shaSumsSpec) :=
  OpenClaim.holds_of_cond 4 Try.f4 rfl rfl rfl rfl rfl rfl rfl ⟨rfl, rfl, rfl, rfl, rfl⟩ rfl rfl rfl rfl rfl (by kernel_rfl) Try.func4 (by kernel_rfl)
    (of_decide_eq_true (by kernel_rfl)) (by unfold Func.isWrapper; first | (rw [if_pos (by decide +kernel)]; kernel_rfl) | (rw [if_neg (by decide +kernel)]; exact ⟨rfl, rfl⟩))
    (fun os started H enc _ F => lifted os started H enc F)

end Go.Proofs.Ytplelldomephaab.shaSums
namespace Go.Proofs.Ytplelldomephaab
theorem shaSums_holds : Rows.ShaSumsUptoSaid := shaSums.over
#print axioms shaSums_holds
end Go.Proofs.Ytplelldomephaab
