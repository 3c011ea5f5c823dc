/-
  Proved: for every two lists of ranges and list of texts that together are of bulk at most 1048576, hawserlaw06.SpanMembers answers true: a text is in Normal, Meet and Minus just if it is in the lists so, and what they answer is in normal form. Condition: that bulk.
-/
import Derived.Test.YtggkkpbgnlmfeabRows
import Derived.Test.YtggkkpbgnlmfeabNAw
import Derived.Test.YtggkkpbgnlmfeabNMm
import Derived.Test.YtggkkpbgnlmfeabNLv
import Derived.Test.YtggkkpbgnlmfeabNRo
import Derived.Test.YtggkkpbgnlmfeabNNm
import Derived.Test.YtggkkpbgnlmfeabNLh
import Derived.WalkKit
import Derived.ProofKit
import Derived.OpenShut
import Derived.ShutString
import Derived.ChangeOld
import Derived.Below
import Derived.Lib.SmallJoins
import Derived.JoinedCond
namespace Go.Proofs.Ytggkkpbgnlmfeab.spanMembers
open Go.ChangeShapes Go.WideShapes Go.ChangeAt Go.RowKit
set_option linter.unusedVariables false

theorem own : ownKnob Try.prog.godebug = none := by kernel_rfl
theorem laidOut : laidOutB Try.prog = true := by kernel_rfl

theorem normal_n (A : List Rg) (a : Option Addr) (n ca : Nat) (hl : A.length = n) (w : World) (hA : Cells w a (flR A)) (hn : A.length ≤ 1099511627776) :
    Calls Try.prog 12 #[.slice a n ca] w fun e w' => ∃ v R, e = .returned v ∧ w'.ownsRow w.heap.size 40 2 v R.length (flR R) ∧ Nrm R ∧ (∀ t, lHas R t = lHas A t) ∧ R.length ≤ 2 * A.length + 1 ∧ w.grownBy w' none := by
  subst hl; exact normal_c A a ca w hA hn
def ends (A : List Rg) : List ByteArray := A.flatMap fun r => [r.1, r.2]
theorem ends_len (A : List Rg) : (ends A).length = 2 * A.length := by
  induction A with
  | nil => rfl
  | cons r A ih => simp only [ends, List.flatMap_cons, List.length_append, List.length_cons, List.length_nil] at ih ⊢; omega
theorem ends_snoc (A : List Rg) (k : Nat) (h : k < A.length) : ends (A.take (k + 1)) = ends (A.take k) ++ [(A.getD k (.empty, .empty)).1, (A.getD k (.empty, .empty)).2] := by
  have e : A.getD k (.empty, .empty) = A[k] := by simp [h]
  rw [List.take_succ_eq_append_getElem h, e, ends, List.flatMap_append]
  simp [ends]
set_option maxRecDepth 20000 in
set_option maxHeartbeats 4000000 in
theorem walk (a : Option Addr) (ca : Nat) (A : List Rg) (b : Option Addr) (cb : Nat) (B : List Rg) (kk : Option Addr) (ck : Nat) (K : List ByteArray) (w : World) (hA : Cells w a (flR A)) (hla : A.length ≤ ca) (hca : ca ≤ maxLen) (hza : a = none → ca = 0) (hna : A.length ≤ 1048576) (hB : Cells w b (flR B)) (hlb : B.length ≤ cb) (hcb : cb ≤ maxLen) (hzb : b = none → cb = 0) (hnb : B.length ≤ 1048576) (hK : Cells w kk (flS K)) (hlk : K.length ≤ ck) (hck : ck ≤ maxLen) (hzk : kk = none → ck = 0) (hnk : K.length ≤ 1048576) : Calls Try.prog 4 #[.slice a A.length ca, .slice b B.length cb, .slice kk K.length ck] w fun e w' => e = .returned (.bool true) ∧ Below w.heap.size w w' := by
  have HAW : Hid _ := awake_c w
  have HLV : Hid (Live w [(a, A), (b, B)]) := fun p hp => by
    simp only [List.mem_cons, List.not_mem_nil, or_false] at hp
    rcases hp with rfl | rfl
    · exact hA
    · exact hB
  have HK : Hid (Cells w kk (flS K)) := hK
  have HZA : Hid (a = none → ca = 0) := hza
  have HZB : Hid (b = none → cb = 0) := hzb
  have HZK : Hid (kk = none → ck = 0) := hzk
  clear hA hB hK hza hzb hzk hla hlb hlk hca hcb hck
  go_enter Try.func4, Try.ntmps4
  go_wp2_with (first
    | ((fail_if_success (have zz := G0)); go_at_call 11; go_must (refine (Calls.mono HAW.out ?_)); rintro e w1 ⟨rfl, h1⟩; have H1 : Hid (Live w1 [(a, A), (b, B)] ∧ w.grownBy w1 none) := ⟨HLV.out.gb h1, h1⟩; clear h1; have G0 : Hid True := trivial)
    | (have zz := G0; clear zz; (fail_if_success (have zz := G1)); at_builtin; go_must (refine wpList_cat rfl _ _ 23 rfl w1.heap.size 40 _ 2 32 Try.underlying23 infoRange rfl (by decide) (.slice none 0 0) 0 [] rfl (own_none _ _ _ _) a A.length ca (flR A) rfl HZA.out (flR_len A) (H1.out.1 (a, A) (by simp)) (flR_one A) (by unfold maxLen; omega) (by omega) (Nat.le_refl _) ?_); intro v2 w2 ho2 hb2 _; rw [Nat.zero_add, List.nil_append] at ho2; have H2 : Hid (w2.ownsRow w1.heap.size 40 2 v2 A.length (flR A) ∧ w1.grownBy w2 none) := ⟨ho2, below_gb hb2⟩; clear ho2 hb2; have G1 : Hid True := trivial)
    | (have zz := G1; clear zz; (fail_if_success (have zz := G2)); at_builtin; go_must (refine wpList_cat rfl _ _ 23 rfl w1.heap.size 40 _ 2 32 Try.underlying23 infoRange rfl (by decide) v2 A.length (flR A) rfl H2.out.1 b B.length cb (flR B) rfl HZB.out (flR_len B) ((H1.out.1 (b, B) (by simp)).gb H2.out.2) (flR_one B) (by unfold maxLen; omega) (by omega) H2.out.2.size ?_); intro v3 w3 ho3 hb3 _; rw [← flR_app] at ho3; obtain ⟨x3, c3, rfl, hc3, -⟩ := own_cells ho3; have H3 : Hid (Live w3 [(x3, (A ++ B)), (a, A), (b, B)] ∧ w.grownBy w3 none) := ⟨(H1.out.1.gb (below_gb ((gb_below H2.out.2).trans hb3))).cons hc3, gb_trans H1.out.2 (below_gb ((gb_below H2.out.2).trans hb3))⟩; clear ho3 hb3 hc3; have G2 : Hid True := trivial)
    | (have zz := G2; clear zz; (fail_if_success (have zz := G3)); go_at_call 12; go_must (refine (normal_n (A ++ B) x3 (A.length + B.length) c3 (by simp) w3 (H3.out.1 (x3, (A ++ B)) (by simp)) (by rw [List.length_append]; omega)).mono ?_); rintro e w4 ⟨v, RN, rfl, h1, h2, h3, h4, h5⟩; rw [List.length_append] at h4; obtain ⟨x4, c4, rfl, hc, -⟩ := own_cells h1; have H4 : Hid (Live w4 [(x4, RN), (x3, (A ++ B)), (a, A), (b, B)] ∧ w.grownBy w4 none) := ⟨(H3.out.1.gb h5).cons hc, gb_trans H3.out.2 h5⟩; have PN : Hid (Nrm RN ∧ ∀ t, lHas RN t = lHas (A ++ B) t) := ⟨h2, h3⟩; clear h1 h2 h3 h5 hc; have G3 : Hid True := trivial)
    | (have zz := G3; clear zz; (fail_if_success (have zz := G4)); go_at_call 13; go_must (refine (meet_c A B a b ca cb w4 (H4.out.1 (a, A) (by simp)) (H4.out.1 (b, B) (by simp)) (by omega)).mono ?_); rintro e w5 ⟨v, M, rfl, h1, h2, h3, h4M, h5⟩; obtain ⟨x5, c5, rfl, hc, -⟩ := own_cells h1; have H5 : Hid (Live w5 [(x5, M), (x4, RN), (x3, (A ++ B)), (a, A), (b, B)] ∧ w.grownBy w5 none) := ⟨(H4.out.1.gb h5).cons hc, gb_trans H4.out.2 h5⟩; have PM : Hid (Nrm M ∧ ∀ t, lHas M t = (lHas A t && lHas B t)) := ⟨h2, h3⟩; clear h1 h2 h3 h5 hc; have G4 : Hid True := trivial)
    | (have zz := G4; clear zz; (fail_if_success (have zz := G5)); go_at_call 14; go_must (refine (minus_c A B a b ca cb w5 (H5.out.1 (a, A) (by simp)) (H5.out.1 (b, B) (by simp)) (by omega)).mono ?_); rintro e w6 ⟨v, D, rfl, h1, h2, h3, h4D, h5⟩; obtain ⟨x6, c6, rfl, hc, -⟩ := own_cells h1; have H6 : Hid (Live w6 [(x6, D), (x5, M), (x4, RN), (x3, (A ++ B)), (a, A), (b, B)] ∧ w.grownBy w6 none) := ⟨(H5.out.1.gb h5).cons hc, gb_trans H5.out.2 h5⟩; have PD : Hid (Nrm D ∧ ∀ t, lHas D t = (lHas A t && !lHas B t)) := ⟨h2, h3⟩; clear h1 h2 h3 h5 hc; have G5 : Hid True := trivial)
    | (have zz := G5; clear zz; (fail_if_success (have zz := G6)); go_at_call 15; go_must (refine (lnormal_c RN x4 c4 w6 (H6.out.1 (x4, RN) (by simp)) (by omega) PN.out.1).mono ?_); rintro e w7 ⟨rfl, h5⟩; have H7 : Hid (Live w7 [(x6, D), (x5, M), (x4, RN), (x3, (A ++ B)), (a, A), (b, B)] ∧ w.grownBy w7 none) := ⟨H6.out.1.gb h5, gb_trans H6.out.2 h5⟩; clear h5; have G6 : Hid True := trivial)
    | (have zz := G6; clear zz; (fail_if_success (have zz := G7)); go_at_call 15; go_must (refine (lnormal_c M x5 c5 w7 (H7.out.1 (x5, M) (by simp)) (by omega) PM.out.1).mono ?_); rintro e w8 ⟨rfl, h5⟩; have H8 : Hid (Live w8 [(x6, D), (x5, M), (x4, RN), (x3, (A ++ B)), (a, A), (b, B)] ∧ w.grownBy w8 none) := ⟨H7.out.1.gb h5, gb_trans H7.out.2 h5⟩; clear h5; have G7 : Hid True := trivial)
    | (have zz := G7; clear zz; (fail_if_success (have zz := G8)); go_at_call 15; go_must (refine (lnormal_c D x6 c6 w8 (H8.out.1 (x6, D) (by simp)) (by omega) PD.out.1).mono ?_); rintro e w9 ⟨rfl, h5⟩; have H9 : Hid (Live w9 [(x6, D), (x5, M), (x4, RN), (x3, (A ++ B)), (a, A), (b, B)] ∧ w.grownBy w9 none) := ⟨H8.out.1.gb h5, gb_trans H8.out.2 h5⟩; clear h5; have G8 : Hid True := trivial)
    | (have zz := G8; clear zz; (fail_if_success (have zz := G9)); at_builtin; go_must (refine wpList_cat rfl _ _ 34 rfl w9.heap.size 9 _ 1 16 Try.underlying34 infoStr rfl (by decide) (.slice none 0 0) 0 [] rfl (own_none _ _ _ _) kk K.length ck (flS K) rfl HZK.out (by rw [flS_len, Nat.mul_one]) (HK.out.gb H9.out.2) (flS_one K) (by unfold maxLen; omega) (by omega) (Nat.le_refl _) ?_); intro v10 w10 ho10 hb10 _; rw [Nat.zero_add, List.nil_append] at ho10; have H10 : Hid (w10.ownsRow w9.heap.size 9 1 v10 K.length (flS K) ∧ w9.grownBy w10 none) := ⟨ho10, below_gb hb10⟩; clear ho10 hb10; have G9 : Hid True := trivial))
  obtain ⟨n, hn⟩ : ∃ n, n = A.length + B.length := ⟨_, rfl⟩
  rw [← hn]
  have HN : Hid (n = (A ++ B).length) := by show _ = _; rw [hn, List.length_append]
  have hn2 : n ≤ 2097152 := by omega
  go_loopw [11, 12] (fun v i wr => ∃ k : Nat, k ≤ n ∧ i = .int .i64 k ∧ Hid (wr.ownsRow w9.heap.size 9 1 v (K.length + 2 * k) (flS (K ++ ends ((A ++ B).take k))) ∧ w9.grownBy wr none)) (fun _ i _ => n - (intOf i).toNat)
  case atStart => exact ⟨0, Nat.zero_le _, rfl, by rw [List.take_zero]; show Hid (World.ownsRow _ _ _ _ _ _ (flS (K ++ [])) ∧ _); rw [List.append_nil]; exact H10⟩
  case round =>
    obtain ⟨k, hk, rfl, hr⟩ := hrel
    clear H10
    by_cases hlt : k < n
    · have hcx : Cells wr x3 (flR (A ++ B)) := (H9.out.1 (x3, (A ++ B)) (by simp)).gb hr.out.2
      have hcy : Cells w9 x3 (flR (A ++ B)) := H9.out.1 (x3, (A ++ B)) (by simp)
      obtain ⟨ba, oa, hab, hba, c0, c1⟩ := cells_rg hcy k (by have := HN.out; omega)
      have HES : Hid _ := ends_snoc (A ++ B) k (by have := HN.out; omega)
      generalize (A ++ B).getD k (.empty, .empty) = r at *
      obtain ⟨f, u⟩ := r
      simp only at c0 c1 HES
      have c0r : wr.cell? ⟨ba, oa + k * 2, none⟩ = some (.string f) := ((gb_below hr.out.2).cell (p := ⟨ba, oa + k * 2, none⟩) hba).trans c0
      have c1r : wr.cell? ⟨ba, oa + k * 2 + 1, none⟩ = some (.string u) := ((gb_below hr.out.2).cell (p := ⟨ba, oa + k * 2 + 1, none⟩) hba).trans c1
      have HU : Hid (flS (K ++ ends ((A ++ B).take (k + 1))) = flS (K ++ ends ((A ++ B).take k)) ++ (#[Value.string f, Value.string u] : Array Value).toList) := by
        show _ = _
        rw [HES.out, ← List.append_assoc, flS_app]; rfl
      have i1 : (0 : Int) ≤ (k : Int) := by omega
      have i2 : (k : Int) < (n : Int) := by omega
      have HAB : Hid _ := hab
      rw [hab]
      clear c0 c1 hab hcx hcy HES hn
      go_wp2
      have hSd : wr.drew.cell? ⟨ba, oa + k * 2, none⟩ = some (.string f) ∧ wr.drew.cell? ⟨ba, oa + k * 2 + 1, none⟩ = some (.string u) := ⟨c0r, c1r⟩
      go_region_held3 (fun w' => w'.cell? ⟨ba, oa + k * 2, none⟩ = some (.string f) ∧ w'.cell? ⟨ba, oa + k * 2 + 1, none⟩ = some (.string u)) (first | assumption | exact held_alloc2 (by assumption)) (first
        | (refine step_litN rfl _ _ 34 rfl w9.heap.size 9 _ 1 16 2 (by decide) Try.underlying34 infoStr rfl (by decide) wr #[.string f, .string u] rfl _ (K.length + 2 * k) (flS (K ++ ends ((A ++ B).take k))) rfl hr.out.1 rfl rfl (by simp [Value.oneCell']) (by unfold maxLen; omega) (by omega) hr.out.2.size ?_; intro g4 cap4 w14 ho4 hb4; have H14 : Hid (w14.ownsRow w9.heap.size 9 1 (.slice (some ⟨g4, 0, none⟩) (K.length + 2 * k + 2) cap4) (K.length + 2 * k + 2) (flS (K ++ ends ((A ++ B).take (k + 1)))) ∧ w9.grownBy w14 none) := ⟨(by rw [HU.out]; exact ho4), below_gb ((gb_below hr.out.2).trans hb4)⟩; have hS4 : w14.cell? ⟨ba, oa + k * 2, none⟩ = some (.string f) ∧ w14.cell? ⟨ba, oa + k * 2 + 1, none⟩ = some (.string u) := ⟨(hb4.cell (p := ⟨ba, oa + k * 2, none⟩) hba).trans c0r, (hb4.cell (p := ⟨ba, oa + k * 2 + 1, none⟩) hba).trans c1r⟩; clear ho4 hb4))
      go_wp2
      try rw [← HAB.out]
      go_roundw
      case rel => exact ⟨k + 1, by omega, by simp, by rw [show K.length + 2 * (k + 1) = K.length + 2 * k + 2 from by omega]; exact H14⟩
      case measure => simp [intOf]; omega
    · obtain rfl : k = n := by omega
      obtain ⟨xm, cm, rfl, hcm, -⟩ := own_cells hr.out.1
      obtain ⟨E, hE⟩ : ∃ E, E = K ++ ends ((A ++ B).take k) := ⟨_, rfl⟩
      rw [← hE] at hcm
      obtain ⟨m, hm⟩ : ∃ m, m = K.length + 2 * k := ⟨_, rfl⟩
      have HM : Hid (m = E.length) := by
        show _ = _
        rw [hm, hE, List.length_append, ends_len, List.length_take, ← HN.out]; omega
      have hm2 : m ≤ 16777216 := by omega
      rw [← hm]
      have HV : Hid (Live wr [(x6, D), (x5, M), (x4, RN), (x3, (A ++ B)), (a, A), (b, B)] ∧ Cells wr xm (flS E) ∧ w.grownBy wr none) := ⟨H9.out.1.gb hr.out.2, hcm, gb_trans H9.out.2 hr.out.2⟩
      clear hr hcm hE hm hn
      obtain ⟨W0, rfl⟩ : ∃ W0, W0 = wr := ⟨_, rfl⟩
      go_wp2
      go_loopw [13] (fun i wr => ∃ k : Nat, k ≤ m ∧ i = .int .i64 k ∧ Hid (Live wr [(x6, D), (x5, M), (x4, RN), (x3, (A ++ B)), (a, A), (b, B)] ∧ Cells wr xm (flS E) ∧ w.grownBy wr none)) (fun i _ => m - (intOf i).toNat)
      case atStart => exact ⟨0, Nat.zero_le _, rfl, HV⟩
      case round =>
        obtain ⟨k, hk, rfl, hv⟩ := hrel
        clear HV
        by_cases hlt : k < m
        · obtain ⟨gm, om, hxm, hgm, ct⟩ := cells_str hv.out.2.1 k (by have := HM.out; omega)
          generalize E.getD k .empty = t at *
          have cg : ∀ p, (gw wr p).cell? ⟨gm, om + k, none⟩ = some (.string t) := fun p => cell_gw ct p
          have i1 : (0 : Int) ≤ (k : Int) := by omega
          have i2 : (k : Int) < (m : Int) := by omega
          have HXM : Hid _ := hxm
          subst hxm
          cases hp : lHas A t
          · cases hq : lHas B t
            · have HHA : Hid (∀ w, Cells w a (flR A) → Calls Try.prog 16 #[.slice a A.length ca, .string t] w fun e w' => e = .returned (.bool false) ∧ w.grownBy w' none) := fun w h => by have := lhas_c A a ca t w h (by omega); rwa [hp] at this
              have HHB : Hid (∀ w, Cells w b (flR B) → Calls Try.prog 16 #[.slice b B.length cb, .string t] w fun e w' => e = .returned (.bool false) ∧ w.grownBy w' none) := fun w h => by have := lhas_c B b cb t w h (by omega); rwa [hq] at this
              have HHN : Hid (∀ w, Cells w x4 (flR RN) → Calls Try.prog 16 #[.slice x4 RN.length c4, .string t] w fun e w' => e = .returned (.bool false) ∧ w.grownBy w' none) := fun w h => by have := lhas_c RN x4 c4 t w h (by omega); rwa [PN.out.2, lHas_app, hp, hq] at this
              have HHM : Hid (∀ w, Cells w x5 (flR M) → Calls Try.prog 16 #[.slice x5 M.length c5, .string t] w fun e w' => e = .returned (.bool false) ∧ w.grownBy w' none) := fun w h => by have := lhas_c M x5 c5 t w h (by omega); rwa [PM.out.2, hp, hq] at this
              have HHD : Hid (∀ w, Cells w x6 (flR D) → Calls Try.prog 16 #[.slice x6 D.length c6, .string t] w fun e w' => e = .returned (.bool false) ∧ w.grownBy w' none) := fun w h => by have := lhas_c D x6 c6 t w h (by omega); rwa [PD.out.2, hp, hq] at this
              clear hp hq
              go_wp2
              refine wp_region_gb (by kernel_rfl) (by kernel_rfl) ?_
              repeat (quiet_step (first
                | (go_at_call_of 16 (Value.slice a A.length ca); exact calls_gb (HHA.out _ ((hv.out.1 (a, A) (by simp)).gb (gw_gb _ _))))
                | (go_at_call_of 16 (Value.slice b B.length cb); exact calls_gb (HHB.out _ ((hv.out.1 (b, B) (by simp)).gb (gw_gb _ _))))))
              refine wpQuiet_nil ?_
              intro _ hw'
              obtain ⟨pq, hpq⟩ := hw'
              rename_i W20
              have H20 : Hid (wr.grownBy W20 none) := by rw [hpq]; exact gw_gb _ _
              have d20 := ((gb_below H20.out).cell (p := ⟨gm, om + k, none⟩) hgm).trans ct
              clear hpq cg
              go_wp2_with (first
                | ((fail_if_success (have zz := N1)); go_at_call 16; go_must (refine (HHN.out W20 ((hv.out.1 (x4, RN) (by simp)).gb H20.out)).mono ?_); rintro e w21 ⟨rfl, h⟩; have H21 : Hid (wr.grownBy w21 none) := gb_trans H20.out h; have d21 := ((gb_below H21.out).cell (p := ⟨gm, om + k, none⟩) hgm).trans ct; clear h; have N1 : Hid True := trivial)
                | (have zz := N1; clear zz; (fail_if_success (have zz := N2)); go_at_call 16; go_must (refine (HHM.out w21 ((hv.out.1 (x5, M) (by simp)).gb H21.out)).mono ?_); rintro e w22 ⟨rfl, h⟩; have H22 : Hid (wr.grownBy w22 none) := gb_trans H21.out h; have d22 := ((gb_below H22.out).cell (p := ⟨gm, om + k, none⟩) hgm).trans ct; clear h; have N2 : Hid True := trivial)
                | (have zz := N2; clear zz; go_at_call 16; go_must (refine (HHD.out w22 ((hv.out.1 (x6, D) (by simp)).gb H22.out)).mono ?_); rintro e w23 ⟨rfl, h⟩; have H23 : Hid (wr.grownBy w23 none) := gb_trans H22.out h; clear h))
              go_roundw
              case rel => exact ⟨k + 1, by omega, by simp, hv.out.1.gb H23.out, hv.out.2.1.gb H23.out, gb_trans hv.out.2.2 H23.out⟩
              case measure => simp [intOf]; omega
            · have HHA : Hid (∀ w, Cells w a (flR A) → Calls Try.prog 16 #[.slice a A.length ca, .string t] w fun e w' => e = .returned (.bool false) ∧ w.grownBy w' none) := fun w h => by have := lhas_c A a ca t w h (by omega); rwa [hp] at this
              have HHB : Hid (∀ w, Cells w b (flR B) → Calls Try.prog 16 #[.slice b B.length cb, .string t] w fun e w' => e = .returned (.bool true) ∧ w.grownBy w' none) := fun w h => by have := lhas_c B b cb t w h (by omega); rwa [hq] at this
              have HHN : Hid (∀ w, Cells w x4 (flR RN) → Calls Try.prog 16 #[.slice x4 RN.length c4, .string t] w fun e w' => e = .returned (.bool true) ∧ w.grownBy w' none) := fun w h => by have := lhas_c RN x4 c4 t w h (by omega); rwa [PN.out.2, lHas_app, hp, hq] at this
              have HHM : Hid (∀ w, Cells w x5 (flR M) → Calls Try.prog 16 #[.slice x5 M.length c5, .string t] w fun e w' => e = .returned (.bool false) ∧ w.grownBy w' none) := fun w h => by have := lhas_c M x5 c5 t w h (by omega); rwa [PM.out.2, hp, hq] at this
              have HHD : Hid (∀ w, Cells w x6 (flR D) → Calls Try.prog 16 #[.slice x6 D.length c6, .string t] w fun e w' => e = .returned (.bool false) ∧ w.grownBy w' none) := fun w h => by have := lhas_c D x6 c6 t w h (by omega); rwa [PD.out.2, hp, hq] at this
              clear hp hq
              go_wp2
              refine wp_region_gb (by kernel_rfl) (by kernel_rfl) ?_
              repeat (quiet_step (first
                | (go_at_call_of 16 (Value.slice a A.length ca); exact calls_gb (HHA.out _ ((hv.out.1 (a, A) (by simp)).gb (gw_gb _ _))))
                | (go_at_call_of 16 (Value.slice b B.length cb); exact calls_gb (HHB.out _ ((hv.out.1 (b, B) (by simp)).gb (gw_gb _ _))))))
              refine wpQuiet_nil ?_
              intro _ hw'
              obtain ⟨pq, hpq⟩ := hw'
              rename_i W20
              have H20 : Hid (wr.grownBy W20 none) := by rw [hpq]; exact gw_gb _ _
              have d20 := ((gb_below H20.out).cell (p := ⟨gm, om + k, none⟩) hgm).trans ct
              clear hpq cg
              go_wp2_with (first
                | ((fail_if_success (have zz := N1)); go_at_call 16; go_must (refine (HHN.out W20 ((hv.out.1 (x4, RN) (by simp)).gb H20.out)).mono ?_); rintro e w21 ⟨rfl, h⟩; have H21 : Hid (wr.grownBy w21 none) := gb_trans H20.out h; have d21 := ((gb_below H21.out).cell (p := ⟨gm, om + k, none⟩) hgm).trans ct; clear h; have N1 : Hid True := trivial)
                | (have zz := N1; clear zz; (fail_if_success (have zz := N2)); go_at_call 16; go_must (refine (HHM.out w21 ((hv.out.1 (x5, M) (by simp)).gb H21.out)).mono ?_); rintro e w22 ⟨rfl, h⟩; have H22 : Hid (wr.grownBy w22 none) := gb_trans H21.out h; have d22 := ((gb_below H22.out).cell (p := ⟨gm, om + k, none⟩) hgm).trans ct; clear h; have N2 : Hid True := trivial)
                | (have zz := N2; clear zz; go_at_call 16; go_must (refine (HHD.out w22 ((hv.out.1 (x6, D) (by simp)).gb H22.out)).mono ?_); rintro e w23 ⟨rfl, h⟩; have H23 : Hid (wr.grownBy w23 none) := gb_trans H22.out h; clear h))
              go_roundw
              case rel => exact ⟨k + 1, by omega, by simp, hv.out.1.gb H23.out, hv.out.2.1.gb H23.out, gb_trans hv.out.2.2 H23.out⟩
              case measure => simp [intOf]; omega
          · cases hq : lHas B t
            · have HHA : Hid (∀ w, Cells w a (flR A) → Calls Try.prog 16 #[.slice a A.length ca, .string t] w fun e w' => e = .returned (.bool true) ∧ w.grownBy w' none) := fun w h => by have := lhas_c A a ca t w h (by omega); rwa [hp] at this
              have HHB : Hid (∀ w, Cells w b (flR B) → Calls Try.prog 16 #[.slice b B.length cb, .string t] w fun e w' => e = .returned (.bool false) ∧ w.grownBy w' none) := fun w h => by have := lhas_c B b cb t w h (by omega); rwa [hq] at this
              have HHN : Hid (∀ w, Cells w x4 (flR RN) → Calls Try.prog 16 #[.slice x4 RN.length c4, .string t] w fun e w' => e = .returned (.bool true) ∧ w.grownBy w' none) := fun w h => by have := lhas_c RN x4 c4 t w h (by omega); rwa [PN.out.2, lHas_app, hp, hq] at this
              have HHM : Hid (∀ w, Cells w x5 (flR M) → Calls Try.prog 16 #[.slice x5 M.length c5, .string t] w fun e w' => e = .returned (.bool false) ∧ w.grownBy w' none) := fun w h => by have := lhas_c M x5 c5 t w h (by omega); rwa [PM.out.2, hp, hq] at this
              have HHD : Hid (∀ w, Cells w x6 (flR D) → Calls Try.prog 16 #[.slice x6 D.length c6, .string t] w fun e w' => e = .returned (.bool true) ∧ w.grownBy w' none) := fun w h => by have := lhas_c D x6 c6 t w h (by omega); rwa [PD.out.2, hp, hq] at this
              clear hp hq
              go_wp2
              refine wp_region_gb (by kernel_rfl) (by kernel_rfl) ?_
              repeat (quiet_step (first
                | (go_at_call_of 16 (Value.slice a A.length ca); exact calls_gb (HHA.out _ ((hv.out.1 (a, A) (by simp)).gb (gw_gb _ _))))
                | (go_at_call_of 16 (Value.slice b B.length cb); exact calls_gb (HHB.out _ ((hv.out.1 (b, B) (by simp)).gb (gw_gb _ _))))))
              refine wpQuiet_nil ?_
              intro _ hw'
              obtain ⟨pq, hpq⟩ := hw'
              rename_i W20
              have H20 : Hid (wr.grownBy W20 none) := by rw [hpq]; exact gw_gb _ _
              have d20 := ((gb_below H20.out).cell (p := ⟨gm, om + k, none⟩) hgm).trans ct
              clear hpq cg
              go_wp2_with (first
                | ((fail_if_success (have zz := N1)); go_at_call 16; go_must (refine (HHN.out W20 ((hv.out.1 (x4, RN) (by simp)).gb H20.out)).mono ?_); rintro e w21 ⟨rfl, h⟩; have H21 : Hid (wr.grownBy w21 none) := gb_trans H20.out h; have d21 := ((gb_below H21.out).cell (p := ⟨gm, om + k, none⟩) hgm).trans ct; clear h; have N1 : Hid True := trivial)
                | (have zz := N1; clear zz; (fail_if_success (have zz := N2)); go_at_call 16; go_must (refine (HHM.out w21 ((hv.out.1 (x5, M) (by simp)).gb H21.out)).mono ?_); rintro e w22 ⟨rfl, h⟩; have H22 : Hid (wr.grownBy w22 none) := gb_trans H21.out h; have d22 := ((gb_below H22.out).cell (p := ⟨gm, om + k, none⟩) hgm).trans ct; clear h; have N2 : Hid True := trivial)
                | (have zz := N2; clear zz; go_at_call 16; go_must (refine (HHD.out w22 ((hv.out.1 (x6, D) (by simp)).gb H22.out)).mono ?_); rintro e w23 ⟨rfl, h⟩; have H23 : Hid (wr.grownBy w23 none) := gb_trans H22.out h; clear h))
              go_roundw
              case rel => exact ⟨k + 1, by omega, by simp, hv.out.1.gb H23.out, hv.out.2.1.gb H23.out, gb_trans hv.out.2.2 H23.out⟩
              case measure => simp [intOf]; omega
            · have HHA : Hid (∀ w, Cells w a (flR A) → Calls Try.prog 16 #[.slice a A.length ca, .string t] w fun e w' => e = .returned (.bool true) ∧ w.grownBy w' none) := fun w h => by have := lhas_c A a ca t w h (by omega); rwa [hp] at this
              have HHB : Hid (∀ w, Cells w b (flR B) → Calls Try.prog 16 #[.slice b B.length cb, .string t] w fun e w' => e = .returned (.bool true) ∧ w.grownBy w' none) := fun w h => by have := lhas_c B b cb t w h (by omega); rwa [hq] at this
              have HHN : Hid (∀ w, Cells w x4 (flR RN) → Calls Try.prog 16 #[.slice x4 RN.length c4, .string t] w fun e w' => e = .returned (.bool true) ∧ w.grownBy w' none) := fun w h => by have := lhas_c RN x4 c4 t w h (by omega); rwa [PN.out.2, lHas_app, hp, hq] at this
              have HHM : Hid (∀ w, Cells w x5 (flR M) → Calls Try.prog 16 #[.slice x5 M.length c5, .string t] w fun e w' => e = .returned (.bool true) ∧ w.grownBy w' none) := fun w h => by have := lhas_c M x5 c5 t w h (by omega); rwa [PM.out.2, hp, hq] at this
              have HHD : Hid (∀ w, Cells w x6 (flR D) → Calls Try.prog 16 #[.slice x6 D.length c6, .string t] w fun e w' => e = .returned (.bool false) ∧ w.grownBy w' none) := fun w h => by have := lhas_c D x6 c6 t w h (by omega); rwa [PD.out.2, hp, hq] at this
              clear hp hq
              go_wp2
              refine wp_region_gb (by kernel_rfl) (by kernel_rfl) ?_
              repeat (quiet_step (first
                | (go_at_call_of 16 (Value.slice a A.length ca); exact calls_gb (HHA.out _ ((hv.out.1 (a, A) (by simp)).gb (gw_gb _ _))))
                | (go_at_call_of 16 (Value.slice b B.length cb); exact calls_gb (HHB.out _ ((hv.out.1 (b, B) (by simp)).gb (gw_gb _ _))))))
              refine wpQuiet_nil ?_
              intro _ hw'
              obtain ⟨pq, hpq⟩ := hw'
              rename_i W20
              have H20 : Hid (wr.grownBy W20 none) := by rw [hpq]; exact gw_gb _ _
              have d20 := ((gb_below H20.out).cell (p := ⟨gm, om + k, none⟩) hgm).trans ct
              clear hpq cg
              go_wp2_with (first
                | ((fail_if_success (have zz := N1)); go_at_call 16; go_must (refine (HHN.out W20 ((hv.out.1 (x4, RN) (by simp)).gb H20.out)).mono ?_); rintro e w21 ⟨rfl, h⟩; have H21 : Hid (wr.grownBy w21 none) := gb_trans H20.out h; have d21 := ((gb_below H21.out).cell (p := ⟨gm, om + k, none⟩) hgm).trans ct; clear h; have N1 : Hid True := trivial)
                | (have zz := N1; clear zz; (fail_if_success (have zz := N2)); go_at_call 16; go_must (refine (HHM.out w21 ((hv.out.1 (x5, M) (by simp)).gb H21.out)).mono ?_); rintro e w22 ⟨rfl, h⟩; have H22 : Hid (wr.grownBy w22 none) := gb_trans H21.out h; have d22 := ((gb_below H22.out).cell (p := ⟨gm, om + k, none⟩) hgm).trans ct; clear h; have N2 : Hid True := trivial)
                | (have zz := N2; clear zz; go_at_call 16; go_must (refine (HHD.out w22 ((hv.out.1 (x6, D) (by simp)).gb H22.out)).mono ?_); rintro e w23 ⟨rfl, h⟩; have H23 : Hid (wr.grownBy w23 none) := gb_trans H22.out h; clear h))
              go_roundw
              case rel => exact ⟨k + 1, by omega, by simp, hv.out.1.gb H23.out, hv.out.2.1.gb H23.out, gb_trans hv.out.2.2 H23.out⟩
              case measure => simp [intOf]; omega
        · obtain rfl : k = m := by omega
          go_wp2
          go_ret
          exact ⟨rfl, gb_below hv.out.2.2⟩

theorem bulk_len {H : Type} (l : List (DataW H)) : l.length ≤ Rows.uptoBulkAll l := by
  induction l with
  | nil => simp
  | cons d r ih =>
    have : 1 ≤ Rows.uptoBulk d := by
      cases d with
      | lit x => cases x <;> simp [Rows.uptoBulk]
      | _ => simp [Rows.uptoBulk]
    simp only [Rows.uptoBulkAll, List.length_cons]; omega
theorem bulk_mem {H : Type} {d : DataW H} {l : List (DataW H)} (h : d ∈ l) : Rows.uptoBulk d ≤ Rows.uptoBulkAll l := by
  induction l with
  | nil => cases h
  | cons x r ih =>
    simp only [Rows.uptoBulkAll]
    rcases List.mem_cons.1 h with rfl | h
    · omega
    · have := ih h; omega
theorem bulk_slice {H : Type} {ds : List (DataW H)} {d : DataW H} {l r : List (DataW H)} (hk : Rows.uptoSmall H ds = true) (hd : d ∈ ds) (e : d = .slice l r) : l.length + r.length ≤ 1048576 := by
  have h0 : Rows.uptoBulkAll ds ≤ 1048576 := of_decide_eq_true hk
  have h1 := bulk_mem hd
  have h3 := bulk_len l
  have h4 := bulk_len r
  rw [e] at h1
  simp only [Rows.uptoBulk] at h1
  omega

set_option maxRecDepth 100000 in
theorem lifted (os : Os) (started : os.Started) (H : Type) (enc : TypeId × Value → H) (F : Stop.Interp) :
    ReturnsInHanded {} Try.checked os 4 .any ((Rows.OpenSpec.upto Rows.spanMembersSpec).pre6 enc Try.prog Try.f4 Rows.spanMembersUptoRow.domain false) (((Rows.OpenSpec.upto Rows.spanMembersSpec).at F).post enc Try.prog Try.f4 false true false false) := by
  refine returnsInHanded_of_cond (C := Try.checked) (s := Rows.OpenSpec.upto Rows.spanMembersSpec) (k := Rows.uptoSmall) rfl own started (by kernel_rfl) Try.func4
    (OpenSpec.witness (enc := enc) (C := Try.checked) (s := Rows.OpenSpec.upto Rows.spanMembersSpec) (k := Rows.uptoSmall) rfl false ⟨#[], #[.slice none 0 0, .slice none 0 0, .slice none 0 0], []⟩ 8 (by kernel_rfl) (by kernel_rfl) (by kernel_rfl)
      (x := ([.nil, .nil, .nil], [], [])) (by kernel_rfl) rfl (by kernel_rfl)) ?_
  intro W base args ds gs before hval0 hW hcnd hk _
  have hval : ∀ (j : Nat) t v, Try.f4.params[j]? = some t → args[j]? = some v → Value.okWide Try.prog W .any base t v := hval0
  have hW' := hW
  obtain ⟨p, q, hA0, hV, rfl, hfz, hnd⟩ := hW
  have hA : DataW.TrodAll enc Try.prog W 0 (fun _ => true) true Try.f4.params.toList args.toList ds p := hA0
  rw [Try.params4] at hA hval
  obtain ⟨v0, vs0, d0, ds0, p0, q0, hargs, rfl, rfl, h0, r0⟩ := trodAll_cons hA
  obtain ⟨v1, vs1, d1, ds1, p1, q1, rfl, rfl, rfl, h1, r1⟩ := trodAll_cons r0
  obtain ⟨v2, vs2, d2, ds2, p2, q2, rfl, rfl, rfl, h2, r2⟩ := trodAll_cons r1
  obtain ⟨rfl, rfl, rfl⟩ := trodAll_nil r2
  obtain rfl : args = #[v0, v1, v2] := by cases args; simp_all
  obtain ⟨rfl, rfl⟩ := trodVars_none hV
  have k0 := h0
  have lt0 : ∀ x ∈ p0, x.block < W.heap.size := by obtain ⟨m, hm⟩ := k0; exact DataW.trod_lt m _ _ _ hm
  obtain ⟨a0, n0, cap0, X0, rfl, x0, ln0, lc0, cm0, nz0, y0⟩ : ∃ a n cap A, v0 = .slice a n cap ∧ Cells W a (flR A) ∧ A.length = n ∧ n ≤ cap ∧ cap ≤ maxLen ∧ (a = none → cap = 0) ∧ n ≤ 1048576 := by
    obtain ⟨sa, sl, sc, hv⟩ := okWide_slice Try.underlying23 (hval 0 23 v0 rfl rfl)
    obtain ⟨a, n, cap, X, h1, h2, h3, h4, h5, h6, h7⟩ := rgs_open sa sl sc hv h0
    have hAll : Rows.uptoBulkAll _ ≤ 1048576 := of_decide_eq_true hk
    exact ⟨a, n, cap, X, h1, h2, h3, h4, h5, h6, Nat.le_trans h7 (Nat.le_trans (bulk_mem (show d0 ∈ _ by simp)) hAll)⟩
  subst ln0
  have k1 := h1
  have lt1 : ∀ x ∈ p1, x.block < W.heap.size := by obtain ⟨m, hm⟩ := k1; exact DataW.trod_lt m _ _ _ hm
  obtain ⟨a1, n1, cap1, X1, rfl, x1, ln1, lc1, cm1, nz1, y1⟩ : ∃ a n cap A, v1 = .slice a n cap ∧ Cells W a (flR A) ∧ A.length = n ∧ n ≤ cap ∧ cap ≤ maxLen ∧ (a = none → cap = 0) ∧ n ≤ 1048576 := by
    obtain ⟨sa, sl, sc, hv⟩ := okWide_slice Try.underlying23 (hval 1 23 v1 rfl rfl)
    obtain ⟨a, n, cap, X, h1, h2, h3, h4, h5, h6, h7⟩ := rgs_open sa sl sc hv h1
    have hAll : Rows.uptoBulkAll _ ≤ 1048576 := of_decide_eq_true hk
    exact ⟨a, n, cap, X, h1, h2, h3, h4, h5, h6, Nat.le_trans h7 (Nat.le_trans (bulk_mem (show d1 ∈ _ by simp)) hAll)⟩
  subst ln1
  have k2 := h2
  have lt2 : ∀ x ∈ p2, x.block < W.heap.size := by obtain ⟨m, hm⟩ := k2; exact DataW.trod_lt m _ _ _ hm
  obtain ⟨a2, n2, cap2, X2, rfl, x2, ln2, lc2, cm2, nz2, y2⟩ : ∃ a n cap K, v2 = .slice a n cap ∧ Cells W a (flS K) ∧ K.length = n ∧ n ≤ cap ∧ cap ≤ maxLen ∧ (a = none → cap = 0) ∧ n ≤ 1048576 := by
    obtain ⟨sa, sl, sc, hv⟩ := okWide_slice Try.underlying34 (hval 2 34 v2 rfl rfl)
    obtain ⟨a, n, cap, X, h1, h2, h3, h4, h5, h6, h7⟩ := strs_open sa sl sc hv h2
    have hAll : Rows.uptoBulkAll _ ≤ 1048576 := of_decide_eq_true hk
    exact ⟨a, n, cap, X, h1, h2, h3, h4, h5, h6, Nat.le_trans h7 (Nat.le_trans (bulk_mem (show d2 ∈ _ by simp)) hAll)⟩
  subst ln2
  clear hA0 hval0
  refine (walk a0 cap0 X0 a1 cap1 X1 a2 cap2 X2 W x0 lc0 cm0 nz0 y0 x1 lc1 cm1 nz1 y1 x2 lc2 cm2 nz2 y2).mono fun e W' ⟨he, bel⟩ => ?_
  subst he
  exact ⟨_, rfl, _, _, _, [], _, [], hW', trodAll_mk1 (shut_bool Try.underlying4 _), (trodAll_cons_mk (Below.trod laidOut (by kernel_rfl) (of_decide_eq_true (by kernel_rfl)) k0 bel lt0) (trodAll_cons_mk (Below.trod laidOut (by kernel_rfl) (of_decide_eq_true (by kernel_rfl)) k1 bel lt1) (trodAll_cons_mk (Below.trod laidOut (by kernel_rfl) (of_decide_eq_true (by kernel_rfl)) k2 bel lt2) trodAll_mk0))), rfl, bel.frame _, fun h => by cases h⟩

theorem over : Rows.spanMembersUptoRow.holds Try.pinned (Rows.OpenSpec.upto Rows.spanMembersSpec) :=
  OpenClaim.holds_of_cond 4 Try.f4 rfl rfl rfl rfl rfl rfl rfl ⟨rfl, rfl, rfl, rfl, rfl⟩ rfl rfl rfl rfl rfl (by kernel_rfl) Try.func4 (by kernel_rfl)
    (of_decide_eq_true (by kernel_rfl)) (by unfold Func.isWrapper; first | (rw [if_pos (by decide +kernel)]; kernel_rfl) | (rw [if_neg (by decide +kernel)]; exact ⟨rfl, rfl⟩))
    (fun os started H enc _ F => lifted os started H enc F)

end Go.Proofs.Ytggkkpbgnlmfeab.spanMembers
namespace Go.Proofs.Ytggkkpbgnlmfeab
theorem spanMembers_holds : Rows.SpanMembersUptoSaid := spanMembers.over
#print axioms spanMembers_holds
end Go.Proofs.Ytggkkpbgnlmfeab
