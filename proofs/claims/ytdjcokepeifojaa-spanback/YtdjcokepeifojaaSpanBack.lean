/-
  Proved: for every number and every list of numbers, hawserlaw06.SpanBack answers true: the buckets that meet the ranges of some buckets are these, rising, each once; and what is no bucket is refused. No condition.
-/
import Derived.Test.YtdjcokepeifojaaRows
import Derived.Test.YtdjcokepeifojaaNSi
import Derived.Test.YtdjcokepeifojaaNBk
import Derived.Test.YtdjcokepeifojaaNNm
import Derived.Test.YtdjcokepeifojaaNIn
import Derived.WalkKit
import Derived.ProofKit
import Derived.OpenShut
import Derived.ShutString
import Derived.ChangeOld
import Derived.Below
import Derived.Lib.SmallJoins
import Derived.JoinedCond
import Derived.SizedLaws
namespace Go.Proofs.Ytdjcokepeifojaa.spanBack
open Go.ChangeShapes Go.WideShapes Go.ChangeAt Go.RowKit
set_option linter.unusedVariables false

theorem own : ownKnob Try.prog.godebug = none := by kernel_rfl
theorem laidOut : laidOutB Try.prog = true := by kernel_rfl

/-- What the walk is told of a slice of integers that came in. -/
def IsRow (k : IntKind) (R : Nat) (w : World) (a : Option Addr) (len cap : Nat) (zs : List Int) : Prop :=
  (a = none ∧ len = 0 ∧ cap = 0 ∧ zs = []) ∨
  ∃ x, a = some x ∧ len ≤ cap ∧ cap ≤ R ∧ zs.length = cap ∧ (∀ i, i < zs.length → w.cell? (x.add i) = some (.int k (zs.getD i 0))) ∧ ∀ n ∈ zs, (Lit.int k n).wf = true

theorem row_cells {R : Nat} {w : World} {a : Option Addr} {len cap : Nat} {zs : List Int} (h : IsRow .i64 R w a len cap zs) : ∃ X : List Int, X.length = len ∧ Cells w a (i64s X) ∧ (a = none → cap = 0) ∧ len ≤ cap ∧ cap ≤ R := by
  rcases h with ⟨rfl, rfl, rfl, rfl⟩ | ⟨x, rfl, hl, hc, hz, hcell, hwf⟩
  · exact ⟨[], rfl, .inl rfl, fun _ => rfl, Nat.le_refl _, Nat.zero_le _⟩
  · refine ⟨zs.take len, by rw [List.length_take]; omega, ?_, (fun h => by cases h), hl, hc⟩
    by_cases h0 : len = 0
    · subst h0; exact .inl (by simp [i64s])
    · right
      obtain ⟨b, off, spot⟩ := x
      have c0 := hcell 0 (by omega)
      have hspot : spot = none := by simpa [Addr.add] using World.cell?_spot c0
      subst hspot
      rw [Go.WideShapes.add_plain] at c0
      refine ⟨b, off, rfl, ?_, fun j u hu => ?_⟩
      · rcases Nat.lt_or_ge b w.heap.size with h1 | h1
        · exact h1
        · simp [World.cell?, h1] at c0
      · have hj : j < (zs.take len).length := by
          rcases Nat.lt_or_ge j (zs.take len).length with h1 | h1
          · exact h1
          · rw [List.getElem?_eq_none (by simpa [i64s] using h1)] at hu; cases hu
        rw [List.length_take] at hj
        have := hcell j (by omega)
        rw [Go.WideShapes.add_plain] at this
        rw [this, ← hu]
        have hj2 : j < zs.length := by omega
        have hj3 : j < len := by omega
        simp [i64s, hj3, hj2]
/-- All of some numbers are buckets. -/
def allB (n : Int) (X : List Int) : Bool := X.all fun x => decide (0 ≤ x) && decide (x < n)
theorem allB_take {X : List Int} {k : Nat} (h : k < X.length) (n : Int) : allB n (X.take (k + 1)) = (allB n (X.take k) && (decide (0 ≤ X.getD k 0) && decide (X.getD k 0 < n))) := by
  rw [List.take_succ_eq_append_getElem h]
  have : X[k] = X.getD k 0 := by simp [h]
  rw [this]; unfold allB; rw [List.all_append]; simp
theorem allB_no {D : Nat} (h1 : 1 ≤ D) (h3 : D ≤ 3) {X : List Int} (h : ¬ rgE D X = 0) : allB (nbk D) X = false := by
  cases e : allB (nbk D) X with
  | false => rfl
  | true =>
    refine absurd (rgE_yes h1 h3 fun x hx => ?_) h
    have := List.all_eq_true.1 e x hx
    simpa using this
theorem allB_yes {D : Nat} (h1 : 1 ≤ D) (h3 : D ≤ 3) {X : List Int} (h : rgE D X = 0) : ∀ x ∈ X, 0 ≤ x ∧ x < nbk D := fun x hx => by
  by_cases hb : x < 0 ∨ nbk D ≤ x
  · rw [rgE_no h1 h3 hx hb] at h; cases h
  · omega
theorem gb_of_own {w1 w2 w3 : World} {v : Value} {n : Nat} {xs : List Value} {e : TypeId} {size : Nat} (h : w1.grownBy w2 none) (ho : w2.ownsRow w1.heap.size e size v n xs) (hg : w2.grownBy w3 v.ownBlock) : w1.grownBy w3 none :=
  below_gb (((gb_below h)).trans (gb_own ho hg h.size))
theorem gb_own1 {w w' : World} {B : Nat} {v : Value} {n : Nat} {xs : List Value} {e : TypeId} {size : Nat} (h : w.ownsRow B e size v n xs) (hg : w.grownBy w' none) : w'.ownsRow B e size v n xs := own_gb h hg
set_option maxRecDepth 20000 in
set_option maxHeartbeats 4000000 in
theorem walk (d : Int) (a : Option Addr) (len cap : Nat) (zs : List Int) (w : World) (w0 : (Lit.int .i64 d).wf = true) (x1 : IsRow .i64 17592186043904 w a len cap zs) :
    Calls Try.prog 3 #[.int .i64 d, .slice a len cap] w fun e w' => e = .returned (.bool true) ∧ Below w.heap.size w w' := by
  obtain ⟨X, rfl, hX, hnz, hlc, hcR⟩ := row_cells x1
  have HX : Hid (Cells w a (i64s X)) := hX
  have HNZ : Hid (a = none → cap = 0) := hnz
  clear x1 hX hnz w0
  obtain ⟨L, hL⟩ : ∃ L, L = X.length := ⟨_, rfl⟩
  have HL : Hid (L = X.length) := hL
  have HAW : Hid _ := fun w => awake_c w
  have HRC : Hid (∀ (w : World), Cells w a (i64s X) → Calls Try.prog 6 #[.int .i64 d, .slice a L cap] w fun e w' => ∃ v R, e = .returned (.tuple #[v, .int .i64 (rgE d X)]) ∧ w'.ownsRow w.heap.size 39 2 v R.length (flR R) ∧ Nrm R ∧ (rgE d X = 0 → ∀ t, lHas R t = decide (bkt t d.toNat ∈ X)) ∧ (¬ rgE d X = 0 → R = []) ∧ R.length ≤ 8193 ∧ w.grownBy w' none) := fun w h => by
    rw [HL.out]; exact ranges_c d X a cap w h (by omega)
  rw [← hL] at hlc ⊢
  clear hL
  by_cases hE : rgE d X = 0
  · have HBC : Hid (∀ (R : List Rg) (a : Option Addr) (c : Nat) (w : World), R.length ≤ 8193 → Cells w a (flR R) → Calls Try.prog 7 #[.int .i64 d, .slice a R.length c] w fun e w' => ∃ v, e = .returned (.tuple #[v, .int .i64 (dE d)]) ∧ w'.ownsRow w.heap.size 3 1 v (bmt d R).length (i64s (bmt d R)) ∧ w.grownBy w' none) := fun R a c w h k => buckets_c d R a c w k (by omega)
    have HNC : Hid (∀ (R : List Rg) (a : Option Addr) (c : Nat) (w : World), R.length ≤ 8193 → Nrm R → Cells w a (flR R) → Calls Try.prog 9 #[.slice a R.length c] w fun e w' => e = .returned (.bool true) ∧ w.grownBy w' none) := fun R a c w h k k2 => lnormal_c R a c w k2 (by omega) k
    rcases deep_cases d with ⟨D, rfl, h1, h3⟩ | h
    case inr => exfalso; unfold rgE at hE; rw [if_pos (nbk_none h)] at hE; cases hE
    have hnb := nbk_bd D h1 h3
    have HDE : Hid (dE (D : Int) = 0) := by show _ = _; unfold dE; rw [if_neg (by omega)]
    have HAL := allB_yes h1 h3 hE
    obtain ⟨n, hnn⟩ : ∃ n : Nat, nbk D = (n : Int) := ⟨(nbk D).toNat, by omega⟩
    rw [HDE.out] at HBC
    have HMT : Hid (∀ R : List Rg, (∀ t, lHas R t = decide (bkt t D ∈ X)) → (bmt (D : Int) R).Pairwise (fun x y => x < y) ∧ (∀ x, x ∈ bmt (D : Int) R ↔ x ∈ X) ∧ (bmt (D : Int) R).length ≤ 4096) := fun R hR => by
      have e : bmt (D : Int) R = mt D R n := by unfold bmt; rw [hnn]; rfl
      rw [e]
      exact ⟨mt_ris D R n, mt_back h1 h3 hnn (fun x hx => by rw [← hnn]; exact HAL x hx) hR, Nat.le_trans (mt_len D R n) (by omega)⟩
    have HRC2 : Hid (∀ (w : World), Cells w a (i64s X) → Calls Try.prog 6 #[.int .i64 (D : Int), .slice a L cap] w fun e w' => ∃ v R, e = .returned (.tuple #[v, .int .i64 0]) ∧ w'.ownsRow w.heap.size 39 2 v R.length (flR R) ∧ Nrm R ∧ (∀ t, lHas R t = decide (bkt t D ∈ X)) ∧ R.length ≤ 8193 ∧ w.grownBy w' none) := fun w h => (HRC.out w h).mono fun e w' ⟨v, R, k1, k2, k3, k4, k5, k6, k7⟩ => ⟨v, R, by rw [k1, hE], k2, k3, fun t => by have := k4 hE t; simpa using this, k6, k7⟩
    clear HRC hE HAL hnn HDE hnb
    generalize (D : Int) = d at *
    have HSO : Hid (∀ (w : World) (B : Nat) (a : Option Addr) (c : Nat), w.ownsRow B 3 1 (.slice a L c) L (i64s X) → Calls Try.prog 8 #[.slice a L c] w fun e w' => e = .returned (.tuple #[]) ∧ ∃ ls', X.Perm ls' ∧ SrtI ls' ∧ w'.ownsRow B 3 1 (.slice a L c) L (i64s ls') ∧ w.grownBy w' (Value.slice a L c).ownBlock) := fun w B a c h => by
      have := sortIv_c B (.slice a L c) X w (by rw [← HL.out]; exact h) (by have := HL.out; omega)
      rwa [← HL.out] at this
    go_enter Try.func3, Try.ntmps3
    go_wp2_with (first
      | (go_at_call 5; go_must (refine (Calls.mono (HAW.out w) ?_)); rintro e w1 ⟨rfl, h⟩; have H1 : Hid (w.grownBy w1 none) := h; clear h)
      | (go_at_call 6; go_must (refine (Calls.mono (HRC2.out w1 (HX.out.gb H1.out)) ?_)); rintro e w2 ⟨v2, R, rfl, k1, k2, k3, k5, k6⟩; obtain ⟨a2, c2, rfl, hc2, -⟩ := own_cells k1; have H2 : Hid (Cells w2 a2 (flR R) ∧ Nrm R ∧ (∀ t, lHas R t = decide (bkt t D ∈ X)) ∧ R.length ≤ 8193 ∧ w.grownBy w2 none) := ⟨hc2, k2, k3, k5, gb_trans H1.out k6⟩; clear k1 k2 k3 k5 k6 hc2)
      | (go_at_call 7; go_must (refine (Calls.mono (HBC.out R a2 c2 w2 H2.out.2.2.2.1 H2.out.1) ?_)); rintro e w3 ⟨v3, rfl, k1, k2⟩; obtain ⟨hY1, hY2, hY3⟩ := HMT.out R H2.out.2.2.1; obtain ⟨Y, hY⟩ : ∃ Y, Y = bmt d R := ⟨_, rfl⟩; rw [← hY] at k1 hY1 hY2 hY3; obtain ⟨a3, c3, rfl, hc3, -⟩ := own_cells k1; obtain ⟨M, hM⟩ : ∃ M, M = Y.length := ⟨_, rfl⟩; rw [← hM]; have H3 : Hid (Cells w3 a3 (i64s Y) ∧ Y.Pairwise (fun x y => x < y) ∧ (∀ x, x ∈ Y ↔ x ∈ X) ∧ Y.length ≤ 4096 ∧ M = Y.length ∧ w.grownBy w3 none ∧ Cells w3 a2 (flR R)) := ⟨hc3, hY1, hY2, hY3, hM, gb_trans H2.out.2.2.2.2 k2, H2.out.1.gb k2⟩; clear k1 k2 hc3 hY1 hY2 hY3 hY hM)
      | ((fail_if_success (have zz := H4)); at_builtin; go_must (refine wpList_cat rfl _ _ 22 rfl w3.heap.size 3 _ 1 8 Try.underlying22 infoInt rfl (by decide) (.slice none 0 0) 0 [] rfl (own_none _ _ _ _) a L cap (i64s X) rfl HNZ.out (by rw [i64s, List.length_map, HL.out]; omega) (HX.out.gb H3.out.2.2.2.2.2.1) (i64s_one X) (by unfold maxLen; omega) (by omega) (Nat.le_refl _) ?_); intro v4 w4 ho4 hb4 _; rw [Nat.zero_add, List.nil_append] at ho4; obtain ⟨a4, c4, rfl, -⟩ := own_cells ho4; have H4 : Hid (w4.ownsRow w3.heap.size 3 1 (.slice a4 L c4) L (i64s X) ∧ w3.grownBy w4 none) := ⟨ho4, below_gb hb4⟩; clear ho4 hb4)
      | (go_at_call 8; go_must (refine (Calls.mono (HSO.out _ _ _ _ H4.out.1) ?_)); rintro e w5 ⟨rfl, ls, hp, hs, ho, hg⟩; have H5 : Hid (X.Perm ls ∧ SrtI ls ∧ L = ls.length ∧ Cells w5 a4 (i64s ls) ∧ w3.grownBy w5 none) := ⟨hp, hs, HL.out.trans hp.length_eq, (by obtain ⟨x, c, he, hc, _⟩ := own_cells ho; cases he; exact hc), gb_of_own H4.out.2 H4.out.1 hg⟩; clear hp hs ho hg))
    clear HRC2 HBC HMT HAW HSO
    go_loopw [14, 15] (fun v i wr => ∃ k : Nat, ∃ ms, k ≤ L ∧ i = .int .i64 k ∧ Hid (WI ls k ms ∧ wr.ownsRow w5.heap.size 3 1 v ms.length (i64s ms) ∧ w5.grownBy wr none)) (fun _ i _ => L - (intOf i).toNat)
    case atStart => exact ⟨0, [], Nat.zero_le _, rfl, wi_none _, own_none _ _ _ _, gb_refl _⟩
    case round =>
      obtain ⟨i, ms, hi, rfl, hr⟩ := hrel
      by_cases hlt : i < L
      · have hlt' : i < ls.length := by have := H5.out.2.2.1; omega
        obtain ⟨bb, oo, hab, -, -⟩ := cells_int H5.out.2.2.2.1 i hlt'
        have HC : Hid (∀ i, i < ls.length → wr.cell? ⟨bb, oo + i, none⟩ = some (.int .i64 (ls.getD i 0))) := fun i hi => by
          obtain ⟨b, off, ha, hb, hc⟩ := cells_int (H5.out.2.2.2.1.gb hr.out.2.2) i hi
          rw [hab] at ha; cases ha
          exact hc
        have HAB : Hid (a4 = some ⟨bb, oo, none⟩) := hab
        have cI := HC.out i hlt'
        have HDI : Hid (WI ls i ms) := hr.out.1
        have HSS : Hid (i = 0 ∨ ls.getD i 0 ≠ ls.getD (i - 1) 0 → WI ls (i + 1) (ms ++ [ls.getD i 0])) := fun h => wi_more H5.out.2.1 HDI.out hlt' h
        have HSK : Hid (0 < i → ls.getD i 0 = ls.getD (i - 1) 0 → WI ls (i + 1) ms) := fun h0 h => wi_skip H5.out.2.1 HDI.out hlt' h0 h
        have HFT : Hid (i64s (ms ++ [ls.getD i 0]) = i64s ms ++ (#[Value.int .i64 (ls.getD i 0)] : Array Value).toList) := by show _ = _; simp [i64s]
        have HLM : Hid (ms.length ≤ i) := hr.out.1.len
        obtain ⟨p, hp⟩ : ∃ p, p = ms.length := ⟨_, rfl⟩
        have HP : Hid (p = ms.length) := hp
        have HO : Hid (wr.ownsRow w5.heap.size 3 1 u14 p (i64s ms) ∧ w5.grownBy wr none) := by rw [hp]; exact hr.out.2
        have i1 : (0 : Int) ≤ (i : Int) := by omega
        have i2 : (i : Int) < (L : Int) := by omega
        have hlm := HLM.out
        rw [← hp] at hlm
        rw [hab]
        clear hr hp HLM hab
        rcases (show i = 0 ∨ 0 < i by omega) with rfl | hi0
        · have HDN : Hid (WI ls (0 + 1) (ms ++ [ls.getD 0 0])) := HSS.out (.inl rfl)
          clear HSS HSK HC HDI
          generalize ls.getD 0 0 = x at *
          rw [Nat.add_zero] at cI
          go_wp2
          go_quiet (fail)
          generalize hW5 : World.drewN wr _ = W5
          have cI5 : W5.cell? ⟨bb, oo, none⟩ = some (.int .i64 x) := by rw [← hW5]; exact cI
          have HO5 : Hid (W5.ownsRow w5.heap.size 3 1 u14 p (i64s ms) ∧ w5.grownBy W5 none) := by rw [← hW5]; exact ⟨own_gb HO.out.1 (gb_drewN (gb_refl _) _), gb_drewN HO.out.2 _⟩
          clear hW5
          go_wp2_with (first
            | (at_builtin; go_must (refine wpList_lit rfl _ _ 22 rfl w5.heap.size 3 _ 1 8 Try.underlying22 infoInt rfl (by decide) W5 #[.int .i64 x] rfl _ p (i64s ms) rfl HO5.out.1 rfl rfl (by simp [Value.oneCell']) (by unfold maxLen; omega) (by omega) HO5.out.2.size ?_); intro g6 cap6 w6 ho6 hb6 _ _ _; have H6 : Hid (w6.ownsRow w5.heap.size 3 1 (.slice (some ⟨g6, 0, none⟩) (p + 1) cap6) (p + 1) (i64s (ms ++ [x])) ∧ w5.grownBy w6 none) := ⟨(by rw [HFT.out]; exact ho6), below_gb ((gb_below HO5.out.2).trans hb6)⟩; clear ho6 hb6))
          try rw [← HAB.out]
          exact ⟨⟨1, ms ++ [x], by omega, by simp, HDN.out, by rw [List.length_append, ← HP.out]; exact H6.out.1, H6.out.2⟩, by simp [intOf]; omega⟩
        · obtain ⟨j, hj⟩ : ∃ j, j = i - 1 := ⟨_, rfl⟩
          have cJ := HC.out j (by omega)
          rw [← hj] at HSS HSK
          have e1 : IntKind.i64.wrap ((i : Int) - 1) = (j : Int) := (IntWalk.i64_in _ ⟨by omega, by omega⟩).trans (by omega)
          have e2 : wrap64 ((i : Int) - 1) = (j : Int) := (IntWalk.wrap64_in _ ⟨by omega, by omega⟩).trans (by omega)
          have e3 : (0 : Int) ≤ (j : Int) := by omega
          have e4 : (j : Int) < (L : Int) := by omega
          have e5 : ((i : Int) == 0) = false := by rw [beq_eq_false_iff_ne]; omega
          have e6 : ¬ (i : Int) = 0 := by omega
          have HI0 : Hid (0 < i) := hi0
          clear HC hj hi0 HDI
          generalize ls.getD i 0 = x at *
          generalize ls.getD j 0 = y at *
          by_cases hxy : x = y
          · subst hxy
            have HDN : Hid (WI ls (i + 1) ms) := HSK.out HI0.out rfl
            clear HSS HSK
            go_wp2
            go_quiet (fail)
            generalize hW5 : World.drewN wr _ = W5
            have HO5 : Hid (W5.ownsRow w5.heap.size 3 1 u14 p (i64s ms) ∧ w5.grownBy W5 none) := by rw [← hW5]; exact ⟨own_gb HO.out.1 (gb_drewN (gb_refl _) _), gb_drewN HO.out.2 _⟩
            clear hW5
            go_wp2
            try rw [← HAB.out]
            exact ⟨⟨i + 1, ms, by omega, by simp, HDN.out, by rw [← HP.out]; exact HO5.out.1, HO5.out.2⟩, by simp [intOf]; omega⟩
          · have q1 : (x == y) = false := by rw [beq_eq_false_iff_ne]; exact hxy
            have HDN : Hid (WI ls (i + 1) (ms ++ [x])) := HSS.out (.inr hxy)
            clear HSS HSK
            go_wp2
            go_quiet (fail)
            generalize hW5 : World.drewN wr _ = W5
            have cI5 : W5.cell? ⟨bb, oo + i, none⟩ = some (.int .i64 x) := by rw [← hW5]; exact cI
            have HO5 : Hid (W5.ownsRow w5.heap.size 3 1 u14 p (i64s ms) ∧ w5.grownBy W5 none) := by rw [← hW5]; exact ⟨own_gb HO.out.1 (gb_drewN (gb_refl _) _), gb_drewN HO.out.2 _⟩
            clear hW5
            go_wp2_with (first
              | (at_builtin; go_must (refine wpList_lit rfl _ _ 22 rfl w5.heap.size 3 _ 1 8 Try.underlying22 infoInt rfl (by decide) W5 #[.int .i64 x] rfl _ p (i64s ms) rfl HO5.out.1 rfl rfl (by simp [Value.oneCell']) (by unfold maxLen; omega) (by omega) HO5.out.2.size ?_); intro g6 cap6 w6 ho6 hb6 _ _ _; have H6 : Hid (w6.ownsRow w5.heap.size 3 1 (.slice (some ⟨g6, 0, none⟩) (p + 1) cap6) (p + 1) (i64s (ms ++ [x])) ∧ w5.grownBy w6 none) := ⟨(by rw [HFT.out]; exact ho6), below_gb ((gb_below HO5.out.2).trans hb6)⟩; clear ho6 hb6))
            try rw [← HAB.out]
            exact ⟨⟨i + 1, ms ++ [x], by omega, by simp, HDN.out, by rw [List.length_append, ← HP.out]; exact H6.out.1, H6.out.2⟩, by simp [intOf]; omega⟩
      · obtain rfl : i = L := by omega
        have hd := hr.out.1
        have he : ms = Y := pw_uniq hd.ris H3.out.2.1 fun x => by
          rw [hd.mem, List.take_of_length_le (by have := H5.out.2.2.1; omega), ← H5.out.1.mem_iff, H3.out.2.2.1]
        subst he
        obtain ⟨a7, c7, rfl, hc7, -⟩ := own_cells hr.out.2.1
        have HF : Hid (Cells wr a7 (i64s ms) ∧ Cells wr a3 (i64s ms) ∧ Cells wr a2 (flR R) ∧ w.grownBy wr none) := ⟨hc7, (H3.out.1.gb H5.out.2.2.2.2).gb hr.out.2.2, (H3.out.2.2.2.2.2.2.gb H5.out.2.2.2.2).gb hr.out.2.2, gb_trans H3.out.2.2.2.2.2.1 (gb_trans H5.out.2.2.2.2 hr.out.2.2)⟩
        rw [← H3.out.2.2.2.2.1]
        have HSI : Hid (∀ w : World, Cells w a3 (i64s ms) → Cells w a7 (i64s ms) → Calls Try.prog 10 #[.slice a3 M c3, .slice a7 M c7] w fun e w' => e = .returned (.bool true) ∧ w.grownBy w' none) := fun w h1 h2 => by
          have := sameInts_c ms ms a3 a7 c3 c7 w h1 h2 (by have := H3.out.2.2.2.1; omega) (by have := H3.out.2.2.2.1; omega)
          rw [H3.out.2.2.2.2.1]; simpa using this
        clear hr hd hc7
        go_wp2_with (first
          | (go_at_call 9; go_must (refine (Calls.mono (HNC.out R a2 c2 wr H2.out.2.2.2.1 H2.out.2.1 HF.out.2.2.1) ?_)); rintro e w8 ⟨rfl, h⟩; have H8 : Hid (wr.grownBy w8 none) := h; clear h)
          | (go_at_call 10; go_must (refine (Calls.mono (HSI.out w8 (HF.out.2.1.gb H8.out) (HF.out.1.gb H8.out)) ?_)); rintro e w9 ⟨rfl, h⟩; have H9 : Hid (wr.grownBy w9 none) := gb_trans H8.out h; clear h))
        go_ret
        exact ⟨rfl, gb_below (gb_trans HF.out.2.2.2 H9.out)⟩
  · obtain ⟨E, hEE⟩ : ∃ E, E = rgE d X := ⟨_, rfl⟩
    have HR3 : Hid (∀ (w : World), Cells w a (i64s X) → Calls Try.prog 6 #[.int .i64 d, .slice a L cap] w fun e w' => ∃ v, e = .returned (.tuple #[v, .int .i64 E]) ∧ w.grownBy w' none) := fun w h => (HRC.out w h).mono fun e w' ⟨v, R, k1, k2, k3, k4, k5, k6, k7⟩ => ⟨v, by rw [k1, hEE], k7⟩
    have hz : ¬ E = 0 := by rw [hEE]; exact hE
    have hzb : (E == 0) = false := by rw [beq_eq_false_iff_ne]; exact hz
    clear HRC
    rcases deep_cases d with ⟨D, rfl, h1, h3⟩ | hd
    · have HAB : Hid (allB (nbk D) X = false) := allB_no h1 h3 hE
      clear hE hEE
      go_enter Try.func3, Try.ntmps3
      go_wp2_with (first
        | (go_at_call 5; go_must (refine (Calls.mono (HAW.out w) ?_)); rintro e w1 ⟨rfl, h⟩; have H1 : Hid (w.grownBy w1 none) := h; clear h)
        | (go_at_call 6; go_must (refine (Calls.mono (HR3.out w1 (HX.out.gb H1.out)) ?_)); rintro e w2 ⟨v2, rfl, k6⟩; have H2 : Hid (w.grownBy w2 none) := gb_trans H1.out k6; clear k6))
      clear HAW HR3
      go_loopw [7, 8] (fun q i wr => ∃ k : Nat, 1 ≤ k ∧ k ≤ D ∧ i = .int .i64 k ∧ q = .int .i64 (p16 k) ∧ Hid (wr = w2)) (fun _ i _ => D - (intOf i).toNat)
      case atStart => exact ⟨1, by omega, h1, rfl, rfl, rfl⟩
      case round =>
        obtain ⟨k, hk1, hk, rfl, rfl, hr⟩ := hrel
        obtain rfl : wr = w2 := hr.out
        clear hr
        by_cases hlt : k < D
        · have i2 : (k : Int) < (D : Int) := by omega
          have i3 : (D : Int) ≤ 3 := by omega
          have HST : Hid _ := p16_step k (by omega)
          generalize p16 k = x at *
          go_wp2
          exact ⟨⟨k + 1, by omega, by omega, by simp, congrArg (Value.int .i64) HST.out, trivial⟩, by simp [intOf]; omega⟩
        · obtain rfl : k = D := by omega
          have i3 : (k : Int) ≤ 3 := by omega
          have i4 : (1 : Int) ≤ (k : Int) := by omega
          have HN : Hid (nbk (k : Int) = p16 k) := nbk_pow k h1 h3
          have HNO : Hid (allB (p16 k) X = false) := by rw [← HN.out]; exact HAB.out
          generalize p16 k = N at *
          obtain ⟨w3, rfl⟩ : ∃ w3, w3 = wr := ⟨_, rfl⟩
          go_wp2
          go_loopw [9, 10] (fun q i wr => ∃ j : Nat, ∃ qb : Bool, j ≤ L ∧ i = .int .i64 j ∧ q = .bool qb ∧ Hid (qb = allB N (X.take j)) ∧ Hid (wr = w3)) (fun _ i _ => L - (intOf i).toNat)
          case atStart => exact ⟨0, true, Nat.zero_le _, rfl, rfl, rfl, rfl⟩
          case round =>
            obtain ⟨j, qb, hj, rfl, rfl, hq, hr⟩ := hrel
            obtain rfl : wr = w3 := hr.out
            clear hr
            by_cases hlt : j < L
            · have j2 : (j : Int) < (L : Int) := by omega
              have j1 : (0 : Int) ≤ (j : Int) := by omega
              obtain ⟨ba, oa, hab, -, c0⟩ := cells_int (HX.out.gb H2.out) j (by have := HL.out; omega)
              have HTK : Hid _ := allB_take (X := X) (k := j) (by have := HL.out; omega) N
              generalize X.getD j 0 = x at *
              have HAA : Hid _ := hab
              rw [hab]
              clear hab
              cases qb
              · go_wp2
                try rw [← HAA.out]
                exact ⟨⟨j + 1, false, by omega, by simp, rfl, (by show _ = _; rw [HTK.out, ← hq.out]; rfl), trivial⟩, by simp [intOf]; omega⟩
              · by_cases x0 : (0 : Int) ≤ x
                · by_cases xn : x < N
                  · go_wp2
                    try rw [← HAA.out]
                    exact ⟨⟨j + 1, true, by omega, by simp, rfl, (by show _ = _; rw [HTK.out, ← hq.out]; simp [x0, xn]), trivial⟩, by simp [intOf]; omega⟩
                  · go_wp2
                    try rw [← HAA.out]
                    exact ⟨⟨j + 1, false, by omega, by simp, rfl, (by show _ = _; rw [HTK.out, ← hq.out]; simp [x0, xn]), trivial⟩, by simp [intOf]; omega⟩
                · go_wp2
                  try rw [← HAA.out]
                  exact ⟨⟨j + 1, false, by omega, by simp, rfl, (by show _ = _; rw [HTK.out, ← hq.out]; simp [x0]), trivial⟩, by simp [intOf]; omega⟩
            · obtain rfl : j = L := by omega
              have hqf : qb = false := by rw [hq.out, List.take_of_length_le (by have := HL.out; omega)]; exact HNO.out
              subst hqf
              go_wp2
              go_ret
              exact ⟨rfl, gb_below H2.out⟩
    · clear hE hEE
      rcases hd with hd | hd
      · have hd1 : ¬ (1 : Int) < d := by omega
        have hd2 : ¬ (1 : Int) ≤ d := by omega
        go_enter Try.func3, Try.ntmps3
        go_wp2_with (first
          | (go_at_call 5; go_must (refine (Calls.mono (HAW.out w) ?_)); rintro e w1 ⟨rfl, h⟩; have H1 : Hid (w.grownBy w1 none) := h; clear h)
          | (go_at_call 6; go_must (refine (Calls.mono (HR3.out w1 (HX.out.gb H1.out)) ?_)); rintro e w2 ⟨v2, rfl, k6⟩; have H2 : Hid (w.grownBy w2 none) := gb_trans H1.out k6; clear k6))
        clear HAW HR3
        go_loopw [7, 8] (fun q i wr => q = .int .i64 16 ∧ i = .int .i64 1 ∧ Hid (wr = w2)) (fun _ i _ => 0)
        case atStart => exact ⟨rfl, rfl, rfl⟩
        case round =>
          obtain ⟨rfl, rfl, hr⟩ := hrel
          obtain rfl : wr = w2 := hr.out
          clear hr
          obtain ⟨w3, rfl⟩ : ∃ w3, w3 = wr := ⟨_, rfl⟩
          go_wp2
          go_loopw [9, 10] (fun q i wr => ∃ j : Nat, j ≤ L ∧ i = .int .i64 j ∧ q = .bool false ∧ Hid (wr = w3)) (fun _ i _ => L - (intOf i).toNat)
          case atStart => exact ⟨0, Nat.zero_le _, rfl, (by first | rfl | (simp; omega)), rfl⟩
          case round =>
            obtain ⟨j, hj, rfl, rfl, hr⟩ := hrel
            obtain rfl : wr = w3 := hr.out
            by_cases hlt : j < L
            · have j2 : (j : Int) < (L : Int) := by omega
              go_wp2
              exact ⟨⟨j + 1, by omega, by simp, rfl, trivial⟩, by simp [intOf]; omega⟩
            · obtain rfl : j = L := by omega
              go_wp2
              go_ret
              exact ⟨rfl, gb_below H2.out⟩
      · have hd1 : (1 : Int) < d := by omega
        have hd2 : (1 : Int) ≤ d := by omega
        have hd3 : ¬ d ≤ (3 : Int) := by omega
        go_enter Try.func3, Try.ntmps3
        go_wp2_with (first
          | (go_at_call 5; go_must (refine (Calls.mono (HAW.out w) ?_)); rintro e w1 ⟨rfl, h⟩; have H1 : Hid (w.grownBy w1 none) := h; clear h)
          | (go_at_call 6; go_must (refine (Calls.mono (HR3.out w1 (HX.out.gb H1.out)) ?_)); rintro e w2 ⟨v2, rfl, k6⟩; have H2 : Hid (w.grownBy w2 none) := gb_trans H1.out k6; clear k6))
        clear HAW HR3
        go_loopw [7, 8] (fun q i wr => q = .int .i64 16 ∧ i = .int .i64 1 ∧ Hid (wr = w2)) (fun _ i _ => 0)
        case atStart => exact ⟨rfl, rfl, rfl⟩
        case round =>
          obtain ⟨rfl, rfl, hr⟩ := hrel
          obtain rfl : wr = w2 := hr.out
          clear hr
          obtain ⟨w3, rfl⟩ : ∃ w3, w3 = wr := ⟨_, rfl⟩
          go_wp2
          go_loopw [9, 10] (fun q i wr => ∃ j : Nat, j ≤ L ∧ i = .int .i64 j ∧ q = .bool false ∧ Hid (wr = w3)) (fun _ i _ => L - (intOf i).toNat)
          case atStart => exact ⟨0, Nat.zero_le _, rfl, (by first | rfl | (simp; omega)), rfl⟩
          case round =>
            obtain ⟨j, hj, rfl, rfl, hr⟩ := hrel
            obtain rfl : wr = w3 := hr.out
            by_cases hlt : j < L
            · have j2 : (j : Int) < (L : Int) := by omega
              go_wp2
              exact ⟨⟨j + 1, by omega, by simp, rfl, trivial⟩, by simp [intOf]; omega⟩
            · obtain rfl : j = L := by omega
              go_wp2
              go_ret
              exact ⟨rfl, gb_below H2.out⟩

set_option maxRecDepth 100000 in
theorem lifted (os : Os) (started : os.Started) (H : Type) (enc : TypeId × Value → H) :
    ReturnsInHanded {} Try.checked os 3 .any (Rows.spanBackSpec.pre6 enc Try.prog Try.f3 Rows.spanBackRow.domain false) (Rows.spanBackSpec.post enc Try.prog Try.f3 false true false false) := by
  refine returnsInHanded_of_change_sized (C := Try.checked) own started (by kernel_rfl) Try.func3
    (ChangeSpec.witness6 (enc := enc) (C := Try.checked) false ⟨#[], #[.int .i64 0, .slice none 0 0], []⟩ 8 (by kernel_rfl) (by kernel_rfl) (by kernel_rfl) (by kernel_rfl)) ?_
  intro W base args ds gs before hval0 hW hcnd hsz0 _
  have hsz : (DataW.weightsEach Try.prog (Try.f3.params.toList ++ Rows.spanBackSpec.plain.varTypes Try.prog) (ds ++ gs)).all (· ≤ reachBytes) = true := hsz0
  have hval : ∀ (j : Nat) t v, Try.f3.params[j]? = some t → args[j]? = some v → Value.okWide Try.prog W .any base t v := hval0
  have hW' := hW
  obtain ⟨p, q, hA0, hV, rfl, hfz, hnd⟩ := hW
  have hA : DataW.TrodAll enc Try.prog W 0 (fun _ => true) true Try.f3.params.toList args.toList ds p := hA0
  rw [Try.params3] at hA hval hsz
  obtain ⟨v0, vs0, d0, ds0, p0, q0, hargs, rfl, rfl, h0, r0⟩ := trodAll_cons hA
  obtain ⟨v1, vs1, d1, ds1, p1, q1, rfl, rfl, rfl, h1, r1⟩ := trodAll_cons r0
  obtain ⟨rfl, rfl, rfl⟩ := trodAll_nil r1
  obtain rfl : args = #[v0, v1] := by cases args; simp_all
  obtain ⟨rfl, rfl⟩ := trodVars_none hV
  obtain ⟨a0, rfl, rfl, rfl, w0⟩ := open_int Try.underlying3 (hval 0 3 v0 rfl rfl) h0
  have k1 := h1
  have lt1 : ∀ x ∈ p1, x.block < W.heap.size := by obtain ⟨m, hm⟩ := k1; exact DataW.trod_lt m _ _ _ hm
  obtain ⟨a1, len1, cap1, z1, rfl, x1⟩ : ∃ a len cap zs, v1 = .slice a len cap ∧ IsRow .i64 17592186043904 W a len cap zs := by
    obtain ⟨sa, sl, sc, rfl⟩ := okWide_slice Try.underlying22 (hval 1 22 v1 rfl rfl)
    obtain ⟨fuel, hf⟩ := h1
    rcases open_ints Try.underlying22 Try.underlying3 (by kernel_rfl) hf with ⟨hcs, _⟩ | ⟨x, l, c, zs, hcs, _, hl, hm, hz, hx, hcell, hwz⟩
    · simp [Value.cells] at hcs; obtain ⟨rfl, rfl, rfl⟩ := hcs
      exact ⟨none, 0, 0, [], rfl, .inl ⟨rfl, rfl, rfl, rfl⟩⟩
    · simp [Value.cells] at hcs; obtain ⟨rfl, rfl, rfl⟩ := hcs
      have hz' : zs.length = sc := by simpa using hz
      have hd : d1 = _ := congrArg Prod.fst hx
      have hb := sized_slice hsz (j := 1) (t := 22) (e := 3) rfl (congrArg some hd) Try.underlying22
      rw [show Try.prog.bytesOf 3 = 8 from by kernel_rfl] at hb
      simp only [lits, List.length_map, List.length_take, List.length_drop, reachBytes] at hb
      exact ⟨some x, sl, sc, zs, rfl, .inr ⟨_, rfl, hl, by omega, hz', hcell, hwz⟩⟩
  clear hA0 hval0
  refine (walk a0 a1 len1 cap1 z1 W w0 x1).mono fun e W' ⟨he, bel⟩ => ?_
  subst he
  exact ⟨_, rfl, _, _, _, [], _, [], hW', trodAll_mk1 (shut_bool Try.underlying4 _), (trodAll_cons_mk (shut_int Try.underlying3 w0) (trodAll_cons_mk (Below.trod laidOut (by kernel_rfl) (of_decide_eq_true (by kernel_rfl)) k1 bel lt1) trodAll_mk0)), rfl, bel.frame _, fun h => by cases h⟩

theorem over : Rows.spanBackRow.holds Try.pinned (OpenSpec.ofChange Rows.spanBackSpec) :=
  OpenClaim.holds_of_wide 3 Try.f3 rfl rfl rfl rfl rfl rfl rfl ⟨rfl, rfl, rfl, rfl, rfl⟩ rfl rfl rfl rfl rfl (by kernel_rfl) Try.func3 (by kernel_rfl)
    (of_decide_eq_true (by kernel_rfl)) (by unfold Func.isWrapper; first | (rw [if_pos (by decide +kernel)]; kernel_rfl) | (rw [if_neg (by decide +kernel)]; exact ⟨rfl, rfl⟩))
    (fun os started H enc _ => lifted os started H enc)

end Go.Proofs.Ytdjcokepeifojaa.spanBack
namespace Go.Proofs.Ytdjcokepeifojaa
theorem spanBack_holds : Rows.SpanBackSaid := spanBack.over
#print axioms spanBack_holds
end Go.Proofs.Ytdjcokepeifojaa
