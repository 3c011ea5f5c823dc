/-
  Proved: for every depth and all numbers, hawserlaw06.SpanRanges answers true: Ranges is the document's, errors too, and the numbers stay as they are, what stands behind them too. No condition.
-/
import Derived.Test.YtggkkpbgnlmfeabRows
import Derived.Test.YtggkkpbgnlmfeabNGr
import Derived.Test.YtggkkpbgnlmfeabNIn
import Derived.Test.YtggkkpbgnlmfeabNNu
import Derived.Test.YtggkkpbgnlmfeabNLv
import Derived.Test.YtggkkpbgnlmfeabNSm
import Derived.WalkKit
import Derived.ProofKit
import Derived.OpenShut
import Derived.ShutString
import Derived.ChangeOld
import Derived.Below
import Derived.Lib.SmallJoins
import Derived.JoinedCond
import Derived.SizedLaws
namespace Go.Proofs.Ytggkkpbgnlmfeab.spanRanges
open Go.ChangeShapes Go.WideShapes Go.ChangeAt Go.RowKit
set_option linter.unusedVariables false

theorem own : ownKnob Try.prog.godebug = none := by kernel_rfl
theorem laidOut : laidOutB Try.prog = true := by kernel_rfl

/-- What the walk is told of a slice of integers that came in. -/
def IsRow (k : IntKind) (R : Nat) (w : World) (a : Option Addr) (len cap : Nat) (zs : List Int) : Prop :=
  (a = none ∧ len = 0 ∧ cap = 0 ∧ zs = []) ∨
  ∃ x, a = some x ∧ len ≤ cap ∧ cap ≤ R ∧ zs.length = cap ∧ (∀ i, i < zs.length → w.cell? (x.add i) = some (.int k (zs.getD i 0))) ∧ ∀ n ∈ zs, (Lit.int k n).wf = true

theorem row_cells {R : Nat} {w : World} {a : Option Addr} {len cap : Nat} {zs : List Int} (h : IsRow .i64 R w a len cap zs) : ∃ X : List Int, X.length = len ∧ Cells w a (i64s X) ∧ (a = none → cap = 0) ∧ len ≤ cap ∧ cap ≤ R := by
  rcases h with ⟨rfl, rfl, rfl, rfl⟩ | ⟨x, rfl, hl, hc, hz, hcell, hwf⟩
  · exact ⟨[], rfl, .inl rfl, fun _ => rfl, Nat.le_refl _, Nat.zero_le _⟩
  · refine ⟨zs.take len, by rw [List.length_take]; omega, ?_, (fun h => by cases h), hl, hc⟩
    by_cases h0 : len = 0
    · subst h0; exact .inl (by simp [i64s])
    · right
      obtain ⟨b, off, spot⟩ := x
      have c0 := hcell 0 (by omega)
      have hspot : spot = none := by simpa [Addr.add] using World.cell?_spot c0
      subst hspot
      rw [Go.WideShapes.add_plain] at c0
      refine ⟨b, off, rfl, ?_, fun j u hu => ?_⟩
      · rcases Nat.lt_or_ge b w.heap.size with h1 | h1
        · exact h1
        · simp [World.cell?, h1] at c0
      · have hj : j < (zs.take len).length := by
          rcases Nat.lt_or_ge j (zs.take len).length with h1 | h1
          · exact h1
          · rw [List.getElem?_eq_none (by simpa [i64s] using h1)] at hu; cases hu
        rw [List.length_take] at hj
        have := hcell j (by omega)
        rw [Go.WideShapes.add_plain] at this
        rw [this, ← hu]
        have hj2 : j < zs.length := by omega
        have hj3 : j < len := by omega
        simp [i64s, hj3, hj2]
theorem Cells.pre {w : World} {a : Option Addr} {xs ys : List Value} (h : Cells w a (xs ++ ys)) : Cells w a xs := by
  rcases h with h | ⟨b, off, ha, hl, hc⟩
  · exact .inl (List.append_eq_nil_iff.1 h).1
  · exact .inr ⟨b, off, ha, hl, fun j u hu => hc j u (by
      have hj : j < xs.length := by
        rcases Nat.lt_or_ge j xs.length with h1 | h1
        · exact h1
        · rw [List.getElem?_eq_none h1] at hu; cases hu
      rw [List.getElem?_append_left hj]; exact hu)⟩
def six : List Int := [-91, -92, -93, -94, -95, -96]
theorem six_at (X : List Int) (k : Nat) (hk : k < 6) : (i64s (X ++ six))[X.length + k]? = some (.int .i64 (-91 - (k : Int))) := by
  rw [i64s, List.map_append, List.getElem?_append_right (by rw [List.length_map]; omega), List.length_map, Nat.add_sub_cancel_left]
  rcases (show k = 0 ∨ k = 1 ∨ k = 2 ∨ k = 3 ∨ k = 4 ∨ k = 5 by omega) with rfl | rfl | rfl | rfl | rfl | rfl <;> rfl
theorem own_at {w : World} {B g n cap size : Nat} {e : TypeId} {xs : List Value} (h : w.ownsRow B e size (.slice (some ⟨g, 0, none⟩) n cap) n xs) : Cells w (some ⟨g, 0, none⟩) xs ∧ n ≤ cap := by
  obtain ⟨a, c, he, hc, hn, _⟩ := own_cells h
  cases he
  exact ⟨hc, hn⟩
theorem pre6 {w : World} {a : Option Addr} {X : List Int} (h : Cells w a (i64s (X ++ six))) : Cells w a (i64s X) := by
  rw [show i64s (X ++ six) = i64s X ++ i64s six from by simp [i64s]] at h
  exact Cells.pre h
theorem lit_cells (w : World) (T : TypeId) (X : List Int) (cs : Array Value) (h : cs.toList = i64s X) : Cells (w.alloc (.cells cs T)) (some ⟨w.heap.size, 0, none⟩) (i64s X) := by
  refine .inr ⟨w.heap.size, 0, rfl, by simp, fun j u hu => ?_⟩
  rw [Nat.zero_add, cell_of_row _ _ j _ _ _ (heap_new w _)]
  rw [← h] at hu
  simpa using hu
theorem one_c (a : Option Addr) (ca : Nat) (w : World) (hX : Cells w a (i64s [0])) :
    Calls Try.prog 6 #[.int .i64 1, .slice a 1 ca] w fun e w' => ∃ v, e = .returned (.tuple #[v, .int .i64 0]) ∧ w'.ownsRow w.heap.size 40 2 v 1 (flR [ofR 1 0]) ∧ w.grownBy w' none := by
  have hm : ∀ x ∈ ([0] : List Int), 0 ≤ x ∧ x < nbk ((1 : Nat) : Int) := fun x hx => by simp at hx; subst hx; decide
  have k := ranges_c ((1 : Nat) : Int) [0] a ca w hX (by simp)
  refine k.mono ?_
  rintro e w' ⟨v, R, rfl, ho, hr, hh, -, -, hg⟩
  have hR : R = [ofR 1 0] := rng_bad (D := 1) (by omega) (by omega) hm R hr hh _ ⟨of_some 1 (by omega) (by omega) 0 (by decide), by simp, trivial⟩ fun t => by
    have := of_has 1 (by omega) (by omega) t 0 (by decide)
    simp only [lHas, List.any_cons, List.any_nil, Bool.or_false]
    rw [show (ofR 1 0) = ofR ((1 : Nat) : Int) 0 from rfl, this]
    simp
  subst hR
  exact ⟨v, by rw [rgE_yes (D := 1) (by omega) (by omega) hm], ho, hg⟩
set_option maxRecDepth 20000 in
set_option maxHeartbeats 4000000 in
theorem walk (d : Int) (a : Option Addr) (len cap : Nat) (zs : List Int) (w : World) (w0 : (Lit.int .i64 d).wf = true) (x1 : IsRow .i64 17592186043904 w a len cap zs) :
    Calls Try.prog 3 #[.int .i64 d, .slice a len cap] w fun e w' => e = .returned (.bool true) ∧ Below w.heap.size w w' := by
  obtain ⟨X, rfl, hX, hnz, hlc, hcR⟩ := row_cells x1
  have HX : Hid (Cells w a (i64s X)) := hX
  have HNZ : Hid (a = none → cap = 0) := hnz
  clear x1 hX hnz w0
  obtain ⟨L, hL⟩ : ∃ L, L = X.length := ⟨_, rfl⟩
  have HL : Hid (L = X.length) := hL
  have HRC : Hid (∀ (a : Option Addr) (ca : Nat) (w : World), Cells w a (i64s X) → Calls Try.prog 6 #[.int .i64 d, .slice a L ca] w fun e w' => ∃ v R, e = .returned (.tuple #[v, .int .i64 (rgE d X)]) ∧ w'.ownsRow w.heap.size 40 2 v R.length (flR R) ∧ Nrm R ∧ (rgE d X = 0 → ∀ t, lHas R t = decide (bkt t d.toNat ∈ X)) ∧ (¬ rgE d X = 0 → R = []) ∧ R.length ≤ 8193 ∧ w.grownBy w' none) := fun a ca w h => by
    rw [HL.out]; exact ranges_c d X a ca w h (by omega)
  have HGC : Hid (∀ (a : Option Addr) (ca : Nat) (w : World), Cells w a (i64s X) → Calls Try.prog 7 #[.int .i64 d, .slice a L ca] w fun e w' => ∃ v R, e = .returned (.tuple #[v, .int .i64 (rgE d X)]) ∧ w'.ownsRow w.heap.size 48 2 v R.length (flR R) ∧ Nrm R ∧ (rgE d X = 0 → ∀ t, lHas R t = decide (bkt t d.toNat ∈ X)) ∧ (¬ rgE d X = 0 → R = []) ∧ R.length ≤ 8193 ∧ w.grownBy w' none) := fun a ca w h => by
    rw [HL.out]; exact granges_c d X a ca w h (by omega)
  have HSI : Hid (∀ (a b : Option Addr) (ca cb : Nat) (w : World), Cells w a (i64s X) → Cells w b (i64s X) → Calls Try.prog 10 #[.slice a L ca, .slice b L cb] w fun e w' => e = .returned (.bool true) ∧ w.grownBy w' none) := fun a b ca cb w h1 h2 => by
    have := sameInts_c X X a b ca cb w h1 h2 (by omega) (by omega)
    rw [HL.out]; simpa using this
  have HUQ : Hid (∀ R S : List Rg, Nrm R → Nrm S → (rgE d X = 0 → ∀ t, lHas R t = decide (bkt t d.toNat ∈ X)) → (rgE d X = 0 → ∀ t, lHas S t = decide (bkt t d.toNat ∈ X)) → (¬ rgE d X = 0 → R = []) → (¬ rgE d X = 0 → S = []) → R = S) := fun R S h1 h2 h3 h4 h5 h6 => by
    by_cases h : rgE d X = 0
    · exact Nrm.uniq h1 h2 fun t => by rw [h3 h, h4 h]
    · rw [h5 h, h6 h]
  have HSM : Hid (∀ (R : List Rg) (a b : Option Addr) (ca cb : Nat) (w : World), R.length ≤ 8193 → Cells w a (flR R) → Cells w b (flR R) → Calls Try.prog 8 #[.slice a R.length ca, .slice b R.length cb] w fun e w' => e = .returned (.bool true) ∧ w.grownBy w' none) := fun R a b ca cb w h h1 h2 => by
    have := same_c R R a b ca cb w h1 h2 (by omega) (by omega)
    simpa using this
  have HNU : Hid _ := num_c
  generalize rgE d X = E at *
  rw [← hL] at hlc ⊢
  clear hL
  go_enter Try.func3, Try.ntmps3
  go_wp2_with (first
    | ((fail_if_success (have zz := H2)); at_builtin; go_must (refine wpList_cat rfl _ _ 22 rfl w.heap.size 3 _ 1 8 Try.underlying22 infoInt rfl (by decide) (.slice none 0 0) 0 [] rfl (own_none _ _ _ _) a L cap (i64s X) rfl HNZ.out (by rw [i64s, List.length_map, HL.out]; omega) HX.out (i64s_one X) (by unfold maxLen; omega) (by omega) (Nat.le_refl _) ?_); intro v2 w2 ho2 hb2 _; rw [Nat.zero_add, List.nil_append] at ho2; have H2 : Hid (w2.ownsRow w.heap.size 3 1 v2 L (i64s X) ∧ w.grownBy w2 none) := ⟨ho2, below_gb hb2⟩; clear ho2 hb2)
    | (have zz := H2; clear zz; at_builtin; go_must (refine wpList_cat rfl _ _ 22 rfl w.heap.size 3 _ 1 8 Try.underlying22 infoInt rfl (by decide) v2 L (i64s X) rfl (own_gb H2.out.1 (gb_alloc w2 (.cells (i64s six).toArray 3))) (some ⟨w2.heap.size, 0, none⟩) 6 6 (i64s six) rfl (fun h => by cases h) rfl (lit_cells w2 3 six (i64s six).toArray rfl) (i64s_one six) (by unfold maxLen; omega) (by omega) (Nat.le_trans H2.out.2.size (gb_alloc _ _).size) ?_); intro v3 w3 ho3 hb3 _; obtain ⟨g, c3, rfl, hg1, hg2⟩ := World.ownsRow.form ho3 (by omega); have H3 : Hid (w3.ownsRow w.heap.size 3 1 (.slice (some ⟨g, 0, none⟩) (L + 6) c3) (L + 6) (i64s (X ++ six)) ∧ w.grownBy w3 none) := ⟨(by rw [show i64s (X ++ six) = i64s X ++ i64s six from by simp [i64s]]; exact ho3), below_gb ((gb_below (gb_trans H2.out.2 (gb_alloc _ _))).trans hb3)⟩; have hc3 := (own_at H3.out.1).2; have s1 : (L : Int) ≤ (c3 : Int) := (by omega); have s2 : ¬ c3 = 0 := (by omega); clear ho3 hb3)
    | ((fail_if_success (have zz := H5)); go_at_call 6; go_must (refine (HRC.out (some ⟨g, 0, none⟩) c3 w3 (pre6 (own_at H3.out.1).1)).mono ?_); rintro e w5 ⟨v5, R, rfl, ho, hn, hh, he, hl, hg⟩; obtain ⟨x5, c5, rfl, hc5, -⟩ := own_cells ho; have H5 : Hid (Cells w5 x5 (flR R) ∧ Nrm R ∧ (E = 0 → ∀ t, lHas R t = decide (bkt t d.toNat ∈ X)) ∧ (¬ E = 0 → R = []) ∧ R.length ≤ 8193 ∧ w3.grownBy w5 none) := ⟨hc5, hn, hh, he, hl, hg⟩; clear ho hn hh he hl hg hc5)
    | (go_at_call 7; go_must (refine (HGC.out a cap w5 ((HX.out.gb H3.out.2).gb H5.out.2.2.2.2.2)).mono ?_); rintro e w6 ⟨v6, S, rfl, ho, hn, hh, he, hl, hg⟩; obtain rfl : S = R := HUQ.out S R hn H5.out.2.1 hh H5.out.2.2.1 he H5.out.2.2.2.1; obtain ⟨x6, c6, rfl, hc6, -⟩ := own_cells ho; have H6 : Hid (Cells w6 x5 (flR S) ∧ Cells w6 x6 (flR S) ∧ S.length ≤ 8193 ∧ w3.grownBy w6 none) := ⟨H5.out.1.gb hg, hc6, hl, gb_trans H5.out.2.2.2.2.2 hg⟩; clear ho hn hh he hl hg hc6))
  clear HRC HGC HUQ H5
  have H7 : Hid (Cells w6 (some ⟨g, 0, none⟩) (i64s (X ++ six)) ∧ Cells w6 a (i64s X) ∧ w.grownBy w6 none) := by
    have hk3 := (own_at H3.out.1).1
    exact ⟨hk3.gb H6.out.2.2.2, (HX.out.gb H3.out.2).gb H6.out.2.2.2, gb_trans H3.out.2 H6.out.2.2.2⟩
  clear H2 H3 HX HNZ
  go_loopw [11] (fun i wr => ∃ k : Nat, k ≤ 6 ∧ i = .int .i64 k ∧ Hid (wr = w6)) (fun i _ => 6 - (intOf i).toNat)
  case atStart => exact ⟨0, Nat.zero_le _, rfl, rfl⟩
  case round =>
    obtain ⟨k, hk, rfl, hr⟩ := hrel
    obtain rfl : wr = w6 := hr.out
    by_cases hk6 : k < 6
    · have hc : wr.cell? ⟨g, L + k, none⟩ = some (.int .i64 (-91 - (k : Int))) := by
        rcases H7.out.1 with h | ⟨b, off, ha, _, hc⟩
        · simp [i64s, six] at h
        · cases ha
          have := hc (L + k) _ (by rw [HL.out]; exact six_at X k hk6)
          rwa [Nat.zero_add] at this
      have i1 : (0 : Int) ≤ (L : Int) + (k : Int) := by omega
      have i2 : (L : Int) + (k : Int) < (L : Int) + 6 := by omega
      have i3 : ((L : Int) + (k : Int)).toNat = L + k := by omega
      have i4 : (k : Int) < 6 := by omega
      go_wp2
      go_roundw
      case rel => exact ⟨k + 1, by omega, by simp, trivial⟩
      case measure => simp [intOf]; omega
    · obtain rfl : k = 6 := by omega
      go_wp2_with (first
        | (go_at_call 6; go_must (refine (one_c (some ⟨wr.heap.size, 0, none⟩) 1 (wr.alloc (.cells #[.int .i64 0] 3)) (lit_cells wr 3 [0] #[.int .i64 0] rfl)).mono ?_); rintro e w8 ⟨v8, rfl, ho, hg⟩; obtain ⟨x8, c8, rfl, -⟩ := own_cells ho; have H8 : Hid (wr.grownBy w8 none) := gb_trans (gb_alloc _ _) hg; clear ho hg)
        | (go_at_call 8; go_must (refine (HSM.out S x5 x6 c5 c6 w8 H6.out.2.2.1 (H6.out.1.gb H8.out) (H6.out.2.1.gb H8.out)).mono ?_); rintro e w9 ⟨rfl, h9⟩; have H9 : Hid (wr.grownBy w9 none) := gb_trans H8.out h9; clear h9)
        | (go_at_call 9; go_must (refine (HNU.out _ _).mono ?_); rintro e wq ⟨rfl, hq⟩; obtain rfl := hq.symm)
        | (go_at_call 10; go_must (refine (HSI.out (some ⟨g, 0, none⟩) a c3 cap w9 (pre6 (H7.out.1.gb H9.out)) (H7.out.2.1.gb H9.out)).mono ?_); rintro e w10 ⟨rfl, h10⟩; have H10 : Hid (wr.grownBy w10 none) := gb_trans H9.out h10; clear h10))
      go_ret
      exact ⟨rfl, gb_below (gb_trans H7.out.2.2 H10.out)⟩

set_option maxRecDepth 100000 in
theorem lifted (os : Os) (started : os.Started) (H : Type) (enc : TypeId × Value → H) :
    ReturnsInHanded {} Try.checked os 3 .any (Rows.spanRangesSpec.pre6 enc Try.prog Try.f3 Rows.spanRangesRow.domain false) (Rows.spanRangesSpec.post enc Try.prog Try.f3 false true false false) := by
  refine returnsInHanded_of_change_sized (C := Try.checked) own started (by kernel_rfl) Try.func3
    (ChangeSpec.witness6 (enc := enc) (C := Try.checked) false ⟨#[], #[.int .i64 0, .slice none 0 0], []⟩ 8 (by kernel_rfl) (by kernel_rfl) (by kernel_rfl) (by kernel_rfl)) ?_
  intro W base args ds gs before hval0 hW hcnd hsz0 _
  have hsz : (DataW.weightsEach Try.prog (Try.f3.params.toList ++ Rows.spanRangesSpec.plain.varTypes Try.prog) (ds ++ gs)).all (· ≤ reachBytes) = true := hsz0
  have hval : ∀ (j : Nat) t v, Try.f3.params[j]? = some t → args[j]? = some v → Value.okWide Try.prog W .any base t v := hval0
  have hW' := hW
  obtain ⟨p, q, hA0, hV, rfl, hfz, hnd⟩ := hW
  have hA : DataW.TrodAll enc Try.prog W 0 (fun _ => true) true Try.f3.params.toList args.toList ds p := hA0
  rw [Try.params3] at hA hval hsz
  obtain ⟨v0, vs0, d0, ds0, p0, q0, hargs, rfl, rfl, h0, r0⟩ := trodAll_cons hA
  obtain ⟨v1, vs1, d1, ds1, p1, q1, rfl, rfl, rfl, h1, r1⟩ := trodAll_cons r0
  obtain ⟨rfl, rfl, rfl⟩ := trodAll_nil r1
  obtain rfl : args = #[v0, v1] := by cases args; simp_all
  obtain ⟨rfl, rfl⟩ := trodVars_none hV
  obtain ⟨a0, rfl, rfl, rfl, w0⟩ := open_int Try.underlying3 (hval 0 3 v0 rfl rfl) h0
  have k1 := h1
  have lt1 : ∀ x ∈ p1, x.block < W.heap.size := by obtain ⟨m, hm⟩ := k1; exact DataW.trod_lt m _ _ _ hm
  obtain ⟨a1, len1, cap1, z1, rfl, x1⟩ : ∃ a len cap zs, v1 = .slice a len cap ∧ IsRow .i64 17592186043904 W a len cap zs := by
    obtain ⟨sa, sl, sc, rfl⟩ := okWide_slice Try.underlying22 (hval 1 22 v1 rfl rfl)
    obtain ⟨fuel, hf⟩ := h1
    rcases open_ints Try.underlying22 Try.underlying3 (by kernel_rfl) hf with ⟨hcs, _⟩ | ⟨x, l, c, zs, hcs, _, hl, hm, hz, hx, hcell, hwz⟩
    · simp [Value.cells] at hcs; obtain ⟨rfl, rfl, rfl⟩ := hcs
      exact ⟨none, 0, 0, [], rfl, .inl ⟨rfl, rfl, rfl, rfl⟩⟩
    · simp [Value.cells] at hcs; obtain ⟨rfl, rfl, rfl⟩ := hcs
      have hz' : zs.length = sc := by simpa using hz
      have hd : d1 = _ := congrArg Prod.fst hx
      have hb := sized_slice hsz (j := 1) (t := 22) (e := 3) rfl (congrArg some hd) Try.underlying22
      rw [show Try.prog.bytesOf 3 = 8 from by kernel_rfl] at hb
      simp only [lits, List.length_map, List.length_take, List.length_drop, reachBytes] at hb
      exact ⟨some x, sl, sc, zs, rfl, .inr ⟨_, rfl, hl, by omega, hz', hcell, hwz⟩⟩
  clear hA0 hval0
  refine (walk a0 a1 len1 cap1 z1 W w0 x1).mono fun e W' ⟨he, bel⟩ => ?_
  subst he
  exact ⟨_, rfl, _, _, _, [], _, [], hW', trodAll_mk1 (shut_bool Try.underlying4 _), (trodAll_cons_mk (shut_int Try.underlying3 w0) (trodAll_cons_mk (Below.trod laidOut (by kernel_rfl) (of_decide_eq_true (by kernel_rfl)) k1 bel lt1) trodAll_mk0)), rfl, bel.frame _, fun h => by cases h⟩

theorem over : Rows.spanRangesRow.holds Try.pinned (OpenSpec.ofChange Rows.spanRangesSpec) :=
  OpenClaim.holds_of_wide 3 Try.f3 rfl rfl rfl rfl rfl rfl rfl ⟨rfl, rfl, rfl, rfl, rfl⟩ rfl rfl rfl rfl rfl (by kernel_rfl) Try.func3 (by kernel_rfl)
    (of_decide_eq_true (by kernel_rfl)) (by unfold Func.isWrapper; first | (rw [if_pos (by decide +kernel)]; kernel_rfl) | (rw [if_neg (by decide +kernel)]; exact ⟨rfl, rfl⟩))
    (fun os started H enc _ => lifted os started H enc)

end Go.Proofs.Ytggkkpbgnlmfeab.spanRanges
namespace Go.Proofs.Ytggkkpbgnlmfeab
theorem spanRanges_holds : Rows.SpanRangesSaid := spanRanges.over
#print axioms spanRanges_holds
end Go.Proofs.Ytggkkpbgnlmfeab
