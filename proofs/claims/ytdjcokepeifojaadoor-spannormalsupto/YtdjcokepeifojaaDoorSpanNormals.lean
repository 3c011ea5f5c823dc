/-
  Proved: for every list of ranges whose parts, together, are at most 1048576, hawserlaw06.SpanNormals answers true: Normal is the document's, twice, and the ranges stay as they are, what stands behind them too. Condition: that bound; and the law's variable mark reads as its own text lays it (tied by the card).
-/
import Derived.Test.YtdjcokepeifojaaDoorRows
import Derived.Test.YtdjcokepeifojaaDoorCards
import Derived.Test.YtdjcokepeifojaaDoorTie
import Derived.Test.YtdjcokepeifojaaDoorNLx
import Derived.Test.YtdjcokepeifojaaDoorNKp
import Derived.Test.YtdjcokepeifojaaDoorNAw
import Derived.Test.YtdjcokepeifojaaDoorNRo
import Derived.WalkKit
import Derived.ProofKit
import Derived.OpenShut
import Derived.ShutString
import Derived.ChangeOld
import Derived.Below
import Derived.Lib.SmallJoins
import Derived.JoinedCond
import Derived.Deep.DeepHandedRow
import Derived.Lib.LaidTab
import Derived.ChangeSame
namespace Go.Proofs.YtdjcokepeifojaaDoor.spanNormals
open Go.ChangeShapes Go.WideShapes Go.ChangeAt Go.RowKit
set_option linter.unusedVariables false

theorem own : ownKnob Tryd.prog.godebug = none := by kernel_rfl
theorem laidOut : laidOutB Tryd.prog = true := by kernel_rfl

def mA : ByteArray := ⟨#[109, 97, 114, 107]⟩
def mB : ByteArray := ⟨#[107, 114, 97, 109]⟩
set_option maxRecDepth 20000 in
set_option maxHeartbeats 4000000 in
theorem walk (a : Option Addr) (cap : Nat) (X : List Rg) (w : World) (x0 : Cells w a (flR X)) (hlc : X.length ≤ cap) (hcm : cap ≤ maxLen) (hnz : a = none → cap = 0) (hy : X.length ≤ 1048576) (HT : Mrk mA mB w) :
    Calls Tryd.prog 3 #[.slice a X.length cap] w fun e w' => e = .returned (.bool true) ∧ Below w.heap.size w w' := by
  obtain ⟨x, hx⟩ : ∃ x, x = mA := ⟨_, rfl⟩
  obtain ⟨y, hy2⟩ : ∃ y, y = mB := ⟨_, rfl⟩
  rw [← hx, ← hy2] at HT
  have HA : Hid (Cells w a (flR X)) := x0
  have HM : Hid (Mrk x y w) := HT
  have HR : Hid _ := roomy_c x y X a cap w x0 hnz HT (by omega)
  have HN : Hid (∀ (g c : Nat) (w : World), Cells w (some ⟨g, 0, none⟩) (flR (X ++ mks x y 12)) → Calls Tryd.prog 7 #[.slice (some ⟨g, 0, none⟩) X.length c] w fun e w' => ∃ v R, e = .returned v ∧ w'.ownsRow w.heap.size 41 2 v R.length (flR R) ∧ Nrm R ∧ (∀ t, lHas R t = lHas X t) ∧ R.length ≤ 2 * X.length + 1 ∧ w.grownBy w' none) := fun g c w h => normal_c X _ c w (pre12 h) (by omega)
  have HP : Hid (∀ w : World, Cells w a (flR X) → Calls Tryd.prog 9 #[.slice a X.length cap] w fun e w' => ∃ v, e = .returned v ∧ w'.ownsRow w.heap.size 48 2 v X.length (flR X) ∧ w.grownBy w' none) := fun w h => plain_c X a cap w h (by omega)
  have HG : Hid (∀ (a : Option Addr) (c : Nat) (w : World), Cells w a (flR X) → Calls Tryd.prog 8 #[.slice a X.length c] w fun e w' => ∃ v R, e = .returned v ∧ w'.ownsRow w.heap.size 48 2 v R.length (flR R) ∧ Nrm R ∧ (∀ t, lHas R t = lHas X t) ∧ R.length ≤ 2 * X.length + 1 ∧ w.grownBy w' none) := fun a c w h => gnormal_c X a c w h (by omega)
  have HK : Hid (∀ (g c : Nat) (w : World), Cells w (some ⟨g, 0, none⟩) (flR (X ++ mks x y 12)) → X.length + 12 ≤ c → Cells w a (flR X) → Mrk x y w → Calls Tryd.prog 11 #[.slice (some ⟨g, 0, none⟩) X.length c, .slice a X.length cap] w fun e w' => e = .returned (.bool true) ∧ w.grownBy w' none) := fun g c w h1 h2 h3 h4 => kept_c x y X g c a cap w h1 h2 h3 h4 (by omega)
  have HSM : Hid (∀ (R : List Rg) (a b : Option Addr) (ca cb : Nat) (w : World), R.length ≤ 2 * X.length + 1 → Cells w a (flR R) → Cells w b (flR R) → Calls Tryd.prog 10 #[.slice a R.length ca, .slice b R.length cb] w fun e w' => e = .returned (.bool true) ∧ w.grownBy w' none) := fun R a b ca cb w h h1 h2 => by
    have := same_c R R a b ca cb w h1 h2 (by omega) (by omega)
    simpa using this
  have HUQ : Hid (∀ R S : List Rg, Nrm R → Nrm S → (∀ t, lHas R t = lHas X t) → (∀ t, lHas S t = lHas X t) → S = R) := fun R S h1 h2 h3 h4 => Nrm.uniq h2 h1 fun t => by rw [h3, h4]
  obtain ⟨L, hL⟩ : ∃ L, L = X.length := ⟨_, rfl⟩
  rw [← hL] at hlc hy HR HN HP HG HK HSM ⊢
  clear x0 hnz HT hx hy2 hL
  go_enter Tryd.func3, Tryd.ntmps3
  go_wp2_with (first
    | (go_at_call 6; go_must (refine (Calls.mono HR.out ?_)); rintro e w1 ⟨g, c, rfl, k1, k2, k3⟩; have H1 : Hid (L + 12 ≤ c ∧ Cells w1 (some ⟨g, 0, none⟩) (flR (X ++ mks x y 12)) ∧ w.grownBy w1 none) := ⟨k1, k2, k3⟩; clear k1 k2 k3)
    | ((fail_if_success (have zz := H2)); go_at_call 7; go_must (refine (Calls.mono (HN.out g c w1 H1.out.2.1) ?_)); rintro e w2 ⟨v2, R, rfl, h1, h2, h3, h4, h5⟩; obtain ⟨a2, c2, rfl, hc2, -⟩ := own_cells h1; have H2 : Hid (Cells w2 a2 (flR R) ∧ Nrm R ∧ (∀ t, lHas R t = lHas X t) ∧ R.length ≤ 2 * L + 1 ∧ w1.grownBy w2 none) := ⟨hc2, h2, h3, h4, h5⟩; clear h1 h2 h3 h4 h5 hc2)
    | (have zz := H2; clear zz; go_at_call 7; go_must (refine (Calls.mono (HN.out g c w2 (H1.out.2.1.gb H2.out.2.2.2.2)) ?_)); rintro e w3 ⟨v3, S, rfl, h1, h2, h3, h4, h5⟩; obtain rfl : S = R := HUQ.out R S H2.out.2.1 h2 H2.out.2.2.1 h3; obtain ⟨a3, c3, rfl, hc3, -⟩ := own_cells h1; have H3 : Hid (Cells w3 a2 (flR S) ∧ Cells w3 a3 (flR S) ∧ w1.grownBy w3 none) := ⟨H2.out.1.gb h5, hc3, gb_trans H2.out.2.2.2.2 h5⟩; clear h1 h2 h3 h4 h5 hc3)
    | (go_at_call 9; go_must (refine (Calls.mono (HP.out w3 ((HA.out.gb H1.out.2.2).gb H3.out.2.2)) ?_)); rintro e w4 ⟨v4, rfl, h1, h2⟩; obtain ⟨a4, c4, rfl, hc4, -⟩ := own_cells h1; have H4 : Hid (Cells w4 a4 (flR X) ∧ w3.grownBy w4 none) := ⟨hc4, h2⟩; clear h1 h2 hc4)
    | (go_at_call 8; go_must (refine (Calls.mono (HG.out a4 c4 w4 H4.out.1) ?_)); rintro e w5 ⟨v5, T, rfl, h1, h2, h3, h4, h5⟩; obtain rfl : T = S := HUQ.out S T H2.out.2.1 h2 H2.out.2.2.1 h3; obtain ⟨a5, c5, rfl, hc5, -⟩ := own_cells h1; have H5 : Hid (Cells w5 a5 (flR T) ∧ w3.grownBy w5 none) := ⟨hc5, gb_trans H4.out.2 h5⟩; clear h1 h2 h3 h4 h5 hc5)
    | ((fail_if_success (have zz := H6)); go_at_call 10; go_must (refine (Calls.mono (HSM.out T a2 a5 c2 c5 w5 H2.out.2.2.2.1 (H3.out.1.gb H5.out.2) H5.out.1) ?_)); rintro e w6 ⟨rfl, h6⟩; have H6 : Hid (w5.grownBy w6 none) := h6; clear h6)
    | (have zz := H6; clear zz; go_at_call 10; go_must (refine (Calls.mono (HSM.out T a3 a5 c3 c5 w6 H2.out.2.2.2.1 ((H3.out.2.1.gb H5.out.2).gb H6.out) (H5.out.1.gb H6.out)) ?_)); rintro e w7 ⟨rfl, h7⟩; have H7 : Hid (w1.grownBy w7 none) := gb_trans (gb_trans (gb_trans H3.out.2.2 H5.out.2) H6.out) h7; clear h7)
    | (go_at_call 11; go_must (refine (Calls.mono (HK.out g c w7 (H1.out.2.1.gb H7.out) H1.out.1 ((HA.out.gb H1.out.2.2).gb H7.out) ((HM.out.gb H1.out.2.2).gb H7.out)) ?_)); rintro e w8 ⟨rfl, h8⟩; have H8 : Hid (w.grownBy w8 none) := gb_trans (gb_trans H1.out.2.2 H7.out) h8; clear h8))
  go_ret
  exact ⟨rfl, gb_below H8.out⟩

theorem bulk_len {H : Type} (l : List (DataW H)) : l.length ≤ Rows.uptoBulkAll l := by
  induction l with
  | nil => simp
  | cons d r ih =>
    have : 1 ≤ Rows.uptoBulk d := by
      cases d with
      | lit x => cases x <;> simp [Rows.uptoBulk]
      | _ => simp [Rows.uptoBulk]
    simp only [Rows.uptoBulkAll, List.length_cons]; omega
theorem bulk_mem {H : Type} {d : DataW H} {l : List (DataW H)} (h : d ∈ l) : Rows.uptoBulk d ≤ Rows.uptoBulkAll l := by
  induction l with
  | nil => cases h
  | cons x r ih =>
    simp only [Rows.uptoBulkAll]
    rcases List.mem_cons.1 h with rfl | h
    · omega
    · have := ih h; omega
theorem bulk_slice {H : Type} {ds : List (DataW H)} {d : DataW H} {l r : List (DataW H)} (hk : Rows.uptoSmall H ds = true) (hd : d ∈ ds) (e : d = .slice l r) : l.length + r.length ≤ 1048576 := by
  have h0 : Rows.uptoBulkAll ds ≤ 1048576 := of_decide_eq_true hk
  have h1 := bulk_mem hd
  have h3 := bulk_len l
  have h4 := bulk_len r
  rw [e] at h1
  simp only [Rows.uptoBulk] at h1
  omega

theorem gMark : Tryd.prog.globalNamed "hawser/hawserlaw06.mark" = some 0 := by kernel_rfl
theorem gMarkType : (Tryd.prog.globals[0]?).map (·.type) = some 41 := by kernel_rfl
theorem at_take {l : List Value} {k : Nat} {v : Value} (h : (l.drop k).take 1 = [v]) : l[k]? = some v := by
  have := congrArg (fun x => x[0]?) h
  simpa using this
theorem bytes_is {s : ByteArray} {l : List UInt8} (h : (DataW.lit (.string l) : DataW Unit) = .lit (.string s.data.toList)) : s = ⟨l.toArray⟩ := by
  injection h with h
  injection h with h
  subst h
  rfl
/-- What the row's list gives: the variable's two texts. -/
theorem tab_of {W : World} (h : laidMetH Tryd.prog Rows.spanNormalsUptoRow.laid W) : Mrk mA mB W := by
  obtain ⟨ps, ⟨g', t', cs, fuel, p, q, hg', ht', hvar, hd, _, _⟩, _⟩ := (show laidMet Tryd.prog Rows.spanNormalsUptoRow.laid W from h)
  obtain rfl := Option.some.inj (gMark.symm.trans hg')
  obtain rfl := Option.some.inj (gMarkType.symm.trans ht')
  obtain ⟨y0, y1, n, hx, hl, h0, h1⟩ := trod_struct2 Tryd.underlying41 hd
  obtain ⟨s0, e0, f0, _⟩ := DataW.trod_string Tryd.underlying9 h0
  obtain ⟨s1, e1, f1, _⟩ := DataW.trod_string Tryd.underlying9 h1
  subst f0 f1
  have hx0 := congrArg Prod.fst hx
  simp only [Rows.laid_hawser_hawserlaw06_mark] at hx0
  injection hx0 with hx0
  injection hx0 with ha hx1
  injection hx1 with hb _
  have ea := bytes_is ha
  have eb := bytes_is hb
  subst ea eb
  have c0 := World.var?_cell gMark hvar 0
  have c1 := World.var?_cell gMark hvar 1
  rw [show Tryd.prog.cellsOf 9 = 1 from by kernel_rfl] at e0 e1
  have q0 := at_take e0
  have q1 := at_take e1
  rw [Array.getElem?_toList] at q0 q1
  exact ⟨c0.trans q0, c1.trans q1⟩
theorem laid_met (os : Os) : laidMet Tryd.prog Rows.spanNormalsUptoRow.laid (({ World.holding Tryd.prog os ⟨#[], #[], []⟩ with heap := (World.holding Tryd.prog os ⟨#[], #[], []⟩).heap.modify 0 fun | .cells _ t frozen => .cells #[.string mA, .string mB] t frozen | o => o } : World).forCall (fun _ _ => 0) ⟨#[], #[.slice none 0 0], []⟩).memory :=
  laidMet_of_run' 8 (by kernel_rfl) (by kernel_rfl)
theorem reads (os : Os) {H : Type} (enc : TypeId × Value → H) : ∃ places, DataW.whole enc Tryd.prog (({ World.holding Tryd.prog os ⟨#[], #[], []⟩ with heap := (World.holding Tryd.prog os ⟨#[], #[], []⟩).heap.modify 0 fun | .cells _ t frozen => .cells #[.string mA, .string mB] t frozen | o => o } : World).forCall (fun _ _ => 0) ⟨#[], #[.slice none 0 0], []⟩).memory Tryd.f3.params.toList Rows.spanNormalsSpec.vars false (#[.slice none 0 0] : Array Value).toList 8 = some ([.nil], [], places) :=
  ⟨[], by kernel_rfl⟩

set_option maxRecDepth 100000 in
theorem lifted (os : Os) (started : os.Started) (H : Type) (enc : TypeId × Value → H) (F : Stop.Interp) :
    ReturnsInHanded {} Tryd.checked os 3 .any ((Rows.OpenSpec.upto Rows.spanNormalsSpec).preRow enc Tryd.prog Tryd.f3 Rows.spanNormalsUptoRow.domain false Rows.spanNormalsUptoRow.laid) (((Rows.OpenSpec.upto Rows.spanNormalsSpec).at F).post enc Tryd.prog Tryd.f3 false true false false) := by
  obtain ⟨places, hx⟩ := reads os enc
  refine returnsInHanded_of_row (C := Tryd.checked) (s := Rows.OpenSpec.upto Rows.spanNormalsSpec) own started (by kernel_rfl) Tryd.func3
    (witness_row_at (enc := enc) (C := Tryd.checked) false ({ World.holding Tryd.prog os ⟨#[], #[], []⟩ with heap := (World.holding Tryd.prog os ⟨#[], #[], []⟩).heap.modify 0 fun | .cells _ t frozen => .cells #[.string mA, .string mB] t frozen | o => o } : World) #[.slice none 0 0] rfl (by kernel_rfl) (by kernel_rfl) (by kernel_rfl)
      (OpenSpec.preRow_of_cond 8 hx (by kernel_rfl) (fun k hk => by cases hk; kernel_rfl) (by kernel_rfl) (laid_met os))) ?_
  intro W base args ds gs before hval0 hW _ hcond0 hsz0 hL _ _
  have hk : Rows.uptoSmall H (ds ++ gs) = true := hcond0 _ rfl
  have hval : ∀ (j : Nat) t v, Tryd.f3.params[j]? = some t → args[j]? = some v → Value.okWide Tryd.prog W .any base t v := hval0
  have hW' := hW
  obtain ⟨p, q, hA0, hV, rfl, hfz, hnd⟩ := hW
  have hA : DataW.TrodAll enc Tryd.prog W 0 (fun _ => true) true Tryd.f3.params.toList args.toList ds p := hA0
  rw [Tryd.params3] at hA hval
  obtain ⟨v0, vs0, d0, ds0, p0, q0, hargs, rfl, rfl, h0, r0⟩ := trodAll_cons hA
  obtain ⟨rfl, rfl, rfl⟩ := trodAll_nil r0
  obtain rfl : args = #[v0] := by cases args; simp_all
  obtain ⟨rfl, rfl⟩ := trodVars_none hV
  have k0 := h0
  have lt0 : ∀ x ∈ p0, x.block < W.heap.size := by obtain ⟨m, hm⟩ := k0; exact DataW.trod_lt m _ _ _ hm
  obtain ⟨a0, n0, cap0, X0, rfl, x0, ln0, lc0, cm0, nz0, y0⟩ : ∃ a n cap A, v0 = .slice a n cap ∧ Cells W a (flR A) ∧ A.length = n ∧ n ≤ cap ∧ cap ≤ maxLen ∧ (a = none → cap = 0) ∧ n ≤ 1048576 := by
    obtain ⟨sa, sl, sc, hv⟩ := okWide_slice Tryd.underlying22 (hval 0 22 v0 rfl rfl)
    obtain ⟨a, n, cap, X, h1, h2, h3, h4, h5, h6, h7⟩ := rgs_open sa sl sc hv h0
    have hAll : Rows.uptoBulkAll _ ≤ 1048576 := of_decide_eq_true hk
    exact ⟨a, n, cap, X, h1, h2, h3, h4, h5, h6, Nat.le_trans h7 (Nat.le_trans (bulk_mem (show d0 ∈ _ by simp)) hAll)⟩
  subst ln0
  clear hA0 hval0
  simp only [List.append_nil] at hW'
  refine (walk a0 cap0 X0 W x0 lc0 cm0 nz0 y0 (tab_of hL)).mono fun e W' ⟨he, bel⟩ => ?_
  subst he
  exact ⟨_, rfl, _, _, _, [], _, [], hW', trodAll_mk1 (shut_bool Tryd.underlying4 _), (trodAll_cons_mk (Below.trod laidOut (by kernel_rfl) (of_decide_eq_true (by kernel_rfl)) k0 bel lt0) trodAll_mk0), rfl, bel.frame _, fun h => by cases h⟩

theorem over : Rows.spanNormalsUptoRow.holds Tryd.pinned (Rows.OpenSpec.upto Rows.spanNormalsSpec) :=
  OpenClaim.holds_of_cond 3 Tryd.f3 rfl rfl rfl rfl rfl rfl rfl ⟨rfl, rfl, rfl, rfl, rfl⟩ rfl rfl rfl rfl rfl (by kernel_rfl) Tryd.func3 (by kernel_rfl)
    (of_decide_eq_true (by kernel_rfl)) (by unfold Func.isWrapper; first | (rw [if_pos (by decide +kernel)]; kernel_rfl) | (rw [if_neg (by decide +kernel)]; exact ⟨rfl, rfl⟩))
    (fun os started H enc _ F => by rw [OpenClaim.pre_eq_preRow]; exact lifted os started H enc F)

/-- No parameter wants a stand-in; the program's own looks are off. -/
theorem plain (f : FuncId) (fn : Func) (hf : Tryd.pinned.checked.prog.funcNamed "hawser/hawserlaw06.SpanNormals" = some f) (hfn : Tryd.pinned.checked.prog.funcs[f]? = some fn) :
    false = Tryd.pinned.checked.prog.looks [] ∧ ∀ (j : Nat) t, fn.params[j]? = some t → Tryd.pinned.checked.prog.wantsStandIn t = false := by
  obtain rfl : f = 3 := Option.some.inj ((show Tryd.prog.funcNamed "hawser/hawserlaw06.SpanNormals" = some 3 by kernel_rfl).symm.trans hf) |>.symm
  obtain rfl : fn = Tryd.f3 := (Option.some.inj (Tryd.func3.symm.trans hfn)).symm
  refine ⟨by kernel_rfl, fun j t ht => ?_⟩
  rw [Tryd.params3] at ht
  have hm : t ∈ [22] := by simpa using Array.mem_of_getElem? ht
  have hall : (([22] : List TypeId).all fun u => !Tryd.prog.wantsStandIn u) = true := by kernel_rfl
  exact (show Tryd.prog.wantsStandIn t = false by simpa using List.all_eq_true.1 hall t hm)
theorem card : Rows.SpanNormalsUptoCardSaid :=
  Claim7.holds_tied_plain_at .later [] _ _ _ _ over (fun _ h => by cases h) (by kernel_rfl) (fun _ h => by cases h) spanNormalsUpto_row_tie rfl ⟨rfl, rfl⟩ (by kernel_rfl) rfl plain (by kernel_rfl)

end Go.Proofs.YtdjcokepeifojaaDoor.spanNormals
namespace Go.Proofs.YtdjcokepeifojaaDoor
theorem spanNormals_holds : Rows.SpanNormalsUptoCardSaid := spanNormals.card
#print axioms spanNormals_holds
end Go.Proofs.YtdjcokepeifojaaDoor
