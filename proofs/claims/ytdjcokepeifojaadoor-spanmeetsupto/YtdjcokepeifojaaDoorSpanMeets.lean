/-
  Proved: for every two lists of ranges whose parts, together, are at most 1048576, hawserlaw06.SpanMeets answers true: Meet, Minus and Covers are the document's, and both lists stay as they are, what stands behind them too. Condition: that bound; and the law's variable mark reads as its own text lays it (tied by the card).
-/
import Derived.Test.YtdjcokepeifojaaDoorRows
import Derived.Test.YtdjcokepeifojaaDoorCards
import Derived.Test.YtdjcokepeifojaaDoorTie
import Derived.Test.YtdjcokepeifojaaDoorNLx
import Derived.Test.YtdjcokepeifojaaDoorNKp
import Derived.Test.YtdjcokepeifojaaDoorNMm
import Derived.Test.YtdjcokepeifojaaDoorNRo
import Derived.WalkKit
import Derived.ProofKit
import Derived.OpenShut
import Derived.ShutString
import Derived.ChangeOld
import Derived.Below
import Derived.Lib.SmallJoins
import Derived.JoinedCond
import Derived.Deep.DeepHandedRow
import Derived.Lib.LaidTab
import Derived.ChangeSame
namespace Go.Proofs.YtdjcokepeifojaaDoor.spanMeets
open Go.ChangeShapes Go.WideShapes Go.ChangeAt Go.RowKit
set_option linter.unusedVariables false

theorem own : ownKnob Tryd.prog.godebug = none := by kernel_rfl
theorem laidOut : laidOutB Tryd.prog = true := by kernel_rfl

def mA : ByteArray := ⟨#[109, 97, 114, 107]⟩
def mB : ByteArray := ⟨#[107, 114, 97, 109]⟩
theorem cov_eq {p : Prop} {z y : Bool} (h : z = true ↔ p) (k : y = true ↔ p) : y = z := by
  cases z <;> cases y <;> simp_all
set_option maxRecDepth 20000 in
set_option maxHeartbeats 4000000 in
theorem walk (a : Option Addr) (ca : Nat) (X : List Rg) (b : Option Addr) (cb : Nat) (Y : List Rg) (w : World) (x0 : Cells w a (flR X)) (hlc : X.length ≤ ca) (hcm : ca ≤ maxLen) (hnz : a = none → ca = 0) (hy : X.length ≤ 1048576) (y0 : Cells w b (flR Y)) (hlc2 : Y.length ≤ cb) (hcm2 : cb ≤ maxLen) (hnz2 : b = none → cb = 0) (hy2 : Y.length ≤ 1048576) (HT : Mrk mA mB w) :
    Calls Tryd.prog 4 #[.slice a X.length ca, .slice b Y.length cb] w fun e w' => e = .returned (.bool true) ∧ Below w.heap.size w w' := by
  obtain ⟨x, hx⟩ : ∃ x, x = mA := ⟨_, rfl⟩
  obtain ⟨y, hyy⟩ : ∃ y, y = mB := ⟨_, rfl⟩
  rw [← hx, ← hyy] at HT
  have HA : Hid (Cells w a (flR X)) := x0
  have HB : Hid (Cells w b (flR Y)) := y0
  have HM : Hid (Mrk x y w) := HT
  have HR : Hid _ := roomy_c x y X a ca w x0 hnz HT (by omega)
  have HR2 : Hid (∀ w', w.grownBy w' none → Calls Tryd.prog 6 #[.slice b Y.length cb] w' fun e w'' => ∃ g c, e = .returned (.slice (some ⟨g, 0, none⟩) Y.length c) ∧ Y.length + 12 ≤ c ∧ Cells w'' (some ⟨g, 0, none⟩) (flR (Y ++ mks x y 12)) ∧ w'.grownBy w'' none) := fun w' h => roomy_c x y Y b cb w' (y0.gb h) hnz2 (HT.gb h) (by omega)
  have HP : Hid (∀ w : World, Cells w a (flR X) → Calls Tryd.prog 9 #[.slice a X.length ca] w fun e w' => ∃ v, e = .returned v ∧ w'.ownsRow w.heap.size 48 2 v X.length (flR X) ∧ w.grownBy w' none) := fun w h => plain_c X a ca w h (by omega)
  have HP2 : Hid (∀ w : World, Cells w b (flR Y) → Calls Tryd.prog 9 #[.slice b Y.length cb] w fun e w' => ∃ v, e = .returned v ∧ w'.ownsRow w.heap.size 48 2 v Y.length (flR Y) ∧ w.grownBy w' none) := fun w h => plain_c Y b cb w h (by omega)
  have HN : Hid (∀ (a b : Option Addr) (c d : Nat) (w : World), Cells w a (flR X) → Cells w b (flR Y) → Calls Tryd.prog 12 #[.slice a X.length c, .slice b Y.length d] w fun e w' => ∃ v R, e = .returned v ∧ w'.ownsRow w.heap.size 41 2 v R.length (flR R) ∧ Nrm R ∧ (∀ t, lHas R t = (lHas X t && lHas Y t)) ∧ R.length ≤ 2 * (X.length + Y.length) + 1 ∧ w.grownBy w' none) := fun a b c d w h k => meet_c X Y a b c d w h k (by omega)
  have HD : Hid (∀ (a b : Option Addr) (c d : Nat) (w : World), Cells w a (flR X) → Cells w b (flR Y) → Calls Tryd.prog 13 #[.slice a X.length c, .slice b Y.length d] w fun e w' => ∃ v R, e = .returned v ∧ w'.ownsRow w.heap.size 41 2 v R.length (flR R) ∧ Nrm R ∧ (∀ t, lHas R t = (lHas X t && !lHas Y t)) ∧ R.length ≤ 2 * (X.length + Y.length) + 1 ∧ w.grownBy w' none) := fun a b c d w h k => minus_c X Y a b c d w h k (by omega)
  have HC : Hid (∀ (a b : Option Addr) (c d : Nat) (w : World), Cells w a (flR X) → Cells w b (flR Y) → Calls Tryd.prog 14 #[.slice a X.length c, .slice b Y.length d] w fun e w' => ∃ z, e = .returned (.bool z) ∧ (z = true ↔ lCov X Y) ∧ w.grownBy w' none) := fun a b c d w h k => covers_c X Y a b c d w h k (by omega)
  have GN : Hid (∀ (a b : Option Addr) (c d : Nat) (w : World), Cells w a (flR X) → Cells w b (flR Y) → Calls Tryd.prog 15 #[.slice a X.length c, .slice b Y.length d] w fun e w' => ∃ v R, e = .returned v ∧ w'.ownsRow w.heap.size 48 2 v R.length (flR R) ∧ Nrm R ∧ (∀ t, lHas R t = (lHas X t && lHas Y t)) ∧ R.length ≤ 2 * (X.length + Y.length) + 1 ∧ w.grownBy w' none) := fun a b c d w h k => gmeet_c X Y a b c d w h k (by omega)
  have GD : Hid (∀ (a b : Option Addr) (c d : Nat) (w : World), Cells w a (flR X) → Cells w b (flR Y) → Calls Tryd.prog 16 #[.slice a X.length c, .slice b Y.length d] w fun e w' => ∃ v R, e = .returned v ∧ w'.ownsRow w.heap.size 48 2 v R.length (flR R) ∧ Nrm R ∧ (∀ t, lHas R t = (lHas X t && !lHas Y t)) ∧ R.length ≤ 2 * (X.length + Y.length) + 1 ∧ w.grownBy w' none) := fun a b c d w h k => gminus_c X Y a b c d w h k (by omega)
  have GC : Hid (∀ (a b : Option Addr) (c d : Nat) (w : World), Cells w a (flR X) → Cells w b (flR Y) → Calls Tryd.prog 17 #[.slice a X.length c, .slice b Y.length d] w fun e w' => ∃ z, e = .returned (.bool z) ∧ (z = true ↔ lCov X Y) ∧ w.grownBy w' none) := fun a b c d w h k => gcovers_c X Y a b c d w h k (by omega)
  have HK : Hid (∀ (g c : Nat) (w : World), Cells w (some ⟨g, 0, none⟩) (flR (X ++ mks x y 12)) → X.length + 12 ≤ c → Cells w a (flR X) → Mrk x y w → Calls Tryd.prog 11 #[.slice (some ⟨g, 0, none⟩) X.length c, .slice a X.length ca] w fun e w' => e = .returned (.bool true) ∧ w.grownBy w' none) := fun g c w h1 h2 h3 h4 => kept_c x y X g c a ca w h1 h2 h3 h4 (by omega)
  have HK2 : Hid (∀ (g c : Nat) (w : World), Cells w (some ⟨g, 0, none⟩) (flR (Y ++ mks x y 12)) → Y.length + 12 ≤ c → Cells w b (flR Y) → Mrk x y w → Calls Tryd.prog 11 #[.slice (some ⟨g, 0, none⟩) Y.length c, .slice b Y.length cb] w fun e w' => e = .returned (.bool true) ∧ w.grownBy w' none) := fun g c w h1 h2 h3 h4 => kept_c x y Y g c b cb w h1 h2 h3 h4 (by omega)
  have HSM : Hid (∀ (R : List Rg) (a b : Option Addr) (ca cb : Nat) (w : World), R.length ≤ 2 * (X.length + Y.length) + 1 → Cells w a (flR R) → Cells w b (flR R) → Calls Tryd.prog 10 #[.slice a R.length ca, .slice b R.length cb] w fun e w' => e = .returned (.bool true) ∧ w.grownBy w' none) := fun R a b ca cb w h h1 h2 => by
    have := same_c R R a b ca cb w h1 h2 (by omega) (by omega)
    simpa using this
  obtain ⟨L, hL⟩ : ∃ L, L = X.length := ⟨_, rfl⟩
  obtain ⟨M, hM⟩ : ∃ M, M = Y.length := ⟨_, rfl⟩
  rw [← hL] at hlc hy HR HN HP HK HSM HD HC GN GD GC ⊢
  rw [← hM] at hlc2 hy2 HR2 HN HP2 HK2 HSM HD HC GN GD GC ⊢
  clear x0 y0 hnz hnz2 HT hx hyy hL hM
  go_enter Tryd.func4, Tryd.ntmps4
  go_wp2_with (first
    | ((fail_if_success (have zz := H1)); go_at_call 6; go_must (refine (Calls.mono HR.out ?_)); rintro e w1 ⟨g, c, rfl, k1, k2, k3⟩; have H1 : Hid (L + 12 ≤ c ∧ Cells w1 (some ⟨g, 0, none⟩) (flR (X ++ mks x y 12)) ∧ w.grownBy w1 none) := ⟨k1, k2, k3⟩; clear k1 k2 k3)
    | ((fail_if_success (have zz := H2)); have zz := H1; clear zz; go_at_call 6; go_must (refine (Calls.mono (HR2.out w1 H1.out.2.2) ?_)); rintro e w2 ⟨g2, c2, rfl, k1, k2, k3⟩; have H2 : Hid (M + 12 ≤ c2 ∧ Cells w2 (some ⟨g2, 0, none⟩) (flR (Y ++ mks x y 12)) ∧ Cells w2 (some ⟨g, 0, none⟩) (flR (X ++ mks x y 12)) ∧ w.grownBy w2 none) := ⟨k1, k2, H1.out.2.1.gb k3, gb_trans H1.out.2.2 k3⟩; clear k1 k2 k3)
    | ((fail_if_success (have zz := H3)); have zz := H2; clear zz; go_at_call 9; go_must (refine (Calls.mono (HP.out w2 (HA.out.gb H2.out.2.2.2)) ?_)); rintro e w3 ⟨v3, rfl, h1, h2⟩; obtain ⟨a3, c3, rfl, hc3, -⟩ := own_cells h1; have H3 : Hid (Cells w3 a3 (flR X) ∧ w2.grownBy w3 none) := ⟨hc3, h2⟩; clear h1 h2 hc3)
    | ((fail_if_success (have zz := H4)); have zz := H3; clear zz; go_at_call 9; go_must (refine (Calls.mono (HP2.out w3 ((HB.out.gb H2.out.2.2.2).gb H3.out.2)) ?_)); rintro e w4 ⟨v4, rfl, h1, h2⟩; obtain ⟨a4, c4, rfl, hc4, -⟩ := own_cells h1; have H4 : Hid (Cells w4 a4 (flR Y) ∧ Cells w4 a3 (flR X) ∧ w2.grownBy w4 none) := ⟨hc4, H3.out.1.gb h2, gb_trans H3.out.2 h2⟩; clear h1 h2 hc4)
    | (go_at_call 12; go_must (refine (Calls.mono (HN.out (some ⟨g, 0, none⟩) (some ⟨g2, 0, none⟩) c c2 w4 (pre12 (H2.out.2.2.1.gb H4.out.2.2)) (pre12 (H2.out.2.1.gb H4.out.2.2))) ?_)); rintro e w5 ⟨v5, R, rfl, h1, h2, h3, h4, h5⟩; obtain ⟨a5, c5, rfl, hc5, -⟩ := own_cells h1; have H5 : Hid (Cells w5 a5 (flR R) ∧ Nrm R ∧ (∀ t, lHas R t = (lHas X t && lHas Y t)) ∧ R.length ≤ 2 * (L + M) + 1 ∧ w4.grownBy w5 none) := ⟨hc5, h2, h3, h4, h5⟩; clear h1 h2 h3 h4 h5 hc5)
    | (go_at_call 13; go_must (refine (Calls.mono (HD.out (some ⟨g, 0, none⟩) (some ⟨g2, 0, none⟩) c c2 w5 ((pre12 (H2.out.2.2.1.gb H4.out.2.2)).gb H5.out.2.2.2.2) ((pre12 (H2.out.2.1.gb H4.out.2.2)).gb H5.out.2.2.2.2)) ?_)); rintro e w6 ⟨v6, S, rfl, h1, h2, h3, h4, h5⟩; obtain ⟨a6, c6, rfl, hc6, -⟩ := own_cells h1; have H6 : Hid (Cells w6 a6 (flR S) ∧ Nrm S ∧ (∀ t, lHas S t = (lHas X t && !lHas Y t)) ∧ S.length ≤ 2 * (L + M) + 1 ∧ w4.grownBy w6 none ∧ Cells w6 a5 (flR R)) := ⟨hc6, h2, h3, h4, gb_trans H5.out.2.2.2.2 h5, H5.out.1.gb h5⟩; clear h1 h2 h3 h4 h5 hc6)
    | (go_at_call 14; go_must (refine (Calls.mono (HC.out (some ⟨g, 0, none⟩) (some ⟨g2, 0, none⟩) c c2 w6 ((pre12 (H2.out.2.2.1.gb H4.out.2.2)).gb H6.out.2.2.2.2.1) ((pre12 (H2.out.2.1.gb H4.out.2.2)).gb H6.out.2.2.2.2.1)) ?_)); rintro e w7 ⟨z, rfl, h1, h2⟩; have H7 : Hid ((z = true ↔ lCov X Y) ∧ w6.grownBy w7 none ∧ w4.grownBy w7 none) := ⟨h1, h2, gb_trans H6.out.2.2.2.2.1 h2⟩; clear h1 h2)
    | (go_at_call 15; go_must (refine (Calls.mono (GN.out a3 a4 c3 c4 w7 (H4.out.2.1.gb H7.out.2.2) (H4.out.1.gb H7.out.2.2)) ?_)); rintro e w8 ⟨v8, T, rfl, h1, h2, h3, h4, h5⟩; obtain rfl : T = R := Nrm.uniq h2 H5.out.2.1 (fun t => by rw [h3, H5.out.2.2.1]); obtain ⟨a8, c8, rfl, hc8, -⟩ := own_cells h1; have H8 : Hid (Cells w8 a8 (flR T) ∧ Cells w8 a5 (flR T) ∧ w6.grownBy w8 none) := ⟨hc8, (H6.out.2.2.2.2.2.gb H7.out.2.1).gb h5, gb_trans H7.out.2.1 h5⟩; clear h1 h2 h3 h4 h5 hc8)
    | ((fail_if_success (have zz := H9)); have zz := H8; clear zz; go_at_call 10; go_must (refine (Calls.mono (HSM.out T a5 a8 c5 c8 w8 H5.out.2.2.2.1 H8.out.2.1 H8.out.1) ?_)); rintro e w9 ⟨rfl, h6⟩; have H9 : Hid (w6.grownBy w9 none) := gb_trans H8.out.2.2 h6; clear h6)
    | (go_at_call 16; go_must (refine (Calls.mono (GD.out a3 a4 c3 c4 w9 ((H4.out.2.1.gb H6.out.2.2.2.2.1).gb H9.out) ((H4.out.1.gb H6.out.2.2.2.2.1).gb H9.out)) ?_)); rintro e w10 ⟨v10, U, rfl, h1, h2, h3, h4, h5⟩; obtain rfl : U = S := Nrm.uniq h2 H6.out.2.1 (fun t => by rw [h3, H6.out.2.2.1]); obtain ⟨a10, c10, rfl, hc10, -⟩ := own_cells h1; have H10 : Hid (Cells w10 a10 (flR U) ∧ Cells w10 a6 (flR U) ∧ w6.grownBy w10 none) := ⟨hc10, (H6.out.1.gb H9.out).gb h5, gb_trans H9.out h5⟩; clear h1 h2 h3 h4 h5 hc10)
    | (have zz := H10; clear zz; go_at_call 10; go_must (refine (Calls.mono (HSM.out U a6 a10 c6 c10 w10 H6.out.2.2.2.1 H10.out.2.1 H10.out.1) ?_)); rintro e w11 ⟨rfl, h6⟩; have H11 : Hid (w6.grownBy w11 none) := gb_trans H10.out.2.2 h6; clear h6)
    | (go_at_call 17; go_must (refine (Calls.mono (GC.out a3 a4 c3 c4 w11 ((H4.out.2.1.gb H6.out.2.2.2.2.1).gb H11.out) ((H4.out.1.gb H6.out.2.2.2.2.1).gb H11.out)) ?_)); rintro e w12 ⟨q, rfl, h1, h2⟩; obtain rfl : q = z := cov_eq H7.out.1 h1; have H12 : Hid (w2.grownBy w12 none ∧ w.grownBy w12 none) := ⟨gb_trans H4.out.2.2 (gb_trans H6.out.2.2.2.2.1 (gb_trans H11.out h2)), gb_trans H2.out.2.2.2 (gb_trans H4.out.2.2 (gb_trans H6.out.2.2.2.2.1 (gb_trans H11.out h2)))⟩; clear h1 h2; cases q)
    | ((fail_if_success (have zz := H13)); have zz := H12; clear zz; go_at_call 11; go_must (refine (Calls.mono (HK.out g c w12 (H2.out.2.2.1.gb H12.out.1) H1.out.1 (HA.out.gb H12.out.2) (HM.out.gb H12.out.2)) ?_)); rintro e w13 ⟨rfl, h8⟩; have H13 : Hid (w12.grownBy w13 none) := h8; clear h8)
    | (have zz := H13; clear zz; go_at_call 11; go_must (refine (Calls.mono (HK2.out g2 c2 w13 ((H2.out.2.1.gb H12.out.1).gb H13.out) H2.out.1 ((HB.out.gb H12.out.2).gb H13.out) ((HM.out.gb H12.out.2).gb H13.out)) ?_)); rintro e w14 ⟨rfl, h8⟩; have H14 : Hid (w.grownBy w14 none) := gb_trans H12.out.2 (gb_trans H13.out h8); clear h8))
  all_goals
    go_ret
    exact ⟨rfl, gb_below H14.out⟩

theorem bulk_len {H : Type} (l : List (DataW H)) : l.length ≤ Rows.uptoBulkAll l := by
  induction l with
  | nil => simp
  | cons d r ih =>
    have : 1 ≤ Rows.uptoBulk d := by
      cases d with
      | lit x => cases x <;> simp [Rows.uptoBulk]
      | _ => simp [Rows.uptoBulk]
    simp only [Rows.uptoBulkAll, List.length_cons]; omega
theorem bulk_mem {H : Type} {d : DataW H} {l : List (DataW H)} (h : d ∈ l) : Rows.uptoBulk d ≤ Rows.uptoBulkAll l := by
  induction l with
  | nil => cases h
  | cons x r ih =>
    simp only [Rows.uptoBulkAll]
    rcases List.mem_cons.1 h with rfl | h
    · omega
    · have := ih h; omega
theorem bulk_slice {H : Type} {ds : List (DataW H)} {d : DataW H} {l r : List (DataW H)} (hk : Rows.uptoSmall H ds = true) (hd : d ∈ ds) (e : d = .slice l r) : l.length + r.length ≤ 1048576 := by
  have h0 : Rows.uptoBulkAll ds ≤ 1048576 := of_decide_eq_true hk
  have h1 := bulk_mem hd
  have h3 := bulk_len l
  have h4 := bulk_len r
  rw [e] at h1
  simp only [Rows.uptoBulk] at h1
  omega

theorem gMark : Tryd.prog.globalNamed "hawser/hawserlaw06.mark" = some 0 := by kernel_rfl
theorem gMarkType : (Tryd.prog.globals[0]?).map (·.type) = some 41 := by kernel_rfl
theorem at_take {l : List Value} {k : Nat} {v : Value} (h : (l.drop k).take 1 = [v]) : l[k]? = some v := by
  have := congrArg (fun x => x[0]?) h
  simpa using this
theorem bytes_is {s : ByteArray} {l : List UInt8} (h : (DataW.lit (.string l) : DataW Unit) = .lit (.string s.data.toList)) : s = ⟨l.toArray⟩ := by
  injection h with h
  injection h with h
  subst h
  rfl
/-- What the row's list gives: the variable's two texts. -/
theorem tab_of {W : World} (h : laidMetH Tryd.prog Rows.spanMeetsUptoRow.laid W) : Mrk mA mB W := by
  obtain ⟨ps, ⟨g', t', cs, fuel, p, q, hg', ht', hvar, hd, _, _⟩, _⟩ := (show laidMet Tryd.prog Rows.spanMeetsUptoRow.laid W from h)
  obtain rfl := Option.some.inj (gMark.symm.trans hg')
  obtain rfl := Option.some.inj (gMarkType.symm.trans ht')
  obtain ⟨y0, y1, n, hx, hl, h0, h1⟩ := trod_struct2 Tryd.underlying41 hd
  obtain ⟨s0, e0, f0, _⟩ := DataW.trod_string Tryd.underlying9 h0
  obtain ⟨s1, e1, f1, _⟩ := DataW.trod_string Tryd.underlying9 h1
  subst f0 f1
  have hx0 := congrArg Prod.fst hx
  simp only [Rows.laid_hawser_hawserlaw06_mark] at hx0
  injection hx0 with hx0
  injection hx0 with ha hx1
  injection hx1 with hb _
  have ea := bytes_is ha
  have eb := bytes_is hb
  subst ea eb
  have c0 := World.var?_cell gMark hvar 0
  have c1 := World.var?_cell gMark hvar 1
  rw [show Tryd.prog.cellsOf 9 = 1 from by kernel_rfl] at e0 e1
  have q0 := at_take e0
  have q1 := at_take e1
  rw [Array.getElem?_toList] at q0 q1
  exact ⟨c0.trans q0, c1.trans q1⟩
theorem laid_met (os : Os) : laidMet Tryd.prog Rows.spanMeetsUptoRow.laid (({ World.holding Tryd.prog os ⟨#[], #[], []⟩ with heap := (World.holding Tryd.prog os ⟨#[], #[], []⟩).heap.modify 0 fun | .cells _ t frozen => .cells #[.string mA, .string mB] t frozen | o => o } : World).forCall (fun _ _ => 0) ⟨#[], #[.slice none 0 0, .slice none 0 0], []⟩).memory :=
  laidMet_of_run' 8 (by kernel_rfl) (by kernel_rfl)
theorem reads (os : Os) {H : Type} (enc : TypeId × Value → H) : ∃ places, DataW.whole enc Tryd.prog (({ World.holding Tryd.prog os ⟨#[], #[], []⟩ with heap := (World.holding Tryd.prog os ⟨#[], #[], []⟩).heap.modify 0 fun | .cells _ t frozen => .cells #[.string mA, .string mB] t frozen | o => o } : World).forCall (fun _ _ => 0) ⟨#[], #[.slice none 0 0, .slice none 0 0], []⟩).memory Tryd.f4.params.toList Rows.spanMeetsSpec.vars false (#[.slice none 0 0, .slice none 0 0] : Array Value).toList 8 = some ([.nil, .nil], [], places) :=
  ⟨[], by kernel_rfl⟩

set_option maxRecDepth 100000 in
theorem lifted (os : Os) (started : os.Started) (H : Type) (enc : TypeId × Value → H) (F : Stop.Interp) :
    ReturnsInHanded {} Tryd.checked os 4 .any ((Rows.OpenSpec.upto Rows.spanMeetsSpec).preRow enc Tryd.prog Tryd.f4 Rows.spanMeetsUptoRow.domain false Rows.spanMeetsUptoRow.laid) (((Rows.OpenSpec.upto Rows.spanMeetsSpec).at F).post enc Tryd.prog Tryd.f4 false true false false) := by
  obtain ⟨places, hx⟩ := reads os enc
  refine returnsInHanded_of_row (C := Tryd.checked) (s := Rows.OpenSpec.upto Rows.spanMeetsSpec) own started (by kernel_rfl) Tryd.func4
    (witness_row_at (enc := enc) (C := Tryd.checked) false ({ World.holding Tryd.prog os ⟨#[], #[], []⟩ with heap := (World.holding Tryd.prog os ⟨#[], #[], []⟩).heap.modify 0 fun | .cells _ t frozen => .cells #[.string mA, .string mB] t frozen | o => o } : World) #[.slice none 0 0, .slice none 0 0] rfl (by kernel_rfl) (by kernel_rfl) (by kernel_rfl)
      (OpenSpec.preRow_of_cond 8 hx (by kernel_rfl) (fun k hk => by cases hk; kernel_rfl) (by kernel_rfl) (laid_met os))) ?_
  intro W base args ds gs before hval0 hW _ hcond0 hsz0 hL _ _
  have hk : Rows.uptoSmall H (ds ++ gs) = true := hcond0 _ rfl
  have hval : ∀ (j : Nat) t v, Tryd.f4.params[j]? = some t → args[j]? = some v → Value.okWide Tryd.prog W .any base t v := hval0
  have hW' := hW
  obtain ⟨p, q, hA0, hV, rfl, hfz, hnd⟩ := hW
  have hA : DataW.TrodAll enc Tryd.prog W 0 (fun _ => true) true Tryd.f4.params.toList args.toList ds p := hA0
  rw [Tryd.params4] at hA hval
  obtain ⟨v0, vs0, d0, ds0, p0, q0, hargs, rfl, rfl, h0, r0⟩ := trodAll_cons hA
  obtain ⟨v1, vs1, d1, ds1, p1, q1, rfl, rfl, rfl, h1, r1⟩ := trodAll_cons r0
  obtain ⟨rfl, rfl, rfl⟩ := trodAll_nil r1
  obtain rfl : args = #[v0, v1] := by cases args; simp_all
  obtain ⟨rfl, rfl⟩ := trodVars_none hV
  have k0 := h0
  have lt0 : ∀ x ∈ p0, x.block < W.heap.size := by obtain ⟨m, hm⟩ := k0; exact DataW.trod_lt m _ _ _ hm
  obtain ⟨a0, n0, cap0, X0, rfl, x0, ln0, lc0, cm0, nz0, y0⟩ : ∃ a n cap A, v0 = .slice a n cap ∧ Cells W a (flR A) ∧ A.length = n ∧ n ≤ cap ∧ cap ≤ maxLen ∧ (a = none → cap = 0) ∧ n ≤ 1048576 := by
    obtain ⟨sa, sl, sc, hv⟩ := okWide_slice Tryd.underlying22 (hval 0 22 v0 rfl rfl)
    obtain ⟨a, n, cap, X, h1, h2, h3, h4, h5, h6, h7⟩ := rgs_open sa sl sc hv h0
    have hAll : Rows.uptoBulkAll _ ≤ 1048576 := of_decide_eq_true hk
    exact ⟨a, n, cap, X, h1, h2, h3, h4, h5, h6, Nat.le_trans h7 (Nat.le_trans (bulk_mem (show d0 ∈ _ by simp)) hAll)⟩
  subst ln0
  have k1 := h1
  have lt1 : ∀ x ∈ p1, x.block < W.heap.size := by obtain ⟨m, hm⟩ := k1; exact DataW.trod_lt m _ _ _ hm
  obtain ⟨a1, n1, cap1, X1, rfl, x1, ln1, lc1, cm1, nz1, y1⟩ : ∃ a n cap A, v1 = .slice a n cap ∧ Cells W a (flR A) ∧ A.length = n ∧ n ≤ cap ∧ cap ≤ maxLen ∧ (a = none → cap = 0) ∧ n ≤ 1048576 := by
    obtain ⟨sa, sl, sc, hv⟩ := okWide_slice Tryd.underlying22 (hval 1 22 v1 rfl rfl)
    obtain ⟨a, n, cap, X, h1, h2, h3, h4, h5, h6, h7⟩ := rgs_open sa sl sc hv h1
    have hAll : Rows.uptoBulkAll _ ≤ 1048576 := of_decide_eq_true hk
    exact ⟨a, n, cap, X, h1, h2, h3, h4, h5, h6, Nat.le_trans h7 (Nat.le_trans (bulk_mem (show d1 ∈ _ by simp)) hAll)⟩
  subst ln1
  clear hA0 hval0
  simp only [List.append_nil] at hW'
  refine (walk a0 cap0 X0 a1 cap1 X1 W x0 lc0 cm0 nz0 y0 x1 lc1 cm1 nz1 y1 (tab_of hL)).mono fun e W' ⟨he, bel⟩ => ?_
  subst he
  exact ⟨_, rfl, _, _, _, [], _, [], hW', trodAll_mk1 (shut_bool Tryd.underlying4 _), (trodAll_cons_mk (Below.trod laidOut (by kernel_rfl) (of_decide_eq_true (by kernel_rfl)) k0 bel lt0) (trodAll_cons_mk (Below.trod laidOut (by kernel_rfl) (of_decide_eq_true (by kernel_rfl)) k1 bel lt1) trodAll_mk0)), rfl, bel.frame _, fun h => by cases h⟩

theorem over : Rows.spanMeetsUptoRow.holds Tryd.pinned (Rows.OpenSpec.upto Rows.spanMeetsSpec) :=
  OpenClaim.holds_of_cond 4 Tryd.f4 rfl rfl rfl rfl rfl rfl rfl ⟨rfl, rfl, rfl, rfl, rfl⟩ rfl rfl rfl rfl rfl (by kernel_rfl) Tryd.func4 (by kernel_rfl)
    (of_decide_eq_true (by kernel_rfl)) (by unfold Func.isWrapper; first | (rw [if_pos (by decide +kernel)]; kernel_rfl) | (rw [if_neg (by decide +kernel)]; exact ⟨rfl, rfl⟩))
    (fun os started H enc _ F => by rw [OpenClaim.pre_eq_preRow]; exact lifted os started H enc F)

/-- No parameter wants a stand-in; the program's own looks are off. -/
theorem plain (f : FuncId) (fn : Func) (hf : Tryd.pinned.checked.prog.funcNamed "hawser/hawserlaw06.SpanMeets" = some f) (hfn : Tryd.pinned.checked.prog.funcs[f]? = some fn) :
    false = Tryd.pinned.checked.prog.looks [] ∧ ∀ (j : Nat) t, fn.params[j]? = some t → Tryd.pinned.checked.prog.wantsStandIn t = false := by
  obtain rfl : f = 4 := Option.some.inj ((show Tryd.prog.funcNamed "hawser/hawserlaw06.SpanMeets" = some 4 by kernel_rfl).symm.trans hf) |>.symm
  obtain rfl : fn = Tryd.f4 := (Option.some.inj (Tryd.func4.symm.trans hfn)).symm
  refine ⟨by kernel_rfl, fun j t ht => ?_⟩
  rw [Tryd.params4] at ht
  have hm : t ∈ [22, 22] := by simpa using Array.mem_of_getElem? ht
  have hall : (([22, 22] : List TypeId).all fun u => !Tryd.prog.wantsStandIn u) = true := by kernel_rfl
  exact (show Tryd.prog.wantsStandIn t = false by simpa using List.all_eq_true.1 hall t hm)
theorem card : Rows.SpanMeetsUptoCardSaid :=
  Claim7.holds_tied_plain_at .later [] _ _ _ _ over (fun _ h => by cases h) (by kernel_rfl) (fun _ h => by cases h) spanMeetsUpto_row_tie rfl ⟨rfl, rfl⟩ (by kernel_rfl) rfl plain (by kernel_rfl)

end Go.Proofs.YtdjcokepeifojaaDoor.spanMeets
namespace Go.Proofs.YtdjcokepeifojaaDoor
theorem spanMeets_holds : Rows.SpanMeetsUptoCardSaid := spanMeets.card
#print axioms spanMeets_holds
end Go.Proofs.YtdjcokepeifojaaDoor
