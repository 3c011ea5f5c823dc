/-
  Proved: for every configuration and node, hawserlaw16.ConfigSteps answers true: Without and With are the document's; the configuration stays. Condition: the form's own reach.
-/
import Derived.Test.YtekefbbjocekiaaRows
import Derived.Test.YtekefbbjocekiaaCGx
import Derived.WalkKit
import Derived.ProofKit
import Derived.OpenShut
import Derived.ShutString
import Derived.ChangeOld
import Derived.Below
import Derived.Lib.SmallJoins
import Derived.JoinedCond
import Derived.SizedLaws
namespace Go.Proofs.Ytekefbbjocekiaa.configSteps
open Go.ChangeShapes Go.WideShapes Go.ChangeAt Go.RowKit
set_option linter.unusedVariables false

theorem own : ownKnob Try.prog.godebug = none := by kernel_rfl
theorem laidOut : laidOutB Try.prog = true := by kernel_rfl

/-- What the walk is told of a slice of integers that came in. -/
def IsRow (k : IntKind) (R : Nat) (w : World) (a : Option Addr) (len cap : Nat) (zs : List Int) : Prop :=
  (a = none ∧ len = 0 ∧ cap = 0 ∧ zs = []) ∨
  ∃ x, a = some x ∧ len ≤ cap ∧ cap ≤ R ∧ zs.length = cap ∧ (∀ i, i < zs.length → w.cell? (x.add i) = some (.int k (zs.getD i 0))) ∧ ∀ n ∈ zs, (Lit.int k n).wf = true

theorem row_nil {k : IntKind} {R : Nat} {w : World} {a : Option Addr} {len cap : Nat} {zs : List Int} (h : IsRow k R w a len cap zs) : a = none → cap = 0 := by
  rcases h with ⟨_, _, h, _⟩ | ⟨x, h, _⟩
  · exact fun _ => h
  · intro h'; rw [h] at h'; cases h'
theorem woX_le (e : Int) (xs : List Int) (x : Int) : (woX e xs x).length ≤ xs.length + 1 := by
  unfold woX; split
  · simp; omega
  · simp
theorem wiX_le (e : Int) (xs : List Int) (x : Int) : (wiX e xs x).length ≤ xs.length + 1 := by
  unfold wiX; split <;> simp
set_option maxRecDepth 20000 in
set_option maxHeartbeats 8000000 in
theorem walk (e : Int) (a : Option Addr) (n c : Nat) (zs : List Int) (x : Int) (w : World) (w0 : (Lit.int .i64 e).wf = true) (x0 : IsRow .i64 17592186043904 w a n c zs) (w1 : (Lit.int .i64 x).wf = true) :
    Calls Try.prog 6 #[.agg #[.int .i64 e, .slice a n c], .int .i64 x] w fun r w' => r = .returned (.bool true) ∧ Below w.heap.size w w' := by
  obtain ⟨hs, hlc, hcr, hwf⟩ := seg_of_row x0
  have hnz := row_nil x0
  have hn : n ≤ 17592186044000 := by omega
  have hn6 : n ≤ 1152921504606846976 := by omega
  obtain ⟨xs, hxs⟩ : ∃ xs, xs = zs.take n := ⟨_, rfl⟩
  rw [← hxs] at hs
  have hlx := hs.1
  clear hxs hwf x0 w0 w1
  have HT : Hid _ := twin_c e a n c xs _ (hs.below (alloc_b w (.cells #[.int .i64 e, .slice a n c] 27))) hnz hn
  have HB : Hid (Kn [(w.heap.size, 27, e, .slice a n c)] w (w.alloc (.cells #[.int .i64 e, .slice a n c] 27))) := Kn.of (CfB.new _ _ _ _) (alloc_b _ _)
  have HPL : Hid (∀ W, Calls Try.prog 15 #[.agg #[.int .i64 e, .slice a n c]] W fun r w' => r = .returned (.agg #[.int .i64 e, .slice a n c]) ∧ Below W.heap.size W w') := plain_c e a n c
  have HNU : Hid (∀ e W, Calls Try.prog 9 #[.int .i64 e] W fun r w' => r = .returned (.int .i64 e) ∧ w' = W) := fun e W => num_c e W
  have HWO : Hid (∀ W g cap, Seg .i64 W (some ⟨g, 0, none⟩) n xs → n ≤ cap → Calls Try.prog 25 #[.agg #[.int .i64 e, .slice (some ⟨g, 0, none⟩) n cap], .int .i64 x] W (StA W (woP e xs x) (woE e xs x) (woX e xs x))) := fun W g cap h1 h2 => without_c e _ n cap xs x W h1 (fun z => by cases z) h2
  have HWI : Hid (∀ W g cap, Seg .i64 W (some ⟨g, 0, none⟩) n xs → n ≤ cap → Calls Try.prog 26 #[.agg #[.int .i64 e, .slice (some ⟨g, 0, none⟩) n cap], .int .i64 x] W (StA W (wiP e xs x) (wiE e xs x) (wiX e xs x))) := fun W g cap h1 h2 => with_c e _ n cap xs x W h1 (fun z => by cases z) h2
  have HQWO : Hid (∀ W, Below w.heap.size w W → Calls Try.prog 27 #[.agg #[.int .i64 e, .slice a n c], .int .i64 x] W (StA W (woP e xs x) (woE e xs x) (woX e xs x))) := fun W hb => qwithout_c e a n c xs x W (hs.below hb) hnz hlc hn6
  have HQWI : Hid (∀ W, Below w.heap.size w W → Calls Try.prog 28 #[.agg #[.int .i64 e, .slice a n c], .int .i64 x] W (StA W (wiP e xs x) (wiE e xs x) (wiX e xs x))) := fun W hb => qwith_c e a n c xs x W (hs.below hb) hnz hlc hn6
  have HLIT : Hid (∀ (b : Nat) (W : World), b = W.heap.size → Calls Try.prog 26 #[.agg #[.int .i64 1, .slice (some ⟨b, 0, none⟩) 1 1], .int .i64 6] (W.alloc (.cells #[.int .i64 5] 3)) fun r w' => ∃ a' c', r = .returned (.tuple #[.agg #[.int .i64 2, .slice a' 2 c'], .int .i64 0]) ∧ Below (W.alloc (.cells #[.int .i64 5] 3)).heap.size (W.alloc (.cells #[.int .i64 5] 3)) w') := by
    show ∀ (b : Nat) (W : World), _
    intro b W hb
    subst hb
    refine (with_c 1 (some ⟨W.heap.size, 0, none⟩) 1 1 [5] 6 _ (seg_new W .i64 _ _ 1 [5] rfl rfl) (fun z => by cases z) (Nat.le_refl _)).mono ?_
    rintro r w' ⟨a', c', h1, _, h3⟩
    rw [show wiP 1 [5] 6 = 2 by decide, show wiE 1 [5] 6 = 0 by decide, show (wiX 1 [5] 6).length = 2 by decide] at h1
    exact ⟨a', c', h1, h3⟩
  have HSM : Hid (∀ W f a' c' a2 c2 ys, Seg .i64 W a' ys.length ys → Seg .i64 W a2 ys.length ys → ys.length ≤ 1152921504606846976 → Calls Try.prog 16 #[.agg #[.int .i64 f, .slice a' ys.length c'], .agg #[.int .i64 f, .slice a2 ys.length c2]] W fun r w' => r = .returned (.bool true) ∧ Below W.heap.size W w') := by
    show ∀ W f a' c' a2 c2 ys, _
    intro W f a' c' a2 c2 ys h1 h2 h3
    have := same_c f f a' a2 _ c' _ c2 ys ys W h1 h2 h3 h3
    rwa [sam_refl] at this
  have HKP : Hid (∀ W g cap, OwI 0 W (.slice (some ⟨g, 0, none⟩) (n + 3) cap) (n + 3) (xs ++ [-71, -72, -73]) → n + 3 ≤ cap → Below w.heap.size w W → Calls Try.prog 17 #[.agg #[.int .i64 e, .slice (some ⟨g, 0, none⟩) n cap], .agg #[.int .i64 e, .slice a n c]] W fun r w' => r = .returned (.bool true) ∧ Below W.heap.size W w') := fun W g cap h1 h2 h3 => kept_c 0 e g cap a n c xs W h1 h2 (hs.below h3) hn
  have HS : Hid (Seg .i64 w a n xs ∧ xs.length = n) := ⟨hs, hs.1⟩
  have HLW : Hid ((woX e xs x).length ≤ 1152921504606846976) := by have := woX_le e xs x; show _ ≤ _; omega
  have HLI : Hid ((wiX e xs x).length ≤ 1152921504606846976) := by have := wiX_le e xs x; show _ ≤ _; omega
  clear hs hlc hcr hnz hn hn6 hlx
  go_enter Try.func6, Try.ntmps6
  go_wp2_with (first
    | (go_at_call 11; go_must (refine (Calls.mono HT.out ?_)); rintro r w1 ⟨g, cap, rfl, ho, hcap, hb⟩; have HCAP : Hid (n + 3 ≤ cap) := hcap; have H1 : Hid (Kn [(w.heap.size, 27, e, .slice a n c)] w w1 ∧ OwI 0 w1 (.slice (some ⟨g, 0, none⟩) (n + 3) cap) (n + 3) (xs ++ [-71, -72, -73])) := ⟨HB.out.below hb, ho.base (Nat.zero_le _)⟩; clear ho hcap hb)
    | (go_at_call 25; go_must (refine (Calls.mono (HWO.out _ _ _ ((H1.out.2.marks HS.out.2).1.below (alloc_b _ _)) (Nat.le_trans (Nat.le_add_right _ _) HCAP.out)) ?_)); rintro r w2 ⟨a2, c2, rfl, ho, hb⟩; go_must (have H2 : Hid (Kn [(w1.heap.size, 27, e, .slice (some ⟨g, 0, none⟩) n cap), (w.heap.size, 27, e, .slice a n c)] w w2 ∧ OwI 0 w2 (.slice (some ⟨g, 0, none⟩) (n + 3) cap) (n + 3) (xs ++ [-71, -72, -73]) ∧ OwI 0 w2 (.slice a2 (woX e xs x).length c2) (woX e xs x).length (woX e xs x)) := ⟨(H1.out.1.add 27 e (.slice (some ⟨g, 0, none⟩) n cap)).below hb, (H1.out.2.below (alloc_b _ _)).below hb, ho.base (Nat.zero_le _)⟩); have q21a := (H2.out.1.add 27 (woP e xs x) (.slice a2 (woX e xs x).length c2)).c0 1 rfl; have q21b := (H2.out.1.add 27 (woP e xs x) (.slice a2 (woX e xs x).length c2)).c1 1 rfl; clear ho hb)
    | ((fail_if_success (have z := H3)); go_at_call 26; go_must (refine (Calls.mono (HWI.out _ _ _ ((H2.out.2.1.marks HS.out.2).1.below (alloc_b _ _)) (Nat.le_trans (Nat.le_add_right _ _) HCAP.out)) ?_)); rintro r w3 ⟨a3, c3, rfl, ho, hb⟩; go_must (have H3 : Hid (Kn [(w2.heap.size, 27, (woP e xs x), .slice a2 (woX e xs x).length c2), (w1.heap.size, 27, e, .slice (some ⟨g, 0, none⟩) n cap), (w.heap.size, 27, e, .slice a n c)] w w3 ∧ OwI 0 w3 (.slice (some ⟨g, 0, none⟩) (n + 3) cap) (n + 3) (xs ++ [-71, -72, -73]) ∧ OwI 0 w3 (.slice a2 (woX e xs x).length c2) (woX e xs x).length (woX e xs x) ∧ OwI 0 w3 (.slice a3 (wiX e xs x).length c3) (wiX e xs x).length (wiX e xs x)) := ⟨(H2.out.1.add 27 (woP e xs x) (.slice a2 (woX e xs x).length c2)).below hb, (H2.out.2.1.below (alloc_b _ _)).below hb, (H2.out.2.2.below (alloc_b _ _)).below hb, ho.base (Nat.zero_le _)⟩); have q33a := (H3.out.1.add 27 (wiP e xs x) (.slice a3 (wiX e xs x).length c3)).c0 3 rfl; have q33b := (H3.out.1.add 27 (wiP e xs x) (.slice a3 (wiX e xs x).length c3)).c1 3 rfl; clear ho hb)
    | ((fail_if_success (have z := H4)); go_at_call 15; go_must (refine (Calls.mono (HPL.out _) ?_)); rintro r w4 ⟨rfl, hb⟩; go_must (have H4 : Hid (Kn [(w3.heap.size, 27, (wiP e xs x), .slice a3 (wiX e xs x).length c3), (w2.heap.size, 27, (woP e xs x), .slice a2 (woX e xs x).length c2), (w1.heap.size, 27, e, .slice (some ⟨g, 0, none⟩) n cap), (w.heap.size, 27, e, .slice a n c)] w w4 ∧ OwI 0 w4 (.slice (some ⟨g, 0, none⟩) (n + 3) cap) (n + 3) (xs ++ [-71, -72, -73]) ∧ OwI 0 w4 (.slice a2 (woX e xs x).length c2) (woX e xs x).length (woX e xs x) ∧ OwI 0 w4 (.slice a3 (wiX e xs x).length c3) (wiX e xs x).length (wiX e xs x)) := ⟨(H3.out.1.add 27 (wiP e xs x) (.slice a3 (wiX e xs x).length c3)).below hb, (H3.out.2.1.below (alloc_b _ _)).below hb, (H3.out.2.2.1.below (alloc_b _ _)).below hb, (H3.out.2.2.2.below (alloc_b _ _)).below hb⟩); clear hb)
    | (go_at_call 27; go_must (refine (Calls.mono (HQWO.out _ H4.out.1.2) ?_)); rintro r w5 ⟨a5, c5, rfl, ho, hb⟩; go_must (have H5 : Hid (Kn [(w3.heap.size, 27, (wiP e xs x), .slice a3 (wiX e xs x).length c3), (w2.heap.size, 27, (woP e xs x), .slice a2 (woX e xs x).length c2), (w1.heap.size, 27, e, .slice (some ⟨g, 0, none⟩) n cap), (w.heap.size, 27, e, .slice a n c)] w w5 ∧ OwI 0 w5 (.slice (some ⟨g, 0, none⟩) (n + 3) cap) (n + 3) (xs ++ [-71, -72, -73]) ∧ OwI 0 w5 (.slice a2 (woX e xs x).length c2) (woX e xs x).length (woX e xs x) ∧ OwI 0 w5 (.slice a3 (wiX e xs x).length c3) (wiX e xs x).length (wiX e xs x) ∧ OwI 0 w5 (.slice a5 (woX e xs x).length c5) (woX e xs x).length (woX e xs x)) := ⟨H4.out.1.below hb, H4.out.2.1.below hb, H4.out.2.2.1.below hb, H4.out.2.2.2.below hb, ho.base (Nat.zero_le _)⟩); have q54a := (H5.out.1.add 33 (woP e xs x) (.slice a5 (woX e xs x).length c5)).c0 4 rfl; have q54b := (H5.out.1.add 33 (woP e xs x) (.slice a5 (woX e xs x).length c5)).c1 4 rfl; clear ho hb)
    | (have z := H5; clear z; go_at_call 15; go_must (refine (Calls.mono (HPL.out _) ?_)); rintro r w6 ⟨rfl, hb⟩; go_must (have H6 : Hid (Kn [(w5.heap.size, 33, (woP e xs x), .slice a5 (woX e xs x).length c5), (w3.heap.size, 27, (wiP e xs x), .slice a3 (wiX e xs x).length c3), (w2.heap.size, 27, (woP e xs x), .slice a2 (woX e xs x).length c2), (w1.heap.size, 27, e, .slice (some ⟨g, 0, none⟩) n cap), (w.heap.size, 27, e, .slice a n c)] w w6 ∧ OwI 0 w6 (.slice (some ⟨g, 0, none⟩) (n + 3) cap) (n + 3) (xs ++ [-71, -72, -73]) ∧ OwI 0 w6 (.slice a2 (woX e xs x).length c2) (woX e xs x).length (woX e xs x) ∧ OwI 0 w6 (.slice a3 (wiX e xs x).length c3) (wiX e xs x).length (wiX e xs x) ∧ OwI 0 w6 (.slice a5 (woX e xs x).length c5) (woX e xs x).length (woX e xs x)) := ⟨(H5.out.1.add 33 (woP e xs x) (.slice a5 (woX e xs x).length c5)).below hb, (H5.out.2.1.below (alloc_b _ _)).below hb, (H5.out.2.2.1.below (alloc_b _ _)).below hb, (H5.out.2.2.2.1.below (alloc_b _ _)).below hb, (H5.out.2.2.2.2.below (alloc_b _ _)).below hb⟩); clear hb)
    | (go_at_call 28; go_must (refine (Calls.mono (HQWI.out _ H6.out.1.2) ?_)); rintro r w7 ⟨a7, c7, rfl, ho, hb⟩; go_must (have H7 : Hid (Kn [(w5.heap.size, 33, (woP e xs x), .slice a5 (woX e xs x).length c5), (w3.heap.size, 27, (wiP e xs x), .slice a3 (wiX e xs x).length c3), (w2.heap.size, 27, (woP e xs x), .slice a2 (woX e xs x).length c2), (w1.heap.size, 27, e, .slice (some ⟨g, 0, none⟩) n cap), (w.heap.size, 27, e, .slice a n c)] w w7 ∧ OwI 0 w7 (.slice (some ⟨g, 0, none⟩) (n + 3) cap) (n + 3) (xs ++ [-71, -72, -73]) ∧ OwI 0 w7 (.slice a2 (woX e xs x).length c2) (woX e xs x).length (woX e xs x) ∧ OwI 0 w7 (.slice a3 (wiX e xs x).length c3) (wiX e xs x).length (wiX e xs x) ∧ OwI 0 w7 (.slice a5 (woX e xs x).length c5) (woX e xs x).length (woX e xs x) ∧ OwI 0 w7 (.slice a7 (wiX e xs x).length c7) (wiX e xs x).length (wiX e xs x)) := ⟨H6.out.1.below hb, H6.out.2.1.below hb, H6.out.2.2.1.below hb, H6.out.2.2.2.1.below hb, H6.out.2.2.2.2.below hb, ho.base (Nat.zero_le _)⟩); clear ho hb)
    | (have z := H7; clear z; go_at_call 26; go_must (refine (Calls.mono (HLIT.out _ _ (by simp)) ?_)); rintro r w8 ⟨a8, c8, rfl, hb⟩; go_must (have H8 : Hid (Kn [(w7.heap.size, 33, (wiP e xs x), .slice a7 (wiX e xs x).length c7), (w5.heap.size, 33, (woP e xs x), .slice a5 (woX e xs x).length c5), (w3.heap.size, 27, (wiP e xs x), .slice a3 (wiX e xs x).length c3), (w2.heap.size, 27, (woP e xs x), .slice a2 (woX e xs x).length c2), (w1.heap.size, 27, e, .slice (some ⟨g, 0, none⟩) n cap), (w.heap.size, 27, e, .slice a n c)] w w8 ∧ OwI 0 w8 (.slice (some ⟨g, 0, none⟩) (n + 3) cap) (n + 3) (xs ++ [-71, -72, -73]) ∧ OwI 0 w8 (.slice a2 (woX e xs x).length c2) (woX e xs x).length (woX e xs x) ∧ OwI 0 w8 (.slice a3 (wiX e xs x).length c3) (wiX e xs x).length (wiX e xs x) ∧ OwI 0 w8 (.slice a5 (woX e xs x).length c5) (woX e xs x).length (woX e xs x) ∧ OwI 0 w8 (.slice a7 (wiX e xs x).length c7) (wiX e xs x).length (wiX e xs x)) := ⟨((H7.out.1.add 33 (wiP e xs x) (.slice a7 (wiX e xs x).length c7)).below (alloc_b _ _)).below hb, ((H7.out.2.1.below (alloc_b _ _)).below (alloc_b _ _)).below hb, ((H7.out.2.2.1.below (alloc_b _ _)).below (alloc_b _ _)).below hb, ((H7.out.2.2.2.1.below (alloc_b _ _)).below (alloc_b _ _)).below hb, ((H7.out.2.2.2.2.1.below (alloc_b _ _)).below (alloc_b _ _)).below hb, ((H7.out.2.2.2.2.2.below (alloc_b _ _)).below (alloc_b _ _)).below hb⟩); have q81a := (H8.out.1.add 27 2 (.slice a8 2 c8)).c0 1 rfl; have q81b := (H8.out.1.add 27 2 (.slice a8 2 c8)).c1 1 rfl; have q82a := (H8.out.1.add 27 2 (.slice a8 2 c8)).c0 2 rfl; have q82b := (H8.out.1.add 27 2 (.slice a8 2 c8)).c1 2 rfl; have q83a := (H8.out.1.add 27 2 (.slice a8 2 c8)).c0 3 rfl; have q83b := (H8.out.1.add 27 2 (.slice a8 2 c8)).c1 3 rfl; have q84a := (H8.out.1.add 27 2 (.slice a8 2 c8)).c0 4 rfl; have q84b := (H8.out.1.add 27 2 (.slice a8 2 c8)).c1 4 rfl; clear hb)
    | ((fail_if_success (have z := H9)); go_at_call 16; go_must (refine (Calls.mono (HSM.out _ _ _ _ _ _ (woX e xs x) ((H8.out.2.2.1.below (alloc_b _ _)).segW).1 ((H8.out.2.2.2.2.1.below (alloc_b _ _)).segW).1 HLW.out) ?_)); rintro r w9 ⟨rfl, hb⟩; go_must (have H9 : Hid (Kn [(w8.heap.size, 27, 2, .slice a8 2 c8), (w7.heap.size, 33, (wiP e xs x), .slice a7 (wiX e xs x).length c7), (w5.heap.size, 33, (woP e xs x), .slice a5 (woX e xs x).length c5), (w3.heap.size, 27, (wiP e xs x), .slice a3 (wiX e xs x).length c3), (w2.heap.size, 27, (woP e xs x), .slice a2 (woX e xs x).length c2), (w1.heap.size, 27, e, .slice (some ⟨g, 0, none⟩) n cap), (w.heap.size, 27, e, .slice a n c)] w w9 ∧ OwI 0 w9 (.slice (some ⟨g, 0, none⟩) (n + 3) cap) (n + 3) (xs ++ [-71, -72, -73]) ∧ OwI 0 w9 (.slice a2 (woX e xs x).length c2) (woX e xs x).length (woX e xs x) ∧ OwI 0 w9 (.slice a3 (wiX e xs x).length c3) (wiX e xs x).length (wiX e xs x) ∧ OwI 0 w9 (.slice a5 (woX e xs x).length c5) (woX e xs x).length (woX e xs x) ∧ OwI 0 w9 (.slice a7 (wiX e xs x).length c7) (wiX e xs x).length (wiX e xs x)) := ⟨(H8.out.1.add 27 2 (.slice a8 2 c8)).below hb, (H8.out.2.1.below (alloc_b _ _)).below hb, (H8.out.2.2.1.below (alloc_b _ _)).below hb, (H8.out.2.2.2.1.below (alloc_b _ _)).below hb, (H8.out.2.2.2.2.1.below (alloc_b _ _)).below hb, (H8.out.2.2.2.2.2.below (alloc_b _ _)).below hb⟩); have q91a := H9.out.1.c0 1 rfl; have q91b := H9.out.1.c1 1 rfl; have q93a := H9.out.1.c0 3 rfl; have q93b := H9.out.1.c1 3 rfl; clear hb)
    | ((fail_if_success (have z := H10)); have z := H9; clear z; go_at_call 16; go_must (refine (Calls.mono (HSM.out _ _ _ _ _ _ (wiX e xs x) (H9.out.2.2.2.1.segW).1 (H9.out.2.2.2.2.2.segW).1 HLI.out) ?_)); rintro r w10 ⟨rfl, hb⟩; go_must (have H10 : Hid (Kn [(w8.heap.size, 27, 2, .slice a8 2 c8), (w7.heap.size, 33, (wiP e xs x), .slice a7 (wiX e xs x).length c7), (w5.heap.size, 33, (woP e xs x), .slice a5 (woX e xs x).length c5), (w3.heap.size, 27, (wiP e xs x), .slice a3 (wiX e xs x).length c3), (w2.heap.size, 27, (woP e xs x), .slice a2 (woX e xs x).length c2), (w1.heap.size, 27, e, .slice (some ⟨g, 0, none⟩) n cap), (w.heap.size, 27, e, .slice a n c)] w w10 ∧ OwI 0 w10 (.slice (some ⟨g, 0, none⟩) (n + 3) cap) (n + 3) (xs ++ [-71, -72, -73]) ∧ OwI 0 w10 (.slice a2 (woX e xs x).length c2) (woX e xs x).length (woX e xs x) ∧ OwI 0 w10 (.slice a3 (wiX e xs x).length c3) (wiX e xs x).length (wiX e xs x) ∧ OwI 0 w10 (.slice a5 (woX e xs x).length c5) (woX e xs x).length (woX e xs x) ∧ OwI 0 w10 (.slice a7 (wiX e xs x).length c7) (wiX e xs x).length (wiX e xs x)) := ⟨H9.out.1.below hb, H9.out.2.1.below hb, H9.out.2.2.1.below hb, H9.out.2.2.2.1.below hb, H9.out.2.2.2.2.1.below hb, H9.out.2.2.2.2.2.below hb⟩); have qx5a := H10.out.1.c0 5 rfl; have qx5b := H10.out.1.c1 5 rfl; have qx6a := H10.out.1.c0 6 rfl; have qx6b := H10.out.1.c1 6 rfl; clear hb)
    | (go_at_call 17; go_must (refine (Calls.mono (HKP.out _ _ _ H10.out.2.1 HCAP.out H10.out.1.2) ?_)); rintro r w11 ⟨rfl, hb⟩; go_must (have H11 : Hid (Kn [(w8.heap.size, 27, 2, .slice a8 2 c8), (w7.heap.size, 33, (wiP e xs x), .slice a7 (wiX e xs x).length c7), (w5.heap.size, 33, (woP e xs x), .slice a5 (woX e xs x).length c5), (w3.heap.size, 27, (wiP e xs x), .slice a3 (wiX e xs x).length c3), (w2.heap.size, 27, (woP e xs x), .slice a2 (woX e xs x).length c2), (w1.heap.size, 27, e, .slice (some ⟨g, 0, none⟩) n cap), (w.heap.size, 27, e, .slice a n c)] w w11 ∧ OwI 0 w11 (.slice (some ⟨g, 0, none⟩) (n + 3) cap) (n + 3) (xs ++ [-71, -72, -73]) ∧ OwI 0 w11 (.slice a2 (woX e xs x).length c2) (woX e xs x).length (woX e xs x) ∧ OwI 0 w11 (.slice a3 (wiX e xs x).length c3) (wiX e xs x).length (wiX e xs x) ∧ OwI 0 w11 (.slice a5 (woX e xs x).length c5) (woX e xs x).length (woX e xs x) ∧ OwI 0 w11 (.slice a7 (wiX e xs x).length c7) (wiX e xs x).length (wiX e xs x)) := ⟨H10.out.1.below hb, H10.out.2.1.below hb, H10.out.2.2.1.below hb, H10.out.2.2.2.1.below hb, H10.out.2.2.2.2.1.below hb, H10.out.2.2.2.2.2.below hb⟩); have qy0a := H11.out.1.c0 0 rfl; have qy0b := H11.out.1.c1 0 rfl; clear hb)
    | (go_at_call 9; go_must (refine (Calls.mono (HNU.out _ _) ?_)); rintro r wq ⟨rfl, hq⟩; obtain rfl := hq.symm; clear hq))
  go_ret
  exact ⟨rfl, H11.out.1.2⟩

set_option maxRecDepth 100000 in
theorem lifted (os : Os) (started : os.Started) (H : Type) (enc : TypeId × Value → H) :
    ReturnsInHanded {} Try.checked os 6 .any (Rows.configStepsSpec.pre6 enc Try.prog Try.f6 Rows.configStepsRow.domain false) (Rows.configStepsSpec.post enc Try.prog Try.f6 false true false false) := by
  refine returnsInHanded_of_change_sized (C := Try.checked) own started (by kernel_rfl) Try.func6
    (ChangeSpec.witness6 (enc := enc) (C := Try.checked) false ⟨#[], #[.agg #[.int .i64 0, .slice none 0 0], .int .i64 0], []⟩ 8 (by kernel_rfl) (by kernel_rfl) (by kernel_rfl) (by kernel_rfl)) ?_
  intro W base args ds gs before hval0 hW hcnd hsz0 _
  have hsz : (DataW.weightsEach Try.prog (Try.f6.params.toList ++ Rows.configStepsSpec.plain.varTypes Try.prog) (ds ++ gs)).all (· ≤ reachBytes) = true := hsz0
  have hval : ∀ (j : Nat) t v, Try.f6.params[j]? = some t → args[j]? = some v → Value.okWide Try.prog W .any base t v := hval0
  have hW' := hW
  obtain ⟨p, q, hA0, hV, rfl, hfz, hnd⟩ := hW
  have hA : DataW.TrodAll enc Try.prog W 0 (fun _ => true) true Try.f6.params.toList args.toList ds p := hA0
  rw [Try.params6] at hA hval hsz
  obtain ⟨v0, vs0, d0, ds0, p0, q0, hargs, rfl, rfl, h0, r0⟩ := trodAll_cons hA
  obtain ⟨v1, vs1, d1, ds1, p1, q1, rfl, rfl, rfl, h1, r1⟩ := trodAll_cons r0
  obtain ⟨rfl, rfl, rfl⟩ := trodAll_nil r1
  obtain rfl : args = #[v0, v1] := by cases args; simp_all
  obtain ⟨rfl, rfl⟩ := trodVars_none hV
  have k0 := h0
  have lt0 : ∀ x ∈ p0, x.block < W.heap.size := by obtain ⟨m, hm⟩ := k0; exact DataW.trod_lt m _ _ _ hm
  obtain ⟨c00, c10, y00, y10, m0, rfl, hd0, hp0, hy00, hy10⟩ := Go.Joins.open_agg2 Try.underlying27 (by kernel_rfl) (by kernel_rfl) (hval 0 27 v0 rfl rfl) h0
  obtain ⟨T0, eT0, _, wT0⟩ := DataW.trod_int Try.underlying3 hy00
  simp at eT0
  subst eT0
  obtain ⟨a0, len0, cap0, z0, rfl, x0⟩ : ∃ a len cap zs, c10 = .slice a len cap ∧ IsRow .i64 17592186043904 W a len cap zs := by
    rcases open_ints Try.underlying25 Try.underlying3 (by kernel_rfl) hy10 with ⟨hcs, _⟩ | ⟨x, l, c, zs, hcs, _, hl, hm, hz, hx, hcell, hwz⟩
    · simp at hcs
      exact ⟨none, 0, 0, [], hcs, .inl ⟨rfl, rfl, rfl, rfl⟩⟩
    · simp at hcs
      have hz' : zs.length = c := by simpa using hz
      have hd1 : y10.1 = _ := congrArg Prod.fst hx
      have hb := List.all_eq_true.1 hsz _ (DataW.weights_mem_each (j := 0) (t := 27) (ts := Try.f6.params.toList ++ Rows.configStepsSpec.plain.varTypes Try.prog) rfl rfl (((lits (H := H) .i64 (zs.take l)).length + (lits (H := H) .i64 (zs.drop l)).length) * 8) (by rw [hd0, hd1]; simp [DataW.weights, DataW.weightsEach, Try.underlying27, Try.underlying25, show Try.prog.bytesOf 3 = 8 from by kernel_rfl]))
      simp only [lits, List.length_map, List.length_take, List.length_drop, reachBytes, decide_eq_true_eq] at hb
      exact ⟨some x, l, c, zs, hcs, .inr ⟨_, rfl, hl, by omega, hz', hcell, hwz⟩⟩
  obtain ⟨a1, rfl, rfl, rfl, w1⟩ := open_int Try.underlying3 (hval 1 3 v1 rfl rfl) h1
  clear hA0 hval0
  refine (walk T0 a0 len0 cap0 z0 a1 W wT0 x0 w1).mono fun e W' ⟨he, bel⟩ => ?_
  subst he
  exact ⟨_, rfl, _, _, _, [], _, [], hW', trodAll_mk1 (shut_bool Try.underlying4 _), (trodAll_cons_mk (Below.trod laidOut (by kernel_rfl) (of_decide_eq_true (by kernel_rfl)) k0 bel lt0) (trodAll_cons_mk (shut_int Try.underlying3 w1) trodAll_mk0)), rfl, bel.frame _, fun h => by cases h⟩

theorem over : Rows.configStepsRow.holds Try.pinned (OpenSpec.ofChange Rows.configStepsSpec) :=
  OpenClaim.holds_of_wide 6 Try.f6 rfl rfl rfl rfl rfl rfl rfl ⟨rfl, rfl, rfl, rfl, rfl⟩ rfl rfl rfl rfl rfl (by kernel_rfl) Try.func6 (by kernel_rfl)
    (of_decide_eq_true (by kernel_rfl)) (by unfold Func.isWrapper; first | (rw [if_pos (by decide +kernel)]; kernel_rfl) | (rw [if_neg (by decide +kernel)]; exact ⟨rfl, rfl⟩))
    (fun os started H enc _ => lifted os started H enc)

end Go.Proofs.Ytekefbbjocekiaa.configSteps
namespace Go.Proofs.Ytekefbbjocekiaa
theorem configSteps_holds : Rows.ConfigStepsSaid := configSteps.over
#print axioms configSteps_holds
end Go.Proofs.Ytekefbbjocekiaa
