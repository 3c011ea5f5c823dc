/-
  Proved: for any two configurations, hawserlaw16.ConfigFollows answers true: Follows and Alike are the document's; both stay. Condition: the form's own reach.
-/
import Derived.Test.YtekefbbjocekiaaRows
import Derived.Test.YtekefbbjocekiaaCGv
import Derived.WalkKit
import Derived.ProofKit
import Derived.OpenShut
import Derived.ShutString
import Derived.ChangeOld
import Derived.Below
import Derived.Lib.SmallJoins
import Derived.JoinedCond
import Derived.SizedLaws
namespace Go.Proofs.Ytekefbbjocekiaa.configFollows
open Go.ChangeShapes Go.WideShapes Go.ChangeAt Go.RowKit
set_option linter.unusedVariables false

theorem own : ownKnob Try.prog.godebug = none := by kernel_rfl
theorem laidOut : laidOutB Try.prog = true := by kernel_rfl

/-- What the walk is told of a slice of integers that came in. -/
def IsRow (k : IntKind) (R : Nat) (w : World) (a : Option Addr) (len cap : Nat) (zs : List Int) : Prop :=
  (a = none ∧ len = 0 ∧ cap = 0 ∧ zs = []) ∨
  ∃ x, a = some x ∧ len ≤ cap ∧ cap ≤ R ∧ zs.length = cap ∧ (∀ i, i < zs.length → w.cell? (x.add i) = some (.int k (zs.getD i 0))) ∧ ∀ n ∈ zs, (Lit.int k n).wf = true

theorem row_nil {k : IntKind} {R : Nat} {w : World} {a : Option Addr} {len cap : Nat} {zs : List Int} (h : IsRow k R w a len cap zs) : a = none → cap = 0 := by
  rcases h with ⟨_, _, h, _⟩ | ⟨x, h, _⟩
  · exact fun _ => h
  · intro h'; rw [h] at h'; cases h'
set_option maxRecDepth 20000 in
set_option maxHeartbeats 8000000 in
theorem walk (e : Int) (a : Option Addr) (n c : Nat) (zs : List Int) (f : Int) (b : Option Addr) (m d : Nat) (zt : List Int) (w : World) (w0 : (Lit.int .i64 e).wf = true) (x0 : IsRow .i64 17592186043904 w a n c zs) (w1 : (Lit.int .i64 f).wf = true) (x1 : IsRow .i64 17592186043904 w b m d zt) :
    Calls Try.prog 7 #[.agg #[.int .i64 e, .slice a n c], .agg #[.int .i64 f, .slice b m d]] w fun r w' => r = .returned (.bool true) ∧ Below w.heap.size w w' := by
  obtain ⟨hs, hlc, hcr, hwf⟩ := seg_of_row x0
  have hnz := row_nil x0
  obtain ⟨hs2, hlc2, hcr2, hwf2⟩ := seg_of_row x1
  have hnz2 := row_nil x1
  have hn : n ≤ 17592186044000 := by omega
  have hm : m ≤ 17592186044000 := by omega
  obtain ⟨xs, hxs⟩ : ∃ xs, xs = zs.take n := ⟨_, rfl⟩
  obtain ⟨ys, hys⟩ : ∃ ys, ys = zt.take m := ⟨_, rfl⟩
  rw [← hxs] at hs
  rw [← hys] at hs2
  clear hxs hwf x0 w0 w1 hys hwf2 x1
  have HTA : Hid (∀ W, Below w.heap.size w W → Calls Try.prog 11 #[.agg #[.int .i64 e, .slice a n c]] W fun r w' => ∃ g cap, r = .returned (.agg #[.int .i64 e, .slice (some ⟨g, 0, none⟩) n cap]) ∧ OwI W.heap.size w' (.slice (some ⟨g, 0, none⟩) (n + 3) cap) (n + 3) (xs ++ [-71, -72, -73]) ∧ n + 3 ≤ cap ∧ Below W.heap.size W w') := fun W hb => twin_c e a n c xs W (hs.below hb) hnz hn
  have HTB : Hid (∀ W, Below w.heap.size w W → Calls Try.prog 11 #[.agg #[.int .i64 f, .slice b m d]] W fun r w' => ∃ g cap, r = .returned (.agg #[.int .i64 f, .slice (some ⟨g, 0, none⟩) m cap]) ∧ OwI W.heap.size w' (.slice (some ⟨g, 0, none⟩) (m + 3) cap) (m + 3) (ys ++ [-71, -72, -73]) ∧ m + 3 ≤ cap ∧ Below W.heap.size W w') := fun W hb => twin_c f b m d ys W (hs2.below hb) hnz2 hm
  have HPA : Hid (∀ W, Calls Try.prog 15 #[.agg #[.int .i64 e, .slice a n c]] W fun r w' => r = .returned (.agg #[.int .i64 e, .slice a n c]) ∧ Below W.heap.size W w') := plain_c e a n c
  have HPB : Hid (∀ W, Calls Try.prog 15 #[.agg #[.int .i64 f, .slice b m d]] W fun r w' => r = .returned (.agg #[.int .i64 f, .slice b m d]) ∧ Below W.heap.size W w') := plain_c f b m d
  have HQF : Hid (∀ W, Below w.heap.size w W → Calls Try.prog 31 #[.agg #[.int .i64 e, .slice a n c], .agg #[.int .i64 f, .slice b m d]] W fun r w' => r = .returned (.bool (fol e f xs ys)) ∧ Below W.heap.size W w') := fun W hb => qfollows_c e f a b n c m d xs ys W (hs.below hb) (hs2.below hb) hnz hlc hn hm
  have HQA : Hid (∀ W, Below w.heap.size w W → Calls Try.prog 32 #[.agg #[.int .i64 e, .slice a n c], .agg #[.int .i64 f, .slice b m d]] W fun r w' => r = .returned (.bool (sam e f xs ys)) ∧ Below W.heap.size W w') := fun W hb => qalike_c e f a b n c m d xs ys W (hs.below hb) (hs2.below hb) (by omega) (by omega)
  have HOF : Hid (∀ W g cap h cap2, OwI 0 W (.slice (some ⟨g, 0, none⟩) (n + 3) cap) (n + 3) (xs ++ [-71, -72, -73]) → n + 3 ≤ cap → OwI 0 W (.slice (some ⟨h, 0, none⟩) (m + 3) cap2) (m + 3) (ys ++ [-71, -72, -73]) → Calls Try.prog 29 #[.agg #[.int .i64 e, .slice (some ⟨g, 0, none⟩) n cap], .agg #[.int .i64 f, .slice (some ⟨h, 0, none⟩) m cap2]] W fun r w' => r = .returned (.bool (fol e f xs ys)) ∧ Below W.heap.size W w') := fun W g cap h cap2 h1 h2 h3 => follows_c e f _ _ n cap m cap2 xs ys W (h1.marks hs.1).1 (h3.marks hs2.1).1 (fun z => by cases z) (by omega) hn hm
  have HOA : Hid (∀ W g cap h cap2, OwI 0 W (.slice (some ⟨g, 0, none⟩) (n + 3) cap) (n + 3) (xs ++ [-71, -72, -73]) → OwI 0 W (.slice (some ⟨h, 0, none⟩) (m + 3) cap2) (m + 3) (ys ++ [-71, -72, -73]) → Calls Try.prog 30 #[.agg #[.int .i64 e, .slice (some ⟨g, 0, none⟩) n cap], .agg #[.int .i64 f, .slice (some ⟨h, 0, none⟩) m cap2]] W fun r w' => r = .returned (.bool (sam e f xs ys)) ∧ Below W.heap.size W w') := fun W g cap h cap2 h1 h3 => alike_c e f _ _ n cap m cap2 xs ys W (h1.marks hs.1).1 (h3.marks hs2.1).1 (by omega)
  have HLT : Hid (∀ (b1 b2 : Nat) (W : World), b1 = W.heap.size → b2 = W.heap.size + 1 → Calls Try.prog 29 #[.agg #[.int .i64 1, .slice (some ⟨b1, 0, none⟩) 1 1], .agg #[.int .i64 2, .slice (some ⟨b2, 0, none⟩) 2 2]] ((W.alloc (.cells #[.int .i64 5] 3)).alloc (.cells #[.int .i64 5, .int .i64 6] 3)) fun r w' => r = .returned (.bool true) ∧ Below ((W.alloc (.cells #[.int .i64 5] 3)).alloc (.cells #[.int .i64 5, .int .i64 6] 3)).heap.size ((W.alloc (.cells #[.int .i64 5] 3)).alloc (.cells #[.int .i64 5, .int .i64 6] 3)) w') := by
    show ∀ (b1 b2 : Nat) (W : World), _
    intro b1 b2 W h1 h2
    subst h1 h2
    have g1 := (seg_new W .i64 #[.int .i64 5] 3 1 [5] rfl rfl).below (alloc_b _ (.cells #[.int .i64 5, .int .i64 6] 3))
    have g2 := seg_new (W.alloc (.cells #[.int .i64 5] 3)) .i64 #[.int .i64 5, .int .i64 6] 3 2 [5, 6] rfl rfl
    rw [World.size_alloc] at g2
    have := follows_c 1 2 _ _ 1 1 2 2 [5] [5, 6] _ g1 g2 (fun z => by cases z) (by decide) (by decide) (by decide)
    rwa [show fol 1 2 [5] [5, 6] = true by decide] at this
  have HKA : Hid (∀ W g cap, OwI 0 W (.slice (some ⟨g, 0, none⟩) (n + 3) cap) (n + 3) (xs ++ [-71, -72, -73]) → n + 3 ≤ cap → Below w.heap.size w W → Calls Try.prog 17 #[.agg #[.int .i64 e, .slice (some ⟨g, 0, none⟩) n cap], .agg #[.int .i64 e, .slice a n c]] W fun r w' => r = .returned (.bool true) ∧ Below W.heap.size W w') := fun W g cap h1 h2 h3 => kept_c 0 e g cap a n c xs W h1 h2 (hs.below h3) hn
  have HKB : Hid (∀ W h cap2, OwI 0 W (.slice (some ⟨h, 0, none⟩) (m + 3) cap2) (m + 3) (ys ++ [-71, -72, -73]) → m + 3 ≤ cap2 → Below w.heap.size w W → Calls Try.prog 17 #[.agg #[.int .i64 f, .slice (some ⟨h, 0, none⟩) m cap2], .agg #[.int .i64 f, .slice b m d]] W fun r w' => r = .returned (.bool true) ∧ Below W.heap.size W w') := fun W h cap2 h1 h2 h3 => kept_c 0 f h cap2 b m d ys W h1 h2 (hs2.below h3) hm
  clear hs hs2 hlc hlc2 hcr hcr2 hnz hnz2 hn hm
  have H0 : Hid (Kn [(w.heap.size + 1, 27, f, .slice b m d), (w.heap.size, 27, e, .slice a n c)] w ((w.alloc (.cells #[.int .i64 e, .slice a n c] 27)).alloc (.cells #[.int .i64 f, .slice b m d] 27))) := by
    have h := cf2_new 27 27 w e f (.slice a n c) (.slice b m d)
    exact ⟨fun x hx => by simp at hx; rcases hx with rfl | rfl; exact h.r; exact h.l, h.b⟩
  go_enter Try.func7, Try.ntmps7
  go_wp2_with fail
  generalize hW : World.alloc (World.alloc w _) _ = W1 at H0 ⊢
  clear hW
  refine wp_region_free rfl (by kernel_rfl) [10, 11, 12, 13, 5, 6, 100000, 100001] [[], [0], [], [2, 1], [], [], [4, 1, 3], [5, 3, 6]] (by kernel_rfl) (fun q F W => FoI w W e f (.slice a n c) (.slice b m d) n m xs ys (q 0) (q 1) (q 2) (q 3) (q 4) (q 5) (q 6) (q 7) (F 0) (F 1) (F 2) (F 3) (F 4) (F 5)) ?h0 ?step ?fin
  case h0 => exact fun F => ⟨H0.out.drew, (fun z => by cases z), (fun z => by cases z), (fun z => by cases z), (fun z => by cases z), (fun z => by cases z), (fun z => by cases z), (fun z => by cases z), (fun z => by cases z), (fun z => by cases z)⟩
  case step =>
    intro q F W A hA hI i o ho hq hu K hK
    match i, ho, hq, hu, hK with
    | 0, ho, hq, hu, hK =>
      cases ho
      have e2 : A.eval (.tmp 2) = .pointer (some ⟨w.heap.size, 0, none⟩) := ev_out hA 2 rfl
      exact ph_load rfl 27 (.tmp 2) rfl Try.underlying27 rfl w.heap.size 0 [.int .i64 e, .slice a n c] infoCf e2 (range2 (hI.k.get 1 rfl)) (hK _ _ ⟨hI.k, fun _ => rfl, hI.h2, hI.h1, hI.h3, hI.h4, hI.h5, hI.ne, hI.c6, hI.c7⟩)
    | 1, ho, hq, hu, hK =>
      cases ho
      have e10 : A.eval (.tmp 10) = (.agg #[.int .i64 e, .slice a n c]) := (ev_in hA 10 0 rfl rfl rfl).trans (hI.h0 (hu 0 (by decide)))
      refine ph_fn 11 _ _ rfl rfl #[(.agg #[.int .i64 e, .slice a n c])] (by simp [e10]) (by kernel_rfl) ?_
      refine (Calls.mono (HTA.out W hI.k.2) ?_)
      rintro r W' ⟨g, cap, rfl, ho, hcap, hb⟩
      have h := hI.below hb
      have h6 : ¬ q 6 = true := fun z => by have := (hI.c6 z).2; rw [hq] at this; cases this
      exact ⟨_, rfl, hK _ _ ⟨h.k, h.h0, h.h2, fun _ => ⟨g, cap, rfl, hcap, ho.base (Nat.zero_le _)⟩, h.h3, (fun z => by
        obtain ⟨P, z1, z2, e0, u0, z3, z4⟩ := h.h4 z
        exact ⟨P, z1, z2, e0, u0, z3, fun z5 => absurd z5 h6⟩), h.h5, h.ne, fun z => absurd z h6, h.c7⟩⟩
    | 2, ho, hq, hu, hK =>
      cases ho
      have e3 : A.eval (.tmp 3) = .pointer (some ⟨w.heap.size + 1, 0, none⟩) := ev_out hA 3 rfl
      exact ph_load rfl 27 (.tmp 3) rfl Try.underlying27 rfl (w.heap.size + 1) 0 [.int .i64 f, .slice b m d] infoCf e3 (range2 (hI.k.get 0 rfl)) (hK _ _ ⟨hI.k, hI.h0, fun _ => rfl, hI.h1, hI.h3, hI.h4, hI.h5, hI.ne, hI.c6, hI.c7⟩)
    | 3, ho, hq, hu, hK =>
      cases ho
      have e12 : A.eval (.tmp 12) = (.agg #[.int .i64 f, .slice b m d]) := (ev_in hA 12 2 rfl rfl rfl).trans (hI.h2 (hu 2 (by decide)))
      refine ph_fn 11 _ _ rfl rfl #[(.agg #[.int .i64 f, .slice b m d])] (by simp [e12]) (by kernel_rfl) ?_
      refine (Calls.mono (HTB.out W hI.k.2) ?_)
      rintro r W' ⟨g, cap, rfl, ho, hcap, hb⟩
      have h := hI.below hb
      have h7 : ¬ q 7 = true := fun z => by have := (hI.c7 z).2; rw [hq] at this; cases this
      exact ⟨_, rfl, hK _ _ ⟨h.k, h.h0, h.h2, h.h1, fun _ => ⟨g, cap, rfl, hcap, ho.base (Nat.zero_le _)⟩, h.h4, (fun z => by
        obtain ⟨P, z1, z2, e0, u0, z3, z4⟩ := h.h5 z
        exact ⟨P, z1, z2, e0, u0, z3, fun z5 => absurd z5 h7⟩), h.ne, h.c6, fun z => absurd z h7⟩⟩
    | 4, ho, hq, hu, hK =>
      cases ho
      have hb := alloc_b W (.cells #[.int .i64 0, .slice none 0 0] 27)
      have h := hI.below hb
      have h6 : ¬ q 6 = true := fun z => by have := (hI.c6 z).1; rw [hq] at this; cases this
      have hBl := hI.k.lt 0 rfl
      refine ph_allocC rfl rfl (hK _ _ ⟨h.k, h.h0, h.h2, h.h1, h.h3, fun _ => ⟨W.heap.size, rfl, by omega, 0, _, CfB.new _ _ _ _, fun z => absurd z h6⟩, h.h5, fun _ z => ?_, fun z => absurd z h6, h.c7⟩)
      obtain ⟨P, z1, z2, e0, u0, z3, z4⟩ := hI.h5 z
      have hl := z3.lt
      intro e9
      have e8 := e9.trans z1
      injection e8 with e8
      injection e8 with e8
      injection e8 with e8
      omega
    | 5, ho, hq, hu, hK =>
      cases ho
      have hb := alloc_b W (.cells #[.int .i64 0, .slice none 0 0] 27)
      have h := hI.below hb
      have h7 : ¬ q 7 = true := fun z => by have := (hI.c7 z).1; rw [hq] at this; cases this
      have hBl := hI.k.lt 0 rfl
      refine ph_allocC rfl rfl (hK _ _ ⟨h.k, h.h0, h.h2, h.h1, h.h3, h.h4, fun _ => ⟨W.heap.size, rfl, by omega, 0, _, CfB.new _ _ _ _, fun z => absurd z h7⟩, fun z _ => ?_, h.c6, fun z => absurd z h7⟩)
      obtain ⟨P, z1, z2, e0, u0, z3, z4⟩ := hI.h4 z
      have hl := z3.lt
      intro e9
      have e8 := z1.symm.trans e9
      injection e8 with e8
      injection e8 with e8
      injection e8 with e8
      omega
    | 6, ho, hq, hu, hK =>
      cases ho
      have u4 := hu 4 (by decide)
      have u1 := hu 1 (by decide)
      obtain ⟨P, p1, p2, e0, u0, p3, p4⟩ := hI.h4 u4
      obtain ⟨g, cap, r1, r2, r3⟩ := hI.h1 u1
      have e5 : A.eval (.tmp 5) = .pointer (some ⟨P, 0, none⟩) := (ev_in hA 5 4 rfl rfl rfl).trans p1
      have e11 : A.eval (.tmp 11) = .agg #[.int .i64 e, .slice (some ⟨g, 0, none⟩) n cap] := (ev_in hA 11 1 rfl rfl rfl).trans r1
      obtain ⟨W', s1, s2, s3⟩ := bk_store infoCf p3 rfl (es := #[.int .i64 e, .slice (some ⟨g, 0, none⟩) n cap]) rfl (by simp [Value.oneCell'])
      refine ph_store 27 (.tmp 5) (.tmp 11) rfl rfl ⟨P, 0, none⟩ _ e5 e11 W' s1 (hK _ _ ?_)
      have hx := hI
      rw [u4, u1, p1] at hx
      rw [show q 6 = false from hq] at hx
      have := FoI.st6 hx r1 p2 s2 s3
      show FoI w W' e f _ _ n m xs ys (q 0) (q 1) (q 2) (q 3) (q 4) (q 5) true (q 7) (F 0) (F 1) (F 2) (F 3) (F 4) (F 5)
      rw [u4, u1, p1]
      exact this
    | 7, ho, hq, hu, hK =>
      cases ho
      have u5 := hu 5 (by decide)
      have u3 := hu 3 (by decide)
      obtain ⟨P, p1, p2, e0, u0, p3, p4⟩ := hI.h5 u5
      obtain ⟨g, cap, r1, r2, r3⟩ := hI.h3 u3
      have e6 : A.eval (.tmp 6) = .pointer (some ⟨P, 0, none⟩) := (ev_in hA 6 5 rfl rfl rfl).trans p1
      have e13 : A.eval (.tmp 13) = .agg #[.int .i64 f, .slice (some ⟨g, 0, none⟩) m cap] := (ev_in hA 13 3 rfl rfl rfl).trans r1
      obtain ⟨W', s1, s2, s3⟩ := bk_store infoCf p3 rfl (es := #[.int .i64 f, .slice (some ⟨g, 0, none⟩) m cap]) rfl (by simp [Value.oneCell'])
      refine ph_store 27 (.tmp 6) (.tmp 13) rfl rfl ⟨P, 0, none⟩ _ e6 e13 W' s1 (hK _ _ ?_)
      have hx := hI
      rw [u5, u3, p1] at hx
      rw [show q 7 = false from hq] at hx
      have := FoI.st7 hx r1 p2 s2 s3
      show FoI w W' e f _ _ n m xs ys (q 0) (q 1) (q 2) (q 3) (q 4) (q 5) (q 6) true (F 0) (F 1) (F 2) (F 3) (F 4) (F 5)
      rw [u5, u3, p1]
      exact this
    | i + 8, ho, hq, hu, hK => simp at ho
  case fin =>
    intro q F W2 A hA hI hall
    obtain ⟨P, p1, p2, e0, u0, p3, p4⟩ := hI.h4 (hall 4 (by decide))
    obtain ⟨Q, q1, q2, f0, v0, q3, q4⟩ := hI.h5 (hall 5 (by decide))
    obtain ⟨g, cap, g1, g2, g3⟩ := hI.h1 (hall 1 (by decide))
    obtain ⟨h, cap2, h1, h2, h3⟩ := hI.h3 (hall 3 (by decide))
    have a0 := hI.h0 (hall 0 (by decide))
    have a2 := hI.h2 (hall 2 (by decide))
    have z4 := (p4 (hall 6 (by decide))).symm.trans g1
    have z5 := (q4 (hall 7 (by decide))).symm.trans h1
    simp only [Value.agg.injEq, Array.mk.injEq, List.cons.injEq, Value.int.injEq, true_and, and_true] at z4 z5
    obtain ⟨rfl, rfl⟩ := z4
    obtain ⟨rfl, rfl⟩ := z5
    have HCA : Hid (n + 3 ≤ cap) := g2
    have HCB : Hid (m + 3 ≤ cap2) := h2
    have H2 : Hid (Kn [(Q, 27, f0, .slice (some ⟨h, 0, none⟩) m cap2), (P, 27, e0, .slice (some ⟨g, 0, none⟩) n cap), (w.heap.size + 1, 27, f0, .slice b m d), (w.heap.size, 27, e0, .slice a n c)] w W2 ∧ OwI 0 W2 (.slice (some ⟨g, 0, none⟩) (n + 3) cap) (n + 3) (xs ++ [-71, -72, -73]) ∧ OwI 0 W2 (.slice (some ⟨h, 0, none⟩) (m + 3) cap2) (m + 3) (ys ++ [-71, -72, -73])) := ⟨⟨fun x hx => by simp at hx; rcases hx with rfl | rfl | rfl | rfl; exact q3; exact p3; exact hI.k.get 0 rfl; exact hI.k.get 1 rfl, hI.k.2⟩, g3, h3⟩
    obtain ⟨f6, hf6⟩ : ∃ x, x = F 6 := ⟨_, rfl⟩
    obtain ⟨f7, hf7⟩ : ∃ x, x = F 7 := ⟨_, rfl⟩
    have hA2 := hA.trans (putAll_lit [(.agg #[.int .i64 e0, .slice a n c]), (.agg #[.int .i64 e0, .slice (some ⟨g, 0, none⟩) n cap]), (.agg #[.int .i64 f0, .slice b m d]), (.agg #[.int .i64 f0, .slice (some ⟨h, 0, none⟩) m cap2]), (.pointer (some ⟨P, 0, none⟩)), (.pointer (some ⟨Q, 0, none⟩)), f6, f7] (by
      intro j hj
      match j, hj with
      | 0, _ => exact a0
      | 1, _ => exact g1
      | 2, _ => exact a2
      | 3, _ => exact h1
      | 4, _ => exact p1
      | 5, _ => exact q1
      | 6, _ => exact hf6.symm
      | 7, _ => exact hf7.symm
      | j + 8, hj => exact absurd hj (by simp)))
    clear hA hI hall p1 p2 p3 p4 q1 q2 q3 q4 g1 g2 g3 h1 h2 h3 a0 a2 hf6 hf7 H0
    subst hA2
    simp only [putAll, putL, List.mem_cons, List.not_mem_nil, List.idxOf_cons, Nat.reduceEqDiff, Nat.reduceBEq, Nat.reduceAdd, or_false, or_true, reduceIte, cond_true, cond_false, List.getD_cons_zero, List.getD_cons_succ, BEq.rfl]
    go_wp2_with fail
    have HSTc : Hid (∀ W W5, Below W.heap.size W W5 → ((W.cell? ⟨Q, 0, none⟩ = some (.int .i64 f0) ∧ W.cell? ⟨Q, 1, none⟩ = some (.slice (some ⟨h, 0, none⟩) m cap2) ∧ W.cell? ⟨P, 0, none⟩ = some (.int .i64 e0) ∧ W.cell? ⟨P, 1, none⟩ = some (.slice (some ⟨g, 0, none⟩) n cap) ∧ W.cell? ⟨w.heap.size + 1, 0, none⟩ = some (.int .i64 f0) ∧ W.cell? ⟨w.heap.size + 1, 1, none⟩ = some (.slice b m d) ∧ W.cell? ⟨w.heap.size, 0, none⟩ = some (.int .i64 e0) ∧ W.cell? ⟨w.heap.size, 1, none⟩ = some (.slice a n c)) ∧ Hid (Kn [(Q, 27, f0, .slice (some ⟨h, 0, none⟩) m cap2), (P, 27, e0, .slice (some ⟨g, 0, none⟩) n cap), (w.heap.size + 1, 27, f0, .slice b m d), (w.heap.size, 27, e0, .slice a n c)] w W ∧ OwI 0 W (.slice (some ⟨g, 0, none⟩) (n + 3) cap) (n + 3) (xs ++ [-71, -72, -73]) ∧ OwI 0 W (.slice (some ⟨h, 0, none⟩) (m + 3) cap2) (m + 3) (ys ++ [-71, -72, -73]))) → ((W5.cell? ⟨Q, 0, none⟩ = some (.int .i64 f0) ∧ W5.cell? ⟨Q, 1, none⟩ = some (.slice (some ⟨h, 0, none⟩) m cap2) ∧ W5.cell? ⟨P, 0, none⟩ = some (.int .i64 e0) ∧ W5.cell? ⟨P, 1, none⟩ = some (.slice (some ⟨g, 0, none⟩) n cap) ∧ W5.cell? ⟨w.heap.size + 1, 0, none⟩ = some (.int .i64 f0) ∧ W5.cell? ⟨w.heap.size + 1, 1, none⟩ = some (.slice b m d) ∧ W5.cell? ⟨w.heap.size, 0, none⟩ = some (.int .i64 e0) ∧ W5.cell? ⟨w.heap.size, 1, none⟩ = some (.slice a n c)) ∧ Hid (Kn [(Q, 27, f0, .slice (some ⟨h, 0, none⟩) m cap2), (P, 27, e0, .slice (some ⟨g, 0, none⟩) n cap), (w.heap.size + 1, 27, f0, .slice b m d), (w.heap.size, 27, e0, .slice a n c)] w W5 ∧ OwI 0 W5 (.slice (some ⟨g, 0, none⟩) (n + 3) cap) (n + 3) (xs ++ [-71, -72, -73]) ∧ OwI 0 W5 (.slice (some ⟨h, 0, none⟩) (m + 3) cap2) (m + 3) (ys ++ [-71, -72, -73])))) := fun W W5 hb h => by have z := h.2.out; have h := z.1.below hb; exact ⟨⟨h.c0 0 rfl, h.c1 0 rfl, h.c0 1 rfl, h.c1 1 rfl, h.c0 2 rfl, h.c1 2 rfl, h.c0 3 rfl, h.c1 3 rfl⟩, h, z.2.1.below hb, z.2.2.below hb⟩
    have hSc : (W2.cell? ⟨Q, 0, none⟩ = some (.int .i64 f0) ∧ W2.cell? ⟨Q, 1, none⟩ = some (.slice (some ⟨h, 0, none⟩) m cap2) ∧ W2.cell? ⟨P, 0, none⟩ = some (.int .i64 e0) ∧ W2.cell? ⟨P, 1, none⟩ = some (.slice (some ⟨g, 0, none⟩) n cap) ∧ W2.cell? ⟨w.heap.size + 1, 0, none⟩ = some (.int .i64 f0) ∧ W2.cell? ⟨w.heap.size + 1, 1, none⟩ = some (.slice b m d) ∧ W2.cell? ⟨w.heap.size, 0, none⟩ = some (.int .i64 e0) ∧ W2.cell? ⟨w.heap.size, 1, none⟩ = some (.slice a n c)) ∧ Hid (Kn [(Q, 27, f0, .slice (some ⟨h, 0, none⟩) m cap2), (P, 27, e0, .slice (some ⟨g, 0, none⟩) n cap), (w.heap.size + 1, 27, f0, .slice b m d), (w.heap.size, 27, e0, .slice a n c)] w W2 ∧ OwI 0 W2 (.slice (some ⟨g, 0, none⟩) (n + 3) cap) (n + 3) (xs ++ [-71, -72, -73]) ∧ OwI 0 W2 (.slice (some ⟨h, 0, none⟩) (m + 3) cap2) (m + 3) (ys ++ [-71, -72, -73])) := by have z := H2.out; have h := z.1; exact ⟨⟨h.c0 0 rfl, h.c1 0 rfl, h.c0 1 rfl, h.c1 1 rfl, h.c0 2 rfl, h.c1 2 rfl, h.c0 3 rfl, h.c1 3 rfl⟩, h, z.2.1, z.2.2⟩
    have hSdc : (W2.drew.cell? ⟨Q, 0, none⟩ = some (.int .i64 f0) ∧ W2.drew.cell? ⟨Q, 1, none⟩ = some (.slice (some ⟨h, 0, none⟩) m cap2) ∧ W2.drew.cell? ⟨P, 0, none⟩ = some (.int .i64 e0) ∧ W2.drew.cell? ⟨P, 1, none⟩ = some (.slice (some ⟨g, 0, none⟩) n cap) ∧ W2.drew.cell? ⟨w.heap.size + 1, 0, none⟩ = some (.int .i64 f0) ∧ W2.drew.cell? ⟨w.heap.size + 1, 1, none⟩ = some (.slice b m d) ∧ W2.drew.cell? ⟨w.heap.size, 0, none⟩ = some (.int .i64 e0) ∧ W2.drew.cell? ⟨w.heap.size, 1, none⟩ = some (.slice a n c)) ∧ Hid (Kn [(Q, 27, f0, .slice (some ⟨h, 0, none⟩) m cap2), (P, 27, e0, .slice (some ⟨g, 0, none⟩) n cap), (w.heap.size + 1, 27, f0, .slice b m d), (w.heap.size, 27, e0, .slice a n c)] w W2.drew ∧ OwI 0 W2.drew (.slice (some ⟨g, 0, none⟩) (n + 3) cap) (n + 3) (xs ++ [-71, -72, -73]) ∧ OwI 0 W2.drew (.slice (some ⟨h, 0, none⟩) (m + 3) cap2) (m + 3) (ys ++ [-71, -72, -73])) := by have z := H2.out; have h := z.1.drew; exact ⟨⟨h.c0 0 rfl, h.c1 0 rfl, h.c0 1 rfl, h.c1 1 rfl, h.c0 2 rfl, h.c1 2 rfl, h.c0 3 rfl, h.c1 3 rfl⟩, h, z.2.1, z.2.2⟩
    go_region_held3 (fun W => (W.cell? ⟨Q, 0, none⟩ = some (.int .i64 f0) ∧ W.cell? ⟨Q, 1, none⟩ = some (.slice (some ⟨h, 0, none⟩) m cap2) ∧ W.cell? ⟨P, 0, none⟩ = some (.int .i64 e0) ∧ W.cell? ⟨P, 1, none⟩ = some (.slice (some ⟨g, 0, none⟩) n cap) ∧ W.cell? ⟨w.heap.size + 1, 0, none⟩ = some (.int .i64 f0) ∧ W.cell? ⟨w.heap.size + 1, 1, none⟩ = some (.slice b m d) ∧ W.cell? ⟨w.heap.size, 0, none⟩ = some (.int .i64 e0) ∧ W.cell? ⟨w.heap.size, 1, none⟩ = some (.slice a n c)) ∧ Hid (Kn [(Q, 27, f0, .slice (some ⟨h, 0, none⟩) m cap2), (P, 27, e0, .slice (some ⟨g, 0, none⟩) n cap), (w.heap.size + 1, 27, f0, .slice b m d), (w.heap.size, 27, e0, .slice a n c)] w W ∧ OwI 0 W (.slice (some ⟨g, 0, none⟩) (n + 3) cap) (n + 3) (xs ++ [-71, -72, -73]) ∧ OwI 0 W (.slice (some ⟨h, 0, none⟩) (m + 3) cap2) (m + 3) (ys ++ [-71, -72, -73]))) (assumption) (first
      | (go_at_call 29; refine (Calls.mono (HOF.out _ _ _ _ _ hSc.2.out.2.1 HCA.out hSc.2.out.2.2) ?_); rintro r w5 ⟨rfl, hbw5⟩; have hS5 := HSTc.out _ w5 hbw5 (by assumption))
      | (go_at_call 30; refine (Calls.mono (HOA.out _ _ _ _ _ hS5.2.out.2.1 hS5.2.out.2.2) ?_); rintro r w6 ⟨rfl, hbw6⟩; have hS6 := HSTc.out _ w6 hbw6 (by assumption)))
    have H6 : Hid (Kn [(Q, 27, f0, .slice (some ⟨h, 0, none⟩) m cap2), (P, 27, e0, .slice (some ⟨g, 0, none⟩) n cap), (w.heap.size + 1, 27, f0, .slice b m d), (w.heap.size, 27, e0, .slice a n c)] w w6 ∧ OwI 0 w6 (.slice (some ⟨g, 0, none⟩) (n + 3) cap) (n + 3) (xs ++ [-71, -72, -73]) ∧ OwI 0 w6 (.slice (some ⟨h, 0, none⟩) (m + 3) cap2) (m + 3) (ys ++ [-71, -72, -73])) := hS6.2
    go_wp2_with (go_at_call 29; go_must (refine (Calls.mono (HLT.out _ _ _ rfl (by simp)) ?_)); rintro r w7 ⟨rfl, hb⟩; have H7 : Hid (Kn [(Q, 27, f0, .slice (some ⟨h, 0, none⟩) m cap2), (P, 27, e0, .slice (some ⟨g, 0, none⟩) n cap), (w.heap.size + 1, 27, f0, .slice b m d), (w.heap.size, 27, e0, .slice a n c)] w w7 ∧ OwI 0 w7 (.slice (some ⟨g, 0, none⟩) (n + 3) cap) (n + 3) (xs ++ [-71, -72, -73]) ∧ OwI 0 w7 (.slice (some ⟨h, 0, none⟩) (m + 3) cap2) (m + 3) (ys ++ [-71, -72, -73])) := ⟨((H6.out.1.below (alloc_b _ _)).below (alloc_b _ _)).below hb, ((H6.out.2.1.below (alloc_b _ _)).below (alloc_b _ _)).below hb, ((H6.out.2.2.below (alloc_b _ _)).below (alloc_b _ _)).below hb⟩; clear hb)
    have HSTd : Hid (∀ W W5, Below W.heap.size W W5 → ((W.cell? ⟨Q, 0, none⟩ = some (.int .i64 f0) ∧ W.cell? ⟨Q, 1, none⟩ = some (.slice (some ⟨h, 0, none⟩) m cap2) ∧ W.cell? ⟨P, 0, none⟩ = some (.int .i64 e0) ∧ W.cell? ⟨P, 1, none⟩ = some (.slice (some ⟨g, 0, none⟩) n cap) ∧ W.cell? ⟨w.heap.size + 1, 0, none⟩ = some (.int .i64 f0) ∧ W.cell? ⟨w.heap.size + 1, 1, none⟩ = some (.slice b m d) ∧ W.cell? ⟨w.heap.size, 0, none⟩ = some (.int .i64 e0) ∧ W.cell? ⟨w.heap.size, 1, none⟩ = some (.slice a n c)) ∧ Hid (Kn [(Q, 27, f0, .slice (some ⟨h, 0, none⟩) m cap2), (P, 27, e0, .slice (some ⟨g, 0, none⟩) n cap), (w.heap.size + 1, 27, f0, .slice b m d), (w.heap.size, 27, e0, .slice a n c)] w W ∧ OwI 0 W (.slice (some ⟨g, 0, none⟩) (n + 3) cap) (n + 3) (xs ++ [-71, -72, -73]) ∧ OwI 0 W (.slice (some ⟨h, 0, none⟩) (m + 3) cap2) (m + 3) (ys ++ [-71, -72, -73]))) → ((W5.cell? ⟨Q, 0, none⟩ = some (.int .i64 f0) ∧ W5.cell? ⟨Q, 1, none⟩ = some (.slice (some ⟨h, 0, none⟩) m cap2) ∧ W5.cell? ⟨P, 0, none⟩ = some (.int .i64 e0) ∧ W5.cell? ⟨P, 1, none⟩ = some (.slice (some ⟨g, 0, none⟩) n cap) ∧ W5.cell? ⟨w.heap.size + 1, 0, none⟩ = some (.int .i64 f0) ∧ W5.cell? ⟨w.heap.size + 1, 1, none⟩ = some (.slice b m d) ∧ W5.cell? ⟨w.heap.size, 0, none⟩ = some (.int .i64 e0) ∧ W5.cell? ⟨w.heap.size, 1, none⟩ = some (.slice a n c)) ∧ Hid (Kn [(Q, 27, f0, .slice (some ⟨h, 0, none⟩) m cap2), (P, 27, e0, .slice (some ⟨g, 0, none⟩) n cap), (w.heap.size + 1, 27, f0, .slice b m d), (w.heap.size, 27, e0, .slice a n c)] w W5 ∧ OwI 0 W5 (.slice (some ⟨g, 0, none⟩) (n + 3) cap) (n + 3) (xs ++ [-71, -72, -73]) ∧ OwI 0 W5 (.slice (some ⟨h, 0, none⟩) (m + 3) cap2) (m + 3) (ys ++ [-71, -72, -73])))) := fun W W5 hb h => by have z := h.2.out; have h := z.1.below hb; exact ⟨⟨h.c0 0 rfl, h.c1 0 rfl, h.c0 1 rfl, h.c1 1 rfl, h.c0 2 rfl, h.c1 2 rfl, h.c0 3 rfl, h.c1 3 rfl⟩, h, z.2.1.below hb, z.2.2.below hb⟩
    have hSd : (w7.cell? ⟨Q, 0, none⟩ = some (.int .i64 f0) ∧ w7.cell? ⟨Q, 1, none⟩ = some (.slice (some ⟨h, 0, none⟩) m cap2) ∧ w7.cell? ⟨P, 0, none⟩ = some (.int .i64 e0) ∧ w7.cell? ⟨P, 1, none⟩ = some (.slice (some ⟨g, 0, none⟩) n cap) ∧ w7.cell? ⟨w.heap.size + 1, 0, none⟩ = some (.int .i64 f0) ∧ w7.cell? ⟨w.heap.size + 1, 1, none⟩ = some (.slice b m d) ∧ w7.cell? ⟨w.heap.size, 0, none⟩ = some (.int .i64 e0) ∧ w7.cell? ⟨w.heap.size, 1, none⟩ = some (.slice a n c)) ∧ Hid (Kn [(Q, 27, f0, .slice (some ⟨h, 0, none⟩) m cap2), (P, 27, e0, .slice (some ⟨g, 0, none⟩) n cap), (w.heap.size + 1, 27, f0, .slice b m d), (w.heap.size, 27, e0, .slice a n c)] w w7 ∧ OwI 0 w7 (.slice (some ⟨g, 0, none⟩) (n + 3) cap) (n + 3) (xs ++ [-71, -72, -73]) ∧ OwI 0 w7 (.slice (some ⟨h, 0, none⟩) (m + 3) cap2) (m + 3) (ys ++ [-71, -72, -73])) := by have z := H7.out; have h := z.1; exact ⟨⟨h.c0 0 rfl, h.c1 0 rfl, h.c0 1 rfl, h.c1 1 rfl, h.c0 2 rfl, h.c1 2 rfl, h.c0 3 rfl, h.c1 3 rfl⟩, h, z.2.1, z.2.2⟩
    have hSdd : (w7.drew.cell? ⟨Q, 0, none⟩ = some (.int .i64 f0) ∧ w7.drew.cell? ⟨Q, 1, none⟩ = some (.slice (some ⟨h, 0, none⟩) m cap2) ∧ w7.drew.cell? ⟨P, 0, none⟩ = some (.int .i64 e0) ∧ w7.drew.cell? ⟨P, 1, none⟩ = some (.slice (some ⟨g, 0, none⟩) n cap) ∧ w7.drew.cell? ⟨w.heap.size + 1, 0, none⟩ = some (.int .i64 f0) ∧ w7.drew.cell? ⟨w.heap.size + 1, 1, none⟩ = some (.slice b m d) ∧ w7.drew.cell? ⟨w.heap.size, 0, none⟩ = some (.int .i64 e0) ∧ w7.drew.cell? ⟨w.heap.size, 1, none⟩ = some (.slice a n c)) ∧ Hid (Kn [(Q, 27, f0, .slice (some ⟨h, 0, none⟩) m cap2), (P, 27, e0, .slice (some ⟨g, 0, none⟩) n cap), (w.heap.size + 1, 27, f0, .slice b m d), (w.heap.size, 27, e0, .slice a n c)] w w7.drew ∧ OwI 0 w7.drew (.slice (some ⟨g, 0, none⟩) (n + 3) cap) (n + 3) (xs ++ [-71, -72, -73]) ∧ OwI 0 w7.drew (.slice (some ⟨h, 0, none⟩) (m + 3) cap2) (m + 3) (ys ++ [-71, -72, -73])) := by have z := H7.out; have h := z.1.drew; exact ⟨⟨h.c0 0 rfl, h.c1 0 rfl, h.c0 1 rfl, h.c1 1 rfl, h.c0 2 rfl, h.c1 2 rfl, h.c0 3 rfl, h.c1 3 rfl⟩, h, z.2.1, z.2.2⟩
    go_region_held3 (fun W => (W.cell? ⟨Q, 0, none⟩ = some (.int .i64 f0) ∧ W.cell? ⟨Q, 1, none⟩ = some (.slice (some ⟨h, 0, none⟩) m cap2) ∧ W.cell? ⟨P, 0, none⟩ = some (.int .i64 e0) ∧ W.cell? ⟨P, 1, none⟩ = some (.slice (some ⟨g, 0, none⟩) n cap) ∧ W.cell? ⟨w.heap.size + 1, 0, none⟩ = some (.int .i64 f0) ∧ W.cell? ⟨w.heap.size + 1, 1, none⟩ = some (.slice b m d) ∧ W.cell? ⟨w.heap.size, 0, none⟩ = some (.int .i64 e0) ∧ W.cell? ⟨w.heap.size, 1, none⟩ = some (.slice a n c)) ∧ Hid (Kn [(Q, 27, f0, .slice (some ⟨h, 0, none⟩) m cap2), (P, 27, e0, .slice (some ⟨g, 0, none⟩) n cap), (w.heap.size + 1, 27, f0, .slice b m d), (w.heap.size, 27, e0, .slice a n c)] w W ∧ OwI 0 W (.slice (some ⟨g, 0, none⟩) (n + 3) cap) (n + 3) (xs ++ [-71, -72, -73]) ∧ OwI 0 W (.slice (some ⟨h, 0, none⟩) (m + 3) cap2) (m + 3) (ys ++ [-71, -72, -73]))) (assumption) (first
      | ((fail_if_success (have z := T1)); go_at_call 15; refine (Calls.mono (HPA.out _) ?_); rintro r x1 ⟨rfl, hbx1⟩; have T1 := HSTd.out _ x1 hbx1 (by assumption))
      | ((fail_if_success (have z := T2)); go_at_call 15; refine (Calls.mono (HPB.out _) ?_); rintro r x2 ⟨rfl, hbx2⟩; have T2 := HSTd.out _ x2 hbx2 (by assumption))
      | (go_at_call 31; refine (Calls.mono (HQF.out _ T2.2.out.1.2) ?_); rintro r x3 ⟨rfl, hbx3⟩; have T3 := HSTd.out _ x3 hbx3 (by assumption))
      | ((fail_if_success (have z := T4)); go_at_call 15; refine (Calls.mono (HPA.out _) ?_); rintro r x4 ⟨rfl, hbx4⟩; have T4 := HSTd.out _ x4 hbx4 (by assumption))
      | ((fail_if_success (have z := T5)); go_at_call 15; refine (Calls.mono (HPB.out _) ?_); rintro r x5 ⟨rfl, hbx5⟩; have T5 := HSTd.out _ x5 hbx5 (by assumption))
      | (go_at_call 32; refine (Calls.mono (HQA.out _ T5.2.out.1.2) ?_); rintro r x6 ⟨rfl, hbx6⟩; have T6 := HSTd.out _ x6 hbx6 (by assumption))
      | ((fail_if_success (have z := T7)); go_at_call 17; refine (Calls.mono (HKA.out _ _ _ T6.2.out.2.1 HCA.out T6.2.out.1.2) ?_); rintro r x7 ⟨rfl, hbx7⟩; have T7 := HSTd.out _ x7 hbx7 (by assumption))
      | (go_at_call 17; refine (Calls.mono (HKB.out _ _ _ T7.2.out.2.2 HCB.out T7.2.out.1.2) ?_); rintro r x8 ⟨rfl, hbx8⟩; have T8 := HSTd.out _ x8 hbx8 (by assumption)))
    go_wp2
    go_ret
    exact ⟨rfl, T8.2.out.1.2⟩

set_option maxRecDepth 100000 in
theorem lifted (os : Os) (started : os.Started) (H : Type) (enc : TypeId × Value → H) :
    ReturnsInHanded {} Try.checked os 7 .any (Rows.configFollowsSpec.pre6 enc Try.prog Try.f7 Rows.configFollowsRow.domain false) (Rows.configFollowsSpec.post enc Try.prog Try.f7 false true false false) := by
  refine returnsInHanded_of_change_sized (C := Try.checked) own started (by kernel_rfl) Try.func7
    (ChangeSpec.witness6 (enc := enc) (C := Try.checked) false ⟨#[], #[.agg #[.int .i64 0, .slice none 0 0], .agg #[.int .i64 0, .slice none 0 0]], []⟩ 8 (by kernel_rfl) (by kernel_rfl) (by kernel_rfl) (by kernel_rfl)) ?_
  intro W base args ds gs before hval0 hW hcnd hsz0 _
  have hsz : (DataW.weightsEach Try.prog (Try.f7.params.toList ++ Rows.configFollowsSpec.plain.varTypes Try.prog) (ds ++ gs)).all (· ≤ reachBytes) = true := hsz0
  have hval : ∀ (j : Nat) t v, Try.f7.params[j]? = some t → args[j]? = some v → Value.okWide Try.prog W .any base t v := hval0
  have hW' := hW
  obtain ⟨p, q, hA0, hV, rfl, hfz, hnd⟩ := hW
  have hA : DataW.TrodAll enc Try.prog W 0 (fun _ => true) true Try.f7.params.toList args.toList ds p := hA0
  rw [Try.params7] at hA hval hsz
  obtain ⟨v0, vs0, d0, ds0, p0, q0, hargs, rfl, rfl, h0, r0⟩ := trodAll_cons hA
  obtain ⟨v1, vs1, d1, ds1, p1, q1, rfl, rfl, rfl, h1, r1⟩ := trodAll_cons r0
  obtain ⟨rfl, rfl, rfl⟩ := trodAll_nil r1
  obtain rfl : args = #[v0, v1] := by cases args; simp_all
  obtain ⟨rfl, rfl⟩ := trodVars_none hV
  have k0 := h0
  have lt0 : ∀ x ∈ p0, x.block < W.heap.size := by obtain ⟨m, hm⟩ := k0; exact DataW.trod_lt m _ _ _ hm
  obtain ⟨c00, c10, y00, y10, m0, rfl, hd0, hp0, hy00, hy10⟩ := Go.Joins.open_agg2 Try.underlying27 (by kernel_rfl) (by kernel_rfl) (hval 0 27 v0 rfl rfl) h0
  obtain ⟨T0, eT0, _, wT0⟩ := DataW.trod_int Try.underlying3 hy00
  simp at eT0
  subst eT0
  obtain ⟨a0, len0, cap0, z0, rfl, x0⟩ : ∃ a len cap zs, c10 = .slice a len cap ∧ IsRow .i64 17592186043904 W a len cap zs := by
    rcases open_ints Try.underlying25 Try.underlying3 (by kernel_rfl) hy10 with ⟨hcs, _⟩ | ⟨x, l, c, zs, hcs, _, hl, hm, hz, hx, hcell, hwz⟩
    · simp at hcs
      exact ⟨none, 0, 0, [], hcs, .inl ⟨rfl, rfl, rfl, rfl⟩⟩
    · simp at hcs
      have hz' : zs.length = c := by simpa using hz
      have hdz : y10.1 = _ := congrArg Prod.fst hx
      have hb := List.all_eq_true.1 hsz _ (DataW.weights_mem_each (j := 0) (t := 27) (ts := Try.f7.params.toList ++ Rows.configFollowsSpec.plain.varTypes Try.prog) rfl rfl (((lits (H := H) .i64 (zs.take l)).length + (lits (H := H) .i64 (zs.drop l)).length) * 8) (by rw [hd0, hdz]; simp [DataW.weights, DataW.weightsEach, Try.underlying27, Try.underlying25, show Try.prog.bytesOf 3 = 8 from by kernel_rfl]))
      simp only [lits, List.length_map, List.length_take, List.length_drop, reachBytes, decide_eq_true_eq] at hb
      exact ⟨some x, l, c, zs, hcs, .inr ⟨_, rfl, hl, by omega, hz', hcell, hwz⟩⟩
  have k1 := h1
  have lt1 : ∀ x ∈ p1, x.block < W.heap.size := by obtain ⟨m, hm⟩ := k1; exact DataW.trod_lt m _ _ _ hm
  obtain ⟨c01, c11, y01, y11, m1, rfl, hd1, hp1, hy01, hy11⟩ := Go.Joins.open_agg2 Try.underlying27 (by kernel_rfl) (by kernel_rfl) (hval 1 27 v1 rfl rfl) h1
  obtain ⟨T1, eT1, _, wT1⟩ := DataW.trod_int Try.underlying3 hy01
  simp at eT1
  subst eT1
  obtain ⟨a1, len1, cap1, z1, rfl, x1⟩ : ∃ a len cap zs, c11 = .slice a len cap ∧ IsRow .i64 17592186043904 W a len cap zs := by
    rcases open_ints Try.underlying25 Try.underlying3 (by kernel_rfl) hy11 with ⟨hcs, _⟩ | ⟨x, l, c, zs, hcs, _, hl, hm, hz, hx, hcell, hwz⟩
    · simp at hcs
      exact ⟨none, 0, 0, [], hcs, .inl ⟨rfl, rfl, rfl, rfl⟩⟩
    · simp at hcs
      have hz' : zs.length = c := by simpa using hz
      have hdz : y11.1 = _ := congrArg Prod.fst hx
      have hb := List.all_eq_true.1 hsz _ (DataW.weights_mem_each (j := 1) (t := 27) (ts := Try.f7.params.toList ++ Rows.configFollowsSpec.plain.varTypes Try.prog) rfl rfl (((lits (H := H) .i64 (zs.take l)).length + (lits (H := H) .i64 (zs.drop l)).length) * 8) (by rw [hd1, hdz]; simp [DataW.weights, DataW.weightsEach, Try.underlying27, Try.underlying25, show Try.prog.bytesOf 3 = 8 from by kernel_rfl]))
      simp only [lits, List.length_map, List.length_take, List.length_drop, reachBytes, decide_eq_true_eq] at hb
      exact ⟨some x, l, c, zs, hcs, .inr ⟨_, rfl, hl, by omega, hz', hcell, hwz⟩⟩
  clear hA0 hval0
  refine (walk T0 a0 len0 cap0 z0 T1 a1 len1 cap1 z1 W wT0 x0 wT1 x1).mono fun e W' ⟨he, bel⟩ => ?_
  subst he
  exact ⟨_, rfl, _, _, _, [], _, [], hW', trodAll_mk1 (shut_bool Try.underlying4 _), (trodAll_cons_mk (Below.trod laidOut (by kernel_rfl) (of_decide_eq_true (by kernel_rfl)) k0 bel lt0) (trodAll_cons_mk (Below.trod laidOut (by kernel_rfl) (of_decide_eq_true (by kernel_rfl)) k1 bel lt1) trodAll_mk0)), rfl, bel.frame _, fun h => by cases h⟩

theorem over : Rows.configFollowsRow.holds Try.pinned (OpenSpec.ofChange Rows.configFollowsSpec) :=
  OpenClaim.holds_of_wide 7 Try.f7 rfl rfl rfl rfl rfl rfl rfl ⟨rfl, rfl, rfl, rfl, rfl⟩ rfl rfl rfl rfl rfl (by kernel_rfl) Try.func7 (by kernel_rfl)
    (of_decide_eq_true (by kernel_rfl)) (by unfold Func.isWrapper; first | (rw [if_pos (by decide +kernel)]; kernel_rfl) | (rw [if_neg (by decide +kernel)]; exact ⟨rfl, rfl⟩))
    (fun os started H enc _ => lifted os started H enc)

end Go.Proofs.Ytekefbbjocekiaa.configFollows
namespace Go.Proofs.Ytekefbbjocekiaa
theorem configFollows_holds : Rows.ConfigFollowsSaid := configFollows.over
#print axioms configFollows_holds
end Go.Proofs.Ytekefbbjocekiaa
