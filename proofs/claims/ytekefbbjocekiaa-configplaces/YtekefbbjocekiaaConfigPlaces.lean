/-
  Proved: for every configuration and node, hawserlaw16.ConfigPlaces answers true: Head, Tail, Prev, Next and Role are the document's; the configuration stays. Condition: the form's own reach.
-/
import Derived.Test.YtekefbbjocekiaaRows
import Derived.Test.YtekefbbjocekiaaCGn
import Derived.WalkKit
import Derived.ProofKit
import Derived.OpenShut
import Derived.ShutString
import Derived.ChangeOld
import Derived.Below
import Derived.Lib.SmallJoins
import Derived.JoinedCond
import Derived.SizedLaws
namespace Go.Proofs.Ytekefbbjocekiaa.configPlaces
open Go.ChangeShapes Go.WideShapes Go.ChangeAt Go.RowKit
set_option linter.unusedVariables false

theorem own : ownKnob Try.prog.godebug = none := by kernel_rfl
theorem laidOut : laidOutB Try.prog = true := by kernel_rfl

/-- What the walk is told of a slice of integers that came in. -/
def IsRow (k : IntKind) (R : Nat) (w : World) (a : Option Addr) (len cap : Nat) (zs : List Int) : Prop :=
  (a = none ∧ len = 0 ∧ cap = 0 ∧ zs = []) ∨
  ∃ x, a = some x ∧ len ≤ cap ∧ cap ≤ R ∧ zs.length = cap ∧ (∀ i, i < zs.length → w.cell? (x.add i) = some (.int k (zs.getD i 0))) ∧ ∀ n ∈ zs, (Lit.int k n).wf = true

theorem row_nil {k : IntKind} {R : Nat} {w : World} {a : Option Addr} {len cap : Nat} {zs : List Int} (h : IsRow k R w a len cap zs) : a = none → cap = 0 := by
  rcases h with ⟨_, _, h, _⟩ | ⟨x, h, _⟩
  · exact fun _ => h
  · intro h'; rw [h] at h'; cases h'
set_option maxRecDepth 20000 in
set_option maxHeartbeats 4000000 in
theorem walk (e : Int) (a : Option Addr) (n c : Nat) (zs : List Int) (x : Int) (w : World) (w0 : (Lit.int .i64 e).wf = true) (x0 : IsRow .i64 17592186043904 w a n c zs) (w1 : (Lit.int .i64 x).wf = true) :
    Calls Try.prog 5 #[.agg #[.int .i64 e, .slice a n c], .int .i64 x] w fun r w' => r = .returned (.bool true) ∧ Below w.heap.size w w' := by
  obtain ⟨hs, hlc, hcr, hwf⟩ := seg_of_row x0
  have hnz := row_nil x0
  have hn : n ≤ 17592186044000 := by omega
  have hn6 : n ≤ 1152921504606846976 := by omega
  obtain ⟨xs, hxs⟩ : ∃ xs, xs = zs.take n := ⟨_, rfl⟩
  rw [← hxs] at hs
  clear hxs hwf x0 w0 w1
  have HT : Hid _ := twin_c e a n c xs _ (hs.below (alloc_b w (.cells #[.int .i64 e, .slice a n c] 27))) hnz hn
  have HB : Hid (Kn [(w.heap.size, 27, e, .slice a n c)] w (w.alloc (.cells #[.int .i64 e, .slice a n c] 27))) := Kn.of (CfB.new _ _ _ _) (alloc_b _ _)
  have HPL : Hid (∀ W, Calls Try.prog 15 #[.agg #[.int .i64 e, .slice a n c]] W fun r w' => r = .returned (.agg #[.int .i64 e, .slice a n c]) ∧ Below W.heap.size W w') := plain_c e a n c
  have HH : Hid (∀ W g cap, Seg .i64 W (some ⟨g, 0, none⟩) n xs → Calls Try.prog 18 #[.agg #[.int .i64 e, .slice (some ⟨g, 0, none⟩) n cap]] W fun r w' => r = .returned (.int .i64 (atC e xs 0)) ∧ Below W.heap.size W w') := fun W g cap h => head_c e _ n cap xs W h
  have HTL : Hid (∀ W g cap, Seg .i64 W (some ⟨g, 0, none⟩) n xs → Calls Try.prog 10 #[.agg #[.int .i64 e, .slice (some ⟨g, 0, none⟩) n cap]] W fun r w' => r = .returned (.int .i64 (atC e xs ((n : Int) - 1))) ∧ Below W.heap.size W w') := fun W g cap h => tail_c e _ n cap xs W h
  have HPR : Hid (∀ W g cap, Seg .i64 W (some ⟨g, 0, none⟩) n xs → Calls Try.prog 20 #[.agg #[.int .i64 e, .slice (some ⟨g, 0, none⟩) n cap], .int .i64 x] W fun r w' => r = .returned (.int .i64 (bes e xs x (-1))) ∧ Below W.heap.size W w') := fun W g cap h => prev_c e _ n cap xs x W h
  have HNX : Hid (∀ W g cap, Seg .i64 W (some ⟨g, 0, none⟩) n xs → Calls Try.prog 22 #[.agg #[.int .i64 e, .slice (some ⟨g, 0, none⟩) n cap], .int .i64 x] W fun r w' => r = .returned (.int .i64 (bes e xs x 1)) ∧ Below W.heap.size W w') := fun W g cap h => next_c e _ n cap xs x W h
  have HRO : Hid (∀ W g cap, Seg .i64 W (some ⟨g, 0, none⟩) n xs → Calls Try.prog 23 #[.agg #[.int .i64 e, .slice (some ⟨g, 0, none⟩) n cap], .int .i64 x] W fun r w' => r = .returned (.int .i64 (rol e xs x)) ∧ Below W.heap.size W w') := fun W g cap h => role_c e _ n cap xs x W h
  have HQA : Hid (∀ p W, Below w.heap.size w W → Calls Try.prog 19 #[.agg #[.int .i64 e, .slice a n c], .int .i64 p] W fun r w' => r = .returned (.int .i64 (atC e xs p)) ∧ Below W.heap.size W w') := fun p W hb => qat_c e a n c xs p W (hs.below hb) hlc
  have HQB : Hid (∀ f W, -1 ≤ f ∧ f ≤ 1 → Below w.heap.size w W → Calls Try.prog 21 #[.agg #[.int .i64 e, .slice a n c], .int .i64 x, .int .i64 f] W fun r w' => r = .returned (.int .i64 (bes e xs x f)) ∧ Below W.heap.size W w') := fun f W hf hb => qbeside_c e a n c xs x f W (hs.below hb) hlc hn6 hf
  have HQR : Hid (∀ W, Below w.heap.size w W → Calls Try.prog 24 #[.agg #[.int .i64 e, .slice a n c], .int .i64 x] W fun r w' => r = .returned (.int .i64 (rol e xs x)) ∧ Below W.heap.size W w') := fun W hb => qrole_c e a n c xs x W (hs.below hb) hlc hn6
  have HKP : Hid (∀ W g cap, OwI 0 W (.slice (some ⟨g, 0, none⟩) (n + 3) cap) (n + 3) (xs ++ [-71, -72, -73]) → n + 3 ≤ cap → Below w.heap.size w W → Calls Try.prog 17 #[.agg #[.int .i64 e, .slice (some ⟨g, 0, none⟩) n cap], .agg #[.int .i64 e, .slice a n c]] W fun r w' => r = .returned (.bool true) ∧ Below W.heap.size W w') := fun W g cap h1 h2 h3 => kept_c 0 e g cap a n c xs W h1 h2 (hs.below h3) hn
  have HH5 : Hid (∀ W : World, Calls Try.prog 18 #[.agg #[.int .i64 1, .slice (some ⟨W.heap.size, 0, none⟩) 1 1]] (W.alloc (.cells #[.int .i64 5] 3)) fun r w' => r = .returned (.int .i64 5) ∧ Below (W.alloc (.cells #[.int .i64 5] 3)).heap.size (W.alloc (.cells #[.int .i64 5] 3)) w') := by
    show ∀ W : World, _
    intro W
    have := head_c 1 (some ⟨W.heap.size, 0, none⟩) 1 1 [5] (W.alloc (.cells #[.int .i64 5] 3)) (seg_new W .i64 _ _ 1 [5] rfl rfl)
    rwa [show atC 1 [5] 0 = 5 by decide] at this
  have HS : Hid (Seg .i64 w a n xs ∧ xs.length = n) := ⟨hs, hs.1⟩
  have hw : wrap64 ((n : Int) - 1) = (n : Int) - 1 := IntWalk.wrap64_in _ ⟨by omega, by omega⟩
  have hw2 : IntKind.i64.wrap ((n : Int) - 1) = (n : Int) - 1 := IntWalk.i64_in _ ⟨by omega, by omega⟩
  clear hs hlc hcr hnz hn hn6
  go_enter Try.func5, Try.ntmps5
  go_wp2_with (first
    | (go_at_call 11; go_must (refine (Calls.mono HT.out ?_)); rintro r w1 ⟨g, cap, rfl, ho, hcap, hb⟩; have H1 : Hid (Kn [(w.heap.size, 27, e, .slice a n c)] w w1 ∧ OwI 0 w1 (.slice (some ⟨g, 0, none⟩) (n + 3) cap) (n + 3) (xs ++ [-71, -72, -73]) ∧ n + 3 ≤ cap) := ⟨HB.out.below hb, ho.base (Nat.zero_le _), hcap⟩; have q0 := (H1.out.1.add 27 e (.slice (some ⟨g, 0, none⟩) n cap)).c0 1 rfl; have q1 := (H1.out.1.add 27 e (.slice (some ⟨g, 0, none⟩) n cap)).c1 1 rfl; clear ho hcap hb)
    | (go_at_call 15; go_must (refine (Calls.mono (HPL.out _) ?_)); rintro r w2 ⟨rfl, hb⟩; have H2 : Hid (Kn [(w1.heap.size, 27, e, .slice (some ⟨g, 0, none⟩) n cap), (w.heap.size, 27, e, .slice a n c)] w w2 ∧ OwI 0 w2 (.slice (some ⟨g, 0, none⟩) (n + 3) cap) (n + 3) (xs ++ [-71, -72, -73])) := ⟨(H1.out.1.add 27 e (.slice (some ⟨g, 0, none⟩) n cap)).below hb, (H1.out.2.1.below (alloc_b _ _)).below hb⟩; clear hb))
  have H3 : Hid (Kn [(w2.heap.size, 33, e, .slice a n c), (w1.heap.size, 27, e, .slice (some ⟨g, 0, none⟩) n cap), (w.heap.size, 27, e, .slice a n c)] w (w2.alloc (.cells #[.int .i64 e, .slice a n c] 33)) ∧ OwI 0 (w2.alloc (.cells #[.int .i64 e, .slice a n c] 33)) (.slice (some ⟨g, 0, none⟩) (n + 3) cap) (n + 3) (xs ++ [-71, -72, -73])) := ⟨H2.out.1.add 33 e (.slice a n c), H2.out.2.below (alloc_b _ _)⟩
  generalize hW3 : World.alloc w2 _ = w3 at H3 ⊢
  clear hW3
  have HSTa : Hid (∀ W W5, Below W.heap.size W W5 → ((W.cell? ⟨w2.heap.size, 0, none⟩ = some (.int .i64 e) ∧ W.cell? ⟨w2.heap.size, 1, none⟩ = some (.slice a n c) ∧ W.cell? ⟨w1.heap.size, 0, none⟩ = some (.int .i64 e) ∧ W.cell? ⟨w1.heap.size, 1, none⟩ = some (.slice (some ⟨g, 0, none⟩) n cap) ∧ W.cell? ⟨w.heap.size, 0, none⟩ = some (.int .i64 e) ∧ W.cell? ⟨w.heap.size, 1, none⟩ = some (.slice a n c)) ∧ Hid (Kn [(w2.heap.size, 33, e, .slice a n c), (w1.heap.size, 27, e, .slice (some ⟨g, 0, none⟩) n cap), (w.heap.size, 27, e, .slice a n c)] w W ∧ OwI 0 W (.slice (some ⟨g, 0, none⟩) (n + 3) cap) (n + 3) (xs ++ [-71, -72, -73]))) → ((W5.cell? ⟨w2.heap.size, 0, none⟩ = some (.int .i64 e) ∧ W5.cell? ⟨w2.heap.size, 1, none⟩ = some (.slice a n c) ∧ W5.cell? ⟨w1.heap.size, 0, none⟩ = some (.int .i64 e) ∧ W5.cell? ⟨w1.heap.size, 1, none⟩ = some (.slice (some ⟨g, 0, none⟩) n cap) ∧ W5.cell? ⟨w.heap.size, 0, none⟩ = some (.int .i64 e) ∧ W5.cell? ⟨w.heap.size, 1, none⟩ = some (.slice a n c)) ∧ Hid (Kn [(w2.heap.size, 33, e, .slice a n c), (w1.heap.size, 27, e, .slice (some ⟨g, 0, none⟩) n cap), (w.heap.size, 27, e, .slice a n c)] w W5 ∧ OwI 0 W5 (.slice (some ⟨g, 0, none⟩) (n + 3) cap) (n + 3) (xs ++ [-71, -72, -73])))) := fun W W5 hb h => by have z := h.2.out; have h := z.1.below hb; exact ⟨⟨h.c0 0 rfl, h.c1 0 rfl, h.c0 1 rfl, h.c1 1 rfl, h.c0 2 rfl, h.c1 2 rfl⟩, h, z.2.below hb⟩
  have hSa : (w3.cell? ⟨w2.heap.size, 0, none⟩ = some (.int .i64 e) ∧ w3.cell? ⟨w2.heap.size, 1, none⟩ = some (.slice a n c) ∧ w3.cell? ⟨w1.heap.size, 0, none⟩ = some (.int .i64 e) ∧ w3.cell? ⟨w1.heap.size, 1, none⟩ = some (.slice (some ⟨g, 0, none⟩) n cap) ∧ w3.cell? ⟨w.heap.size, 0, none⟩ = some (.int .i64 e) ∧ w3.cell? ⟨w.heap.size, 1, none⟩ = some (.slice a n c)) ∧ Hid (Kn [(w2.heap.size, 33, e, .slice a n c), (w1.heap.size, 27, e, .slice (some ⟨g, 0, none⟩) n cap), (w.heap.size, 27, e, .slice a n c)] w w3 ∧ OwI 0 w3 (.slice (some ⟨g, 0, none⟩) (n + 3) cap) (n + 3) (xs ++ [-71, -72, -73])) := by have z := H3.out; have h := z.1; exact ⟨⟨h.c0 0 rfl, h.c1 0 rfl, h.c0 1 rfl, h.c1 1 rfl, h.c0 2 rfl, h.c1 2 rfl⟩, h, z.2⟩
  have hSda : (w3.drew.cell? ⟨w2.heap.size, 0, none⟩ = some (.int .i64 e) ∧ w3.drew.cell? ⟨w2.heap.size, 1, none⟩ = some (.slice a n c) ∧ w3.drew.cell? ⟨w1.heap.size, 0, none⟩ = some (.int .i64 e) ∧ w3.drew.cell? ⟨w1.heap.size, 1, none⟩ = some (.slice (some ⟨g, 0, none⟩) n cap) ∧ w3.drew.cell? ⟨w.heap.size, 0, none⟩ = some (.int .i64 e) ∧ w3.drew.cell? ⟨w.heap.size, 1, none⟩ = some (.slice a n c)) ∧ Hid (Kn [(w2.heap.size, 33, e, .slice a n c), (w1.heap.size, 27, e, .slice (some ⟨g, 0, none⟩) n cap), (w.heap.size, 27, e, .slice a n c)] w w3.drew ∧ OwI 0 w3.drew (.slice (some ⟨g, 0, none⟩) (n + 3) cap) (n + 3) (xs ++ [-71, -72, -73])) := by have z := H3.out; have h := z.1.drew; exact ⟨⟨h.c0 0 rfl, h.c1 0 rfl, h.c0 1 rfl, h.c1 1 rfl, h.c0 2 rfl, h.c1 2 rfl⟩, h, z.2⟩
  go_region_held3 (fun W => (W.cell? ⟨w2.heap.size, 0, none⟩ = some (.int .i64 e) ∧ W.cell? ⟨w2.heap.size, 1, none⟩ = some (.slice a n c) ∧ W.cell? ⟨w1.heap.size, 0, none⟩ = some (.int .i64 e) ∧ W.cell? ⟨w1.heap.size, 1, none⟩ = some (.slice (some ⟨g, 0, none⟩) n cap) ∧ W.cell? ⟨w.heap.size, 0, none⟩ = some (.int .i64 e) ∧ W.cell? ⟨w.heap.size, 1, none⟩ = some (.slice a n c)) ∧ Hid (Kn [(w2.heap.size, 33, e, .slice a n c), (w1.heap.size, 27, e, .slice (some ⟨g, 0, none⟩) n cap), (w.heap.size, 27, e, .slice a n c)] w W ∧ OwI 0 W (.slice (some ⟨g, 0, none⟩) (n + 3) cap) (n + 3) (xs ++ [-71, -72, -73]))) (assumption) (first
    | (go_at_call 18; refine (Calls.mono (HH.out _ _ _ (hSa.2.out.2.marks HS.out.2).1) ?_); rintro r w4 ⟨rfl, hbw4⟩; have hS4 := HSTa.out _ w4 hbw4 (by assumption))
    | ((fail_if_success (have z := hS5)); go_at_call 19; refine (Calls.mono (HQA.out _ _ hS4.2.out.1.2) ?_); rintro r w5 ⟨rfl, hbw5⟩; have hS5 := HSTa.out _ w5 hbw5 (by assumption))
    | (go_at_call 10; refine (Calls.mono (HTL.out _ _ _ (hS5.2.out.2.marks HS.out.2).1) ?_); rintro r w6 ⟨rfl, hbw6⟩; have hS6 := HSTa.out _ w6 hbw6 (by assumption))
    | (go_at_call 19; refine (Calls.mono (HQA.out _ _ hS6.2.out.1.2) ?_); rintro r w7 ⟨rfl, hbw7⟩; have hS7 := HSTa.out _ w7 hbw7 (by assumption)))
  go_wp2_with fail
  have H7 : Hid (Kn [(w2.heap.size, 33, e, .slice a n c), (w1.heap.size, 27, e, .slice (some ⟨g, 0, none⟩) n cap), (w.heap.size, 27, e, .slice a n c)] w w7 ∧ OwI 0 w7 (.slice (some ⟨g, 0, none⟩) (n + 3) cap) (n + 3) (xs ++ [-71, -72, -73])) := hS7.2
  have HSTb : Hid (∀ W W5, Below W.heap.size W W5 → ((W.cell? ⟨w2.heap.size, 0, none⟩ = some (.int .i64 e) ∧ W.cell? ⟨w2.heap.size, 1, none⟩ = some (.slice a n c) ∧ W.cell? ⟨w1.heap.size, 0, none⟩ = some (.int .i64 e) ∧ W.cell? ⟨w1.heap.size, 1, none⟩ = some (.slice (some ⟨g, 0, none⟩) n cap) ∧ W.cell? ⟨w.heap.size, 0, none⟩ = some (.int .i64 e) ∧ W.cell? ⟨w.heap.size, 1, none⟩ = some (.slice a n c)) ∧ Hid (Kn [(w2.heap.size, 33, e, .slice a n c), (w1.heap.size, 27, e, .slice (some ⟨g, 0, none⟩) n cap), (w.heap.size, 27, e, .slice a n c)] w W ∧ OwI 0 W (.slice (some ⟨g, 0, none⟩) (n + 3) cap) (n + 3) (xs ++ [-71, -72, -73]))) → ((W5.cell? ⟨w2.heap.size, 0, none⟩ = some (.int .i64 e) ∧ W5.cell? ⟨w2.heap.size, 1, none⟩ = some (.slice a n c) ∧ W5.cell? ⟨w1.heap.size, 0, none⟩ = some (.int .i64 e) ∧ W5.cell? ⟨w1.heap.size, 1, none⟩ = some (.slice (some ⟨g, 0, none⟩) n cap) ∧ W5.cell? ⟨w.heap.size, 0, none⟩ = some (.int .i64 e) ∧ W5.cell? ⟨w.heap.size, 1, none⟩ = some (.slice a n c)) ∧ Hid (Kn [(w2.heap.size, 33, e, .slice a n c), (w1.heap.size, 27, e, .slice (some ⟨g, 0, none⟩) n cap), (w.heap.size, 27, e, .slice a n c)] w W5 ∧ OwI 0 W5 (.slice (some ⟨g, 0, none⟩) (n + 3) cap) (n + 3) (xs ++ [-71, -72, -73])))) := fun W W5 hb h => by have z := h.2.out; have h := z.1.below hb; exact ⟨⟨h.c0 0 rfl, h.c1 0 rfl, h.c0 1 rfl, h.c1 1 rfl, h.c0 2 rfl, h.c1 2 rfl⟩, h, z.2.below hb⟩
  have hSb : (w7.cell? ⟨w2.heap.size, 0, none⟩ = some (.int .i64 e) ∧ w7.cell? ⟨w2.heap.size, 1, none⟩ = some (.slice a n c) ∧ w7.cell? ⟨w1.heap.size, 0, none⟩ = some (.int .i64 e) ∧ w7.cell? ⟨w1.heap.size, 1, none⟩ = some (.slice (some ⟨g, 0, none⟩) n cap) ∧ w7.cell? ⟨w.heap.size, 0, none⟩ = some (.int .i64 e) ∧ w7.cell? ⟨w.heap.size, 1, none⟩ = some (.slice a n c)) ∧ Hid (Kn [(w2.heap.size, 33, e, .slice a n c), (w1.heap.size, 27, e, .slice (some ⟨g, 0, none⟩) n cap), (w.heap.size, 27, e, .slice a n c)] w w7 ∧ OwI 0 w7 (.slice (some ⟨g, 0, none⟩) (n + 3) cap) (n + 3) (xs ++ [-71, -72, -73])) := by have z := H7.out; have h := z.1; exact ⟨⟨h.c0 0 rfl, h.c1 0 rfl, h.c0 1 rfl, h.c1 1 rfl, h.c0 2 rfl, h.c1 2 rfl⟩, h, z.2⟩
  have hSdb : (w7.drew.cell? ⟨w2.heap.size, 0, none⟩ = some (.int .i64 e) ∧ w7.drew.cell? ⟨w2.heap.size, 1, none⟩ = some (.slice a n c) ∧ w7.drew.cell? ⟨w1.heap.size, 0, none⟩ = some (.int .i64 e) ∧ w7.drew.cell? ⟨w1.heap.size, 1, none⟩ = some (.slice (some ⟨g, 0, none⟩) n cap) ∧ w7.drew.cell? ⟨w.heap.size, 0, none⟩ = some (.int .i64 e) ∧ w7.drew.cell? ⟨w.heap.size, 1, none⟩ = some (.slice a n c)) ∧ Hid (Kn [(w2.heap.size, 33, e, .slice a n c), (w1.heap.size, 27, e, .slice (some ⟨g, 0, none⟩) n cap), (w.heap.size, 27, e, .slice a n c)] w w7.drew ∧ OwI 0 w7.drew (.slice (some ⟨g, 0, none⟩) (n + 3) cap) (n + 3) (xs ++ [-71, -72, -73])) := by have z := H7.out; have h := z.1.drew; exact ⟨⟨h.c0 0 rfl, h.c1 0 rfl, h.c0 1 rfl, h.c1 1 rfl, h.c0 2 rfl, h.c1 2 rfl⟩, h, z.2⟩
  go_region_held3 (fun W => (W.cell? ⟨w2.heap.size, 0, none⟩ = some (.int .i64 e) ∧ W.cell? ⟨w2.heap.size, 1, none⟩ = some (.slice a n c) ∧ W.cell? ⟨w1.heap.size, 0, none⟩ = some (.int .i64 e) ∧ W.cell? ⟨w1.heap.size, 1, none⟩ = some (.slice (some ⟨g, 0, none⟩) n cap) ∧ W.cell? ⟨w.heap.size, 0, none⟩ = some (.int .i64 e) ∧ W.cell? ⟨w.heap.size, 1, none⟩ = some (.slice a n c)) ∧ Hid (Kn [(w2.heap.size, 33, e, .slice a n c), (w1.heap.size, 27, e, .slice (some ⟨g, 0, none⟩) n cap), (w.heap.size, 27, e, .slice a n c)] w W ∧ OwI 0 W (.slice (some ⟨g, 0, none⟩) (n + 3) cap) (n + 3) (xs ++ [-71, -72, -73]))) (assumption) (first
    | (go_at_call 20; refine (Calls.mono (HPR.out _ _ _ (hSb.2.out.2.marks HS.out.2).1) ?_); rintro r w8 ⟨rfl, hbw8⟩; have hS8 := HSTb.out _ w8 hbw8 (by assumption))
    | ((fail_if_success (have z := hS9)); go_at_call 21; refine (Calls.mono (HQB.out _ _ (by decide) hS8.2.out.1.2) ?_); rintro r w9 ⟨rfl, hbw9⟩; have hS9 := HSTb.out _ w9 hbw9 (by assumption))
    | (go_at_call 22; refine (Calls.mono (HNX.out _ _ _ (hS9.2.out.2.marks HS.out.2).1) ?_); rintro r wa ⟨rfl, hbwa⟩; have hSx := HSTb.out _ wa hbwa (by assumption))
    | (go_at_call 21; refine (Calls.mono (HQB.out _ _ (by decide) hSx.2.out.1.2) ?_); rintro r wb ⟨rfl, hbwb⟩; have hSy := HSTb.out _ wb hbwb (by assumption)))
  go_wp2_with fail
  have Hb : Hid (Kn [(w2.heap.size, 33, e, .slice a n c), (w1.heap.size, 27, e, .slice (some ⟨g, 0, none⟩) n cap), (w.heap.size, 27, e, .slice a n c)] w wb ∧ OwI 0 wb (.slice (some ⟨g, 0, none⟩) (n + 3) cap) (n + 3) (xs ++ [-71, -72, -73])) := hSy.2
  have HSTc : Hid (∀ W W5, Below W.heap.size W W5 → ((W.cell? ⟨w2.heap.size, 0, none⟩ = some (.int .i64 e) ∧ W.cell? ⟨w2.heap.size, 1, none⟩ = some (.slice a n c) ∧ W.cell? ⟨w1.heap.size, 0, none⟩ = some (.int .i64 e) ∧ W.cell? ⟨w1.heap.size, 1, none⟩ = some (.slice (some ⟨g, 0, none⟩) n cap) ∧ W.cell? ⟨w.heap.size, 0, none⟩ = some (.int .i64 e) ∧ W.cell? ⟨w.heap.size, 1, none⟩ = some (.slice a n c)) ∧ Hid (Kn [(w2.heap.size, 33, e, .slice a n c), (w1.heap.size, 27, e, .slice (some ⟨g, 0, none⟩) n cap), (w.heap.size, 27, e, .slice a n c)] w W ∧ OwI 0 W (.slice (some ⟨g, 0, none⟩) (n + 3) cap) (n + 3) (xs ++ [-71, -72, -73]))) → ((W5.cell? ⟨w2.heap.size, 0, none⟩ = some (.int .i64 e) ∧ W5.cell? ⟨w2.heap.size, 1, none⟩ = some (.slice a n c) ∧ W5.cell? ⟨w1.heap.size, 0, none⟩ = some (.int .i64 e) ∧ W5.cell? ⟨w1.heap.size, 1, none⟩ = some (.slice (some ⟨g, 0, none⟩) n cap) ∧ W5.cell? ⟨w.heap.size, 0, none⟩ = some (.int .i64 e) ∧ W5.cell? ⟨w.heap.size, 1, none⟩ = some (.slice a n c)) ∧ Hid (Kn [(w2.heap.size, 33, e, .slice a n c), (w1.heap.size, 27, e, .slice (some ⟨g, 0, none⟩) n cap), (w.heap.size, 27, e, .slice a n c)] w W5 ∧ OwI 0 W5 (.slice (some ⟨g, 0, none⟩) (n + 3) cap) (n + 3) (xs ++ [-71, -72, -73])))) := fun W W5 hb h => by have z := h.2.out; have h := z.1.below hb; exact ⟨⟨h.c0 0 rfl, h.c1 0 rfl, h.c0 1 rfl, h.c1 1 rfl, h.c0 2 rfl, h.c1 2 rfl⟩, h, z.2.below hb⟩
  have hSc : (wb.cell? ⟨w2.heap.size, 0, none⟩ = some (.int .i64 e) ∧ wb.cell? ⟨w2.heap.size, 1, none⟩ = some (.slice a n c) ∧ wb.cell? ⟨w1.heap.size, 0, none⟩ = some (.int .i64 e) ∧ wb.cell? ⟨w1.heap.size, 1, none⟩ = some (.slice (some ⟨g, 0, none⟩) n cap) ∧ wb.cell? ⟨w.heap.size, 0, none⟩ = some (.int .i64 e) ∧ wb.cell? ⟨w.heap.size, 1, none⟩ = some (.slice a n c)) ∧ Hid (Kn [(w2.heap.size, 33, e, .slice a n c), (w1.heap.size, 27, e, .slice (some ⟨g, 0, none⟩) n cap), (w.heap.size, 27, e, .slice a n c)] w wb ∧ OwI 0 wb (.slice (some ⟨g, 0, none⟩) (n + 3) cap) (n + 3) (xs ++ [-71, -72, -73])) := by have z := Hb.out; have h := z.1; exact ⟨⟨h.c0 0 rfl, h.c1 0 rfl, h.c0 1 rfl, h.c1 1 rfl, h.c0 2 rfl, h.c1 2 rfl⟩, h, z.2⟩
  have hSdc : (wb.drew.cell? ⟨w2.heap.size, 0, none⟩ = some (.int .i64 e) ∧ wb.drew.cell? ⟨w2.heap.size, 1, none⟩ = some (.slice a n c) ∧ wb.drew.cell? ⟨w1.heap.size, 0, none⟩ = some (.int .i64 e) ∧ wb.drew.cell? ⟨w1.heap.size, 1, none⟩ = some (.slice (some ⟨g, 0, none⟩) n cap) ∧ wb.drew.cell? ⟨w.heap.size, 0, none⟩ = some (.int .i64 e) ∧ wb.drew.cell? ⟨w.heap.size, 1, none⟩ = some (.slice a n c)) ∧ Hid (Kn [(w2.heap.size, 33, e, .slice a n c), (w1.heap.size, 27, e, .slice (some ⟨g, 0, none⟩) n cap), (w.heap.size, 27, e, .slice a n c)] w wb.drew ∧ OwI 0 wb.drew (.slice (some ⟨g, 0, none⟩) (n + 3) cap) (n + 3) (xs ++ [-71, -72, -73])) := by have z := Hb.out; have h := z.1.drew; exact ⟨⟨h.c0 0 rfl, h.c1 0 rfl, h.c0 1 rfl, h.c1 1 rfl, h.c0 2 rfl, h.c1 2 rfl⟩, h, z.2⟩
  go_region_held3 (fun W => (W.cell? ⟨w2.heap.size, 0, none⟩ = some (.int .i64 e) ∧ W.cell? ⟨w2.heap.size, 1, none⟩ = some (.slice a n c) ∧ W.cell? ⟨w1.heap.size, 0, none⟩ = some (.int .i64 e) ∧ W.cell? ⟨w1.heap.size, 1, none⟩ = some (.slice (some ⟨g, 0, none⟩) n cap) ∧ W.cell? ⟨w.heap.size, 0, none⟩ = some (.int .i64 e) ∧ W.cell? ⟨w.heap.size, 1, none⟩ = some (.slice a n c)) ∧ Hid (Kn [(w2.heap.size, 33, e, .slice a n c), (w1.heap.size, 27, e, .slice (some ⟨g, 0, none⟩) n cap), (w.heap.size, 27, e, .slice a n c)] w W ∧ OwI 0 W (.slice (some ⟨g, 0, none⟩) (n + 3) cap) (n + 3) (xs ++ [-71, -72, -73]))) (first | assumption | exact HSTc.out _ _ (alloc_b _ _) (by assumption)) (first
    | (go_at_call 23; refine (Calls.mono (HRO.out _ _ _ (hSc.2.out.2.marks HS.out.2).1) ?_); rintro r wc ⟨rfl, hbwc⟩; have hTc := HSTc.out _ wc hbwc (by assumption))
    | (go_at_call 24; refine (Calls.mono (HQR.out _ hTc.2.out.1.2) ?_); rintro r wd ⟨rfl, hbwd⟩; have hTd := HSTc.out _ wd hbwd (by assumption))
    | (go_at_call 17; refine (Calls.mono (HKP.out _ _ _ hTd.2.out.2 H1.out.2.2 hTd.2.out.1.2) ?_); rintro r we ⟨rfl, hbwe⟩; have hTe := HSTc.out _ we hbwe (by assumption))
    | (go_at_call 18; refine (Calls.mono (HH5.out we) ?_); rintro r wf ⟨rfl, hbwf⟩; have hTf := HSTc.out _ wf hbwf (HSTc.out _ _ (alloc_b _ _) hTe)))
  go_wp2
  go_ret
  exact ⟨rfl, hTf.2.out.1.2⟩

set_option maxRecDepth 100000 in
theorem lifted (os : Os) (started : os.Started) (H : Type) (enc : TypeId × Value → H) :
    ReturnsInHanded {} Try.checked os 5 .any (Rows.configPlacesSpec.pre6 enc Try.prog Try.f5 Rows.configPlacesRow.domain false) (Rows.configPlacesSpec.post enc Try.prog Try.f5 false true false false) := by
  refine returnsInHanded_of_change_sized (C := Try.checked) own started (by kernel_rfl) Try.func5
    (ChangeSpec.witness6 (enc := enc) (C := Try.checked) false ⟨#[], #[.agg #[.int .i64 0, .slice none 0 0], .int .i64 0], []⟩ 8 (by kernel_rfl) (by kernel_rfl) (by kernel_rfl) (by kernel_rfl)) ?_
  intro W base args ds gs before hval0 hW hcnd hsz0 _
  have hsz : (DataW.weightsEach Try.prog (Try.f5.params.toList ++ Rows.configPlacesSpec.plain.varTypes Try.prog) (ds ++ gs)).all (· ≤ reachBytes) = true := hsz0
  have hval : ∀ (j : Nat) t v, Try.f5.params[j]? = some t → args[j]? = some v → Value.okWide Try.prog W .any base t v := hval0
  have hW' := hW
  obtain ⟨p, q, hA0, hV, rfl, hfz, hnd⟩ := hW
  have hA : DataW.TrodAll enc Try.prog W 0 (fun _ => true) true Try.f5.params.toList args.toList ds p := hA0
  rw [Try.params5] at hA hval hsz
  obtain ⟨v0, vs0, d0, ds0, p0, q0, hargs, rfl, rfl, h0, r0⟩ := trodAll_cons hA
  obtain ⟨v1, vs1, d1, ds1, p1, q1, rfl, rfl, rfl, h1, r1⟩ := trodAll_cons r0
  obtain ⟨rfl, rfl, rfl⟩ := trodAll_nil r1
  obtain rfl : args = #[v0, v1] := by cases args; simp_all
  obtain ⟨rfl, rfl⟩ := trodVars_none hV
  have k0 := h0
  have lt0 : ∀ x ∈ p0, x.block < W.heap.size := by obtain ⟨m, hm⟩ := k0; exact DataW.trod_lt m _ _ _ hm
  obtain ⟨c00, c10, y00, y10, m0, rfl, hd0, hp0, hy00, hy10⟩ := Go.Joins.open_agg2 Try.underlying27 (by kernel_rfl) (by kernel_rfl) (hval 0 27 v0 rfl rfl) h0
  obtain ⟨T0, eT0, _, wT0⟩ := DataW.trod_int Try.underlying3 hy00
  simp at eT0
  subst eT0
  obtain ⟨a0, len0, cap0, z0, rfl, x0⟩ : ∃ a len cap zs, c10 = .slice a len cap ∧ IsRow .i64 17592186043904 W a len cap zs := by
    rcases open_ints Try.underlying25 Try.underlying3 (by kernel_rfl) hy10 with ⟨hcs, _⟩ | ⟨x, l, c, zs, hcs, _, hl, hm, hz, hx, hcell, hwz⟩
    · simp at hcs
      exact ⟨none, 0, 0, [], hcs, .inl ⟨rfl, rfl, rfl, rfl⟩⟩
    · simp at hcs
      have hz' : zs.length = c := by simpa using hz
      have hd1 : y10.1 = _ := congrArg Prod.fst hx
      have hb := List.all_eq_true.1 hsz _ (DataW.weights_mem_each (j := 0) (t := 27) (ts := Try.f5.params.toList ++ Rows.configPlacesSpec.plain.varTypes Try.prog) rfl rfl (((lits (H := H) .i64 (zs.take l)).length + (lits (H := H) .i64 (zs.drop l)).length) * 8) (by rw [hd0, hd1]; simp [DataW.weights, DataW.weightsEach, Try.underlying27, Try.underlying25, show Try.prog.bytesOf 3 = 8 from by kernel_rfl]))
      simp only [lits, List.length_map, List.length_take, List.length_drop, reachBytes, decide_eq_true_eq] at hb
      exact ⟨some x, l, c, zs, hcs, .inr ⟨_, rfl, hl, by omega, hz', hcell, hwz⟩⟩
  obtain ⟨a1, rfl, rfl, rfl, w1⟩ := open_int Try.underlying3 (hval 1 3 v1 rfl rfl) h1
  clear hA0 hval0
  refine (walk T0 a0 len0 cap0 z0 a1 W wT0 x0 w1).mono fun e W' ⟨he, bel⟩ => ?_
  subst he
  exact ⟨_, rfl, _, _, _, [], _, [], hW', trodAll_mk1 (shut_bool Try.underlying4 _), (trodAll_cons_mk (Below.trod laidOut (by kernel_rfl) (of_decide_eq_true (by kernel_rfl)) k0 bel lt0) (trodAll_cons_mk (shut_int Try.underlying3 w1) trodAll_mk0)), rfl, bel.frame _, fun h => by cases h⟩

theorem over : Rows.configPlacesRow.holds Try.pinned (OpenSpec.ofChange Rows.configPlacesSpec) :=
  OpenClaim.holds_of_wide 5 Try.f5 rfl rfl rfl rfl rfl rfl rfl ⟨rfl, rfl, rfl, rfl, rfl⟩ rfl rfl rfl rfl rfl (by kernel_rfl) Try.func5 (by kernel_rfl)
    (of_decide_eq_true (by kernel_rfl)) (by unfold Func.isWrapper; first | (rw [if_pos (by decide +kernel)]; kernel_rfl) | (rw [if_neg (by decide +kernel)]; exact ⟨rfl, rfl⟩))
    (fun os started H enc _ => lifted os started H enc)

end Go.Proofs.Ytekefbbjocekiaa.configPlaces
namespace Go.Proofs.Ytekefbbjocekiaa
theorem configPlaces_holds : Rows.ConfigPlacesSaid := configPlaces.over
#print axioms configPlaces_holds
end Go.Proofs.Ytekefbbjocekiaa
