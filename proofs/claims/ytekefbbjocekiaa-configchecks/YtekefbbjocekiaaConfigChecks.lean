/-
  Proved: for every configuration, hawserlaw16.ConfigChecks answers true: Check and First are the document's; the configuration stays. Condition: the form's own reach.
-/
import Derived.Test.YtekefbbjocekiaaRows
import Derived.Test.YtekefbbjocekiaaCGn
import Derived.WalkKit
import Derived.ProofKit
import Derived.OpenShut
import Derived.ShutString
import Derived.ChangeOld
import Derived.Below
import Derived.Lib.SmallJoins
import Derived.JoinedCond
import Derived.SizedLaws
namespace Go.Proofs.Ytekefbbjocekiaa.configChecks
open Go.ChangeShapes Go.WideShapes Go.ChangeAt Go.RowKit
set_option linter.unusedVariables false

theorem own : ownKnob Try.prog.godebug = none := by kernel_rfl
theorem laidOut : laidOutB Try.prog = true := by kernel_rfl

/-- What the walk is told of a slice of integers that came in. -/
def IsRow (k : IntKind) (R : Nat) (w : World) (a : Option Addr) (len cap : Nat) (zs : List Int) : Prop :=
  (a = none ∧ len = 0 ∧ cap = 0 ∧ zs = []) ∨
  ∃ x, a = some x ∧ len ≤ cap ∧ cap ≤ R ∧ zs.length = cap ∧ (∀ i, i < zs.length → w.cell? (x.add i) = some (.int k (zs.getD i 0))) ∧ ∀ n ∈ zs, (Lit.int k n).wf = true

theorem row_nil {k : IntKind} {R : Nat} {w : World} {a : Option Addr} {len cap : Nat} {zs : List Int} (h : IsRow k R w a len cap zs) : a = none → cap = 0 := by
  rcases h with ⟨_, _, h, _⟩ | ⟨x, h, _⟩
  · exact fun _ => h
  · intro h'; rw [h] at h'; cases h'
set_option maxRecDepth 20000 in
set_option maxHeartbeats 4000000 in
theorem walk (e : Int) (a : Option Addr) (n c : Nat) (zs : List Int) (w : World) (w0 : (Lit.int .i64 e).wf = true) (x0 : IsRow .i64 17592186043904 w a n c zs) :
    Calls Try.prog 4 #[.agg #[.int .i64 e, .slice a n c]] w fun r w' => r = .returned (.bool true) ∧ Below w.heap.size w w' := by
  obtain ⟨hs, hlc, hcr, hwf⟩ := seg_of_row x0
  have hnz := row_nil x0
  have hn : n ≤ 17592186044000 := by omega
  obtain ⟨xs, hxs⟩ : ∃ xs, xs = zs.take n := ⟨_, rfl⟩
  rw [← hxs] at hs
  clear hxs hwf x0 w0
  obtain ⟨B, hBs⟩ : ∃ B, B = w.heap.size := ⟨_, rfl⟩
  have HT : Hid _ := twin_c e a n c xs _ (hs.below (alloc_b w (.cells #[.int .i64 e, .slice a n c] 27))) hnz hn
  have HB : Hid (Kn [(w.heap.size, 27, e, .slice a n c)] w (w.alloc (.cells #[.int .i64 e, .slice a n c] 27))) := Kn.of (CfB.new _ _ _ _) (alloc_b _ _)
  have HC : Hid (∀ W g cap, Seg .i64 W (some ⟨g, 0, none⟩) n xs → Calls Try.prog 12 #[.agg #[.int .i64 e, .slice (some ⟨g, 0, none⟩) n cap]] W fun r w' => r = .returned (.int .i64 (chk e xs)) ∧ Below W.heap.size W w') := fun W g cap h => check_c e _ n cap xs W h
  have HQ : Hid (∀ f W, Below w.heap.size w W → Calls Try.prog 14 #[.agg #[.int .i64 f, .slice a n c]] W fun r w' => r = .returned (.int .i64 (chk f xs)) ∧ Below W.heap.size W w') := fun f W hb => qcheck_c f a n c xs W (hs.below hb) hlc
  have HPL : Hid (∀ W, Calls Try.prog 15 #[.agg #[.int .i64 e, .slice a n c]] W fun r w' => r = .returned (.agg #[.int .i64 e, .slice a n c]) ∧ Below W.heap.size W w') := plain_c e a n c
  have HNU : Hid (∀ e W, Calls Try.prog 9 #[.int .i64 e] W fun r w' => r = .returned (.int .i64 e) ∧ w' = W) := fun e W => num_c e W
  have HKP : Hid (∀ W g cap, OwI 0 W (.slice (some ⟨g, 0, none⟩) (n + 3) cap) (n + 3) (xs ++ [-71, -72, -73]) → n + 3 ≤ cap → Below w.heap.size w W → Calls Try.prog 17 #[.agg #[.int .i64 e, .slice (some ⟨g, 0, none⟩) n cap], .agg #[.int .i64 e, .slice a n c]] W fun r w' => r = .returned (.bool true) ∧ Below W.heap.size W w') := fun W g cap h1 h2 h3 => kept_c 0 e g cap a n c xs W h1 h2 (hs.below h3) hn
  have HS : Hid (Seg .i64 w a n xs ∧ xs.length = n) := ⟨hs, hs.1⟩
  have HSM : Hid (∀ W f v a' n' c' a2 n2 c2 ys, Seg .i64 W a' n' ys → Seg .i64 W a2 n2 ys → n' ≤ 17592186044000 → n2 ≤ 17592186044000 → v = Value.slice a' n' c' → Calls Try.prog 16 #[.agg #[.int .i64 f, v], .agg #[.int .i64 f, .slice a2 n2 c2]] W fun r w' => r = .returned (.bool true) ∧ Below W.heap.size W w') := by
    show ∀ W, _
    intro W f v a' n' c' a2 n2 c2 ys h1 h2 h3 h4 hv
    subst hv
    have := same_c f f a' a2 n' c' n2 c2 ys ys W h1 h2 (by omega) (by omega)
    rwa [sam_refl] at this
  have HNN : Hid (n ≤ 17592186044000) := hn
  by_cases hk : chk 1 xs = 0
  · have HF : Hid (∀ W g cap, Seg .i64 W (some ⟨g, 0, none⟩) n xs → Calls Try.prog 13 #[.slice (some ⟨g, 0, none⟩) n cap] W fun r w' => ∃ a' c', r = .returned (.tuple #[.agg #[.int .i64 1, .slice a' n c'], .int .i64 0]) ∧ OwI W.heap.size w' (.slice a' n c') n xs ∧ Below W.heap.size W w') := fun W g cap h => first_ok _ n cap xs W h (fun h => by cases h) hk
    have HQ1 : Hid (∀ W, Below w.heap.size w W → Calls Try.prog 14 #[.agg #[.int .i64 1, .slice a n c]] W fun r w' => r = .returned (.int .i64 0) ∧ Below W.heap.size W w') := by
      show ∀ W, _
      intro W hb
      have := HQ.out 1 W hb
      rwa [hk] at this
    clear hs hlc hcr hnz hk hn hBs
    go_enter Try.func4, Try.ntmps4
    go_wp2_with (first
      | (go_at_call 11; go_must (refine (Calls.mono HT.out ?_)); rintro r w1 ⟨g, cap, rfl, ho, hcap, hb⟩; have H1 : Hid (Kn [(w.heap.size, 27, e, .slice a n c)] w w1 ∧ OwI 0 w1 (.slice (some ⟨g, 0, none⟩) (n + 3) cap) (n + 3) (xs ++ [-71, -72, -73]) ∧ n + 3 ≤ cap) := ⟨HB.out.below hb, ho.base (Nat.zero_le _), hcap⟩; clear ho hcap hb)
      | (go_at_call 12; go_must (refine (Calls.mono (HC.out _ _ _ ((H1.out.2.1.marks HS.out.2).1.below (alloc_b _ _))) ?_)); rintro r w3 ⟨rfl, hb⟩; have H2 : Hid (Kn [(w1.heap.size, 27, e, .slice (some ⟨g, 0, none⟩) n cap), (w.heap.size, 27, e, .slice a n c)] w w3 ∧ OwI 0 w3 (.slice (some ⟨g, 0, none⟩) (n + 3) cap) (n + 3) (xs ++ [-71, -72, -73])) := ⟨(H1.out.1.add 27 e (.slice (some ⟨g, 0, none⟩) n cap)).below hb, (H1.out.2.1.below (alloc_b _ _)).below hb⟩; have q1 := H2.out.1.c1 0 rfl; have q2 := H2.out.1.c1 1 rfl; clear hb)
      | (go_at_call 13; go_must (refine (Calls.mono (HF.out _ _ _ (H2.out.2.marks HS.out.2).1) ?_)); rintro r w4 ⟨a', c', rfl, ho, hb⟩; have H4 : Hid (Kn [(w1.heap.size, 27, e, .slice (some ⟨g, 0, none⟩) n cap), (w.heap.size, 27, e, .slice a n c)] w w4 ∧ OwI 0 w4 (.slice (some ⟨g, 0, none⟩) (n + 3) cap) (n + 3) (xs ++ [-71, -72, -73]) ∧ OwI 0 w4 (.slice a' n c') n xs) := ⟨H2.out.1.below hb, H2.out.2.below hb, ho.base (Nat.zero_le _)⟩; have q3 := (H4.out.1.add 27 1 (.slice a' n c')).c1 2 rfl; clear ho hb)
      | (go_at_call 14; go_must (refine (Calls.mono (HQ1.out _ ((H4.out.1.add 27 1 (.slice a' n c')).add 33 1 (.slice a n c)).2) ?_)); rintro r w5 ⟨rfl, hb⟩; have H5 : Hid (Kn [(w4.heap.size + 1, 33, 1, .slice a n c), (w4.heap.size, 27, 1, .slice a' n c'), (w1.heap.size, 27, e, .slice (some ⟨g, 0, none⟩) n cap), (w.heap.size, 27, e, .slice a n c)] w w5 ∧ OwI 0 w5 (.slice (some ⟨g, 0, none⟩) (n + 3) cap) (n + 3) (xs ++ [-71, -72, -73]) ∧ OwI 0 w5 (.slice a' n c') n xs) := ⟨by have z := ((H4.out.1.add 27 1 (.slice a' n c')).add 33 1 (.slice a n c)).below hb; rw [World.size_alloc] at z; exact z, ((H4.out.2.1.below (alloc_b _ _)).below (alloc_b _ _)).below hb, ((H4.out.2.2.below (alloc_b _ _)).below (alloc_b _ _)).below hb⟩; clear hb))
    have HST : Hid (∀ W W5, Below W.heap.size W W5 → ((W.cell? ⟨w4.heap.size + 1, 0, none⟩ = some (.int .i64 1) ∧ W.cell? ⟨w4.heap.size + 1, 1, none⟩ = some (.slice a n c) ∧ W.cell? ⟨w4.heap.size, 0, none⟩ = some (.int .i64 1) ∧ W.cell? ⟨w4.heap.size, 1, none⟩ = some (.slice a' n c') ∧ W.cell? ⟨w1.heap.size, 0, none⟩ = some (.int .i64 e) ∧ W.cell? ⟨w1.heap.size, 1, none⟩ = some (.slice (some ⟨g, 0, none⟩) n cap) ∧ W.cell? ⟨w.heap.size, 0, none⟩ = some (.int .i64 e) ∧ W.cell? ⟨w.heap.size, 1, none⟩ = some (.slice a n c)) ∧ Hid (Kn [(w4.heap.size + 1, 33, 1, .slice a n c), (w4.heap.size, 27, 1, .slice a' n c'), (w1.heap.size, 27, e, .slice (some ⟨g, 0, none⟩) n cap), (w.heap.size, 27, e, .slice a n c)] w W ∧ OwI 0 W (.slice (some ⟨g, 0, none⟩) (n + 3) cap) (n + 3) (xs ++ [-71, -72, -73]) ∧ OwI 0 W (.slice a' n c') n xs)) → ((W5.cell? ⟨w4.heap.size + 1, 0, none⟩ = some (.int .i64 1) ∧ W5.cell? ⟨w4.heap.size + 1, 1, none⟩ = some (.slice a n c) ∧ W5.cell? ⟨w4.heap.size, 0, none⟩ = some (.int .i64 1) ∧ W5.cell? ⟨w4.heap.size, 1, none⟩ = some (.slice a' n c') ∧ W5.cell? ⟨w1.heap.size, 0, none⟩ = some (.int .i64 e) ∧ W5.cell? ⟨w1.heap.size, 1, none⟩ = some (.slice (some ⟨g, 0, none⟩) n cap) ∧ W5.cell? ⟨w.heap.size, 0, none⟩ = some (.int .i64 e) ∧ W5.cell? ⟨w.heap.size, 1, none⟩ = some (.slice a n c)) ∧ Hid (Kn [(w4.heap.size + 1, 33, 1, .slice a n c), (w4.heap.size, 27, 1, .slice a' n c'), (w1.heap.size, 27, e, .slice (some ⟨g, 0, none⟩) n cap), (w.heap.size, 27, e, .slice a n c)] w W5 ∧ OwI 0 W5 (.slice (some ⟨g, 0, none⟩) (n + 3) cap) (n + 3) (xs ++ [-71, -72, -73]) ∧ OwI 0 W5 (.slice a' n c') n xs))) := fun W W5 hb h => by have z := h.2.out; have h := z.1.below hb; exact ⟨⟨h.c0 0 rfl, h.c1 0 rfl, h.c0 1 rfl, h.c1 1 rfl, h.c0 2 rfl, h.c1 2 rfl, h.c0 3 rfl, h.c1 3 rfl⟩, h, z.2.1.below hb, z.2.2.below hb⟩
    have hS0 : (w5.cell? ⟨w4.heap.size + 1, 0, none⟩ = some (.int .i64 1) ∧ w5.cell? ⟨w4.heap.size + 1, 1, none⟩ = some (.slice a n c) ∧ w5.cell? ⟨w4.heap.size, 0, none⟩ = some (.int .i64 1) ∧ w5.cell? ⟨w4.heap.size, 1, none⟩ = some (.slice a' n c') ∧ w5.cell? ⟨w1.heap.size, 0, none⟩ = some (.int .i64 e) ∧ w5.cell? ⟨w1.heap.size, 1, none⟩ = some (.slice (some ⟨g, 0, none⟩) n cap) ∧ w5.cell? ⟨w.heap.size, 0, none⟩ = some (.int .i64 e) ∧ w5.cell? ⟨w.heap.size, 1, none⟩ = some (.slice a n c)) ∧ Hid (Kn [(w4.heap.size + 1, 33, 1, .slice a n c), (w4.heap.size, 27, 1, .slice a' n c'), (w1.heap.size, 27, e, .slice (some ⟨g, 0, none⟩) n cap), (w.heap.size, 27, e, .slice a n c)] w w5 ∧ OwI 0 w5 (.slice (some ⟨g, 0, none⟩) (n + 3) cap) (n + 3) (xs ++ [-71, -72, -73]) ∧ OwI 0 w5 (.slice a' n c') n xs) := by have h := H5.out.1; exact ⟨⟨h.c0 0 rfl, h.c1 0 rfl, h.c0 1 rfl, h.c1 1 rfl, h.c0 2 rfl, h.c1 2 rfl, h.c0 3 rfl, h.c1 3 rfl⟩, h, H5.out.2.1, H5.out.2.2⟩
    have hSd : (w5.drew.cell? ⟨w4.heap.size + 1, 0, none⟩ = some (.int .i64 1) ∧ w5.drew.cell? ⟨w4.heap.size + 1, 1, none⟩ = some (.slice a n c) ∧ w5.drew.cell? ⟨w4.heap.size, 0, none⟩ = some (.int .i64 1) ∧ w5.drew.cell? ⟨w4.heap.size, 1, none⟩ = some (.slice a' n c') ∧ w5.drew.cell? ⟨w1.heap.size, 0, none⟩ = some (.int .i64 e) ∧ w5.drew.cell? ⟨w1.heap.size, 1, none⟩ = some (.slice (some ⟨g, 0, none⟩) n cap) ∧ w5.drew.cell? ⟨w.heap.size, 0, none⟩ = some (.int .i64 e) ∧ w5.drew.cell? ⟨w.heap.size, 1, none⟩ = some (.slice a n c)) ∧ Hid (Kn [(w4.heap.size + 1, 33, 1, .slice a n c), (w4.heap.size, 27, 1, .slice a' n c'), (w1.heap.size, 27, e, .slice (some ⟨g, 0, none⟩) n cap), (w.heap.size, 27, e, .slice a n c)] w w5.drew ∧ OwI 0 w5.drew (.slice (some ⟨g, 0, none⟩) (n + 3) cap) (n + 3) (xs ++ [-71, -72, -73]) ∧ OwI 0 w5.drew (.slice a' n c') n xs) := by have h := H5.out.1.drew; exact ⟨⟨h.c0 0 rfl, h.c1 0 rfl, h.c0 1 rfl, h.c1 1 rfl, h.c0 2 rfl, h.c1 2 rfl, h.c0 3 rfl, h.c1 3 rfl⟩, h, H5.out.2.1, H5.out.2.2⟩
    go_region_held3 (fun W => (W.cell? ⟨w4.heap.size + 1, 0, none⟩ = some (.int .i64 1) ∧ W.cell? ⟨w4.heap.size + 1, 1, none⟩ = some (.slice a n c) ∧ W.cell? ⟨w4.heap.size, 0, none⟩ = some (.int .i64 1) ∧ W.cell? ⟨w4.heap.size, 1, none⟩ = some (.slice a' n c') ∧ W.cell? ⟨w1.heap.size, 0, none⟩ = some (.int .i64 e) ∧ W.cell? ⟨w1.heap.size, 1, none⟩ = some (.slice (some ⟨g, 0, none⟩) n cap) ∧ W.cell? ⟨w.heap.size, 0, none⟩ = some (.int .i64 e) ∧ W.cell? ⟨w.heap.size, 1, none⟩ = some (.slice a n c)) ∧ Hid (Kn [(w4.heap.size + 1, 33, 1, .slice a n c), (w4.heap.size, 27, 1, .slice a' n c'), (w1.heap.size, 27, e, .slice (some ⟨g, 0, none⟩) n cap), (w.heap.size, 27, e, .slice a n c)] w W ∧ OwI 0 W (.slice (some ⟨g, 0, none⟩) (n + 3) cap) (n + 3) (xs ++ [-71, -72, -73]) ∧ OwI 0 W (.slice a' n c') n xs)) (assumption) (first
      | (go_at_call 9; refine (Calls.mono (HNU.out _ _) ?_); rintro r wq ⟨rfl, hq⟩; obtain rfl := hq.symm; clear hq)
      | (go_at_call 15; refine (Calls.mono (HPL.out _) ?_); rintro r w6 ⟨rfl, hb6⟩; have hS6 := HST.out _ w6 hb6 (by assumption))
      | (go_at_call 14; refine (Calls.mono (HQ.out _ _ hS6.2.out.1.2) ?_); rintro r w7 ⟨rfl, hb7⟩; have hS7 := HST.out _ w7 hb7 (by assumption))
      | (go_at_call 16; refine (Calls.mono (HSM.out _ _ _ _ _ _ _ _ _ xs (hS7.2.out.2.2.segW).1 (HS.out.1.below hS7.2.out.1.2) HNN.out HNN.out rfl) ?_); rintro r w8 ⟨rfl, hb8⟩; have hS8 := HST.out _ w8 hb8 (by assumption))
      | (go_at_call 17; refine (Calls.mono (HKP.out _ _ _ hS8.2.out.2.1 H1.out.2.2 hS8.2.out.1.2) ?_); rintro r w9 ⟨rfl, hb9⟩; have hS9 := HST.out _ w9 hb9 (by assumption)))
    go_wp2
    go_ret
    exact ⟨rfl, hS9.2.out.1.2⟩
  · have HF : Hid (∀ W g cap, Seg .i64 W (some ⟨g, 0, none⟩) n xs → Calls Try.prog 13 #[.slice (some ⟨g, 0, none⟩) n cap] W fun r w' => r = .returned (.tuple #[.agg #[.int .i64 0, .slice none 0 0], .int .i64 (chk 1 xs)]) ∧ Below W.heap.size W w') := fun W g cap h => first_no _ n cap xs W h hk
    have hck : (chk 1 xs != 0) = true := by simpa using hk
    clear hs hlc hcr hnz hk hn hBs
    go_enter Try.func4, Try.ntmps4
    go_wp2_with (first
      | (go_at_call 11; go_must (refine (Calls.mono HT.out ?_)); rintro r w1 ⟨g, cap, rfl, ho, hcap, hb⟩; have H1 : Hid (Kn [(w.heap.size, 27, e, .slice a n c)] w w1 ∧ OwI 0 w1 (.slice (some ⟨g, 0, none⟩) (n + 3) cap) (n + 3) (xs ++ [-71, -72, -73]) ∧ n + 3 ≤ cap) := ⟨HB.out.below hb, ho.base (Nat.zero_le _), hcap⟩; clear ho hcap hb)
      | (go_at_call 12; go_must (refine (Calls.mono (HC.out _ _ _ ((H1.out.2.1.marks HS.out.2).1.below (alloc_b _ _))) ?_)); rintro r w3 ⟨rfl, hb⟩; have H2 : Hid (Kn [(w1.heap.size, 27, e, .slice (some ⟨g, 0, none⟩) n cap), (w.heap.size, 27, e, .slice a n c)] w w3 ∧ OwI 0 w3 (.slice (some ⟨g, 0, none⟩) (n + 3) cap) (n + 3) (xs ++ [-71, -72, -73])) := ⟨(H1.out.1.add 27 e (.slice (some ⟨g, 0, none⟩) n cap)).below hb, (H1.out.2.1.below (alloc_b _ _)).below hb⟩; have q1 := H2.out.1.c1 0 rfl; have q2 := H2.out.1.c1 1 rfl; clear hb)
      | (go_at_call 13; go_must (refine (Calls.mono (HF.out _ _ _ (H2.out.2.marks HS.out.2).1) ?_)); rintro r w4 ⟨rfl, hb⟩; have H4 : Hid (Kn [(w1.heap.size, 27, e, .slice (some ⟨g, 0, none⟩) n cap), (w.heap.size, 27, e, .slice a n c)] w w4 ∧ OwI 0 w4 (.slice (some ⟨g, 0, none⟩) (n + 3) cap) (n + 3) (xs ++ [-71, -72, -73])) := ⟨H2.out.1.below hb, H2.out.2.below hb⟩; have q3 := (H4.out.1.add 27 0 (.slice none 0 0)).c1 2 rfl; clear hb)
      | (go_at_call 14; go_must (refine (Calls.mono (HQ.out 1 _ ((H4.out.1.add 27 0 (.slice none 0 0)).add 33 1 (.slice a n c)).2) ?_)); rintro r w5 ⟨rfl, hb⟩; have H5 : Hid (Kn [(w4.heap.size + 1, 33, 1, .slice a n c), (w4.heap.size, 27, 0, .slice none 0 0), (w1.heap.size, 27, e, .slice (some ⟨g, 0, none⟩) n cap), (w.heap.size, 27, e, .slice a n c)] w w5 ∧ OwI 0 w5 (.slice (some ⟨g, 0, none⟩) (n + 3) cap) (n + 3) (xs ++ [-71, -72, -73])) := ⟨by have z := ((H4.out.1.add 27 0 (.slice none 0 0)).add 33 1 (.slice a n c)).below hb; rw [World.size_alloc] at z; exact z, ((H4.out.2.below (alloc_b _ _)).below (alloc_b _ _)).below hb⟩; have k0 := H5.out.1.c0 0 rfl; have k1 := H5.out.1.c1 0 rfl; have f0 := (H5.out.1.get 0 rfl).fz 0; have f1 := (H5.out.1.get 0 rfl).fz 1; clear hb))
    have H6 : Hid (Kn [(w4.heap.size + 1, 33, 0, .slice none 0 0), (w4.heap.size, 27, 0, .slice none 0 0), (w1.heap.size, 27, e, .slice (some ⟨g, 0, none⟩) n cap), (w.heap.size, 27, e, .slice a n c)] w ((w5.setCell ⟨w4.heap.size + 1, 0, none⟩ (.int .i64 0)).setCell ⟨w4.heap.size + 1, 1, none⟩ (.slice none 0 0)) ∧ OwI 0 ((w5.setCell ⟨w4.heap.size + 1, 0, none⟩ (.int .i64 0)).setCell ⟨w4.heap.size + 1, 1, none⟩ (.slice none 0 0)) (.slice (some ⟨g, 0, none⟩) (n + 3) cap) (n + 3) (xs ++ [-71, -72, -73])) := by
      have l1 := H4.out.1.lt 0 rfl
      have l2 := H4.out.1.lt 1 rfl
      refine ⟨H5.out.1.put (Nat.le_succ_of_le (Nat.le_of_lt l2)) (fun x hx => ?_) 0 (.slice none 0 0), ?_⟩
      · simp at hx; rcases hx with rfl | rfl | rfl <;> simp <;> omega
      · have l3 := H4.out.2.lo g rfl
        refine ((H5.out.2.grown (grown_setO _ _ _ _) ?_).grown (grown_setO _ _ _ _) ?_) <;> (intro q hq z; have e1 : g = q := Option.some.inj hq; have e2 : w4.heap.size + 1 = q := Option.some.inj z; omega)
    generalize hW6 : World.setCell (World.setCell w5 _ _) _ _ = w6 at H6 ⊢
    clear hW6
    have HST : Hid (∀ W W5, Below W.heap.size W W5 → ((W.cell? ⟨w4.heap.size + 1, 0, none⟩ = some (.int .i64 0) ∧ W.cell? ⟨w4.heap.size + 1, 1, none⟩ = some (.slice none 0 0) ∧ W.cell? ⟨w4.heap.size, 0, none⟩ = some (.int .i64 0) ∧ W.cell? ⟨w4.heap.size, 1, none⟩ = some (.slice none 0 0) ∧ W.cell? ⟨w1.heap.size, 0, none⟩ = some (.int .i64 e) ∧ W.cell? ⟨w1.heap.size, 1, none⟩ = some (.slice (some ⟨g, 0, none⟩) n cap) ∧ W.cell? ⟨w.heap.size, 0, none⟩ = some (.int .i64 e) ∧ W.cell? ⟨w.heap.size, 1, none⟩ = some (.slice a n c)) ∧ Hid (Kn [(w4.heap.size + 1, 33, 0, .slice none 0 0), (w4.heap.size, 27, 0, .slice none 0 0), (w1.heap.size, 27, e, .slice (some ⟨g, 0, none⟩) n cap), (w.heap.size, 27, e, .slice a n c)] w W ∧ OwI 0 W (.slice (some ⟨g, 0, none⟩) (n + 3) cap) (n + 3) (xs ++ [-71, -72, -73]))) → ((W5.cell? ⟨w4.heap.size + 1, 0, none⟩ = some (.int .i64 0) ∧ W5.cell? ⟨w4.heap.size + 1, 1, none⟩ = some (.slice none 0 0) ∧ W5.cell? ⟨w4.heap.size, 0, none⟩ = some (.int .i64 0) ∧ W5.cell? ⟨w4.heap.size, 1, none⟩ = some (.slice none 0 0) ∧ W5.cell? ⟨w1.heap.size, 0, none⟩ = some (.int .i64 e) ∧ W5.cell? ⟨w1.heap.size, 1, none⟩ = some (.slice (some ⟨g, 0, none⟩) n cap) ∧ W5.cell? ⟨w.heap.size, 0, none⟩ = some (.int .i64 e) ∧ W5.cell? ⟨w.heap.size, 1, none⟩ = some (.slice a n c)) ∧ Hid (Kn [(w4.heap.size + 1, 33, 0, .slice none 0 0), (w4.heap.size, 27, 0, .slice none 0 0), (w1.heap.size, 27, e, .slice (some ⟨g, 0, none⟩) n cap), (w.heap.size, 27, e, .slice a n c)] w W5 ∧ OwI 0 W5 (.slice (some ⟨g, 0, none⟩) (n + 3) cap) (n + 3) (xs ++ [-71, -72, -73])))) := fun W W5 hb h => by have z := h.2.out; have h := z.1.below hb; exact ⟨⟨h.c0 0 rfl, h.c1 0 rfl, h.c0 1 rfl, h.c1 1 rfl, h.c0 2 rfl, h.c1 2 rfl, h.c0 3 rfl, h.c1 3 rfl⟩, h, z.2.below hb⟩
    have hS0 : (w6.cell? ⟨w4.heap.size + 1, 0, none⟩ = some (.int .i64 0) ∧ w6.cell? ⟨w4.heap.size + 1, 1, none⟩ = some (.slice none 0 0) ∧ w6.cell? ⟨w4.heap.size, 0, none⟩ = some (.int .i64 0) ∧ w6.cell? ⟨w4.heap.size, 1, none⟩ = some (.slice none 0 0) ∧ w6.cell? ⟨w1.heap.size, 0, none⟩ = some (.int .i64 e) ∧ w6.cell? ⟨w1.heap.size, 1, none⟩ = some (.slice (some ⟨g, 0, none⟩) n cap) ∧ w6.cell? ⟨w.heap.size, 0, none⟩ = some (.int .i64 e) ∧ w6.cell? ⟨w.heap.size, 1, none⟩ = some (.slice a n c)) ∧ Hid (Kn [(w4.heap.size + 1, 33, 0, .slice none 0 0), (w4.heap.size, 27, 0, .slice none 0 0), (w1.heap.size, 27, e, .slice (some ⟨g, 0, none⟩) n cap), (w.heap.size, 27, e, .slice a n c)] w w6 ∧ OwI 0 w6 (.slice (some ⟨g, 0, none⟩) (n + 3) cap) (n + 3) (xs ++ [-71, -72, -73])) := by have h := H6.out.1; exact ⟨⟨h.c0 0 rfl, h.c1 0 rfl, h.c0 1 rfl, h.c1 1 rfl, h.c0 2 rfl, h.c1 2 rfl, h.c0 3 rfl, h.c1 3 rfl⟩, h, H6.out.2⟩
    have hSd : (w6.drew.cell? ⟨w4.heap.size + 1, 0, none⟩ = some (.int .i64 0) ∧ w6.drew.cell? ⟨w4.heap.size + 1, 1, none⟩ = some (.slice none 0 0) ∧ w6.drew.cell? ⟨w4.heap.size, 0, none⟩ = some (.int .i64 0) ∧ w6.drew.cell? ⟨w4.heap.size, 1, none⟩ = some (.slice none 0 0) ∧ w6.drew.cell? ⟨w1.heap.size, 0, none⟩ = some (.int .i64 e) ∧ w6.drew.cell? ⟨w1.heap.size, 1, none⟩ = some (.slice (some ⟨g, 0, none⟩) n cap) ∧ w6.drew.cell? ⟨w.heap.size, 0, none⟩ = some (.int .i64 e) ∧ w6.drew.cell? ⟨w.heap.size, 1, none⟩ = some (.slice a n c)) ∧ Hid (Kn [(w4.heap.size + 1, 33, 0, .slice none 0 0), (w4.heap.size, 27, 0, .slice none 0 0), (w1.heap.size, 27, e, .slice (some ⟨g, 0, none⟩) n cap), (w.heap.size, 27, e, .slice a n c)] w w6.drew ∧ OwI 0 w6.drew (.slice (some ⟨g, 0, none⟩) (n + 3) cap) (n + 3) (xs ++ [-71, -72, -73])) := by have h := H6.out.1.drew; exact ⟨⟨h.c0 0 rfl, h.c1 0 rfl, h.c0 1 rfl, h.c1 1 rfl, h.c0 2 rfl, h.c1 2 rfl, h.c0 3 rfl, h.c1 3 rfl⟩, h, H6.out.2⟩
    go_region_held3 (fun W => (W.cell? ⟨w4.heap.size + 1, 0, none⟩ = some (.int .i64 0) ∧ W.cell? ⟨w4.heap.size + 1, 1, none⟩ = some (.slice none 0 0) ∧ W.cell? ⟨w4.heap.size, 0, none⟩ = some (.int .i64 0) ∧ W.cell? ⟨w4.heap.size, 1, none⟩ = some (.slice none 0 0) ∧ W.cell? ⟨w1.heap.size, 0, none⟩ = some (.int .i64 e) ∧ W.cell? ⟨w1.heap.size, 1, none⟩ = some (.slice (some ⟨g, 0, none⟩) n cap) ∧ W.cell? ⟨w.heap.size, 0, none⟩ = some (.int .i64 e) ∧ W.cell? ⟨w.heap.size, 1, none⟩ = some (.slice a n c)) ∧ Hid (Kn [(w4.heap.size + 1, 33, 0, .slice none 0 0), (w4.heap.size, 27, 0, .slice none 0 0), (w1.heap.size, 27, e, .slice (some ⟨g, 0, none⟩) n cap), (w.heap.size, 27, e, .slice a n c)] w W ∧ OwI 0 W (.slice (some ⟨g, 0, none⟩) (n + 3) cap) (n + 3) (xs ++ [-71, -72, -73]))) (assumption) (first
      | (go_at_call 9; refine (Calls.mono (HNU.out _ _) ?_); rintro r wq ⟨rfl, hq⟩; obtain rfl := hq.symm; clear hq)
      | (go_at_call 15; refine (Calls.mono (HPL.out _) ?_); rintro r w6' ⟨rfl, hb6⟩; have hS6 := HST.out _ w6' hb6 (by assumption))
      | (go_at_call 14; refine (Calls.mono (HQ.out _ _ hS6.2.out.1.2) ?_); rintro r w7 ⟨rfl, hb7⟩; have hS7 := HST.out _ w7 hb7 (by assumption))
      | (go_at_call 16; refine (Calls.mono (HSM.out _ _ _ _ _ _ _ _ _ [] ⟨rfl, .inl rfl⟩ ⟨rfl, .inl rfl⟩ (Nat.zero_le _) (Nat.zero_le _) rfl) ?_); rintro r w8 ⟨rfl, hb8⟩; have hS8 := HST.out _ w8 hb8 (by assumption))
      | (go_at_call 17; refine (Calls.mono (HKP.out _ _ _ hS8.2.out.2 H1.out.2.2 hS8.2.out.1.2) ?_); rintro r w9 ⟨rfl, hb9⟩; have hS9 := HST.out _ w9 hb9 (by assumption)))
    go_wp2
    go_ret
    exact ⟨rfl, hS9.2.out.1.2⟩

set_option maxRecDepth 100000 in
theorem lifted (os : Os) (started : os.Started) (H : Type) (enc : TypeId × Value → H) :
    ReturnsInHanded {} Try.checked os 4 .any (Rows.configChecksSpec.pre6 enc Try.prog Try.f4 Rows.configChecksRow.domain false) (Rows.configChecksSpec.post enc Try.prog Try.f4 false true false false) := by
  refine returnsInHanded_of_change_sized (C := Try.checked) own started (by kernel_rfl) Try.func4
    (ChangeSpec.witness6 (enc := enc) (C := Try.checked) false ⟨#[], #[.agg #[.int .i64 0, .slice none 0 0]], []⟩ 8 (by kernel_rfl) (by kernel_rfl) (by kernel_rfl) (by kernel_rfl)) ?_
  intro W base args ds gs before hval0 hW hcnd hsz0 _
  have hsz : (DataW.weightsEach Try.prog (Try.f4.params.toList ++ Rows.configChecksSpec.plain.varTypes Try.prog) (ds ++ gs)).all (· ≤ reachBytes) = true := hsz0
  have hval : ∀ (j : Nat) t v, Try.f4.params[j]? = some t → args[j]? = some v → Value.okWide Try.prog W .any base t v := hval0
  have hW' := hW
  obtain ⟨p, q, hA0, hV, rfl, hfz, hnd⟩ := hW
  have hA : DataW.TrodAll enc Try.prog W 0 (fun _ => true) true Try.f4.params.toList args.toList ds p := hA0
  rw [Try.params4] at hA hval hsz
  obtain ⟨v0, vs0, d0, ds0, p0, q0, hargs, rfl, rfl, h0, r0⟩ := trodAll_cons hA
  obtain ⟨rfl, rfl, rfl⟩ := trodAll_nil r0
  obtain rfl : args = #[v0] := by cases args; simp_all
  obtain ⟨rfl, rfl⟩ := trodVars_none hV
  have k0 := h0
  have lt0 : ∀ x ∈ p0, x.block < W.heap.size := by obtain ⟨m, hm⟩ := k0; exact DataW.trod_lt m _ _ _ hm
  obtain ⟨c00, c10, y00, y10, m0, rfl, hd0, hp0, hy00, hy10⟩ := Go.Joins.open_agg2 Try.underlying27 (by kernel_rfl) (by kernel_rfl) (hval 0 27 v0 rfl rfl) h0
  obtain ⟨T0, eT0, _, wT0⟩ := DataW.trod_int Try.underlying3 hy00
  simp at eT0
  subst eT0
  obtain ⟨a0, len0, cap0, z0, rfl, x0⟩ : ∃ a len cap zs, c10 = .slice a len cap ∧ IsRow .i64 17592186043904 W a len cap zs := by
    rcases open_ints Try.underlying25 Try.underlying3 (by kernel_rfl) hy10 with ⟨hcs, _⟩ | ⟨x, l, c, zs, hcs, _, hl, hm, hz, hx, hcell, hwz⟩
    · simp at hcs
      exact ⟨none, 0, 0, [], hcs, .inl ⟨rfl, rfl, rfl, rfl⟩⟩
    · simp at hcs
      have hz' : zs.length = c := by simpa using hz
      have hd1 : y10.1 = _ := congrArg Prod.fst hx
      have hb := List.all_eq_true.1 hsz _ (DataW.weights_mem_each (j := 0) (t := 27) (ts := Try.f4.params.toList ++ Rows.configChecksSpec.plain.varTypes Try.prog) rfl rfl (((lits (H := H) .i64 (zs.take l)).length + (lits (H := H) .i64 (zs.drop l)).length) * 8) (by rw [hd0, hd1]; simp [DataW.weights, DataW.weightsEach, Try.underlying27, Try.underlying25, show Try.prog.bytesOf 3 = 8 from by kernel_rfl]))
      simp only [lits, List.length_map, List.length_take, List.length_drop, reachBytes, decide_eq_true_eq] at hb
      exact ⟨some x, l, c, zs, hcs, .inr ⟨_, rfl, hl, by omega, hz', hcell, hwz⟩⟩
  clear hA0 hval0
  refine (walk T0 a0 len0 cap0 z0 W wT0 x0).mono fun e W' ⟨he, bel⟩ => ?_
  subst he
  exact ⟨_, rfl, _, _, _, [], _, [], hW', trodAll_mk1 (shut_bool Try.underlying4 _), (trodAll_cons_mk (Below.trod laidOut (by kernel_rfl) (of_decide_eq_true (by kernel_rfl)) k0 bel lt0) trodAll_mk0), rfl, bel.frame _, fun h => by cases h⟩

theorem over : Rows.configChecksRow.holds Try.pinned (OpenSpec.ofChange Rows.configChecksSpec) :=
  OpenClaim.holds_of_wide 4 Try.f4 rfl rfl rfl rfl rfl rfl rfl ⟨rfl, rfl, rfl, rfl, rfl⟩ rfl rfl rfl rfl rfl (by kernel_rfl) Try.func4 (by kernel_rfl)
    (of_decide_eq_true (by kernel_rfl)) (by unfold Func.isWrapper; first | (rw [if_pos (by decide +kernel)]; kernel_rfl) | (rw [if_neg (by decide +kernel)]; exact ⟨rfl, rfl⟩))
    (fun os started H enc _ => lifted os started H enc)

end Go.Proofs.Ytekefbbjocekiaa.configChecks
namespace Go.Proofs.Ytekefbbjocekiaa
theorem configChecks_holds : Rows.ConfigChecksSaid := configChecks.over
#print axioms configChecks_holds
end Go.Proofs.Ytekefbbjocekiaa
