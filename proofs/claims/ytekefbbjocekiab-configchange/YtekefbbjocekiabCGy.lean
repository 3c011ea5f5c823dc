/-
  What config's and the document's Follows answer. Conditions: the chains can be read, and have at most 2^43 nodes.
-/
import Derived.Test.YtekefbbjocekiabCGx
namespace Go.Proofs.Ytekefbbjocekiab
open Go.RowKit Go.ChangeShapes Go.WideShapes
set_option linter.unusedVariables false

theorem woX_len (e : Int) (xs : List Int) (x : Int) : (woX e xs x).length ≤ xs.length + 1 := by
  unfold woX; split
  · simp; omega
  · simp
theorem wiX_len (e : Int) (xs : List Int) (x : Int) : (wiX e xs x).length ≤ xs.length + 1 := by
  unfold wiX; split <;> simp
/-- Is it what comes without this node, or with it? -/
def stepF (e f : Int) (xs ys : List Int) (x : Int) : Bool := (woE e xs x == 0 && sam (woP e xs x) f (woX e xs x) ys) || (wiE e xs x == 0 && sam (wiP e xs x) f (wiX e xs x) ys)
/-- Follows. -/
def fol (e f : Int) (xs ys : List Int) : Bool := (List.range 8).any fun k => stepF e f xs ys ((k : Int) + 1)
theorem fol_yes {e f : Int} {xs ys : List Int} {k : Nat} (hk : k < 8) (h : stepF e f xs ys ((k : Int) + 1) = true) : fol e f xs ys = true := List.any_eq_true.2 ⟨k, List.mem_range.2 hk, h⟩
theorem fol_no {e f : Int} {xs ys : List Int} (h : ∀ k : Nat, k < 8 → stepF e f xs ys ((k : Int) + 1) = false) : fol e f xs ys = false := by
  unfold fol
  rw [List.any_eq_false]
  intro k hk
  rw [h k (List.mem_range.1 hk)]
  decide
theorem Cf2.al {T U V : TypeId} {w W : World} {N : Nat} {e f : Int} {u v : Value} (h : Cf2 T U w W N e f u v) (cs : Array Value) : Cf2 T U w (W.alloc (.cells cs V)) N e f u v := h.below (alloc_b _ _)
set_option maxRecDepth 20000 in
set_option maxHeartbeats 8000000 in
theorem follows_c (e f : Int) (a b : Option Addr) (n c m d : Nat) (xs ys : List Int) (w : World) (h1 : Seg .i64 w a n xs) (h2 : Seg .i64 w b m ys) (hnz : a = none → c = 0) (hnc : n ≤ c) (hn : n ≤ 17592186044000) (hm : m ≤ 17592186044000) :
    Calls Try.prog 24 #[.agg #[.int .i64 e, .slice a n c], .agg #[.int .i64 f, .slice b m d]] w fun r w' => r = .returned (.bool (fol e f xs ys)) ∧ Below w.heap.size w w' := by
  have h0 := cf2_new 25 25 w e f (.slice a n c) (.slice b m d)
  have H0 : Hid (Cf2 25 25 w ((w.alloc (.cells #[.int .i64 e, .slice a n c] 25)).alloc (.cells #[.int .i64 f, .slice b m d] 25)) w.heap.size e f (.slice a n c) (.slice b m d)) := h0
  have HWO : Hid (∀ x W, Below w.heap.size w W → Calls Try.prog 22 #[.agg #[.int .i64 e, .slice a n c], .int .i64 x] W (StA W (woP e xs x) (woE e xs x) (woX e xs x))) := fun x W hb => without_c e a n c xs x W (h1.below hb) hnz hnc
  have HWI : Hid (∀ x W, Below w.heap.size w W → Calls Try.prog 23 #[.agg #[.int .i64 e, .slice a n c], .int .i64 x] W (StA W (wiP e xs x) (wiE e xs x) (wiX e xs x))) := fun x W hb => with_c e a n c xs x W (h1.below hb) hnz hnc
  have hlx := h1.1
  have HAL : Hid (∀ W p a' c' zs, Below w.heap.size w W → zs.length ≤ xs.length + 1 → OwI 0 W (.slice a' zs.length c') zs.length zs → Calls Try.prog 26 #[.agg #[.int .i64 p, .slice a' zs.length c'], .agg #[.int .i64 f, .slice b m d]] W fun r w' => r = .returned (.bool (sam p f zs ys)) ∧ Below W.heap.size W w') := fun W p a' c' zs hb hz ho => alike_c p f a' b zs.length c' m d zs ys W ho.segW.1 (h2.below hb) (by omega)
  clear h1 h2 hnz hnc hn hm h0 hlx
  go_enter Try.func24, Try.ntmps24
  go_wp2
  generalize hW : World.alloc (World.alloc w _) _ = W1 at H0 ⊢
  clear hW
  go_loopw [5] (fun i wr => ∃ k : Nat, k ≤ 8 ∧ i = .int .i64 ((k : Int) + 1) ∧ Hid ((∀ j : Nat, j < k → stepF e f xs ys ((j : Int) + 1) = false) ∧ Cf2 25 25 w wr w.heap.size e f (.slice a n c) (.slice b m d))) (fun i _ => 9 - (intOf i).toNat)
  case atStart => exact ⟨0, Nat.zero_le _, rfl, ⟨fun j hj => absurd hj (Nat.not_lt_zero j), H0.out⟩⟩
  case round =>
    obtain ⟨k, hk, rfl, hr⟩ := hrel
    have c0 := hr.out.2.l.c0
    have c1 := hr.out.2.l.c1
    by_cases hlt : k < 8
    · have hd : decide ((k : Int) + 1 ≤ (8 : Int)) = true := decide_eq_true (by omega)
      have hw3 : wrap64 ((k : Int) + 1 + 1) = (k : Int) + 1 + 1 := IntWalk.wrap64_in _ ⟨by omega, by omega⟩
      have hw4 : IntKind.i64.wrap ((k : Int) + 1 + 1) = (k : Int) + 1 + 1 := IntWalk.i64_in _ ⟨by omega, by omega⟩
      have HSF : Hid (∀ A B C D : Bool, (woE e xs ((k : Int) + 1) == 0) = A → sam (woP e xs ((k : Int) + 1)) f (woX e xs ((k : Int) + 1)) ys = B → (wiE e xs ((k : Int) + 1) == 0) = C → sam (wiP e xs ((k : Int) + 1)) f (wiX e xs ((k : Int) + 1)) ys = D → stepF e f xs ys ((k : Int) + 1) = ((A && B) || (C && D))) := fun A B C D p q r s => by unfold stepF; rw [p, q, r, s]
      have HLW : Hid ((woX e xs ((k : Int) + 1)).length ≤ xs.length + 1 ∧ (wiX e xs ((k : Int) + 1)).length ≤ xs.length + 1) := ⟨woX_len _ _ _, wiX_len _ _ _⟩
      cases hA : (woE e xs ((k : Int) + 1) == 0) with
      | true =>
        cases hB : sam (woP e xs ((k : Int) + 1)) f (woX e xs ((k : Int) + 1)) ys with
        | true =>
          have HR : Hid (fol e f xs ys = true) := fol_yes hlt ((HSF.out true true _ _ hA hB rfl rfl).trans rfl)
          go_wp2_with (first
            | (go_at_call 22; go_must (refine (Calls.mono (HWO.out _ _ hr.out.2.b) ?_)); rintro r w2 ⟨a2, c2, rfl, ho, hb⟩; have H2 : Hid (Cf2 25 25 w w2 w.heap.size e f (.slice a n c) (.slice b m d) ∧ OwI 0 w2 (.slice a2 (woX e xs ((k : Int) + 1)).length c2) (woX e xs ((k : Int) + 1)).length (woX e xs ((k : Int) + 1))) := ⟨hr.out.2.below hb, ho.base (Nat.zero_le _)⟩; have p0 := (Cf2.al (V := 25) H2.out.1 #[.int .i64 (woP e xs ((k : Int) + 1)), .slice a2 (woX e xs ((k : Int) + 1)).length c2]).l.c0; have p1 := (Cf2.al (V := 25) H2.out.1 #[.int .i64 (woP e xs ((k : Int) + 1)), .slice a2 (woX e xs ((k : Int) + 1)).length c2]).l.c1; have p2 := (Cf2.al (V := 25) H2.out.1 #[.int .i64 (woP e xs ((k : Int) + 1)), .slice a2 (woX e xs ((k : Int) + 1)).length c2]).r.c0; have p3 := (Cf2.al (V := 25) H2.out.1 #[.int .i64 (woP e xs ((k : Int) + 1)), .slice a2 (woX e xs ((k : Int) + 1)).length c2]).r.c1; clear ho hb)
            | ((fail_if_success (have z := H4)); go_at_call 26; go_must (refine (Calls.mono (HAL.out _ _ _ _ (woX e xs ((k : Int) + 1)) (H2.out.1.below (alloc_b _ _)).b HLW.out.1 (H2.out.2.below (alloc_b _ _))) ?_)); rintro r w3 ⟨rfl, hb⟩; have H3 : Hid (Cf2 25 25 w w3 w.heap.size e f (.slice a n c) (.slice b m d)) := (H2.out.1.below (alloc_b _ _)).below hb; have q0 := H3.out.l.c0; have q1 := H3.out.l.c1; have q2 := H3.out.r.c0; have q3 := H3.out.r.c1; clear hb))
          go_ret
          exact ⟨by rw [HR.out]; rfl, H3.out.b⟩
        | false =>
          cases hC : (wiE e xs ((k : Int) + 1) == 0) with
          | false =>
            have HR : Hid (stepF e f xs ys ((k : Int) + 1) = false) := HSF.out true false false _ hA hB hC rfl
            go_wp2_with (first
              | (go_at_call 22; go_must (refine (Calls.mono (HWO.out _ _ hr.out.2.b) ?_)); rintro r w2 ⟨a2, c2, rfl, ho, hb⟩; have H2 : Hid (Cf2 25 25 w w2 w.heap.size e f (.slice a n c) (.slice b m d) ∧ OwI 0 w2 (.slice a2 (woX e xs ((k : Int) + 1)).length c2) (woX e xs ((k : Int) + 1)).length (woX e xs ((k : Int) + 1))) := ⟨hr.out.2.below hb, ho.base (Nat.zero_le _)⟩; have p0 := (Cf2.al (V := 25) H2.out.1 #[.int .i64 (woP e xs ((k : Int) + 1)), .slice a2 (woX e xs ((k : Int) + 1)).length c2]).l.c0; have p1 := (Cf2.al (V := 25) H2.out.1 #[.int .i64 (woP e xs ((k : Int) + 1)), .slice a2 (woX e xs ((k : Int) + 1)).length c2]).l.c1; have p2 := (Cf2.al (V := 25) H2.out.1 #[.int .i64 (woP e xs ((k : Int) + 1)), .slice a2 (woX e xs ((k : Int) + 1)).length c2]).r.c0; have p3 := (Cf2.al (V := 25) H2.out.1 #[.int .i64 (woP e xs ((k : Int) + 1)), .slice a2 (woX e xs ((k : Int) + 1)).length c2]).r.c1; clear ho hb)
              | ((fail_if_success (have z := H4)); go_at_call 26; go_must (refine (Calls.mono (HAL.out _ _ _ _ (woX e xs ((k : Int) + 1)) (H2.out.1.below (alloc_b _ _)).b HLW.out.1 (H2.out.2.below (alloc_b _ _))) ?_)); rintro r w3 ⟨rfl, hb⟩; have H3 : Hid (Cf2 25 25 w w3 w.heap.size e f (.slice a n c) (.slice b m d)) := (H2.out.1.below (alloc_b _ _)).below hb; have q0 := H3.out.l.c0; have q1 := H3.out.l.c1; have q2 := H3.out.r.c0; have q3 := H3.out.r.c1; clear hb)
              | (go_at_call 23; go_must (refine (Calls.mono (HWI.out _ _ H3.out.b) ?_)); rintro r w4 ⟨a4, c4, rfl, ho, hb⟩; have H4 : Hid (Cf2 25 25 w w4 w.heap.size e f (.slice a n c) (.slice b m d) ∧ OwI 0 w4 (.slice a4 (wiX e xs ((k : Int) + 1)).length c4) (wiX e xs ((k : Int) + 1)).length (wiX e xs ((k : Int) + 1))) := ⟨H3.out.below hb, ho.base (Nat.zero_le _)⟩; have r0 := (Cf2.al (V := 25) H4.out.1 #[.int .i64 (wiP e xs ((k : Int) + 1)), .slice a4 (wiX e xs ((k : Int) + 1)).length c4]).l.c0; have r1 := (Cf2.al (V := 25) H4.out.1 #[.int .i64 (wiP e xs ((k : Int) + 1)), .slice a4 (wiX e xs ((k : Int) + 1)).length c4]).l.c1; have r2 := (Cf2.al (V := 25) H4.out.1 #[.int .i64 (wiP e xs ((k : Int) + 1)), .slice a4 (wiX e xs ((k : Int) + 1)).length c4]).r.c0; have r3 := (Cf2.al (V := 25) H4.out.1 #[.int .i64 (wiP e xs ((k : Int) + 1)), .slice a4 (wiX e xs ((k : Int) + 1)).length c4]).r.c1; clear ho hb))
            go_roundw
            case rel => exact ⟨k + 1, by omega, by rw [show (((k + 1 : Nat) : Int) + 1) = (k : Int) + 1 + 1 by omega], fun j hj => (by by_cases hjk : j = k; exact hjk ▸ HR.out; exact hr.out.1 j (by omega)), H4.out.1.below (alloc_b _ _)⟩
            case measure => simp [intOf]; omega
          | true =>
            cases hD : sam (wiP e xs ((k : Int) + 1)) f (wiX e xs ((k : Int) + 1)) ys with
            | false =>
              have HR : Hid (stepF e f xs ys ((k : Int) + 1) = false) := HSF.out true false true false hA hB hC hD
              go_wp2_with (first
                | (go_at_call 22; go_must (refine (Calls.mono (HWO.out _ _ hr.out.2.b) ?_)); rintro r w2 ⟨a2, c2, rfl, ho, hb⟩; have H2 : Hid (Cf2 25 25 w w2 w.heap.size e f (.slice a n c) (.slice b m d) ∧ OwI 0 w2 (.slice a2 (woX e xs ((k : Int) + 1)).length c2) (woX e xs ((k : Int) + 1)).length (woX e xs ((k : Int) + 1))) := ⟨hr.out.2.below hb, ho.base (Nat.zero_le _)⟩; have p0 := (Cf2.al (V := 25) H2.out.1 #[.int .i64 (woP e xs ((k : Int) + 1)), .slice a2 (woX e xs ((k : Int) + 1)).length c2]).l.c0; have p1 := (Cf2.al (V := 25) H2.out.1 #[.int .i64 (woP e xs ((k : Int) + 1)), .slice a2 (woX e xs ((k : Int) + 1)).length c2]).l.c1; have p2 := (Cf2.al (V := 25) H2.out.1 #[.int .i64 (woP e xs ((k : Int) + 1)), .slice a2 (woX e xs ((k : Int) + 1)).length c2]).r.c0; have p3 := (Cf2.al (V := 25) H2.out.1 #[.int .i64 (woP e xs ((k : Int) + 1)), .slice a2 (woX e xs ((k : Int) + 1)).length c2]).r.c1; clear ho hb)
                | ((fail_if_success (have z := H4)); go_at_call 26; go_must (refine (Calls.mono (HAL.out _ _ _ _ (woX e xs ((k : Int) + 1)) (H2.out.1.below (alloc_b _ _)).b HLW.out.1 (H2.out.2.below (alloc_b _ _))) ?_)); rintro r w3 ⟨rfl, hb⟩; have H3 : Hid (Cf2 25 25 w w3 w.heap.size e f (.slice a n c) (.slice b m d)) := (H2.out.1.below (alloc_b _ _)).below hb; have q0 := H3.out.l.c0; have q1 := H3.out.l.c1; have q2 := H3.out.r.c0; have q3 := H3.out.r.c1; clear hb)
                | (go_at_call 23; go_must (refine (Calls.mono (HWI.out _ _ H3.out.b) ?_)); rintro r w4 ⟨a4, c4, rfl, ho, hb⟩; have H4 : Hid (Cf2 25 25 w w4 w.heap.size e f (.slice a n c) (.slice b m d) ∧ OwI 0 w4 (.slice a4 (wiX e xs ((k : Int) + 1)).length c4) (wiX e xs ((k : Int) + 1)).length (wiX e xs ((k : Int) + 1))) := ⟨H3.out.below hb, ho.base (Nat.zero_le _)⟩; have r0 := (Cf2.al (V := 25) H4.out.1 #[.int .i64 (wiP e xs ((k : Int) + 1)), .slice a4 (wiX e xs ((k : Int) + 1)).length c4]).l.c0; have r1 := (Cf2.al (V := 25) H4.out.1 #[.int .i64 (wiP e xs ((k : Int) + 1)), .slice a4 (wiX e xs ((k : Int) + 1)).length c4]).l.c1; have r2 := (Cf2.al (V := 25) H4.out.1 #[.int .i64 (wiP e xs ((k : Int) + 1)), .slice a4 (wiX e xs ((k : Int) + 1)).length c4]).r.c0; have r3 := (Cf2.al (V := 25) H4.out.1 #[.int .i64 (wiP e xs ((k : Int) + 1)), .slice a4 (wiX e xs ((k : Int) + 1)).length c4]).r.c1; clear ho hb)
                | (have z := H4; clear z; go_at_call 26; go_must (refine (Calls.mono (HAL.out _ _ _ _ (wiX e xs ((k : Int) + 1)) (H4.out.1.below (alloc_b _ _)).b HLW.out.2 (H4.out.2.below (alloc_b _ _))) ?_)); rintro r w5 ⟨rfl, hb⟩; have H5 : Hid (Cf2 25 25 w w5 w.heap.size e f (.slice a n c) (.slice b m d)) := (H4.out.1.below (alloc_b _ _)).below hb; clear hb))
              go_roundw
              case rel => exact ⟨k + 1, by omega, by rw [show (((k + 1 : Nat) : Int) + 1) = (k : Int) + 1 + 1 by omega], fun j hj => (by by_cases hjk : j = k; exact hjk ▸ HR.out; exact hr.out.1 j (by omega)), H5.out⟩
              case measure => simp [intOf]; omega
            | true =>
              have HR : Hid (fol e f xs ys = true) := fol_yes hlt ((HSF.out true false true true hA hB hC hD).trans (by cases false <;> rfl))
              go_wp2_with (first
                | (go_at_call 22; go_must (refine (Calls.mono (HWO.out _ _ hr.out.2.b) ?_)); rintro r w2 ⟨a2, c2, rfl, ho, hb⟩; have H2 : Hid (Cf2 25 25 w w2 w.heap.size e f (.slice a n c) (.slice b m d) ∧ OwI 0 w2 (.slice a2 (woX e xs ((k : Int) + 1)).length c2) (woX e xs ((k : Int) + 1)).length (woX e xs ((k : Int) + 1))) := ⟨hr.out.2.below hb, ho.base (Nat.zero_le _)⟩; have p0 := (Cf2.al (V := 25) H2.out.1 #[.int .i64 (woP e xs ((k : Int) + 1)), .slice a2 (woX e xs ((k : Int) + 1)).length c2]).l.c0; have p1 := (Cf2.al (V := 25) H2.out.1 #[.int .i64 (woP e xs ((k : Int) + 1)), .slice a2 (woX e xs ((k : Int) + 1)).length c2]).l.c1; have p2 := (Cf2.al (V := 25) H2.out.1 #[.int .i64 (woP e xs ((k : Int) + 1)), .slice a2 (woX e xs ((k : Int) + 1)).length c2]).r.c0; have p3 := (Cf2.al (V := 25) H2.out.1 #[.int .i64 (woP e xs ((k : Int) + 1)), .slice a2 (woX e xs ((k : Int) + 1)).length c2]).r.c1; clear ho hb)
                | ((fail_if_success (have z := H4)); go_at_call 26; go_must (refine (Calls.mono (HAL.out _ _ _ _ (woX e xs ((k : Int) + 1)) (H2.out.1.below (alloc_b _ _)).b HLW.out.1 (H2.out.2.below (alloc_b _ _))) ?_)); rintro r w3 ⟨rfl, hb⟩; have H3 : Hid (Cf2 25 25 w w3 w.heap.size e f (.slice a n c) (.slice b m d)) := (H2.out.1.below (alloc_b _ _)).below hb; have q0 := H3.out.l.c0; have q1 := H3.out.l.c1; have q2 := H3.out.r.c0; have q3 := H3.out.r.c1; clear hb)
                | (go_at_call 23; go_must (refine (Calls.mono (HWI.out _ _ H3.out.b) ?_)); rintro r w4 ⟨a4, c4, rfl, ho, hb⟩; have H4 : Hid (Cf2 25 25 w w4 w.heap.size e f (.slice a n c) (.slice b m d) ∧ OwI 0 w4 (.slice a4 (wiX e xs ((k : Int) + 1)).length c4) (wiX e xs ((k : Int) + 1)).length (wiX e xs ((k : Int) + 1))) := ⟨H3.out.below hb, ho.base (Nat.zero_le _)⟩; have r0 := (Cf2.al (V := 25) H4.out.1 #[.int .i64 (wiP e xs ((k : Int) + 1)), .slice a4 (wiX e xs ((k : Int) + 1)).length c4]).l.c0; have r1 := (Cf2.al (V := 25) H4.out.1 #[.int .i64 (wiP e xs ((k : Int) + 1)), .slice a4 (wiX e xs ((k : Int) + 1)).length c4]).l.c1; have r2 := (Cf2.al (V := 25) H4.out.1 #[.int .i64 (wiP e xs ((k : Int) + 1)), .slice a4 (wiX e xs ((k : Int) + 1)).length c4]).r.c0; have r3 := (Cf2.al (V := 25) H4.out.1 #[.int .i64 (wiP e xs ((k : Int) + 1)), .slice a4 (wiX e xs ((k : Int) + 1)).length c4]).r.c1; clear ho hb)
                | (have z := H4; clear z; go_at_call 26; go_must (refine (Calls.mono (HAL.out _ _ _ _ (wiX e xs ((k : Int) + 1)) (H4.out.1.below (alloc_b _ _)).b HLW.out.2 (H4.out.2.below (alloc_b _ _))) ?_)); rintro r w5 ⟨rfl, hb⟩; have H5 : Hid (Cf2 25 25 w w5 w.heap.size e f (.slice a n c) (.slice b m d)) := (H4.out.1.below (alloc_b _ _)).below hb; clear hb))
              go_ret
              exact ⟨by rw [HR.out]; rfl, H5.out.b⟩
      | false =>
        cases hC : (wiE e xs ((k : Int) + 1) == 0) with
        | false =>
          have HR : Hid (stepF e f xs ys ((k : Int) + 1) = false) := HSF.out false _ false _ hA rfl hC rfl
          go_wp2_with (first
            | (go_at_call 22; go_must (refine (Calls.mono (HWO.out _ _ hr.out.2.b) ?_)); rintro r w2 ⟨a2, c2, rfl, ho, hb⟩; have H2 : Hid (Cf2 25 25 w w2 w.heap.size e f (.slice a n c) (.slice b m d) ∧ OwI 0 w2 (.slice a2 (woX e xs ((k : Int) + 1)).length c2) (woX e xs ((k : Int) + 1)).length (woX e xs ((k : Int) + 1))) := ⟨hr.out.2.below hb, ho.base (Nat.zero_le _)⟩; have p0 := (Cf2.al (V := 25) H2.out.1 #[.int .i64 (woP e xs ((k : Int) + 1)), .slice a2 (woX e xs ((k : Int) + 1)).length c2]).l.c0; have p1 := (Cf2.al (V := 25) H2.out.1 #[.int .i64 (woP e xs ((k : Int) + 1)), .slice a2 (woX e xs ((k : Int) + 1)).length c2]).l.c1; have p2 := (Cf2.al (V := 25) H2.out.1 #[.int .i64 (woP e xs ((k : Int) + 1)), .slice a2 (woX e xs ((k : Int) + 1)).length c2]).r.c0; have p3 := (Cf2.al (V := 25) H2.out.1 #[.int .i64 (woP e xs ((k : Int) + 1)), .slice a2 (woX e xs ((k : Int) + 1)).length c2]).r.c1; clear ho hb)
            | (go_at_call 23; go_must (refine (Calls.mono (HWI.out _ _ (H2.out.1.below (alloc_b _ _)).b) ?_)); rintro r w4 ⟨a4, c4, rfl, ho, hb⟩; have H4 : Hid (Cf2 25 25 w w4 w.heap.size e f (.slice a n c) (.slice b m d) ∧ OwI 0 w4 (.slice a4 (wiX e xs ((k : Int) + 1)).length c4) (wiX e xs ((k : Int) + 1)).length (wiX e xs ((k : Int) + 1))) := ⟨(H2.out.1.below (alloc_b _ _)).below hb, ho.base (Nat.zero_le _)⟩; have r0 := (Cf2.al (V := 25) H4.out.1 #[.int .i64 (wiP e xs ((k : Int) + 1)), .slice a4 (wiX e xs ((k : Int) + 1)).length c4]).l.c0; have r1 := (Cf2.al (V := 25) H4.out.1 #[.int .i64 (wiP e xs ((k : Int) + 1)), .slice a4 (wiX e xs ((k : Int) + 1)).length c4]).l.c1; have r2 := (Cf2.al (V := 25) H4.out.1 #[.int .i64 (wiP e xs ((k : Int) + 1)), .slice a4 (wiX e xs ((k : Int) + 1)).length c4]).r.c0; have r3 := (Cf2.al (V := 25) H4.out.1 #[.int .i64 (wiP e xs ((k : Int) + 1)), .slice a4 (wiX e xs ((k : Int) + 1)).length c4]).r.c1; clear ho hb))
          go_roundw
          case rel => exact ⟨k + 1, by omega, by rw [show (((k + 1 : Nat) : Int) + 1) = (k : Int) + 1 + 1 by omega], fun j hj => (by by_cases hjk : j = k; exact hjk ▸ HR.out; exact hr.out.1 j (by omega)), H4.out.1.below (alloc_b _ _)⟩
          case measure => simp [intOf]; omega
        | true =>
          cases hD : sam (wiP e xs ((k : Int) + 1)) f (wiX e xs ((k : Int) + 1)) ys with
          | false =>
            have HR : Hid (stepF e f xs ys ((k : Int) + 1) = false) := HSF.out false _ true false hA rfl hC hD
            go_wp2_with (first
              | (go_at_call 22; go_must (refine (Calls.mono (HWO.out _ _ hr.out.2.b) ?_)); rintro r w2 ⟨a2, c2, rfl, ho, hb⟩; have H2 : Hid (Cf2 25 25 w w2 w.heap.size e f (.slice a n c) (.slice b m d) ∧ OwI 0 w2 (.slice a2 (woX e xs ((k : Int) + 1)).length c2) (woX e xs ((k : Int) + 1)).length (woX e xs ((k : Int) + 1))) := ⟨hr.out.2.below hb, ho.base (Nat.zero_le _)⟩; have p0 := (Cf2.al (V := 25) H2.out.1 #[.int .i64 (woP e xs ((k : Int) + 1)), .slice a2 (woX e xs ((k : Int) + 1)).length c2]).l.c0; have p1 := (Cf2.al (V := 25) H2.out.1 #[.int .i64 (woP e xs ((k : Int) + 1)), .slice a2 (woX e xs ((k : Int) + 1)).length c2]).l.c1; have p2 := (Cf2.al (V := 25) H2.out.1 #[.int .i64 (woP e xs ((k : Int) + 1)), .slice a2 (woX e xs ((k : Int) + 1)).length c2]).r.c0; have p3 := (Cf2.al (V := 25) H2.out.1 #[.int .i64 (woP e xs ((k : Int) + 1)), .slice a2 (woX e xs ((k : Int) + 1)).length c2]).r.c1; clear ho hb)
              | (go_at_call 23; go_must (refine (Calls.mono (HWI.out _ _ (H2.out.1.below (alloc_b _ _)).b) ?_)); rintro r w4 ⟨a4, c4, rfl, ho, hb⟩; have H4 : Hid (Cf2 25 25 w w4 w.heap.size e f (.slice a n c) (.slice b m d) ∧ OwI 0 w4 (.slice a4 (wiX e xs ((k : Int) + 1)).length c4) (wiX e xs ((k : Int) + 1)).length (wiX e xs ((k : Int) + 1))) := ⟨(H2.out.1.below (alloc_b _ _)).below hb, ho.base (Nat.zero_le _)⟩; have r0 := (Cf2.al (V := 25) H4.out.1 #[.int .i64 (wiP e xs ((k : Int) + 1)), .slice a4 (wiX e xs ((k : Int) + 1)).length c4]).l.c0; have r1 := (Cf2.al (V := 25) H4.out.1 #[.int .i64 (wiP e xs ((k : Int) + 1)), .slice a4 (wiX e xs ((k : Int) + 1)).length c4]).l.c1; have r2 := (Cf2.al (V := 25) H4.out.1 #[.int .i64 (wiP e xs ((k : Int) + 1)), .slice a4 (wiX e xs ((k : Int) + 1)).length c4]).r.c0; have r3 := (Cf2.al (V := 25) H4.out.1 #[.int .i64 (wiP e xs ((k : Int) + 1)), .slice a4 (wiX e xs ((k : Int) + 1)).length c4]).r.c1; clear ho hb)
              | (have z := H4; clear z; go_at_call 26; go_must (refine (Calls.mono (HAL.out _ _ _ _ (wiX e xs ((k : Int) + 1)) (H4.out.1.below (alloc_b _ _)).b HLW.out.2 (H4.out.2.below (alloc_b _ _))) ?_)); rintro r w5 ⟨rfl, hb⟩; have H5 : Hid (Cf2 25 25 w w5 w.heap.size e f (.slice a n c) (.slice b m d)) := (H4.out.1.below (alloc_b _ _)).below hb; clear hb))
            go_roundw
            case rel => exact ⟨k + 1, by omega, by rw [show (((k + 1 : Nat) : Int) + 1) = (k : Int) + 1 + 1 by omega], fun j hj => (by by_cases hjk : j = k; exact hjk ▸ HR.out; exact hr.out.1 j (by omega)), H5.out⟩
            case measure => simp [intOf]; omega
          | true =>
            have HR : Hid (fol e f xs ys = true) := fol_yes hlt ((HSF.out false _ true true hA rfl hC hD).trans (by cases true <;> rfl))
            go_wp2_with (first
              | (go_at_call 22; go_must (refine (Calls.mono (HWO.out _ _ hr.out.2.b) ?_)); rintro r w2 ⟨a2, c2, rfl, ho, hb⟩; have H2 : Hid (Cf2 25 25 w w2 w.heap.size e f (.slice a n c) (.slice b m d) ∧ OwI 0 w2 (.slice a2 (woX e xs ((k : Int) + 1)).length c2) (woX e xs ((k : Int) + 1)).length (woX e xs ((k : Int) + 1))) := ⟨hr.out.2.below hb, ho.base (Nat.zero_le _)⟩; have p0 := (Cf2.al (V := 25) H2.out.1 #[.int .i64 (woP e xs ((k : Int) + 1)), .slice a2 (woX e xs ((k : Int) + 1)).length c2]).l.c0; have p1 := (Cf2.al (V := 25) H2.out.1 #[.int .i64 (woP e xs ((k : Int) + 1)), .slice a2 (woX e xs ((k : Int) + 1)).length c2]).l.c1; have p2 := (Cf2.al (V := 25) H2.out.1 #[.int .i64 (woP e xs ((k : Int) + 1)), .slice a2 (woX e xs ((k : Int) + 1)).length c2]).r.c0; have p3 := (Cf2.al (V := 25) H2.out.1 #[.int .i64 (woP e xs ((k : Int) + 1)), .slice a2 (woX e xs ((k : Int) + 1)).length c2]).r.c1; clear ho hb)
              | (go_at_call 23; go_must (refine (Calls.mono (HWI.out _ _ (H2.out.1.below (alloc_b _ _)).b) ?_)); rintro r w4 ⟨a4, c4, rfl, ho, hb⟩; have H4 : Hid (Cf2 25 25 w w4 w.heap.size e f (.slice a n c) (.slice b m d) ∧ OwI 0 w4 (.slice a4 (wiX e xs ((k : Int) + 1)).length c4) (wiX e xs ((k : Int) + 1)).length (wiX e xs ((k : Int) + 1))) := ⟨(H2.out.1.below (alloc_b _ _)).below hb, ho.base (Nat.zero_le _)⟩; have r0 := (Cf2.al (V := 25) H4.out.1 #[.int .i64 (wiP e xs ((k : Int) + 1)), .slice a4 (wiX e xs ((k : Int) + 1)).length c4]).l.c0; have r1 := (Cf2.al (V := 25) H4.out.1 #[.int .i64 (wiP e xs ((k : Int) + 1)), .slice a4 (wiX e xs ((k : Int) + 1)).length c4]).l.c1; have r2 := (Cf2.al (V := 25) H4.out.1 #[.int .i64 (wiP e xs ((k : Int) + 1)), .slice a4 (wiX e xs ((k : Int) + 1)).length c4]).r.c0; have r3 := (Cf2.al (V := 25) H4.out.1 #[.int .i64 (wiP e xs ((k : Int) + 1)), .slice a4 (wiX e xs ((k : Int) + 1)).length c4]).r.c1; clear ho hb)
              | (have z := H4; clear z; go_at_call 26; go_must (refine (Calls.mono (HAL.out _ _ _ _ (wiX e xs ((k : Int) + 1)) (H4.out.1.below (alloc_b _ _)).b HLW.out.2 (H4.out.2.below (alloc_b _ _))) ?_)); rintro r w5 ⟨rfl, hb⟩; have H5 : Hid (Cf2 25 25 w w5 w.heap.size e f (.slice a n c) (.slice b m d)) := (H4.out.1.below (alloc_b _ _)).below hb; clear hb))
            go_ret
            exact ⟨by rw [HR.out]; rfl, H5.out.b⟩
    · obtain rfl : k = 8 := by omega
      have HR : Hid (fol e f xs ys = false) := fol_no (fun j hj => hr.out.1 j hj)
      have hd : decide (((8 : Nat) : Int) + 1 ≤ (8 : Int)) = false := by decide
      go_wp2
      go_ret
      exact ⟨by rw [HR.out]; rfl, hr.out.2.b⟩
end Go.Proofs.Ytekefbbjocekiab
