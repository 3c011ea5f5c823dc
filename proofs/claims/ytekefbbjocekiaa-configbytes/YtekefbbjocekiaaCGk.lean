/-
  What the law's own kept answers of a twin that is as it was: yes. Conditions: the lists can be read, and have at most 2^43 numbers.
-/
import Derived.Test.YtekefbbjocekiaaCGu
namespace Go.Proofs.Ytekefbbjocekiaa
open Go.RowKit
set_option linter.unusedVariables false

theorem sam_refl (e : Int) (xs : List Int) : sam e e xs xs = true := sam_yes.2 ⟨rfl, rfl⟩
/-- A list of one's own, three marks behind it. -/
theorem OwI.marks {B : Nat} {w : World} {g n cap : Nat} {xs : List Int} (h : OwI B w (.slice (some ⟨g, 0, none⟩) (n + 3) cap) (n + 3) (xs ++ [-71, -72, -73])) (hl : xs.length = n) :
    Seg .i64 w (some ⟨g, 0, none⟩) n xs ∧ w.cell? ⟨g, n, none⟩ = some (.int .i64 (-71)) ∧ w.cell? ⟨g, n + 1, none⟩ = some (.int .i64 (-72)) ∧ w.cell? ⟨g, n + 2, none⟩ = some (.int .i64 (-73)) := by
  have c0 := (h.cell n (by omega)).1
  have c1 := (h.cell (n + 1) (by omega)).1
  have c2 := (h.cell (n + 2) (by omega)).1
  obtain ⟨a', c', e1, hs, _⟩ := h.seg
  simp only [Value.slice.injEq] at e1
  obtain ⟨rfl, _, rfl⟩ := e1
  have ht := seg_take hs n (by omega)
  rw [← hl, List.take_left] at ht
  rw [hl] at ht
  refine ⟨ht, ?_, ?_, ?_⟩
  · rw [c0, ← hl, List.getElem?_append_right (Nat.le_refl _)]; simp
  · rw [c1, ← hl, List.getElem?_append_right (by omega)]; simp
  · rw [c2, ← hl, List.getElem?_append_right (by omega)]; simp
set_option maxRecDepth 20000 in
set_option maxHeartbeats 4000000 in
theorem kept_c (B : Nat) (e : Int) (g cap : Nat) (a : Option Addr) (n c : Nat) (xs : List Int) (w : World) (ho : OwI B w (.slice (some ⟨g, 0, none⟩) (n + 3) cap) (n + 3) (xs ++ [-71, -72, -73])) (hcap : n + 3 ≤ cap) (h : Seg .i64 w a n xs) (hl : n ≤ 17592186044000) :
    Calls Try.prog 17 #[.agg #[.int .i64 e, .slice (some ⟨g, 0, none⟩) n cap], .agg #[.int .i64 e, .slice a n c]] w fun r w' => r = .returned (.bool true) ∧ Below w.heap.size w w' := by
  have H0 : Hid (Cf2 27 27 w ((w.alloc (.cells #[.int .i64 e, .slice (some ⟨g, 0, none⟩) n cap] 27)).alloc (.cells #[.int .i64 e, .slice a n c] 27)) w.heap.size e e (.slice (some ⟨g, 0, none⟩) n cap) (.slice a n c)) := cf2_new 27 27 w e e _ _
  have HP : Hid (∀ W, Calls Try.prog 15 #[.agg #[.int .i64 e, .slice (some ⟨g, 0, none⟩) n cap]] W fun r w' => r = .returned (.agg #[.int .i64 e, .slice (some ⟨g, 0, none⟩) n cap]) ∧ Below W.heap.size W w') := plain_c e _ n cap
  have HP2 : Hid (∀ W, Calls Try.prog 15 #[.agg #[.int .i64 e, .slice a n c]] W fun r w' => r = .returned (.agg #[.int .i64 e, .slice a n c]) ∧ Below W.heap.size W w') := plain_c e a n c
  have HM : Hid (∀ W, Below w.heap.size w W → Seg .i64 W (some ⟨g, 0, none⟩) n xs ∧ W.cell? ⟨g, n, none⟩ = some (.int .i64 (-71)) ∧ W.cell? ⟨g, n + 1, none⟩ = some (.int .i64 (-72)) ∧ W.cell? ⟨g, n + 2, none⟩ = some (.int .i64 (-73))) := fun W hb => (ho.below hb).marks h.1
  have HQ : Hid (∀ W, Below w.heap.size w W → Calls Try.prog 32 #[.agg #[.int .i64 e, .slice (some ⟨g, 0, none⟩) n cap], .agg #[.int .i64 e, .slice a n c]] W fun r w' => r = .returned (.bool true) ∧ Below W.heap.size W w') := by
    have hm := HM
    show ∀ W, _
    intro W hb
    have := qalike_c e e (some ⟨g, 0, none⟩) a n cap n c xs xs W (hm.out W hb).1 (h.below hb) (by omega) (by omega)
    rwa [sam_refl] at this
  have hnk : (n : Int) + 3 ≤ (cap : Int) := by omega
  have hnk2 : ¬ (cap : Int) < (n : Int) + 3 := by omega
  have hw3 : wrap64 ((n : Int) + 3) = (n : Int) + 3 := IntWalk.wrap64_in _ ⟨by omega, by omega⟩
  have hw2 : wrap64 ((n : Int) + 2) = (n : Int) + 2 := IntWalk.wrap64_in _ ⟨by omega, by omega⟩
  have hw1 : wrap64 ((n : Int) + 1) = (n : Int) + 1 := IntWalk.wrap64_in _ ⟨by omega, by omega⟩
  clear h ho hl hcap
  go_enter Try.func17, Try.ntmps17
  go_wp2_with fail
  generalize hW : World.alloc (World.alloc w _) _ = W1 at H0 ⊢
  clear hW
  obtain ⟨N, hN⟩ : ∃ N, N = w.heap.size := ⟨_, rfl⟩
  rw [← hN] at H0 ⊢
  clear hN
  have HST : Hid (∀ W W5, Below W.heap.size W W5 → ((W.cell? ⟨N, 0, none⟩ = some (.int .i64 e) ∧ W.cell? ⟨N, 1, none⟩ = some (.slice (some ⟨g, 0, none⟩) n cap) ∧ W.cell? ⟨N + 1, 0, none⟩ = some (.int .i64 e) ∧ W.cell? ⟨N + 1, 1, none⟩ = some (.slice a n c)) ∧ Hid (Cf2 27 27 w W N e e (.slice (some ⟨g, 0, none⟩) n cap) (.slice a n c))) → ((W5.cell? ⟨N, 0, none⟩ = some (.int .i64 e) ∧ W5.cell? ⟨N, 1, none⟩ = some (.slice (some ⟨g, 0, none⟩) n cap) ∧ W5.cell? ⟨N + 1, 0, none⟩ = some (.int .i64 e) ∧ W5.cell? ⟨N + 1, 1, none⟩ = some (.slice a n c)) ∧ Hid (Cf2 27 27 w W5 N e e (.slice (some ⟨g, 0, none⟩) n cap) (.slice a n c)))) := fun W W5 hb h => ⟨(h.2.out.below hb).cells, h.2.out.below hb⟩
  have hS0 : (W1.cell? ⟨N, 0, none⟩ = some (.int .i64 e) ∧ W1.cell? ⟨N, 1, none⟩ = some (.slice (some ⟨g, 0, none⟩) n cap) ∧ W1.cell? ⟨N + 1, 0, none⟩ = some (.int .i64 e) ∧ W1.cell? ⟨N + 1, 1, none⟩ = some (.slice a n c)) ∧ Hid (Cf2 27 27 w W1 N e e (.slice (some ⟨g, 0, none⟩) n cap) (.slice a n c)) := ⟨H0.out.cells, H0⟩
  have hSd : (W1.drew.cell? ⟨N, 0, none⟩ = some (.int .i64 e) ∧ W1.drew.cell? ⟨N, 1, none⟩ = some (.slice (some ⟨g, 0, none⟩) n cap) ∧ W1.drew.cell? ⟨N + 1, 0, none⟩ = some (.int .i64 e) ∧ W1.drew.cell? ⟨N + 1, 1, none⟩ = some (.slice a n c)) ∧ Hid (Cf2 27 27 w W1.drew N e e (.slice (some ⟨g, 0, none⟩) n cap) (.slice a n c)) := ⟨H0.out.cells, H0.out.drewN 1⟩
  go_region_held3 (fun W => (W.cell? ⟨N, 0, none⟩ = some (.int .i64 e) ∧ W.cell? ⟨N, 1, none⟩ = some (.slice (some ⟨g, 0, none⟩) n cap) ∧ W.cell? ⟨N + 1, 0, none⟩ = some (.int .i64 e) ∧ W.cell? ⟨N + 1, 1, none⟩ = some (.slice a n c)) ∧ Hid (Cf2 27 27 w W N e e (.slice (some ⟨g, 0, none⟩) n cap) (.slice a n c))) (assumption) (first
    | (go_at_call 15; refine (Calls.mono (HP.out _) ?_); rintro r w5 ⟨rfl, hb5⟩; have hS5 := HST.out _ w5 hb5 (by assumption))
    | (go_at_call 15; refine (Calls.mono (HP2.out _) ?_); rintro r w6 ⟨rfl, hb6⟩; have hS6 := HST.out _ w6 hb6 (by assumption))
    | (go_at_call 32; refine (Calls.mono (HQ.out _ hS6.2.out.b) ?_); rintro r w7 ⟨rfl, hb7⟩; have hS7 := HST.out _ w7 hb7 (by assumption)))
  have c0 := hS7.1.1
  have c1 := hS7.1.2.1
  obtain ⟨_, m0, m1, m2⟩ := HM.out _ hS7.2.out.b
  go_wp2
  go_ret
  exact ⟨rfl, hS7.2.out.b⟩
end Go.Proofs.Ytekefbbjocekiaa
