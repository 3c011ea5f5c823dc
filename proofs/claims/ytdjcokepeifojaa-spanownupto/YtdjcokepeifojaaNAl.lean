/-
  What span's All does as an iterator: it tells each bucket with its range, from 0 on, all of them or a beginning, as the loop's body says. No condition.
-/
import Derived.Test.YtdjcokepeifojaaNOp
import Derived.RangeFuncNested
import Derived.RangeFuncBound
import Derived.RangeFuncCalls
import Derived.RangeFuncFrom
import Derived.RangeFuncBox
import Derived.RangeFuncLeaves
import Derived.Shelf.Abstract
import Derived.OwnWalkIn
import Derived.TacticsInMore
import Derived.LoopNIn
import Derived.LoopIn
namespace Go.Proofs.Ytdjcokepeifojaa
open Go.RowKit Go.Shelf
set_option linter.unusedVariables false
attribute [local go_sem] Oper.semAt_some

set_option maxHeartbeats 400000 in
theorem all_in (n : Nat) (d : Int) (w : World) :
    CallsIn Fence.wide n Try.prog 18 #[.int .i64 d] w fun e w' => e = .returned (.func (.func 29) #[] #[.pointer (some ⟨w.heap.size, 0, none⟩)]) ∧ w' = w.alloc (.cells #[.int .i64 d] 3) := by
  refine callsIn_of_wp Try.func18 rfl trivial ?_ rfl
  simp only [Try.ntmps18, List.size_toArray, List.length_cons, List.length_nil, Nat.reduceAdd, Nat.reduceSub, Array.replicate_succ, Array.replicate_zero, List.push_toArray, List.append_toArray, List.nil_append, List.cons_append]
  gi_wp2
  go_ret
  exact ⟨rfl, rfl⟩
set_option maxRecDepth 100000 in
set_option maxHeartbeats 1000000 in
theorem all1_in (n : Nat) (hn : 1 ≤ n) (l Bs : Nat) (d : Int) (N : Nat) (hN : nbk d = (N : Int)) (J Jx : Nat → World → Prop)
    (hG : ∀ k W W', J k W → W.grownBy W' none → J k W') (hC : ∀ k W, J k W → W.cell? ⟨Bs, 0, none⟩ = some (.int .i64 d))
    (hY : ∀ k W, J k W → k < N → YieldAt Fence.wide (n - 1) Try.prog l #[.int .i64 k, rv (ofR d k)] W fun e W' =>
      (e = .returned (.bool true) ∧ J (k + 1) W') ∨ (e = .returned (.bool false) ∧ Jx k W'))
    (W : World) (h0 : J 0 W) :
    CallsIn Fence.wide n Try.prog 29 #[.func (.yield l) #[] #[], .pointer (some ⟨Bs, 0, none⟩)] W fun e W' => (∃ v, e = .returned v) ∧ (J N W' ∨ ∃ k, k < N ∧ Jx k W') := by
  have HG : Hid _ := hG
  have HC : Hid _ := hC
  have HY : Hid _ := hY
  have HO : Hid (∀ k : Nat, k < N → ∀ w, Calls Try.prog 17 #[.int .i64 d, .int .i64 k] w fun r w' => r = .returned (.tuple #[rv (ofR d k), .int .i64 0]) ∧ w.grownBy w' none) := fun k hk w => by
    have := of_c d k w
    rcases deep_cases d with ⟨D, rfl, h1, h3⟩ | h
    · rwa [(ofE_yes h1 h3 (b := (k : Int)) ⟨by omega, by omega⟩).1] at this
    · rw [nbk_none h] at hN; omega
  have HCT : Hid (∀ w, Calls Try.prog 16 #[.int .i64 d] w fun r w' => r = .returned (.int .i64 (N : Int)) ∧ w' = w) := fun w => by
    have := count_c d w
    rwa [hN] at this
  have hNb : N ≤ 4096 := by rcases nbk_cases d with h | h | h | h <;> omega
  have hcb := hC 0 W h0
  clear hG hC hY hN
  refine callsIn_of_wp Try.func29 rfl trivial ?_ rfl
  simp only [Try.ntmps29, List.size_toArray, List.length_cons, List.length_nil, Nat.reduceAdd, Nat.reduceSub, Array.replicate_succ, Array.replicate_zero, List.push_toArray, List.append_toArray, List.nil_append, List.cons_append]
  gi_wp2
  refine ⟨trivial, ?_⟩
  refine (callsIn_wide.2 (HCT.out W)).mono ?_
  rintro e w' ⟨rfl, hw⟩
  obtain rfl := hw.symm
  gi_wp2
  clear hcb
  gi_loopw [8] (fun i wr => ∃ k : Nat, k ≤ N ∧ i = .int .i64 k ∧ Hid (J k wr)) (fun i _ => N - (intOf i).toNat)
  case atStart => exact ⟨0, Nat.zero_le _, rfl, h0⟩
  case round =>
    obtain ⟨k, hk, rfl, hr⟩ := hrel
    have hck := HC.out k wr hr.out
    by_cases hlt : k < N
    · have i2 : (k : Int) < (N : Int) := by omega
      have HOK : Hid _ := HO.out k hlt
      have HYK : Hid _ := HY.out k
      generalize ofR d k = r at HOK HYK
      obtain ⟨f, u⟩ := r
      unfold rv at HOK HYK
      gi_wp2
      refine ⟨trivial, ?_⟩
      refine (callsIn_wide.2 (HOK.out wr)).mono ?_
      rintro e w3 ⟨rfl, h3⟩
      have HJ3 : Hid (J k (w3.alloc (.cells #[.string f, .string u] 39))) := HG.out k wr _ hr.out (gb_trans h3 (gb_alloc _ _))
      clear h3
      obtain ⟨fn, tmps, assign, body, hy, hR⟩ := HYK.out (w3.alloc (.cells #[.string f, .string u] 39)) HJ3.out hlt
      gi_wp2
      refine hR.mono ?_
      rintro e W3 (⟨rfl, hJ3⟩ | ⟨rfl, hJx3⟩)
      · gi_wp2
        go_roundw
        case rel => exact ⟨k + 1, by omega, by simp, hJ3⟩
        case measure => simp [intOf]; omega
      · gi_wp2
        refine bodyPost_ret (results_none rfl _ _ _) rfl ?_
        exact ⟨⟨_, rfl⟩, .inr ⟨k, hlt, hJx3⟩⟩
    · obtain rfl : k = N := by omega
      gi_wp2
      go_end0
      exact ⟨⟨_, rfl⟩, .inl hr.out⟩
end Go.Proofs.Ytdjcokepeifojaa
