/-
  What a loop over slices.Chunk of bytes may count on: each piece of 65536 bytes comes, in its order, the last one shorter. Condition: at most 2^47 bytes.
-/
import Derived.Test.YtbfbehjldloeoaaDoorFWa
import Derived.LoopIn
import Derived.LoopNIn
import Derived.OrdersIn
import Derived.OwnWalkIn
import Derived.RangeFuncBound
import Derived.RangeFuncBox
import Derived.RangeFuncCalls
import Derived.RangeFuncFrom
import Derived.RangeFuncLeaves
import Derived.RangeFuncNested
import Derived.Shelf.Abstract
import Derived.TacticsInMore
import Derived.Sort.QuietIn
namespace Go.Proofs.YtbfbehjldloeoaaDoor
open Go.RowKit Go.Shelf
set_option linter.unusedVariables false
attribute [local go_sem] Oper.semAt_some

theorem slice_blhm (a : Option Addr) (len cap p q : Nat) (hp : p ≤ q) (hq : q ≤ cap) (W : World) : (Instr.slice 22 (.slice a len cap) (some (.int .i64 (p : Int))) (some (.int .i64 (q : Int))) (some (.int .i64 (q : Int)))).run Tryd.prog W = .ok (.slice (cutB a q p) (q - p) (q - p)) W := by
  have hel : Tryd.prog.elem 22 = 5 := by simp [Program.elem]
  rw [run_slice_lhm W 22 a len cap (by rw [hel]; exact Tryd.underlying22) .i64 .i64 .i64 p q q (by omega) (by omega) (by omega) (by omega)]
  rw [hel, size_u8]
  simp [sliced, cutB]
/-- How many bytes the k-th piece has, and where it lies. -/
def ckE (len k : Nat) : Nat := min 65536 (len - 65536 * k)
def ckV (a : Option Addr) (len k : Nat) : Value := .slice (cutB a (65536 * k + ckE len k) (65536 * k)) (ckE len k) (ckE len k)
def ckN (len : Nat) : Nat := (len + 65535) / 65536
theorem ckN_lt (len k : Nat) : k < ckN len ↔ 65536 * k < len := by unfold ckN; omega
set_option maxRecDepth 100000 in
set_option maxHeartbeats 1000000 in
theorem chunk1_in (n : Nat) (hn : 1 ≤ n) (l Bs Bn : Nat) (a : Option Addr) (len cap : Nat) (hlc : len ≤ cap) (hl : len ≤ 140737488355328) (J Jx : Nat → World → Prop)
    (hG : ∀ k W W', J k W → W.grownBy W' none → J k W') (hC : ∀ k W, J k W → W.cell? ⟨Bs, 0, none⟩ = some (.slice a len cap) ∧ W.cell? ⟨Bn, 0, none⟩ = some (.int .i64 65536))
    (hY : ∀ k W, J k W → k < ckN len → YieldAt Fence.wide (n - 1) Tryd.prog l #[ckV a len k] W fun e W' =>
      (e = .returned (.bool true) ∧ J (k + 1) W') ∨ (e = .returned (.bool false) ∧ Jx k W'))
    (W : World) (h0 : J 0 W) :
    CallsIn Fence.wide n Tryd.prog 31 #[.func (.yield l) #[] #[], .pointer (some ⟨Bs, 0, none⟩), .pointer (some ⟨Bn, 0, none⟩)] W fun e W' => (∃ v, e = .returned v) ∧ (J (ckN len) W' ∨ ∃ k, k < ckN len ∧ Jx k W') := by
  have HG : Hid _ := hG
  have HC : Hid _ := hC
  have HY : Hid _ := hY
  have hcb := hC 0 W h0
  obtain ⟨N, hN⟩ : ∃ N, N = ckN len := ⟨_, rfl⟩
  have HN : Hid (∀ k, k < N ↔ 65536 * k < len) := fun k => by rw [hN]; exact ckN_lt len k
  rw [← hN] at HY ⊢
  clear hG hC hY hN
  refine callsIn_of_wp Tryd.func31 rfl trivial ?_ rfl
  simp only [Tryd.ntmps31, List.size_toArray, List.length_cons, List.length_nil, Nat.reduceAdd, Nat.reduceSub, Array.replicate_succ, Array.replicate_zero, List.push_toArray, List.append_toArray, List.nil_append, List.cons_append]
  gi_wp2
  clear hcb
  gi_loopw [4, 5] (fun i _ wr => ∃ k : Nat, k ≤ N ∧ i = .int .i64 ((65536 * k : Nat) : Int) ∧ Hid (J k wr)) (fun i _ _ => 65536 * N + 65536 - (intOf i).toNat)
  case atStart => exact ⟨0, Nat.zero_le _, rfl, h0⟩
  case round =>
    obtain ⟨k, hk, rfl, hr⟩ := hrel
    obtain ⟨c0, c1⟩ := HC.out k wr hr.out
    obtain ⟨p, hp⟩ : ∃ p, p = 65536 * k := ⟨_, rfl⟩
    rw [← hp]
    by_cases hlt : k < N
    · have hpl : p < len := by rw [hp]; exact (HN.out k).1 hlt
      have i2 : (p : Int) < (len : Int) := by omega
      obtain ⟨m, hm⟩ : ∃ m, m = ckE len k := ⟨_, rfl⟩
      have hm2 : m = min 65536 (len - p) := by rw [hm, hp]; rfl
      have hma : m ≤ 65536 := by rw [hm2]; exact Nat.min_le_left _ _
      have hmb : m ≤ len - p := by rw [hm2]; exact Nat.min_le_right _ _
      have hmin : min (65536 : Int) ((len - p : Nat) : Int) = (m : Int) := by
        rcases Nat.le_total 65536 (len - p) with z | z
        · rw [hm2, Nat.min_eq_left z, Int.min_eq_left (by clear hm2; omega)]; rfl
        · rw [hm2, Nat.min_eq_right z, Int.min_eq_right (by clear hm2; omega)]
      replace hmin : Hid _ := hmin
      clear hm2
      have HPM : Hid (p = 65536 * k ∧ p + m ≤ len ∧ p + 65536 = 65536 * (k + 1)) := ⟨hp, by omega, by omega⟩
      have w1 : wrap64 ((p : Int) + (m : Int)) = (p : Int) + (m : Int) := IntWalk.wrap64_in _ ⟨by omega, by omega⟩
      have w2 : IntKind.i64.wrap ((p : Int) + (m : Int)) = (p : Int) + (m : Int) := IntWalk.i64_in _ ⟨by omega, by omega⟩
      have w3 : wrap64 ((p : Int) + 65536) = (p : Int) + 65536 := IntWalk.wrap64_in _ ⟨by omega, by omega⟩
      have w4 : IntKind.i64.wrap ((p : Int) + 65536) = (p : Int) + 65536 := IntWalk.i64_in _ ⟨by omega, by omega⟩
      have hsl := slice_bl a len cap p (by omega)
      have hsl3 := slice_blhm a len cap p (p + m) (by omega) (by omega)
      rw [show p + m - p = m from by omega, show ((p + m : Nat) : Int) = (p : Int) + (m : Int) from by omega] at hsl3
      have HYK : Hid (∀ W, J k W → YieldAt Fence.wide (n - 1) Tryd.prog l #[.slice (cutB a (p + m) p) m m] W fun e W' => (e = .returned (.bool true) ∧ J (k + 1) W') ∨ (e = .returned (.bool false) ∧ Jx k W')) := fun W hj => by
        have := HY.out k W hj hlt
        unfold ckV at this
        rw [← hm, ← hp] at this
        exact this
      have hif : (if ((len - p : Nat) : Int) < 65536 then ((len - p : Nat) : Int) else 65536) = (m : Int) := by
        rw [← hmin.out]
        split
        · rw [Int.min_eq_right (by omega)]
        · rw [Int.min_eq_left (by omega)]
      clear hmin hma hmb
      clear hp hm hpl
      gi_wp2
      gi_quiet (fail)
      clear hif c0 c1 hsl
      generalize hW0 : World.drewN wr _ = W0
      have HJ0 : Hid (J k W0) := by rw [← hW0]; exact HG.out k wr _ hr.out (drewN_gb wr _)
      clear hW0
      obtain ⟨fn, tmps, assign, body, hy, hR⟩ := HYK.out W0 HJ0.out
      obtain ⟨c0, c1⟩ := HC.out k W0 HJ0.out
      gi_wp2
      refine hR.mono ?_
      rintro e W3 (⟨rfl, hJ3⟩ | ⟨rfl, hJx3⟩)
      · have HJ3 : Hid (J (k + 1) W3) := hJ3
        obtain ⟨d0, d1⟩ := HC.out (k + 1) W3 hJ3
        clear hJ3 hR hy HYK HJ0 c0 c1
        gi_wp2
        go_roundw
        case rel => exact ⟨k + 1, hlt, congrArg (Value.int .i64) (show (p : Int) + 65536 = ((65536 * (k + 1) : Nat) : Int) from by have := HPM.out.2.2; omega), HJ3.out⟩
        case measure => simp [intOf]; have := HPM.out; omega
      · gi_wp2
        refine bodyPost_ret (results_none rfl _ _ _) rfl ?_
        exact ⟨⟨_, rfl⟩, .inr ⟨k, hlt, hJx3⟩⟩
    · have hpl : ¬ p < len := by rw [hp]; exact fun z => hlt ((HN.out k).2 z)
      have i2 : ¬ ((p : Int) < (len : Int)) := by omega
      obtain rfl : k = N := by omega
      clear hp
      gi_wp2
      go_end0
      exact ⟨⟨_, rfl⟩, .inl hr.out⟩
/-- Two blocks stay. -/
def K2 (Bs Bn : Nat) (A B : World) : Prop := B.heap[Bs]? = A.heap[Bs]? ∧ B.heap[Bn]? = A.heap[Bn]?
theorem K2.trans {Bs Bn : Nat} {A B C : World} (h : K2 Bs Bn A B) (k : K2 Bs Bn B C) : K2 Bs Bn A C := ⟨k.1.trans h.1, k.2.trans h.2⟩
def encC (a : Option Addr) (len : Nat) (k : Fin (ckN len)) : Array Value := #[ckV a len k.val]
theorem chunk_stops (n : Nat) (hn : 1 ≤ n) (Bs Bn : Nat) (a : Option Addr) (len cap : Nat) (hlc : len ≤ cap) (hl : len ≤ 140737488355328) (w : World) (hc : w.heap[Bs]? = some (.cells #[.slice a len cap] 22 (0, 0))) (hc2 : w.heap[Bn]? = some (.cells #[.int .i64 65536] 3 (0, 0))) :
    SeqStopsK Fence.wide n Tryd.prog 31 #[.pointer (some ⟨Bs, 0, none⟩), .pointer (some ⟨Bn, 0, none⟩)] (encC a len) (K2 Bs Bn) (fun xs => xs.map Fin.val = List.range (ckN len)) (fun pre => ∃ k, k < ckN len ∧ pre.map Fin.val = List.range (k + 1)) (ckN len) w := fun l J Jx W hW hJ hJx hY h0 => by
  have hs1 : Bs < w.heap.size := lt_of_block hc
  have hs2 : Bn < w.heap.size := lt_of_block hc2
  have hkb : ∀ {A B : World}, A.grownBy B none → Bs < A.heap.size → Bn < A.heap.size → K2 Bs Bn A B := fun hg h1 h2 => ⟨hg.block Bs h1 (by simp), hg.block Bn h2 (by simp)⟩
  refine (chunk1_in n hn l Bs Bn a len cap hlc hl (fun k W' => ∃ pre : List (Fin (ckN len)), pre.map Fin.val = List.range k ∧ J pre W' ∧ K2 Bs Bn w W') (fun k W' => ∃ pre : List (Fin (ckN len)), pre.map Fin.val = List.range (k + 1) ∧ Jx pre W') ?_ ?_ ?_ W ⟨[], rfl, h0, hW.block Bs hs1, hW.block Bn hs2⟩).mono ?_
  · rintro k A B ⟨pre, h1, h2, h3⟩ hg
    refine ⟨pre, h1, hJ _ A B none h2 hg (fun r e => by cases e), h3.trans (hkb hg ?_ ?_)⟩
    · exact lt_of_block (h3.1.trans hc)
    · exact lt_of_block (h3.2.trans hc2)
  · rintro k A ⟨pre, h1, h2, h3⟩
    exact ⟨Bk.cell (T := 22) (h3.1.trans hc) 0, Bk.cell (T := 3) (h3.2.trans hc2) 0⟩
  · rintro k W1 ⟨pre, h1, h2, h3⟩ hk
    have hl : pre.length = k := by have := congrArg List.length h1; simpa using this
    refine (hY pre ⟨k, hk⟩ W1 h2 (by omega)).mono ?_
    rintro e W' (⟨he, hj, hkp⟩ | ⟨he, hj⟩)
    · exact .inl ⟨he, pre ++ [⟨k, hk⟩], by simp [h1, List.range_succ], hj, h3.trans hkp⟩
    · exact .inr ⟨he, pre ++ [⟨k, hk⟩], by simp [h1, List.range_succ], hj⟩
  · rintro e W' ⟨he, h⟩
    refine ⟨he, ?_⟩
    rcases h with ⟨pre, h1, h2, _⟩ | ⟨k, hk, pre, h1, h2⟩
    · exact .inl ⟨pre, h1, h2⟩
    · exact .inr ⟨pre, ⟨k, hk, h1⟩, h2⟩
end Go.Proofs.YtbfbehjldloeoaaDoor
