/-
  What leb's inner iterator does over whatever bytes that can be read: it tells the places and numbers of the plain function tk, all of them or a beginning, as the loop's body says. Condition: the slice can be read, and its length is one that a machine has.
-/
import Derived.Test.YtoihckfmppcbdaaTell
import Derived.Test.YtoihckfmppcbdaaDec
import Derived.RangeFuncNested
import Derived.RangeFuncBound
import Derived.RangeFuncCalls
import Derived.RangeFuncFrom
import Derived.RangeFuncBox
import Derived.RangeFuncLeaves
import Derived.Shelf.Abstract
import Derived.OwnWalkIn
import Derived.TacticsInMore
import Derived.LoopNIn
import Derived.LoopIn
namespace Go.Proofs.Ytoihckfmppcbdaa
open Go.RowKit Go.Shelf
set_option linter.unusedVariables false
attribute [local go_sem] Oper.semAt_some

/-- A place and a number that an iterator may tell. -/
abbrev Pair := { x : Int × Int // (0 ≤ x.1 ∧ x.1 ≤ 140737488355328) ∧ (0 ≤ x.2 ∧ x.2 < 18446744073709551616) }
/-- What a loop's body keeps: all that lay below n₀, and block Bs. -/
def Keep (n₀ Bs : Nat) (A B : World) : Prop := Below n₀ A B ∧ B.heap[Bs]? = A.heap[Bs]?
theorem Keep.refl (n₀ Bs : Nat) (A : World) : Keep n₀ Bs A A := ⟨Below.refl _ _, rfl⟩
theorem Keep.trans {n₀ Bs : Nat} {A B C : World} (h : Keep n₀ Bs A B) (k : Keep n₀ Bs B C) : Keep n₀ Bs A C := ⟨h.1.trans k.1, k.2.trans h.2⟩
theorem Keep.cell {n₀ Bs : Nat} {A B : World} (h : Keep n₀ Bs A B) : B.cell? ⟨Bs, 0, none⟩ = A.cell? ⟨Bs, 0, none⟩ := World.cell?_of_block (w := A) h.2
/-- As the loop's body gets it. -/
def pairs (x : Pair) : Array Value := #[.int .i64 x.1.1, .int .u64 x.1.2]

set_option maxHeartbeats 400000 in
theorem walk_in (n : Nat) (a : Option Addr) (len cap : Nat) (w : World) :
    CallsIn Fence.wide n Try.prog 18 #[.slice a len cap] w fun e w' => e = .returned (.func (.func 22) #[] #[.pointer (some ⟨w.heap.size, 0, none⟩)]) ∧ w' = w.alloc (.cells #[.slice a len cap] 22) := by
  refine callsIn_of_wp Try.func18 rfl trivial ?_ rfl
  simp only [Try.ntmps18, List.size_toArray, List.length_cons, List.length_nil, Nat.reduceAdd, Nat.reduceSub, Array.replicate_succ, Array.replicate_zero, List.push_toArray, List.append_toArray, List.nil_append, List.cons_append]
  gi_wp2
  go_ret
  exact ⟨rfl, rfl⟩

/-- The bytes from a place on. -/
theorem seg_drop {w : World} {b off len : Nat} {xs : List Int} (h : Seg .u8 w (some ⟨b, off, none⟩) len xs) (k : Nat) (hk : k < len) : Seg .u8 w (some ⟨b, off + k, none⟩) (len - k) (xs.drop k) := by
  refine ⟨by simp [h.1], ?_⟩
  rcases h.2 with h0 | ⟨b', off', e, hb, hc⟩
  · omega
  · cases e
    exact .inr ⟨b, off + k, rfl, hb, fun i hi => by rw [Nat.add_assoc, hc (k + i) (by omega), List.getElem?_drop]⟩

theorem seg_none {w : World} {a a' : Option Addr} {len : Nat} {xs : List Int} (h : Seg .u8 w a len xs) (k : Nat) (hk : len ≤ k) : Seg .u8 w a' (len - k) (xs.drop k) :=
  ⟨by simp [h.1], .inl (by omega)⟩
theorem seg_from {w : World} {a : Option Addr} {len : Nat} {xs : List Int} (h : Seg .u8 w a len xs) (k : Nat) : Seg .u8 w (Option.map (fun x => x.add k) a) (len - k) (xs.drop k) := by
  rcases Nat.lt_or_ge k len with hk | hk
  · rcases h.2 with h0 | ⟨b, off, rfl, _⟩
    · omega
    · have := seg_drop h k hk
      rw [← Go.WideShapes.add_plain] at this
      exact this
  · exact seg_none h k hk

set_option maxRecDepth 100000 in
set_option maxHeartbeats 1000000 in
theorem walk1_in (n : Nat) (hn : 1 ≤ n) (l Bs n₀ b off len cap : Nat) (xs : List Int) (hx : Bytes xs) (hl : len ≤ 140737488355328) (hcap : len ≤ cap) (hcm : cap ≤ 9223372036854775807) (hb : b < n₀) (J Jx : List Pair → World → Prop)
    (hY : ∀ pre x W, J pre W → pre.length < len → YieldAt Fence.wide (n - 1) Try.prog l (pairs x) W fun e W' =>
      (e = .returned (.bool true) ∧ J (pre ++ [x]) W' ∧ Keep n₀ Bs W W') ∨ (e = .returned (.bool false) ∧ Jx (pre ++ [x]) W'))
    (W : World) (hcb : W.cell? ⟨Bs, 0, none⟩ = some (.slice (some ⟨b, off, none⟩) len cap)) (hs : Seg .u8 W (some ⟨b, off, none⟩) len xs) (hW : n₀ ≤ W.heap.size) (h0 : J [] W) :
    CallsIn Fence.wide n Try.prog 22 #[.func (.yield l) #[] #[], .pointer (some ⟨Bs, 0, none⟩)] W fun e W' => (∃ v, e = .returned v) ∧
      ((∃ ys, ys.map Subtype.val = tk xs 0 ∧ J ys W') ∨ (∃ pre, pre.map Subtype.val <+: tk xs 0 ∧ Jx pre W')) := by
  refine callsIn_of_wp Try.func22 rfl trivial ?_ rfl
  simp only [Try.ntmps22, List.size_toArray, List.length_cons, List.length_nil, Nat.reduceAdd, Nat.reduceSub, Array.replicate_succ, Array.replicate_zero, List.push_toArray, List.append_toArray, List.nil_append, List.cons_append]
  gi_wp2
  gi_loopw [3] (fun i wr => ∃ (k : Nat) (pre : List Pair), k ≤ len ∧ i = .int .i64 k ∧ J pre wr ∧ pre.length ≤ k ∧ tk xs 0 = pre.map Subtype.val ++ tk xs k ∧ Keep n₀ Bs W wr) (fun i _ => len - (intOf i).toNat)
  case atStart => exact ⟨0, [], Nat.zero_le _, rfl, h0, Nat.le_refl _, rfl, Keep.refl _ _ _⟩
  case round =>
    obtain ⟨k, pre, hk, rfl, hJs, hpk, htk, hnx⟩ := hrel
    have hcb' : wr.cell? ⟨Bs, 0, none⟩ = some (.slice (some ⟨b, off, none⟩) len cap) := hnx.cell.trans hcb
    have HS : Hid (Seg .u8 wr (some ⟨b, off, none⟩) len xs) := ⟨hs.1, by
      rcases hs.2 with h | ⟨b', off', e, h1, h2⟩
      · exact .inl h
      · cases e
        have := hnx.1.size
        exact .inr ⟨b, off, rfl, by omega, fun i hi => (hnx.1.cell (p := ⟨b, off + i, none⟩) hb).trans (h2 i hi)⟩⟩
    have HT : Hid (tk xs 0 = pre.map Subtype.val ++ tk xs k) := htk
    have HX : Hid (Bytes xs) := hx
    clear htk
    by_cases hlt : k < len
    · have hne : (cap : Int) ≠ (k : Int) := by omega
      gi_wp2
      refine ⟨trivial, ?_⟩
      refine (callsIn_wide.2 (decode_c _ (len - k) (cap - k) (xs.drop k) wr (seg_drop HS.out k hlt) (bytes_drop HX.out k) (by omega) (by omega))).mono ?_
      rintro e w' ⟨rfl, hw⟩
      subst hw
      have hbd := rd_bd (xs.drop k) (bytes_drop HX.out k)
      by_cases he : (rd (xs.drop k)).2.2 = 0
      · have hsz := rd_size (bytes_drop HX.out k) he
        rw [List.length_drop, HS.out.1] at hsz
        obtain ⟨V, m, hrd⟩ : ∃ (V : Int) (m : Nat), rd (xs.drop k) = (V, (m : Int), 0) := ⟨(rd (xs.drop k)).1, (rd (xs.drop k)).2.1.toNat, by
          apply Prod.ext
          · rfl
          · apply Prod.ext
            · show (rd (xs.drop k)).2.1 = ((rd (xs.drop k)).2.1.toNat : Int); omega
            · exact he⟩
        have HK : Hid (tk xs k = ((k : Int), V) :: tk xs (k + m)) := by
          have := tk_cons HX.out (by rw [HS.out.1]; exact hlt) he
          rw [hrd] at this
          exact this
        rw [hrd] at hsz hbd ⊢
        simp only at hsz hbd
        have hV := hbd.1
        have hm : 1 ≤ m ∧ m ≤ len - k := by omega
        clear hbd hsz hrd he
        obtain ⟨fn, tmps, assign, body, hy, hR⟩ := hY pre ⟨((k : Int), V), ⟨by omega, by simp only; omega⟩, hV⟩ w' hJs (by omega)
        dsimp only [pairs] at hy
        gi_wp2
        refine hR.mono ?_
        rintro e W3 (⟨rfl, hJ3, hk3⟩ | ⟨rfl, hJx3⟩)
        · gi_wp2
          go_roundw
          case rel =>
            refine ⟨k + m, _, by omega, by go_num, hJ3, by simp; omega, ?_, hnx.trans hk3⟩
            rw [HT.out, HK.out]; simp
          case measure => simp [intOf]; omega
        · gi_wp2
          refine bodyPost_ret (results_none rfl _ _ _) rfl ?_
          refine ⟨⟨_, rfl⟩, .inr ⟨_, ?_, hJx3⟩⟩
          rw [HT.out, HK.out]
          exact ⟨tk xs (k + m), by simp⟩
      · obtain ⟨V, m, E, hrd⟩ : ∃ V m E, rd (xs.drop k) = (V, m, E) := ⟨_, _, _, rfl⟩
        have HK : Hid (tk xs k = []) := tk_nil (fun h => he h.2)
        rw [hrd] at he ⊢
        simp only at he
        have hE : (E != 0) = true := by simpa using he
        clear hbd he hrd
        gi_wp2
        refine ⟨fun _ h => (by cases h), ?_⟩
        gi_wp2
        refine bodyPost_ret (results_none rfl _ _ _) rfl ?_
        exact ⟨⟨_, rfl⟩, .inl ⟨pre, by rw [HT.out, HK.out]; simp, hJs⟩⟩
    · obtain rfl : k = len := by omega
      gi_wp2
      go_end0
      exact ⟨⟨_, rfl⟩, .inl ⟨pre, by rw [HT.out, tk_nil (by have := HS.out.1; omega)]; simp, hJs⟩⟩

set_option maxRecDepth 100000 in
set_option maxHeartbeats 400000 in
/-- Over no bytes nothing is told. -/
theorem walk1_nil_in (n : Nat) (l Bs cap : Nat) (a : Option Addr) (J : List Pair → World → Prop) (W : World) (hcb : W.cell? ⟨Bs, 0, none⟩ = some (.slice a 0 cap)) (h0 : J [] W) :
    CallsIn Fence.wide n Try.prog 22 #[.func (.yield l) #[] #[], .pointer (some ⟨Bs, 0, none⟩)] W fun e W' => (∃ v, e = .returned v) ∧ J [] W' := by
  refine callsIn_of_wp Try.func22 rfl trivial ?_ rfl
  simp only [Try.ntmps22, List.size_toArray, List.length_cons, List.length_nil, Nat.reduceAdd, Nat.reduceSub, Array.replicate_succ, Array.replicate_zero, List.push_toArray, List.append_toArray, List.nil_append, List.cons_append]
  gi_wp2
  gi_loopw [3] (fun i wr => i = .int .i64 0 ∧ wr = W) (fun _ _ => 0)
  case atStart => exact ⟨rfl, rfl⟩
  case round =>
    obtain ⟨rfl, rfl⟩ := hrel
    gi_wp2
    go_end0
    exact ⟨⟨_, rfl⟩, h0⟩

theorem walk_stops (n : Nat) (hn : 1 ≤ n) (Bs n₀ : Nat) (a : Option Addr) (len cap : Nat) (xs : List Int) (hx : Bytes xs) (hl : len ≤ 140737488355328) (hcap : len ≤ cap) (hcm : cap ≤ 9223372036854775807)
    (w0 w : World) (hs : Seg .u8 w0 a len xs) (hb0 : Below w0.heap.size w0 w) (hn0 : w0.heap.size ≤ n₀) (hBs : Bs < w.heap.size) (hw : n₀ ≤ w.heap.size) (hc : w.cell? ⟨Bs, 0, none⟩ = some (.slice a len cap)) :
    SeqStopsK Fence.wide n Try.prog 22 #[.pointer (some ⟨Bs, 0, none⟩)] pairs (Keep n₀ Bs) (fun ys => ys.map Subtype.val = tk xs 0) (fun pre => pre.map Subtype.val <+: tk xs 0) len w := fun l J Jx W hW _ _ hY h0 => by
  have hc' := (hW.cell (p := ⟨Bs, 0, none⟩) hBs).trans hc
  have hsz := hW.size
  have hsW : Seg .u8 W a len xs := (hs.below hb0).below hW
  rcases hs.2 with rfl | ⟨b, off, rfl, hbw, _⟩
  · obtain rfl : xs = [] := List.eq_nil_of_length_eq_zero hs.1
    refine (walk1_nil_in n l Bs cap a J W hc' h0).mono fun e W' ⟨he, hj⟩ => ⟨he, .inl ⟨[], ?_, hj⟩⟩
    rw [tk_nil (by simp)]; rfl
  · exact walk1_in n hn l Bs n₀ b off len cap xs hx hl hcap hcm (by omega) J Jx hY W hc' hsW (by omega) h0
end Go.Proofs.Ytoihckfmppcbdaa
