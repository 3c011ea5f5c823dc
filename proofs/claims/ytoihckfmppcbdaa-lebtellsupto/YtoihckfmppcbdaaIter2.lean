/-
  What leb's inner iterator does where the body keeps no more than the iterator's own two blocks. Condition: the slice can be read, holds a byte, and its length is one that a machine has.
-/
import Derived.Test.YtoihckfmppcbdaaIter
import Derived.RangeFuncNested
import Derived.RangeFuncBound
import Derived.RangeFuncCalls
import Derived.RangeFuncFrom
import Derived.RangeFuncBox
import Derived.RangeFuncLeaves
import Derived.Shelf.Abstract
import Derived.OwnWalkIn
import Derived.TacticsInMore
import Derived.LoopNIn
import Derived.LoopIn
namespace Go.Proofs.Ytoihckfmppcbdaa
open Go.RowKit Go.Shelf
set_option linter.unusedVariables false
attribute [local go_sem] Oper.semAt_some

/-- What a loop's body keeps: the bytes' block, and block Bs. -/
def Two (Bs b : Nat) (A B : World) : Prop := B.heap[b]? = A.heap[b]? ∧ B.heap[Bs]? = A.heap[Bs]? ∧ A.heap.size ≤ B.heap.size
theorem Two.refl (Bs b : Nat) (A : World) : Two Bs b A A := ⟨rfl, rfl, Nat.le_refl _⟩
theorem Two.trans {Bs b : Nat} {A B C : World} (h : Two Bs b A B) (k : Two Bs b B C) : Two Bs b A C := ⟨k.1.trans h.1, k.2.1.trans h.2.1, Nat.le_trans h.2.2 k.2.2⟩
theorem Two.cell {Bs b : Nat} {A B : World} (h : Two Bs b A B) : B.cell? ⟨Bs, 0, none⟩ = A.cell? ⟨Bs, 0, none⟩ := World.cell?_of_block (w := A) h.2.1
theorem Two.put {Bs b : Nat} {w : World} (hb : b < w.heap.size) (hBs : Bs < w.heap.size) (W : World) (l : Nat) (o o' : Obj) (hl : w.heap.size ≤ l) (h : W.heap[l]? = some o) (h1 : o.isCells = false) (h2 : o.isWalk = false) : Two Bs b W (W.putObj l o') := by
  have g1 := grownBy_putObj' W l o'
  have hlt := (Array.getElem?_eq_some_iff.1 h).1
  exact ⟨g1.block b (by omega) (fun e => by cases e; omega), g1.block Bs (by omega) (fun e => by cases e; omega), g1.size⟩

set_option maxRecDepth 100000 in
set_option maxHeartbeats 1000000 in
theorem walk2_in (n : Nat) (hn : 1 ≤ n) (l Bs b off len cap : Nat) (xs : List Int) (hx : Bytes xs) (hl : len ≤ 140737488355328) (hcap : len ≤ cap) (hcm : cap ≤ 9223372036854775807) (J Jx : List Pair → World → Prop)
    (hY : ∀ pre x W, J pre W → pre.length < len → YieldAt Fence.wide (n - 1) Try.prog l (pairs x) W fun e W' =>
      (e = .returned (.bool true) ∧ J (pre ++ [x]) W' ∧ Two Bs b W W') ∨ (e = .returned (.bool false) ∧ Jx (pre ++ [x]) W'))
    (W : World) (hcb : W.cell? ⟨Bs, 0, none⟩ = some (.slice (some ⟨b, off, none⟩) len cap)) (hs : Seg .u8 W (some ⟨b, off, none⟩) len xs) (h0 : J [] W) :
    CallsIn Fence.wide n Try.prog 22 #[.func (.yield l) #[] #[], .pointer (some ⟨Bs, 0, none⟩)] W fun e W' => (∃ v, e = .returned v) ∧
      ((∃ ys, ys.map Subtype.val = tk xs 0 ∧ J ys W') ∨ (∃ pre, pre.map Subtype.val <+: tk xs 0 ∧ Jx pre W')) := by
  refine callsIn_of_wp Try.func22 rfl trivial ?_ rfl
  simp only [Try.ntmps22, List.size_toArray, List.length_cons, List.length_nil, Nat.reduceAdd, Nat.reduceSub, Array.replicate_succ, Array.replicate_zero, List.push_toArray, List.append_toArray, List.nil_append, List.cons_append]
  gi_wp2
  gi_loopw [3] (fun i wr => ∃ (k : Nat) (pre : List Pair), k ≤ len ∧ i = .int .i64 k ∧ J pre wr ∧ pre.length ≤ k ∧ tk xs 0 = pre.map Subtype.val ++ tk xs k ∧ Two Bs b W wr) (fun i _ => len - (intOf i).toNat)
  case atStart => exact ⟨0, [], Nat.zero_le _, rfl, h0, Nat.le_refl _, rfl, Two.refl _ _ _⟩
  case round =>
    obtain ⟨k, pre, hk, rfl, hJs, hpk, htk, hnx⟩ := hrel
    have hcb' : wr.cell? ⟨Bs, 0, none⟩ = some (.slice (some ⟨b, off, none⟩) len cap) := hnx.cell.trans hcb
    have HS : Hid (Seg .u8 wr (some ⟨b, off, none⟩) len xs) := ⟨hs.1, by
      rcases hs.2 with h | ⟨b', off', e, h1, h2⟩
      · exact .inl h
      · cases e
        have := hnx.2.2
        exact .inr ⟨b, off, rfl, by omega, fun i hi => (World.cell?_of_block (w := W) (a := ⟨b, off + i, none⟩) hnx.1).trans (h2 i hi)⟩⟩
    have HT : Hid (tk xs 0 = pre.map Subtype.val ++ tk xs k) := htk
    have HX : Hid (Bytes xs) := hx
    clear htk
    by_cases hlt : k < len
    · have hne : (cap : Int) ≠ (k : Int) := by omega
      gi_wp2
      refine ⟨trivial, ?_⟩
      refine (callsIn_wide.2 (decode_c _ (len - k) (cap - k) (xs.drop k) wr (seg_drop HS.out k hlt) (bytes_drop HX.out k) (by omega) (by omega))).mono ?_
      rintro e w' ⟨rfl, hw⟩
      subst hw
      have hbd := rd_bd (xs.drop k) (bytes_drop HX.out k)
      by_cases he : (rd (xs.drop k)).2.2 = 0
      · have hsz := rd_size (bytes_drop HX.out k) he
        rw [List.length_drop, HS.out.1] at hsz
        obtain ⟨V, m, hrd⟩ : ∃ (V : Int) (m : Nat), rd (xs.drop k) = (V, (m : Int), 0) := ⟨(rd (xs.drop k)).1, (rd (xs.drop k)).2.1.toNat, by
          apply Prod.ext
          · rfl
          · apply Prod.ext
            · show (rd (xs.drop k)).2.1 = ((rd (xs.drop k)).2.1.toNat : Int); omega
            · exact he⟩
        have HK : Hid (tk xs k = ((k : Int), V) :: tk xs (k + m)) := by
          have := tk_cons HX.out (by rw [HS.out.1]; exact hlt) he
          rw [hrd] at this
          exact this
        rw [hrd] at hsz hbd ⊢
        simp only at hsz hbd
        have hV := hbd.1
        have hm : 1 ≤ m ∧ m ≤ len - k := by omega
        clear hbd hsz hrd he
        obtain ⟨fn, tmps, assign, body, hy, hR⟩ := hY pre ⟨((k : Int), V), ⟨by omega, by simp only; omega⟩, hV⟩ w' hJs (by omega)
        dsimp only [pairs] at hy
        gi_wp2
        refine hR.mono ?_
        rintro e W3 (⟨rfl, hJ3, hk3⟩ | ⟨rfl, hJx3⟩)
        · gi_wp2
          go_roundw
          case rel =>
            refine ⟨k + m, _, by omega, by go_num, hJ3, by simp; omega, ?_, hnx.trans hk3⟩
            rw [HT.out, HK.out]; simp
          case measure => simp [intOf]; omega
        · gi_wp2
          refine bodyPost_ret (results_none rfl _ _ _) rfl ?_
          refine ⟨⟨_, rfl⟩, .inr ⟨_, ?_, hJx3⟩⟩
          rw [HT.out, HK.out]
          exact ⟨tk xs (k + m), by simp⟩
      · obtain ⟨V, m, E, hrd⟩ : ∃ V m E, rd (xs.drop k) = (V, m, E) := ⟨_, _, _, rfl⟩
        have HK : Hid (tk xs k = []) := tk_nil (fun h => he h.2)
        rw [hrd] at he ⊢
        simp only at he
        have hE : (E != 0) = true := by simpa using he
        clear hbd he hrd
        gi_wp2
        refine ⟨fun _ h => (by cases h), ?_⟩
        gi_wp2
        refine bodyPost_ret (results_none rfl _ _ _) rfl ?_
        exact ⟨⟨_, rfl⟩, .inl ⟨pre, by rw [HT.out, HK.out]; simp, hJs⟩⟩
    · obtain rfl : k = len := by omega
      gi_wp2
      go_end0
      exact ⟨⟨_, rfl⟩, .inl ⟨pre, by rw [HT.out, tk_nil (by have := HS.out.1; omega)]; simp, hJs⟩⟩

theorem walk_stops2 (n : Nat) (hn : 1 ≤ n) (Bs b off len cap : Nat) (xs : List Int) (hx : Bytes xs) (hl : len ≤ 140737488355328) (hcap : len ≤ cap) (hcm : cap ≤ 9223372036854775807)
    (w : World) (hs : Seg .u8 w (some ⟨b, off, none⟩) len xs) (hBs : Bs < w.heap.size) (hc : w.cell? ⟨Bs, 0, none⟩ = some (.slice (some ⟨b, off, none⟩) len cap)) :
    SeqStopsK Fence.wide n Try.prog 22 #[.pointer (some ⟨Bs, 0, none⟩)] pairs (Two Bs b) (fun ys => ys.map Subtype.val = tk xs 0) (fun pre => pre.map Subtype.val <+: tk xs 0) len w := fun l J Jx W hW _ _ hY h0 => by
  have hc' := (hW.cell (p := ⟨Bs, 0, none⟩) hBs).trans hc
  exact walk2_in n hn l Bs b off len cap xs hx hl hcap hcm J Jx hY W hc' (hs.below hW) h0
end Go.Proofs.Ytoihckfmppcbdaa
