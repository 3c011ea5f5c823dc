/-
  What frame.New answers, and what a Splitter's made, Waits, Junk, Lost, wait, skip and lose do, as plain data in a block of its own. No condition but that its numbers are below 2^62.
-/
import Derived.Test.YtbfbehjldloeoaaDoorRows
import Derived.Test.YtbfbehjldloeoaaDoorFBk
import Derived.Test.YtbfbehjldloeoaaDoorFa
import Derived.BigQuiet
namespace Go.Proofs.YtbfbehjldloeoaaDoor
set_option linter.unusedVariables false
open Go.RowKit

/-- A Splitter in a block of its own. -/
def Sp (w : World) (S T : Nat) (at_ en most junk lost : Int) (found : Value) : Prop := Bk 51 w S #[.pointer (some ⟨T, 0, none⟩), .int .i64 at_, .int .i64 en, .int .i64 most, .int .i64 junk, .int .i64 lost, found]
theorem Sp.cells {w S T a e m j l f} (h : Sp w S T a e m j l f) : w.cell? ⟨S, 0, none⟩ = some (.pointer (some ⟨T, 0, none⟩)) ∧ w.cell? ⟨S, 1, none⟩ = some (.int .i64 a) ∧ w.cell? ⟨S, 2, none⟩ = some (.int .i64 e) ∧ w.cell? ⟨S, 3, none⟩ = some (.int .i64 m) ∧ w.cell? ⟨S, 4, none⟩ = some (.int .i64 j) ∧ w.cell? ⟨S, 5, none⟩ = some (.int .i64 l) ∧ w.cell? ⟨S, 6, none⟩ = some f := ⟨h.cell 0, h.cell 1, h.cell 2, h.cell 3, h.cell 4, h.cell 5, h.cell 6⟩
theorem Sp.free {w S T a e m j l f} (h : Sp w S T a e m j l f) (i : Nat) : w.frozen? ⟨S, i, none⟩ = false := frozen_of_row w S i _ 51 h
theorem Sp.setJunk {w S T a e m j l f} (h : Sp w S T a e m j l f) (v : Int) : Sp (w.setCell ⟨S, 4, none⟩ (.int .i64 v)) S T a e m v l f := Bk.set h 4 _
theorem Sp.setAt {w S T a e m j l f} (h : Sp w S T a e m j l f) (v : Int) : Sp (w.setCell ⟨S, 1, none⟩ (.int .i64 v)) S T v e m j l f := Bk.set h 1 _
theorem Sp.setLost {w S T a e m j l f} (h : Sp w S T a e m j l f) (v : Int) : Sp (w.setCell ⟨S, 5, none⟩ (.int .i64 v)) S T a e m j v f := Bk.set h 5 _
theorem grown_set (w : World) (g i : Nat) (v : Value) : w.grownBy (w.setCell ⟨g, i, none⟩ v) (some g) :=
  ⟨rfl, rfl, rfl, by simp [World.setCell], fun k _ hk => Below.heap_setCell _ _ _ _ (fun e => hk (by rw [e]))⟩
theorem grown_trans {a b c : World} {row : Option Nat} (h : a.grownBy b row) (k : b.grownBy c row) : a.grownBy c row :=
  ⟨k.os.trans h.os, k.tape.trans h.tape, k.output.trans h.output, Nat.le_trans h.size k.size, fun i hi hn => (k.block i (Nat.lt_of_lt_of_le hi h.size) hn).trans (h.block i hi hn)⟩

set_option maxHeartbeats 1000000 in
theorem made_yes (S T : Nat) (a e m j l : Int) (f : Value) (w : World) (h : Sp w S T a e m j l f) : Calls Tryd.prog 14 #[.pointer (some ⟨S, 0, none⟩)] w fun r w' => r = .returned (.bool true) ∧ w' = w := by
  obtain ⟨c0, _⟩ := h.cells
  clear h
  go_enter Tryd.func14, Tryd.ntmps14
  go_wp2
  go_ret
  exact ⟨rfl, rfl⟩
set_option maxHeartbeats 1000000 in
theorem wait_c (p : Value) (w : World) : Calls Tryd.prog 29 #[p] w fun r w' => r = .returned (.bool false) ∧ w' = w := by
  go_enter Tryd.func29, Tryd.ntmps29
  go_wp2
  go_ret
  exact ⟨rfl, rfl⟩
set_option maxHeartbeats 1000000 in
theorem skip_c (S T : Nat) (a e m j l : Int) (f : Value) (w : World) (h : Sp w S T a e m j l f) (ha : 0 ≤ a ∧ a ≤ 4611686018427387904) (hj : 0 ≤ j ∧ j ≤ 4611686018427387904) :
    Calls Tryd.prog 21 #[.pointer (some ⟨S, 0, none⟩)] w fun r w' => r = .returned (.bool true) ∧ Sp w' S T (a + 1) e m (j + 1) l f ∧ w.grownBy w' (some S) := by
  have HS : Hid (Sp w S T a e m j l f) := h
  obtain ⟨_, c1, _, _, c4, _, _⟩ := h.cells
  have f1 := h.free 1
  have f4 := h.free 4
  clear h
  go_enter Tryd.func21, Tryd.ntmps21
  go_wp2
  go_ret
  exact ⟨rfl, (HS.out.setJunk (j + 1)).setAt (a + 1), grown_trans (grown_set w S 4 _) (grown_set _ S 1 _)⟩
set_option maxHeartbeats 1000000 in
theorem lose_c (S T : Nat) (a e m j l : Int) (f : Value) (w : World) (h : Sp w S T a e m j l f) (ha : 0 ≤ a ∧ a ≤ 4611686018427387904) (hj : 0 ≤ j ∧ j ≤ 4611686018427387904) (hl : 0 ≤ l ∧ l ≤ 4611686018427387904) :
    Calls Tryd.prog 30 #[.pointer (some ⟨S, 0, none⟩)] w fun r w' => r = .returned (.bool true) ∧ Sp w' S T (a + 1) e m (j + 1) (l + 1) f ∧ w.grownBy w' (some S) := by
  have HS : Hid (Sp w S T a e m j l f) := h
  have HC : Hid _ := skip_c S T a e m j (l + 1) f _ (h.setLost (l + 1)) ha hj
  obtain ⟨_, _, _, _, _, c5, _⟩ := h.cells
  have f5 := h.free 5
  clear h
  go_enter Tryd.func30, Tryd.ntmps30
  go_wp2_with (go_at_call 21; go_must (refine (Calls.mono HC.out ?_)); rintro r w1 ⟨rfl, h1, h2⟩; have H1 : Hid (Sp w1 S T (a + 1) e m (j + 1) (l + 1) f ∧ w.grownBy w1 (some S)) := ⟨h1, grown_trans (grown_set w S 5 _) h2⟩; clear h1 h2)
  go_ret
  exact ⟨rfl, H1.out⟩
set_option maxHeartbeats 1000000 in
theorem waits_c (S T : Nat) (a e m j l : Int) (f : Value) (w : World) (h : Sp w S T a e m j l f) (ha : 0 ≤ a ∧ a ≤ e) (he : e ≤ 4611686018427387904) : Calls Tryd.prog 34 #[.pointer (some ⟨S, 0, none⟩)] w fun r w' => r = .returned (.int .i64 (e - a)) ∧ Sp w' S T a e m j l f ∧ w.grownBy w' none := by
  have HS : Hid (Sp w S T a e m j l f) := h
  have HC : Hid _ := made_yes S T a e m j l f w h
  obtain ⟨_, c1, c2, _, _, _, _⟩ := h.cells
  clear h
  go_enter Tryd.func34, Tryd.ntmps34
  go_wp2_with (go_at_call 14; refine (Calls.mono HC.out ?_); rintro r w1 ⟨rfl, rfl⟩)
  go_quiet (fail)
  go_wp2
  go_ret
  exact ⟨rfl, HS.out, ⟨rfl, rfl, rfl, Nat.le_refl _, fun _ _ _ => rfl⟩⟩

theorem Sp.setFound {w S T a e m j l f} (h : Sp w S T a e m j l f) (v : Value) : Sp (w.setCell ⟨S, 6, none⟩ v) S T a e m j l v := Bk.set h 6 _
set_option maxHeartbeats 1000000 in
theorem handOut_c (S T : Nat) (a e m j l : Int) (p : Option Addr) (n k : Nat) (w : World) (h : Sp w S T a e m j l (.slice p n k)) :
    Calls Tryd.prog 20 #[.pointer (some ⟨S, 0, none⟩)] w fun r w' => r = .returned (.slice p n k) ∧ Sp w' S T a e m j l (.slice none 0 0) ∧ w.grownBy w' (some S) := by
  have HS : Hid (Sp w S T a e m j l (.slice p n k)) := h
  obtain ⟨_, _, _, _, _, _, c6⟩ := h.cells
  have f6 := h.free 6
  clear h
  go_enter Tryd.func20, Tryd.ntmps20
  go_wp2
  go_ret
  exact ⟨rfl, HS.out.setFound _, grown_set w S 6 _⟩
/-- What New answers. -/
def NewAns (w : World) (most : Int) (r : Ending) (w' : World) : Prop :=
  ∃ S T, r = .returned (.tuple #[.pointer (some ⟨S, 0, none⟩), .int .i64 0]) ∧ Sp w' S T 0 0 most 0 0 (.slice none 0 0) ∧ Bk 49 w' T #[.slice none 0 0, .slice none 0 0] ∧ w.heap.size ≤ T ∧ T < S ∧ Below w.heap.size w w'
/-- What left answers: the bytes from its place on. -/
def LeftAns (w : World) (a e : Nat) (xs : List Int) (r : Ending) (w' : World) : Prop :=
  (∃ p k, r = .returned (.slice p (e - a) k) ∧ Seg .u8 w p (e - a) ((xs.take e).drop a) ∧ e - a ≤ k) ∧ ∃ q, w' = w.drewN q
theorem left_seg {w : World} {g : Option Addr} {a e n k : Nat} {xs : List Int} (hs : Seg .u8 w g n xs) (hn : g = none → k = 0) (ha : a ≤ e) (he : e ≤ n) (hk : n ≤ k) : Seg .u8 w (if k = a then g else Option.map (fun x => x.add a) g) (e - a) ((xs.take e).drop a) := by
  have hl : ((xs.take e).drop a).length = e - a := by rw [List.length_drop, List.length_take, hs.1]; omega
  by_cases h0 : e - a = 0
  · exact ⟨hl, .inl h0⟩
  · have hka : ¬ k = a := by omega
    rw [if_neg hka]
    obtain ⟨b, off, rfl, hb, hc⟩ := hs.2.resolve_left (by omega)
    refine ⟨hl, .inr ⟨b, off + a, ?_, hb, fun i hi => ?_⟩⟩
    · simp [Addr.add]
    · rw [Nat.add_assoc, hc (a + i) (by omega), List.getElem?_drop, List.getElem?_take_of_lt (by omega)]

set_option maxHeartbeats 2000000 in
theorem new_c (most : Int) (h0 : 0 ≤ most) (h1 : most ≤ 1048576) (w : World) : Calls Tryd.prog 7 #[.int .i64 most] w (NewAns w most) := by
  have c0 : ¬ most < 0 := by omega
  have c1 : ¬ 1048576 < most := by omega
  go_enter Tryd.func7, Tryd.ntmps7
  go_wp2
  go_ret2
  refine ⟨w.heap.size + 1, w.heap.size, rfl, ?_, ?_, Nat.le_refl _, Nat.lt_succ_self _, ((Below.refl _ _).alloc (Nat.le_refl _) _).alloc (by simp) _⟩
  · have := heap_new (w.alloc (.cells #[.slice none 0 0, .slice none 0 0] 49)) (.cells #[.pointer (some ⟨w.heap.size, 0, none⟩), .int .i64 0, .int .i64 0, .int .i64 most, .int .i64 0, .int .i64 0, .slice none 0 0] 51)
    rw [World.size_alloc] at this
    exact this
  · exact Bk.below (T := 49) (heap_new w _) ((Below.refl _ _).alloc (Nat.le_refl _) _) (by simp)
set_option maxHeartbeats 2000000 in
theorem new_no (most : Int) (h : most < 0 ∨ 1048576 < most) (w : World) : Calls Tryd.prog 7 #[.int .i64 most] w fun r w' => r = .returned (.tuple #[.pointer none, .int .i64 1]) ∧ w' = w := by
  rcases h with h | h
  · go_enter Tryd.func7, Tryd.ntmps7
    go_wp2
    go_ret2
    exact ⟨rfl, rfl⟩
  · have c0 : ¬ most < 0 := by omega
    go_enter Tryd.func7, Tryd.ntmps7
    go_wp2
    go_ret2
    exact ⟨rfl, rfl⟩
set_option maxHeartbeats 2000000 in
theorem left_c (S T B a e n : Nat) (m j l : Int) (f v u : Value) (xs : List Int) (w : World) (h : Sp w S T a e m j l f) (ht : Bk 49 w T #[v, u]) (ho : Own B w v n xs) (ha : a ≤ e) (he : e ≤ n) :
    Calls Tryd.prog 38 #[.pointer (some ⟨S, 0, none⟩)] w (LeftAns w a e xs) := by
  obtain ⟨c0, c1, c2, _⟩ := h.cells
  have t0 : w.cell? ⟨T, 0, none⟩ = some v := ht.cell 0
  obtain ⟨g, k, rfl, hs, hn, hk⟩ := ho.seg
  have hkm : k ≤ maxLen := by
    rcases ho.2 with ⟨h', _⟩ | ⟨_, _, _, h', _, _, _, h2, _⟩
    · cases h'; unfold maxLen; omega
    · cases h'; exact h2
  have i1 : (0 : Int) ≤ (a : Int) := by omega
  have i2 : (a : Int) ≤ (e : Int) := by omega
  have i3 : (e : Int) ≤ (k : Int) := by omega
  have i4 : (0 : Int) ≤ (e : Int) := by omega
  have HS : Hid (Seg .u8 w g n xs) := hs
  have HN : Hid (g = none → k = 0) := hn
  unfold maxLen at hkm
  have HSG : Hid _ := left_seg HS.out HN.out ha he hk
  clear h ht ho hs hn
  by_cases hka : k = a
  · rw [if_pos hka] at HSG
    have HZ : Hid (e = a ∧ n = a) := ⟨by omega, by omega⟩
    have z1 : e - a = 0 := by omega
    go_enter Tryd.func38, Tryd.ntmps38
    go_wp2
    go_quiet (fail)
    all_goals go_wp2
    all_goals go_ret
    all_goals first
      | exact ⟨⟨_, _, rfl, HSG.out, by omega⟩, _, rfl⟩
      | exact ⟨⟨g, 0, by rw [z1]; rfl, HSG.out, by omega⟩, _, rfl⟩
  · rw [if_neg hka] at HSG
    go_enter Tryd.func38, Tryd.ntmps38
    go_wp2
    go_quiet (fail)
    all_goals go_wp2
    all_goals go_ret
    all_goals first
      | exact ⟨⟨_, _, rfl, HSG.out, by omega⟩, _, rfl⟩
      | exact ⟨⟨_, _, by rw [if_neg hka], HSG.out, by omega⟩, _, rfl⟩
end Go.Proofs.YtbfbehjldloeoaaDoor
