/-
  What disk's New answers of no files; what the methods of a disk answer that no call made: nothing, and ErrMade. Condition: the room is 0 to 67108864.
-/
import Derived.Test.YtadnececnaciiaaKBa
import Derived.Laws.Cover3
namespace Go.Proofs.Ytadnececnaciiaa
open Go.RowKit
set_option linter.unusedVariables false

theorem gbK_trans {a b c : World} {row : Option Nat} (h : a.grownBy b row) (k : b.grownBy c row) : a.grownBy c row := World.grownBy.trans h k
theorem gbK_below {a b : World} (h : a.grownBy b none) : Below a.heap.size a b := (Below.refl _ _).grown h (Nat.le_refl _) (fun k hk => by cases hk)
theorem below_gbK {a b : World} (h : Below a.heap.size a b) : a.grownBy b none := ⟨h.os, h.tape, h.output, h.size, fun i hi _ => h.block i hi⟩
/-- A disk's cells. -/
def dcells (room free : Int) (s l : Option Nat) (st : Value) (pend acts fail : Int) (down : Bool) : Array Value := #[.int .i64 room, .int .i64 free, .map s, .map l, st, .int .i64 pend, .int .i64 acts, .int .i64 fail, .bool down]
theorem new0_c (room : Int) (w : World) (h0 : 0 ≤ room) (h1 : room ≤ 67108864) : Calls Try.prog 10 #[.int .i64 room, .slice none 0 0] w fun r w' =>
    ∃ g s l, r = .returned (.tuple #[.pointer (some ⟨g, 0, none⟩), .int .i64 0]) ∧ Bk 52 w' g (dcells room room (some s) (some l) (.slice none 0 0) 0 0 0 false) ∧ Mp0 w' s ∧ Mp0 w' l ∧ s ≠ l ∧ w.heap.size ≤ g ∧ w.heap.size ≤ s ∧ w.heap.size ≤ l ∧ w.grownBy w' none := by
  have h2 := @run_makeMap Try.prog
  have H3 : Hid (Mp0 (w.alloc (.map #[] 0)) w.heap.size) := ⟨0, heap_alloc_new w _⟩
  have HC : Hid (Calls Try.prog 38 #[.map (some w.heap.size)] (w.alloc (.map #[] 0)) fun r w' => ∃ m, r = .returned (.map (some m)) ∧ Mp0 w' m ∧ (w.alloc (.map #[] 0)).heap.size ≤ m ∧ (w.alloc (.map #[] 0)).grownBy w' none) := copied_c _ _ H3.out
  have q0 : ¬ room < 0 := by omega
  have q1 : ¬ 67108864 < room := by omega
  clear h0 h1
  go_enter Try.func10, Try.ntmps10
  go_wp2
  refine wp_loop_rounds 1 ?_
  rw [rounds_succ]
  go_wp2_with (go_at_call 38; go_must (refine (Calls.mono HC.out ?_)); rintro r w1 ⟨m, rfl, k1, k2, k3⟩; have H1 : Hid (Mp0 w1 m ∧ (w.alloc (.map #[] 0)).heap.size ≤ m ∧ (w.alloc (.map #[] 0)).grownBy w1 none) := ⟨k1, k2, k3⟩; clear k1 k2 k3)
  go_ret2
  have g0 := World.grownBy_alloc w (.map #[] 0) none
  have g2 := World.grownBy_alloc w1 (.cells (dcells room room (some m) (some w.heap.size) (.slice none 0 0) 0 0 0 false) 52) none
  have hs := H1.out.2.1
  have hz := H1.out.2.2.size
  rw [World.size_alloc] at hs hz
  exact ⟨w1.heap.size, m, w.heap.size, rfl, (blk_new w1 52 _).1, H1.out.1.grew g2, (H3.out.grew H1.out.2.2).grew g2, by omega, by omega, by omega, Nat.le_refl _, gbK_trans g0 (gbK_trans H1.out.2.2 g2)⟩
/-- A disk that no call made: nil, or a zero value. -/
def Und (w : World) (p : Value) : Prop := p = .pointer none ∨ ∃ Z, p = .pointer (some ⟨Z, 0, none⟩) ∧ w.cell? ⟨Z, 2, none⟩ = some (.map none)
theorem Und.below {w w' : World} {p : Value} (h : Und w p) (hb : Below w.heap.size w w') : Und w' p := by
  rcases h with h | ⟨Z, h1, h2⟩
  · exact .inl h
  · refine .inr ⟨Z, h1, (hb.cell (p := ⟨Z, 2, none⟩) ?_).trans h2⟩
    rcases Nat.lt_or_ge Z w.heap.size with h' | h'
    · exact h'
    · simp [World.cell?, h'] at h2
theorem neq_map0 (m : Option Nat) : ∀ W, (binOp .neq 49 (.map m) (.map none)).run Try.prog W = .ok (.bool (!m.isNone)) W := fun W => by
  simp [binOp, go_sem, run_equal_map_nil W 49 _ _ m Try.underlying49]
theorem made_no (p : Value) (w : World) (h : Und w p) : Calls Try.prog 42 #[p] w fun r w' => r = .returned (.bool false) ∧ w' = w := by
  rcases h with rfl | ⟨Z, rfl, hc⟩
  · go_enter Try.func42, Try.ntmps42
    go_wp2
    go_ret
    exact ⟨rfl, rfl⟩
  · have hz := neq_map0 none
    go_enter Try.func42, Try.ntmps42
    go_wp2
    go_ret
    exact ⟨rfl, rfl⟩
theorem ready_no (p : Value) (a : Option Addr) (n c : Nat) (w : World) (h : Und w p) : Calls Try.prog 39 #[p, .slice a n c] w fun r w' => r = .returned (.int .i64 2) ∧ w' = w := by
  have HC : Hid _ := made_no p w h
  clear h
  go_enter Try.func39, Try.ntmps39
  go_wp2_with (go_at_call 42; refine (Calls.mono HC.out ?_); rintro r w1 ⟨rfl, rfl⟩)
  go_ret
  exact ⟨rfl, rfl⟩
theorem dfail_no (p : Value) (n : Int) (w : World) (h : Und w p) : Calls Try.prog 17 #[p, .int .i64 n] w fun r w' => r = .returned (.tuple #[]) ∧ w' = w := by
  have HC : Hid _ := made_no p w h
  clear h
  go_enter Try.func17, Try.ntmps17
  go_wp2_with (go_at_call 42; refine (Calls.mono HC.out ?_); rintro r w1 ⟨rfl, rfl⟩)
  refine bodyPost_ret (v := .tuple #[]) (by simp [results, Try.results17]) rfl ?_
  exact ⟨rfl, rfl⟩
theorem crash_no (p : Value) (n : Int) (w : World) (h : Und w p) : Calls Try.prog 18 #[p, .int .i64 n] w fun r w' => r = .returned (.tuple #[]) ∧ w' = w := by
  have HC : Hid _ := made_no p w h
  clear h
  go_enter Try.func18, Try.ntmps18
  go_wp2_with (go_at_call 42; refine (Calls.mono HC.out ?_); rintro r w1 ⟨rfl, rfl⟩)
  refine bodyPost_ret (v := .tuple #[]) (by simp [results, Try.results18]) rfl ?_
  exact ⟨rfl, rfl⟩
theorem start_no (p : Value)  (w : World) (h : Und w p) : Calls Try.prog 19 #[p] w fun r w' => r = .returned (.tuple #[]) ∧ w' = w := by
  have HC : Hid _ := made_no p w h
  clear h
  go_enter Try.func19, Try.ntmps19
  go_wp2_with (go_at_call 42; refine (Calls.mono HC.out ?_); rintro r w1 ⟨rfl, rfl⟩)
  go_end0
  exact ⟨rfl, rfl⟩
theorem down_no (p : Value)  (w : World) (h : Und w p) : Calls Try.prog 22 #[p] w fun r w' => r = .returned (.bool false) ∧ w' = w := by
  have HC : Hid _ := made_no p w h
  clear h
  go_enter Try.func22, Try.ntmps22
  go_wp2_with (go_at_call 42; refine (Calls.mono HC.out ?_); rintro r w1 ⟨rfl, rfl⟩)
  go_ret
  exact ⟨rfl, rfl⟩
theorem names_no (p : Value)  (w : World) (h : Und w p) : Calls Try.prog 23 #[p] w fun r w' => r = .returned (.slice none 0 0) ∧ w' = w := by
  have HC : Hid _ := made_no p w h
  clear h
  go_enter Try.func23, Try.ntmps23
  go_wp2_with (go_at_call 42; refine (Calls.mono HC.out ?_); rintro r w1 ⟨rfl, rfl⟩)
  go_ret
  exact ⟨rfl, rfl⟩
theorem files_no (p : Value)  (w : World) (h : Und w p) : Calls Try.prog 24 #[p] w fun r w' => r = .returned (.slice none 0 0) ∧ w' = w := by
  have HC : Hid _ := made_no p w h
  clear h
  go_enter Try.func24, Try.ntmps24
  go_wp2_with (go_at_call 42; refine (Calls.mono HC.out ?_); rintro r w1 ⟨rfl, rfl⟩)
  go_ret
  exact ⟨rfl, rfl⟩
theorem left_no (p : Value) (n : Int) (w : World) (h : Und w p) : Calls Try.prog 25 #[p, .int .i64 n] w fun r w' => r = .returned (.slice none 0 0) ∧ w' = w := by
  have HC : Hid _ := made_no p w h
  clear h
  go_enter Try.func25, Try.ntmps25
  go_wp2_with (go_at_call 42; refine (Calls.mono HC.out ?_); rintro r w1 ⟨rfl, rfl⟩)
  go_ret
  exact ⟨rfl, rfl⟩
theorem free_no (p : Value)  (w : World) (h : Und w p) : Calls Try.prog 12 #[p] w fun r w' => r = .returned (.int .i64 0) ∧ w' = w := by
  have HC : Hid _ := made_no p w h
  clear h
  go_enter Try.func12, Try.ntmps12
  go_wp2_with (go_at_call 42; refine (Calls.mono HC.out ?_); rintro r w1 ⟨rfl, rfl⟩)
  go_ret
  exact ⟨rfl, rfl⟩
theorem acts_no (p : Value)  (w : World) (h : Und w p) : Calls Try.prog 26 #[p] w fun r w' => r = .returned (.int .i64 0) ∧ w' = w := by
  have HC : Hid _ := made_no p w h
  clear h
  go_enter Try.func26, Try.ntmps26
  go_wp2_with (go_at_call 42; refine (Calls.mono HC.out ?_); rintro r w1 ⟨rfl, rfl⟩)
  go_ret
  exact ⟨rfl, rfl⟩
theorem pending_no (p : Value)  (w : World) (h : Und w p) : Calls Try.prog 27 #[p] w fun r w' => r = .returned (.int .i64 0) ∧ w' = w := by
  have HC : Hid _ := made_no p w h
  clear h
  go_enter Try.func27, Try.ntmps27
  go_wp2_with (go_at_call 42; refine (Calls.mono HC.out ?_); rintro r w1 ⟨rfl, rfl⟩)
  go_ret
  exact ⟨rfl, rfl⟩
theorem create_no (p : Value) (s : ByteArray) (w : World) (h : Und w p) : Calls Try.prog 11 #[p, .string s] w fun r w' => r = .returned (.int .i64 2) ∧ Below w.heap.size w w' := by
  have HC : Hid (∀ W a n c, Below w.heap.size w W → Calls Try.prog 39 #[p, .slice a n c] W fun r w' => r = .returned (.int .i64 2) ∧ w' = W) := fun W a n c hb => ready_no p a n c W (h.below hb)
  have HB : Hid (∀ o, Below w.heap.size w (w.alloc o)) := fun o => (Below.refl _ _).alloc (Nat.le_refl _) _
  clear h
  go_enter Try.func11, Try.ntmps11
  go_wp2_with (go_at_call 39; refine (Calls.mono (HC.out _ _ _ _ (HB.out _)) ?_); rintro r w1 ⟨rfl, rfl⟩)
  go_ret
  exact ⟨rfl, HB.out _⟩
theorem find_no (p : Value) (s : ByteArray) (w : World) (h : Und w p) : Calls Try.prog 63 #[p, .string s] w fun r w' => r = .returned (.tuple #[.slice none 0 0, .int .i64 2]) ∧ Below w.heap.size w w' := by
  have HC : Hid (∀ W a n c, Below w.heap.size w W → Calls Try.prog 39 #[p, .slice a n c] W fun r w' => r = .returned (.int .i64 2) ∧ w' = W) := fun W a n c hb => ready_no p a n c W (h.below hb)
  have HB : Hid (∀ o, Below w.heap.size w (w.alloc o)) := fun o => (Below.refl _ _).alloc (Nat.le_refl _) _
  clear h
  go_enter Try.func63, Try.ntmps63
  go_wp2_with (go_at_call 39; refine (Calls.mono (HC.out _ _ _ _ (HB.out _)) ?_); rintro r w1 ⟨rfl, rfl⟩)
  go_ret2
  exact ⟨rfl, HB.out _⟩
theorem rename_no (p : Value) (s t : ByteArray) (w : World) (h : Und w p) : Calls Try.prog 59 #[p, .string s, .string t] w fun r w' => r = .returned (.int .i64 2) ∧ Below w.heap.size w w' := by
  have HC : Hid (∀ W a n c, Below w.heap.size w W → Calls Try.prog 39 #[p, .slice a n c] W fun r w' => r = .returned (.int .i64 2) ∧ w' = W) := fun W a n c hb => ready_no p a n c W (h.below hb)
  have HB : Hid (∀ o, Below w.heap.size w (w.alloc o)) := fun o => (Below.refl _ _).alloc (Nat.le_refl _) _
  clear h
  go_enter Try.func59, Try.ntmps59
  go_wp2_with (go_at_call 39; refine (Calls.mono (HC.out _ _ _ _ (HB.out _)) ?_); rintro r w1 ⟨rfl, rfl⟩)
  go_ret
  exact ⟨rfl, HB.out _⟩
theorem sync_no (p : Value) (w : World) (h : Und w p) : Calls Try.prog 30 #[p] w fun r w' => r = .returned (.int .i64 2) ∧ w' = w := by
  have HC : Hid (∀ a n c, Calls Try.prog 39 #[p, .slice a n c] w fun r w' => r = .returned (.int .i64 2) ∧ w' = w) := fun a n c => ready_no p a n c w h
  clear h
  go_enter Try.func30, Try.ntmps30
  go_wp2_with (go_at_call 39; refine (Calls.mono (HC.out _ _ _) ?_); rintro r w1 ⟨rfl, rfl⟩)
  go_ret
  exact ⟨rfl, rfl⟩
theorem append_no (p : Value) (s : ByteArray) (a : Option Addr) (n c : Nat) (w : World) (h : Und w p) : Calls Try.prog 57 #[p, .string s, .slice a n c] w fun r w' => r = .returned (.int .i64 2) ∧ Below w.heap.size w w' := by
  have HC : Hid _ := find_no p s w h
  clear h
  go_enter Try.func57, Try.ntmps57
  go_wp2_with (go_at_call 63; refine (Calls.mono HC.out ?_); rintro r w1 ⟨rfl, hb⟩; have H1 : Hid (Below w.heap.size w w1) := hb; clear hb)
  go_ret
  exact ⟨rfl, H1.out⟩
theorem cut_no (p : Value) (s : ByteArray) (n : Int) (w : World) (h : Und w p) : Calls Try.prog 58 #[p, .string s, .int .i64 n] w fun r w' => r = .returned (.int .i64 2) ∧ Below w.heap.size w w' := by
  have HC : Hid _ := find_no p s w h
  clear h
  go_enter Try.func58, Try.ntmps58
  go_wp2_with (go_at_call 63; refine (Calls.mono HC.out ?_); rintro r w1 ⟨rfl, hb⟩; have H1 : Hid (Below w.heap.size w w1) := hb; clear hb)
  go_ret
  exact ⟨rfl, H1.out⟩
theorem remove_no (p : Value) (s : ByteArray) (w : World) (h : Und w p) : Calls Try.prog 60 #[p, .string s] w fun r w' => r = .returned (.int .i64 2) ∧ Below w.heap.size w w' := by
  have HC : Hid _ := find_no p s w h
  clear h
  go_enter Try.func60, Try.ntmps60
  go_wp2_with (go_at_call 63; refine (Calls.mono HC.out ?_); rintro r w1 ⟨rfl, hb⟩; have H1 : Hid (Below w.heap.size w w1) := hb; clear hb)
  go_ret
  exact ⟨rfl, H1.out⟩
theorem read_no (p : Value) (s : ByteArray) (w : World) (h : Und w p) : Calls Try.prog 20 #[p, .string s] w fun r w' => r = .returned (.tuple #[.slice none 0 0, .int .i64 2]) ∧ Below w.heap.size w w' := by
  have HC : Hid _ := find_no p s w h
  clear h
  go_enter Try.func20, Try.ntmps20
  go_wp2_with (go_at_call 63; refine (Calls.mono HC.out ?_); rintro r w1 ⟨rfl, hb⟩; have H1 : Hid (Below w.heap.size w w1) := hb; clear hb)
  go_ret2
  exact ⟨rfl, H1.out⟩
theorem size_no (p : Value) (s : ByteArray) (w : World) (h : Und w p) : Calls Try.prog 21 #[p, .string s] w fun r w' => r = .returned (.tuple #[.int .i64 0, .int .i64 2]) ∧ Below w.heap.size w w' := by
  have HC : Hid _ := find_no p s w h
  clear h
  go_enter Try.func21, Try.ntmps21
  go_wp2_with (go_at_call 63; refine (Calls.mono HC.out ?_); rintro r w1 ⟨rfl, hb⟩; have H1 : Hid (Below w.heap.size w w1) := hb; clear hb)
  go_ret2
  exact ⟨rfl, H1.out⟩
end Go.Proofs.Ytadnececnaciiaa
