/-
  Proved: for every list of calls that holds at most 1048576 values and letters hawserlaw03.PackWrites answers true: a writer tells what the document's tells, wherever it is looked at and at the end. The condition is the second form's.
-/
import Derived.Test.YtdedmmodlbnnfaaRows
import Derived.Test.YtdedmmodlbnnfaaWro
import Derived.WalkKit
import Derived.ProofKit
import Derived.OpenShut
import Derived.ShutString
import Derived.ChangeOld
import Derived.Below
import Derived.Lib.SmallJoins
import Derived.JoinedCond
namespace Go.Proofs.Ytdedmmodlbnnfaa.packWrites
open Go.ChangeShapes Go.WideShapes Go.ChangeAt Go.RowKit
set_option linter.unusedVariables false

theorem own : ownKnob Try.prog.godebug = none := by kernel_rfl
theorem laidOut : laidOutB Try.prog = true := by kernel_rfl

theorem weight_take (X : List OpD) (k : Nat) (o : OpD) (h : X[k]? = some o) : opsWeight (X.take (k + 1)) = opsWeight (X.take k) + o.weight := by
  have hk := (List.getElem?_eq_some_iff.1 h).1
  rw [List.take_succ_eq_append_getElem hk]
  have he : X[k] = o := by rw [List.getElem?_eq_getElem hk] at h; exact Option.some.inj h
  simp [opsWeight, he]
theorem weight_take_le (X : List OpD) (k : Nat) : opsWeight (X.take k) ≤ opsWeight X := by
  have : opsWeight X = opsWeight (X.take k) + opsWeight (X.drop k) := by
    unfold opsWeight
    rw [← List.sum_append, ← List.map_append, List.take_append_drop]
  omega

theorem two_shrink {B w gw g ys e zs d S} (h : Two B w gw g ys e zs d S) : Two B w gw g ys e zs d (fun k => S k ∧ k < w.heap.size) := by
  obtain ⟨fs, v, F, h1, h2, h3, h4, h5, h6, h7⟩ := h
  refine ⟨fs, v, F, h1, h2, h3, h4, h5, h6, fun k hk => ⟨h7 k hk, ?_⟩⟩
  rcases hk with rfl | rfl | hk | hk
  · exact h1.lt
  · exact lt_of_block h2.blk
  · exact (h2.own.lo k (by rw [h2.fb]; exact hk)).2
  · obtain ⟨d0, ps, u, cs, _, hch, _⟩ := h1
    exact hch.lt k hk
/-- How both pairs of writers stand between two rounds. -/
def Mid (B : Nat) (w wr : World) (n m : Nat) (N : Nat) : Prop :=
  ∃ ys e ys' e' S S', Two B wr B (B + 1 + 1) ys e ys e S ∧ Two B wr (B + 1) (B + 1 + 1 + 1) ys' e' ys' e' S' ∧ (∀ k, S k → ¬ S' k) ∧ (∀ k, S k ∨ S' k → B ≤ k ∧ k < wr.heap.size ∧ k ≠ N) ∧ ys.length ≤ 10 * n ∧ ys'.length ≤ 10 * m ∧ Below B w wr ∧ B ≤ wr.heap.size
theorem mid_at {B w wr n m N} (h : Mid B w wr n m N) : Mid B w wr n m wr.heap.size := by
  obtain ⟨ys, e, ys', e', S, S', h1, h2, h3, h4, h5⟩ := h
  exact ⟨ys, e, ys', e', S, S', h1, h2, h3, fun k hk => ⟨(h4 k hk).1, (h4 k hk).2.1, by have := (h4 k hk).2.1; omega⟩, h5⟩
theorem mid_more {B w wr n m n' m' N} (h : Mid B w wr n m N) (h1 : n ≤ n') (h2 : m ≤ m') : Mid B w wr n' m' N := by
  obtain ⟨ys, e, ys', e', S, S', k1, k2, k3, k4, k5, k6, k7⟩ := h
  exact ⟨ys, e, ys', e', S, S', k1, k2, k3, k4, by omega, by omega, k7⟩
theorem mid_new {B w wr w' n m N} (h : Mid B w wr n m N) (hg : wr.grownBy w' none) : Mid B w w' n m N := by
  obtain ⟨ys, e, ys', e', S, S', h1, h2, h3, h4, h5, h6, h7, h8⟩ := h
  exact ⟨ys, e, ys', e', S, S', h1.new hg, h2.new hg, h3, fun k hk => ⟨(h4 k hk).1, Nat.lt_of_lt_of_le (h4 k hk).2.1 hg.size, (h4 k hk).2.2⟩, h5, h6, h7.grown hg h8 (fun k hk => by cases hk), Nat.le_trans h8 hg.size⟩
theorem write1 {B w wr n m N} {C : Array Value} (h : Mid B w wr n m N) (o : OpD) (ho : o.Ok) (hw : o.weight ≤ 1048576) (hn : n ≤ 1048576) (hb : Bk 39 wr N C) :
    Calls Try.prog 7 #[.pointer (some ⟨B, 0, none⟩), .pointer (some ⟨B + 1 + 1, 0, none⟩), .agg o.cells.toArray] wr fun r w' => r = .returned (.tuple #[]) ∧ Mid B w w' (n + o.weight) m N ∧ Bk 39 w' N C := by
  obtain ⟨ys, e, ys', e', S, S', h1, h2, h3, h4, h5, h6, h7, h8⟩ := h
  refine (write_both B B (B + 1 + 1) ys e ys e S o _ wr h1 rfl ho hw (by omega) (by omega)).mono ?_
  rintro r w' ⟨hr, S2, k1, k2, k3⟩
  have hl := wst_len o ho hw ys e
  have hNl := lt_of_block hb
  refine ⟨hr, ⟨(wst o ys e).1, (wst o ys e).2, ys', e', _, S', two_shrink k1, h2.gr k2 (fun k hk q => h3 k q hk), ?_, ?_, by omega, by omega, k2.below h7 (fun k hk => (h4 k (.inl hk)).1) h8, Nat.le_trans h8 k2.size⟩, hb.gr k2 (fun q => (h4 N (.inl q)).2.2 rfl)⟩
  · rintro k ⟨hk, _⟩ hk'
    rcases k3 k hk with q | q
    · exact h3 k q hk'
    · have := (h4 k (.inr hk')).2.1; omega
  · rintro k (⟨hk, hk2⟩ | hk)
    · rcases k3 k hk with q | q
      · exact ⟨(h4 k (.inl q)).1, hk2, (h4 k (.inl q)).2.2⟩
      · exact ⟨Nat.le_trans h8 q, hk2, by omega⟩
    · exact ⟨(h4 k (.inr hk)).1, Nat.lt_of_lt_of_le (h4 k (.inr hk)).2.1 k2.size, (h4 k (.inr hk)).2.2⟩
theorem write2 {B w wr n m N} {C : Array Value} (h : Mid B w wr n m N) (o : OpD) (ho : o.Ok) (hw : o.weight ≤ 1048576) (hn : m ≤ 1048576) (hb : Bk 39 wr N C) :
    Calls Try.prog 7 #[.pointer (some ⟨B + 1, 0, none⟩), .pointer (some ⟨B + 1 + 1 + 1, 0, none⟩), .agg o.cells.toArray] wr fun r w' => r = .returned (.tuple #[]) ∧ Mid B w w' n (m + o.weight) N := by
  obtain ⟨ys, e, ys', e', S, S', h1, h2, h3, h4, h5, h6, h7, h8⟩ := h
  refine (write_both B (B + 1) (B + 1 + 1 + 1) ys' e' ys' e' S' o _ wr h2 rfl ho hw (by omega) (by omega)).mono ?_
  rintro r w' ⟨hr, S2, k1, k2, k3⟩
  have hl := wst_len o ho hw ys' e'
  have hNl := lt_of_block hb
  refine ⟨hr, ⟨ys, e, (wst o ys' e').1, (wst o ys' e').2, S, _, h1.gr k2 (fun k hk q => h3 k hk q), two_shrink k1, ?_, ?_, by omega, by omega, k2.below h7 (fun k hk => (h4 k (.inr hk)).1) h8, Nat.le_trans h8 k2.size⟩⟩
  · rintro k hk' ⟨hk, _⟩
    rcases k3 k hk with q | q
    · exact h3 k hk' q
    · have := (h4 k (.inl hk')).2.1; omega
  · rintro k (hk | ⟨hk, hk2⟩)
    · exact ⟨(h4 k (.inl hk)).1, Nat.lt_of_lt_of_le (h4 k (.inl hk)).2.1 k2.size, (h4 k (.inl hk)).2.2⟩
    · rcases k3 k hk with q | q
      · exact ⟨(h4 k (.inr q)).1, hk2, (h4 k (.inr q)).2.2⟩
      · exact ⟨Nat.le_trans h8 q, hk2, by omega⟩
theorem write3 {B w wr n m N} (h : Mid B w wr n m N) (o : OpD) (ho : o.Ok) (hw : o.weight ≤ 1048576) (hn : m ≤ 1048576) :
    Calls Try.prog 7 #[.pointer (some ⟨B + 1, 0, none⟩), .pointer (some ⟨B + 1 + 1 + 1, 0, none⟩), .agg o.cells.toArray] wr fun r w' => r = .returned (.tuple #[]) ∧ ∃ N', Mid B w w' n (m + o.weight) N' := by
  obtain ⟨ys, e, ys', e', S, S', h1, h2, h3, h4, h5, h6, h7, h8⟩ := h
  refine (write_both B (B + 1) (B + 1 + 1 + 1) ys' e' ys' e' S' o _ wr h2 rfl ho hw (by omega) (by omega)).mono ?_
  rintro r w' ⟨hr, S2, k1, k2, k3⟩
  have hl := wst_len o ho hw ys' e'
  refine ⟨hr, w'.heap.size, ⟨ys, e, (wst o ys' e').1, (wst o ys' e').2, S, _, h1.gr k2 (fun k hk q => h3 k hk q), two_shrink k1, ?_, ?_, by omega, by omega, k2.below h7 (fun k hk => (h4 k (.inr hk)).1) h8, Nat.le_trans h8 k2.size⟩⟩
  · rintro k hk' ⟨hk, _⟩
    rcases k3 k hk with q | q
    · exact h3 k hk' q
    · have := (h4 k (.inl hk')).2.1; omega
  · rintro k (hk | ⟨hk, hk2⟩)
    · have := Nat.lt_of_lt_of_le (h4 k (.inl hk)).2.1 k2.size
      exact ⟨(h4 k (.inl hk)).1, this, by omega⟩
    · rcases k3 k hk with q | q
      · exact ⟨(h4 k (.inr q)).1, hk2, by omega⟩
      · exact ⟨Nat.le_trans h8 q, hk2, by omega⟩
/-- The last call: Uint(300). -/
def o300 : OpD := ⟨0, 300, 0, 0, { data := #[] }, false, List.replicate 32 0, { data := #[] }, { data := #[] }, 0⟩
theorem o300_ok : o300.Ok := ⟨rfl, bytes_of_mem (by decide), by decide, by decide, by decide, by decide, by decide, by decide, by decide, by decide⟩
theorem o300_cells : o300.cells.toArray = #[Value.int .i64 0, .int .u64 300, .int .i64 0, .int .i64 0, .string { data := #[] }, .bool false, .int .u8 0, .int .u8 0, .int .u8 0, .int .u8 0, .int .u8 0, .int .u8 0, .int .u8 0, .int .u8 0, .int .u8 0, .int .u8 0, .int .u8 0, .int .u8 0, .int .u8 0, .int .u8 0, .int .u8 0, .int .u8 0, .int .u8 0, .int .u8 0, .int .u8 0, .int .u8 0, .int .u8 0, .int .u8 0, .int .u8 0, .int .u8 0, .int .u8 0, .int .u8 0, .int .u8 0, .int .u8 0, .int .u8 0, .int .u8 0, .int .u8 0, .int .u8 0, .string { data := #[] }, .string { data := #[] }, .int .i64 0] := rfl
theorem o300_weight : o300.weight = 8 := rfl
theorem last_c {B w wr n m N} (h : Mid B w wr n m N) (hm : m ≤ 1048576) :
    Calls Try.prog 7 #[.pointer (some ⟨B + 1, 0, none⟩), .pointer (some ⟨B + 1 + 1 + 1, 0, none⟩), .agg #[Value.int .i64 0, .int .u64 300, .int .i64 0, .int .i64 0, .string { data := #[] }, .bool false, .int .u8 0, .int .u8 0, .int .u8 0, .int .u8 0, .int .u8 0, .int .u8 0, .int .u8 0, .int .u8 0, .int .u8 0, .int .u8 0, .int .u8 0, .int .u8 0, .int .u8 0, .int .u8 0, .int .u8 0, .int .u8 0, .int .u8 0, .int .u8 0, .int .u8 0, .int .u8 0, .int .u8 0, .int .u8 0, .int .u8 0, .int .u8 0, .int .u8 0, .int .u8 0, .int .u8 0, .int .u8 0, .int .u8 0, .int .u8 0, .int .u8 0, .int .u8 0, .string { data := #[] }, .string { data := #[] }, .int .i64 0]] wr fun r w' => r = .returned (.tuple #[]) ∧ ∃ N', Mid B w w' n (m + 8) N' := by
  have := write3 h o300 o300_ok (by rw [o300_weight]; omega) hm
  rw [o300_cells, o300_weight] at this
  exact this
theorem wrote1 {B w wr n m N} (h : Mid B w wr n m N) (hn : n ≤ 2097152) : Calls Try.prog 6 #[.pointer (some ⟨B, 0, none⟩), .pointer (some ⟨B + 1 + 1, 0, none⟩)] wr fun r w' => r = .returned (.bool true) ∧ wr.grownBy w' none := by
  obtain ⟨ys, e, ys', e', S, S', h1, h2, h3, h4, h5, h6, h7, h8⟩ := h
  exact (wrote_c B B (B + 1 + 1) ys e S wr h1 (by omega)).mono (fun r w' ⟨hr, hb⟩ => ⟨hr, below_new hb⟩)
theorem wrote2 {B w wr n m N} (h : Mid B w wr n m N) (hn : m ≤ 2097152) : Calls Try.prog 6 #[.pointer (some ⟨B + 1, 0, none⟩), .pointer (some ⟨B + 1 + 1 + 1, 0, none⟩)] wr fun r w' => r = .returned (.bool true) ∧ wr.grownBy w' none := by
  obtain ⟨ys, e, ys', e', S, S', h1, h2, h3, h4, h5, h6, h7, h8⟩ := h
  exact (wrote_c B (B + 1) (B + 1 + 1 + 1) ys' e' S' wr h2 (by omega)).mono (fun r w' ⟨hr, hb⟩ => ⟨hr, below_new hb⟩)
theorem zeroW : Try.zeroCells29 = (wcells 0 (.pointer none) (List.replicate 256 0) 0 0).toArray := by kernel_rfl
theorem ws_zero {w : World} {g : Nat} (h : w.heap[g]? = some (.cells Try.zeroCells29 29 (0, 0))) : WS w g [] 0 [] := by
  rw [zeroW] at h
  exact ⟨none, List.replicate 256 0, 0, [], ⟨h, List.length_replicate⟩, chain_nil _, by omega, rfl, by simp, fun i hi => by simp at hi⟩
theorem start (w : World) (B : Nat) (hB : B = w.heap.size) : Mid B w ((((w.alloc (.cells Try.zeroCells29 29)).alloc (.cells Try.zeroCells29 29)).alloc (.cells #[.slice none 0 0, .int .i64 0] 33)).alloc (.cells #[.slice none 0 0, .int .i64 0] 33)) 0 0 (B + 1 + 1 + 1 + 1) := by
  have n1 := heap_new w (.cells Try.zeroCells29 29)
  have n2 := heap_new (w.alloc (.cells Try.zeroCells29 29)) (.cells Try.zeroCells29 29)
  have n3 := heap_new ((w.alloc (.cells Try.zeroCells29 29)).alloc (.cells Try.zeroCells29 29)) (.cells #[.slice none 0 0, .int .i64 0] 33)
  have n4 := heap_new (((w.alloc (.cells Try.zeroCells29 29)).alloc (.cells Try.zeroCells29 29)).alloc (.cells #[.slice none 0 0, .int .i64 0] 33)) (.cells #[.slice none 0 0, .int .i64 0] 33)
  rw [World.size_alloc] at n2
  rw [World.size_alloc, World.size_alloc] at n3
  rw [World.size_alloc, World.size_alloc, World.size_alloc] at n4
  have g2 := World.grownBy_alloc (w.alloc (.cells Try.zeroCells29 29)) (.cells Try.zeroCells29 29) none
  have g3 := World.grownBy_alloc ((w.alloc (.cells Try.zeroCells29 29)).alloc (.cells Try.zeroCells29 29)) (.cells #[.slice none 0 0, .int .i64 0] 33) none
  have g4 := World.grownBy_alloc (((w.alloc (.cells Try.zeroCells29 29)).alloc (.cells Try.zeroCells29 29)).alloc (.cells #[.slice none 0 0, .int .i64 0] 33)) (.cells #[.slice none 0 0, .int .i64 0] 33) none
  have hbel : Below w.heap.size w ((((w.alloc (.cells Try.zeroCells29 29)).alloc (.cells Try.zeroCells29 29)).alloc (.cells #[.slice none 0 0, .int .i64 0] 33)).alloc (.cells #[.slice none 0 0, .int .i64 0] 33)) := ((((Below.refl _ _).alloc (Nat.le_refl _) _).alloc (by simp) _).alloc (by simp; omega) _).alloc (by simp; omega) _
  have hsz : ((((w.alloc (.cells Try.zeroCells29 29)).alloc (.cells Try.zeroCells29 29)).alloc (.cells #[.slice none 0 0, .int .i64 0] 33)).alloc (.cells #[.slice none 0 0, .int .i64 0] 33)).heap.size = w.heap.size + 1 + 1 + 1 + 1 := by simp
  have s1 := ((ws_zero n1).new g2).new g3 |>.new g4
  have s2 := (ws_zero n2).new g3 |>.new g4
  have x1 : XW w.heap.size _ (w.heap.size + 1 + 1) (.slice none 0 0) [] 0 none := ⟨n3, own_nil _ _, rfl, by simp, fun i hi => by simp at hi, by simp; omega⟩
  have x1' := x1.new g4
  have x2 : XW w.heap.size _ (w.heap.size + 1 + 1 + 1) (.slice none 0 0) [] 0 none := ⟨n4, own_nil _ _, rfl, by simp, fun i hi => by simp at hi, by simp; omega⟩
  subst hB
  refine ⟨[], 0, [], 0, fun k => k = w.heap.size ∨ k = w.heap.size + 1 + 1, fun k => k = w.heap.size + 1 ∨ k = w.heap.size + 1 + 1 + 1, ⟨[], _, none, s1, x1', by omega, by simp, by simp, by simp, ?_⟩, ⟨[], _, none, s2, x2, by omega, by simp, by simp, by simp, ?_⟩, ?_, ?_, by simp, by simp, hbel, by rw [hsz]; omega⟩
  · rintro k (rfl | rfl | h | h)
    · exact .inl rfl
    · exact .inr rfl
    · cases h
    · cases h
  · rintro k (rfl | rfl | h | h)
    · exact .inl rfl
    · exact .inr rfl
    · cases h
    · cases h
  · rintro k (rfl | rfl) (h | h) <;> omega
  · rw [hsz]
    rintro k ((rfl | rfl) | (rfl | rfl)) <;> exact ⟨by omega, by omega, by omega⟩

set_option maxRecDepth 20000 in
set_option maxHeartbeats 4000000 in
theorem walk (a0 : Option Addr) (n0 cap0 : Nat) (X0 : List OpD) (w : World) (x0 : Ops w a0 n0 X0) (lc0 : n0 ≤ cap0) (cm0 : cap0 ≤ maxLen) (nz0 : a0 = none → cap0 = 0) (y0 : opsWeight X0 ≤ 1048576) :
    Calls Try.prog 3 #[.slice a0 n0 cap0] w fun e w' => e = .returned (.bool true) ∧ Below w.heap.size w w' := by
  have HO : Hid (Ops w a0 n0 X0) := x0
  have HWT : Hid (opsWeight X0 ≤ 1048576) := y0
  have HN1 : Hid ((n0 : Int) ≤ 9223372036854775807) := by unfold maxLen at cm0; show _ ≤ _; omega
  obtain ⟨B, hB⟩ : ∃ B, B = w.heap.size := ⟨_, rfl⟩
  have HBW : Hid (B = w.heap.size) := hB
  clear x0 y0 lc0 cm0 nz0
  go_enter Try.func3, Try.ntmps3
  go_wp2
  rw [← hB]
  generalize hW1 : World.alloc (World.alloc (World.alloc (World.alloc w _) _) _) _ = W1
  have H1 : Hid (Mid B w W1 0 0 (B + 1 + 1 + 1 + 1)) := by rw [← hW1]; exact start w B hB
  clear hW1 hB
  go_loopw [15] (fun i wr => ∃ k N : Nat, k ≤ n0 ∧ i = .int .i64 k ∧ Hid (Mid B w wr (opsWeight (X0.take k)) (opsWeight (X0.take k)) N)) (fun i _ => n0 - (intOf i).toNat)
  case atStart => exact ⟨0, _, Nat.zero_le _, rfl, H1⟩
  case round =>
    obtain ⟨k, N0, hk, rfl, HI0⟩ := hrel
    clear H1
    by_cases hlt : k < n0
    · obtain ⟨N, hN⟩ : ∃ N, N = wr.heap.size := ⟨_, rfl⟩
      have HI : Hid (Mid B w wr (opsWeight (X0.take k)) (opsWeight (X0.take k)) N) := by rw [hN]; exact mid_at HI0.out
      clear HI0
      obtain ⟨b, off, o, rfl, hbw, hxo, hok, hrg⟩ := HO.out.at_ k hlt
      have HOK : Hid (o.Ok ∧ o.weight ≤ 1048576 ∧ opsWeight (X0.take k) ≤ 1048576 ∧ opsWeight (X0.take (k + 1)) = opsWeight (X0.take k) + o.weight ∧ opsWeight (X0.take (k + 1)) ≤ 1048576) := by
        have q1 := weight_take X0 k o hxo
        have q2 := weight_take_le X0 (k + 1)
        have q3 := weight_take_le X0 k
        have := HWT.out
        exact ⟨hok, by omega, by omega, q1, by omega⟩
      have HRG : Hid (wr.rangeAt b (off + k * 41) o.cells) := fun j v hv => by
        obtain ⟨_, _, _, _, _, _, _, _, _, _, _, _, hbel, _⟩ := HI.out
        exact (hbel.cell (p := ⟨b, off + k * 41 + j, none⟩) (by rw [HBW.out]; exact hbw)).trans (hrg j v hv)
      have HOL : Hid (o.cells.length = 41) := OpD.cells_length o hok
      clear hxo hok hrg hbw
      have hk1 : (k : Int) < n0 := by omega
      have hn1 := HN1.out
      by_cases h7 : o.call = 7
      · have q7 : (o.call == 7) = true := by simp [h7]
        by_cases hev : (k : Int) % 2 = 0
        · have qe : ((k : Int) % 2 == 0) = true := by simp [hev]
          go_wp2_with (first
          | (refine wpList_load_mid rfl 39 (.tmp 18) rfl b (off + k * 41) rfl o.cells _ HRG.out Try.underlying39 rfl (by rw [HOL.out]; exact infoOp41) ?_)
          | (refine wpList_store_bk 39 rfl (.tmp 8) (.tmp 19) rfl infoOp41 wr.heap.size _ o.cells.toArray rfl rfl (heap_new wr _) rfl (by rw [List.size_toArray]; exact HOL.out) (cells_one o) ?_; intro w6 h1 h2; rw [← hN] at h1 h2 ⊢; have H6 : Hid (Bk 39 w6 N o.cells.toArray ∧ Mid B w w6 (opsWeight (X0.take k)) (opsWeight (X0.take k)) N) := ⟨h1, mid_new HI.out (gb_newer (World.grownBy_alloc _ _ _) h2 (Nat.le_of_eq hN.symm))⟩; clear h1 h2 hN; have c0 := H6.out.1.opcell.1)
          | (go_at_call 6; go_must (refine (wrote1 H6.out.2 (by have := HOK.out.2.2.1; omega)).mono ?_); rintro r w7 ⟨rfl, hg7⟩; have H7 : Hid (Bk 39 w7 N o.cells.toArray ∧ Mid B w w7 (opsWeight (X0.take k)) (opsWeight (X0.take k)) N) := ⟨H6.out.1.gr (Gr.of (G := fun _ => False) hg7 (by simp)) (by simp), mid_new H6.out.2 hg7⟩; clear hg7)
          | (have z8 := H8; clear z8; refine wpList_load_bk 39 rfl (.tmp 8) rfl Try.underlying39 rfl infoOp41 N o.cells.toArray rfl H8.out.1 (by rw [List.size_toArray]; exact HOL.out) ?_)
          | (refine wpList_load_bk 39 rfl (.tmp 8) rfl Try.underlying39 rfl infoOp41 N o.cells.toArray rfl H7.out.1 (by rw [List.size_toArray]; exact HOL.out) ?_)
          | (go_at_call 7; have z8 := H8; clear z8; go_must (refine (write2 H8.out.2 o HOK.out.1 HOK.out.2.1 HOK.out.2.2.1 H8.out.1).mono ?_); rintro r w9 ⟨rfl, h9⟩; have H9 : Hid (Mid B w w9 (opsWeight (X0.take (k + 1))) (opsWeight (X0.take (k + 1))) N) := mid_more h9 (Nat.le_refl _) (Nat.le_of_eq HOK.out.2.2.2.1.symm); clear h9)
          | (go_at_call 7; (fail_if_success (have z8 := H8)); go_must (refine (write1 H7.out.2 o HOK.out.1 HOK.out.2.1 HOK.out.2.2.1 H7.out.1).mono ?_); rintro r w8 ⟨rfl, h8, hb8⟩; have H8 : Hid (Bk 39 w8 N o.cells.toArray ∧ Mid B w w8 (opsWeight (X0.take (k + 1))) (opsWeight (X0.take k)) N) := ⟨hb8, by rw [HOK.out.2.2.2.1]; exact h8⟩; clear h8 hb8))
          have HFF : Hid (Hid (Mid B w w9 (opsWeight (X0.take (k + 1))) (opsWeight (X0.take (k + 1))) N)) := H9.out
          go_roundw
          case rel => first | exact ⟨k + 1, N, by omega, by go_num, HFF.out⟩ | ((repeat apply Exists.intro); exact ⟨⟨k + 1, N, by omega, by go_num, HFF.out⟩, rfl⟩)
          case measure => simp [intOf]; omega
        · have qe : ((k : Int) % 2 == 0) = false := by simp [hev]
          go_wp2_with (first
          | (refine wpList_load_mid rfl 39 (.tmp 18) rfl b (off + k * 41) rfl o.cells _ HRG.out Try.underlying39 rfl (by rw [HOL.out]; exact infoOp41) ?_)
          | (refine wpList_store_bk 39 rfl (.tmp 8) (.tmp 19) rfl infoOp41 wr.heap.size _ o.cells.toArray rfl rfl (heap_new wr _) rfl (by rw [List.size_toArray]; exact HOL.out) (cells_one o) ?_; intro w6 h1 h2; rw [← hN] at h1 h2 ⊢; have H6 : Hid (Bk 39 w6 N o.cells.toArray ∧ Mid B w w6 (opsWeight (X0.take k)) (opsWeight (X0.take k)) N) := ⟨h1, mid_new HI.out (gb_newer (World.grownBy_alloc _ _ _) h2 (Nat.le_of_eq hN.symm))⟩; clear h1 h2 hN; have c0 := H6.out.1.opcell.1)
          | (go_at_call 6; go_must (refine (wrote1 H6.out.2 (by have := HOK.out.2.2.1; omega)).mono ?_); rintro r w7 ⟨rfl, hg7⟩; have H7 : Hid (Bk 39 w7 N o.cells.toArray ∧ Mid B w w7 (opsWeight (X0.take k)) (opsWeight (X0.take k)) N) := ⟨H6.out.1.gr (Gr.of (G := fun _ => False) hg7 (by simp)) (by simp), mid_new H6.out.2 hg7⟩; clear hg7)
          | (have z8 := H8; clear z8; refine wpList_load_bk 39 rfl (.tmp 8) rfl Try.underlying39 rfl infoOp41 N o.cells.toArray rfl H8.out.1 (by rw [List.size_toArray]; exact HOL.out) ?_)
          | (refine wpList_load_bk 39 rfl (.tmp 8) rfl Try.underlying39 rfl infoOp41 N o.cells.toArray rfl H7.out.1 (by rw [List.size_toArray]; exact HOL.out) ?_)
          | (go_at_call 7; have z8 := H8; clear z8; go_must (refine (write2 H8.out.2 o HOK.out.1 HOK.out.2.1 HOK.out.2.2.1 H8.out.1).mono ?_); rintro r w9 ⟨rfl, h9⟩; have H9 : Hid (Mid B w w9 (opsWeight (X0.take (k + 1))) (opsWeight (X0.take (k + 1))) N) := mid_more h9 (Nat.le_refl _) (Nat.le_of_eq HOK.out.2.2.2.1.symm); clear h9)
          | (go_at_call 7; (fail_if_success (have z8 := H8)); go_must (refine (write1 H7.out.2 o HOK.out.1 HOK.out.2.1 HOK.out.2.2.1 H7.out.1).mono ?_); rintro r w8 ⟨rfl, h8, hb8⟩; have H8 : Hid (Bk 39 w8 N o.cells.toArray ∧ Mid B w w8 (opsWeight (X0.take (k + 1))) (opsWeight (X0.take k)) N) := ⟨hb8, by rw [HOK.out.2.2.2.1]; exact h8⟩; clear h8 hb8))
          have HFF : Hid (Hid (Mid B w w8 (opsWeight (X0.take (k + 1))) (opsWeight (X0.take (k + 1))) N)) := mid_more H8.out.2 (Nat.le_refl _) (by have := HOK.out.2.2.2.1; omega)
          go_roundw
          case rel => first | exact ⟨k + 1, N, by omega, by go_num, HFF.out⟩ | ((repeat apply Exists.intro); exact ⟨⟨k + 1, N, by omega, by go_num, HFF.out⟩, rfl⟩)
          case measure => simp [intOf]; omega
      · have q7 : (o.call == 7) = false := by simp [h7]
        by_cases hev : (k : Int) % 2 = 0
        · have qe : ((k : Int) % 2 == 0) = true := by simp [hev]
          go_wp2_with (first
          | (refine wpList_load_mid rfl 39 (.tmp 18) rfl b (off + k * 41) rfl o.cells _ HRG.out Try.underlying39 rfl (by rw [HOL.out]; exact infoOp41) ?_)
          | (refine wpList_store_bk 39 rfl (.tmp 8) (.tmp 19) rfl infoOp41 wr.heap.size _ o.cells.toArray rfl rfl (heap_new wr _) rfl (by rw [List.size_toArray]; exact HOL.out) (cells_one o) ?_; intro w6 h1 h2; rw [← hN] at h1 h2 ⊢; have H6 : Hid (Bk 39 w6 N o.cells.toArray ∧ Mid B w w6 (opsWeight (X0.take k)) (opsWeight (X0.take k)) N) := ⟨h1, mid_new HI.out (gb_newer (World.grownBy_alloc _ _ _) h2 (Nat.le_of_eq hN.symm))⟩; clear h1 h2 hN; have c0 := H6.out.1.opcell.1)
          | (have z8 := H8; clear z8; refine wpList_load_bk 39 rfl (.tmp 8) rfl Try.underlying39 rfl infoOp41 N o.cells.toArray rfl H8.out.1 (by rw [List.size_toArray]; exact HOL.out) ?_)
          | (refine wpList_load_bk 39 rfl (.tmp 8) rfl Try.underlying39 rfl infoOp41 N o.cells.toArray rfl H6.out.1 (by rw [List.size_toArray]; exact HOL.out) ?_)
          | (go_at_call 7; have z8 := H8; clear z8; go_must (refine (write2 H8.out.2 o HOK.out.1 HOK.out.2.1 HOK.out.2.2.1 H8.out.1).mono ?_); rintro r w9 ⟨rfl, h9⟩; have H9 : Hid (Mid B w w9 (opsWeight (X0.take (k + 1))) (opsWeight (X0.take (k + 1))) N) := mid_more h9 (Nat.le_refl _) (Nat.le_of_eq HOK.out.2.2.2.1.symm); clear h9)
          | (go_at_call 7; (fail_if_success (have z8 := H8)); go_must (refine (write1 H6.out.2 o HOK.out.1 HOK.out.2.1 HOK.out.2.2.1 H6.out.1).mono ?_); rintro r w8 ⟨rfl, h8, hb8⟩; have H8 : Hid (Bk 39 w8 N o.cells.toArray ∧ Mid B w w8 (opsWeight (X0.take (k + 1))) (opsWeight (X0.take k)) N) := ⟨hb8, by rw [HOK.out.2.2.2.1]; exact h8⟩; clear h8 hb8))
          have HFF : Hid (Hid (Mid B w w9 (opsWeight (X0.take (k + 1))) (opsWeight (X0.take (k + 1))) N)) := H9.out
          go_roundw
          case rel => first | exact ⟨k + 1, N, by omega, by go_num, HFF.out⟩ | ((repeat apply Exists.intro); exact ⟨⟨k + 1, N, by omega, by go_num, HFF.out⟩, rfl⟩)
          case measure => simp [intOf]; omega
        · have qe : ((k : Int) % 2 == 0) = false := by simp [hev]
          go_wp2_with (first
          | (refine wpList_load_mid rfl 39 (.tmp 18) rfl b (off + k * 41) rfl o.cells _ HRG.out Try.underlying39 rfl (by rw [HOL.out]; exact infoOp41) ?_)
          | (refine wpList_store_bk 39 rfl (.tmp 8) (.tmp 19) rfl infoOp41 wr.heap.size _ o.cells.toArray rfl rfl (heap_new wr _) rfl (by rw [List.size_toArray]; exact HOL.out) (cells_one o) ?_; intro w6 h1 h2; rw [← hN] at h1 h2 ⊢; have H6 : Hid (Bk 39 w6 N o.cells.toArray ∧ Mid B w w6 (opsWeight (X0.take k)) (opsWeight (X0.take k)) N) := ⟨h1, mid_new HI.out (gb_newer (World.grownBy_alloc _ _ _) h2 (Nat.le_of_eq hN.symm))⟩; clear h1 h2 hN; have c0 := H6.out.1.opcell.1)
          | (have z8 := H8; clear z8; refine wpList_load_bk 39 rfl (.tmp 8) rfl Try.underlying39 rfl infoOp41 N o.cells.toArray rfl H8.out.1 (by rw [List.size_toArray]; exact HOL.out) ?_)
          | (refine wpList_load_bk 39 rfl (.tmp 8) rfl Try.underlying39 rfl infoOp41 N o.cells.toArray rfl H6.out.1 (by rw [List.size_toArray]; exact HOL.out) ?_)
          | (go_at_call 7; have z8 := H8; clear z8; go_must (refine (write2 H8.out.2 o HOK.out.1 HOK.out.2.1 HOK.out.2.2.1 H8.out.1).mono ?_); rintro r w9 ⟨rfl, h9⟩; have H9 : Hid (Mid B w w9 (opsWeight (X0.take (k + 1))) (opsWeight (X0.take (k + 1))) N) := mid_more h9 (Nat.le_refl _) (Nat.le_of_eq HOK.out.2.2.2.1.symm); clear h9)
          | (go_at_call 7; (fail_if_success (have z8 := H8)); go_must (refine (write1 H6.out.2 o HOK.out.1 HOK.out.2.1 HOK.out.2.2.1 H6.out.1).mono ?_); rintro r w8 ⟨rfl, h8, hb8⟩; have H8 : Hid (Bk 39 w8 N o.cells.toArray ∧ Mid B w w8 (opsWeight (X0.take (k + 1))) (opsWeight (X0.take k)) N) := ⟨hb8, by rw [HOK.out.2.2.2.1]; exact h8⟩; clear h8 hb8))
          have HFF : Hid (Hid (Mid B w w8 (opsWeight (X0.take (k + 1))) (opsWeight (X0.take (k + 1))) N)) := mid_more H8.out.2 (Nat.le_refl _) (by have := HOK.out.2.2.2.1; omega)
          go_roundw
          case rel => first | exact ⟨k + 1, N, by omega, by go_num, HFF.out⟩ | ((repeat apply Exists.intro); exact ⟨⟨k + 1, N, by omega, by go_num, HFF.out⟩, rfl⟩)
          case measure => simp [intOf]; omega
    · obtain rfl : k = n0 := by omega
      have HI : Hid (Mid B w wr (opsWeight X0) (opsWeight X0) N0) := mid_more HI0.out (weight_take_le X0 k) (weight_take_le X0 k)
      clear HI0
      have HW8 := HWT.out
      go_wp2_with (first
        | (go_at_call 7; go_must (refine (last_c HI.out (by omega)).mono ?_); rintro r w2 ⟨rfl, N2, h2⟩; have H2 : Hid (Mid B w w2 (opsWeight X0) (opsWeight X0 + 8) N2) := h2; clear h2)
        | (go_at_call 6; (fail_if_success (have z3 := H3)); go_must (refine (wrote1 H2.out (by omega)).mono ?_); rintro r w3 ⟨rfl, hg3⟩; have H3 : Hid (Mid B w w3 (opsWeight X0) (opsWeight X0 + 8) N2) := mid_new H2.out hg3; clear hg3)
        | (go_at_call 6; go_must (refine (wrote2 H3.out (by omega)).mono ?_); rintro r w4 ⟨rfl, hg4⟩; have H4 : Hid (Mid B w w4 (opsWeight X0) (opsWeight X0 + 8) N2) := mid_new H3.out hg4; clear hg4))
      go_ret
      obtain ⟨_, _, _, _, _, _, _, _, _, _, _, _, hbel, _⟩ := H4.out
      exact ⟨rfl, by rw [← HBW.out]; exact hbel⟩

theorem bulk_len {H : Type} (l : List (DataW H)) : l.length ≤ Rows.uptoBulkAll l := by
  induction l with
  | nil => simp
  | cons d r ih =>
    have : 1 ≤ Rows.uptoBulk d := by
      cases d with
      | lit x => cases x <;> simp [Rows.uptoBulk]
      | _ => simp [Rows.uptoBulk]
    simp only [Rows.uptoBulkAll, List.length_cons]; omega
theorem bulk_mem {H : Type} {d : DataW H} {l : List (DataW H)} (h : d ∈ l) : Rows.uptoBulk d ≤ Rows.uptoBulkAll l := by
  induction l with
  | nil => cases h
  | cons x r ih =>
    simp only [Rows.uptoBulkAll]
    rcases List.mem_cons.1 h with rfl | h
    · omega
    · have := ih h; omega
theorem bulk_slice {H : Type} {ds : List (DataW H)} {d : DataW H} {l r : List (DataW H)} (hk : Rows.uptoSmall H ds = true) (hd : d ∈ ds) (e : d = .slice l r) : l.length + r.length ≤ 1048576 := by
  have h0 : Rows.uptoBulkAll ds ≤ 1048576 := of_decide_eq_true hk
  have h1 := bulk_mem hd
  have h3 := bulk_len l
  have h4 := bulk_len r
  rw [e] at h1
  simp only [Rows.uptoBulk] at h1
  omega

set_option maxRecDepth 100000 in
theorem lifted (os : Os) (started : os.Started) (H : Type) (enc : TypeId × Value → H) (F : Stop.Interp) :
    ReturnsInHanded {} Try.checked os 3 .any ((Rows.OpenSpec.upto Rows.packWritesSpec).pre6 enc Try.prog Try.f3 Rows.packWritesUptoRow.domain false) (((Rows.OpenSpec.upto Rows.packWritesSpec).at F).post enc Try.prog Try.f3 false true false false) := by
  refine returnsInHanded_of_cond (C := Try.checked) (s := Rows.OpenSpec.upto Rows.packWritesSpec) (k := Rows.uptoSmall) rfl own started (by kernel_rfl) Try.func3
    (OpenSpec.witness (enc := enc) (C := Try.checked) (s := Rows.OpenSpec.upto Rows.packWritesSpec) (k := Rows.uptoSmall) rfl false ⟨#[], #[.slice none 0 0], []⟩ 8 (by kernel_rfl) (by kernel_rfl) (by kernel_rfl)
      (x := ([.nil], [], [])) (by kernel_rfl) rfl (by kernel_rfl)) ?_
  intro W base args ds gs before hval0 hW hcnd hk _
  have hval : ∀ (j : Nat) t v, Try.f3.params[j]? = some t → args[j]? = some v → Value.okWide Try.prog W .any base t v := hval0
  have hW' := hW
  obtain ⟨p, q, hA0, hV, rfl, hfz, hnd⟩ := hW
  have hA : DataW.TrodAll enc Try.prog W 0 (fun _ => true) true Try.f3.params.toList args.toList ds p := hA0
  rw [Try.params3] at hA hval
  obtain ⟨v0, vs0, d0, ds0, p0, q0, hargs, rfl, rfl, h0, r0⟩ := trodAll_cons hA
  obtain ⟨rfl, rfl, rfl⟩ := trodAll_nil r0
  obtain rfl : args = #[v0] := by cases args; simp_all
  obtain ⟨rfl, rfl⟩ := trodVars_none hV
  have k0 := h0
  have lt0 : ∀ x ∈ p0, x.block < W.heap.size := by obtain ⟨m, hm⟩ := k0; exact DataW.trod_lt m _ _ _ hm
  obtain ⟨a0, n0, cap0, X0, rfl, x0, lc0, cm0, nz0, y0⟩ : ∃ a n cap X, v0 = .slice a n cap ∧ Ops W a n X ∧ n ≤ cap ∧ cap ≤ maxLen ∧ (a = none → cap = 0) ∧ opsWeight X ≤ 1048576 := by
    obtain ⟨sa, sl, sc, hv⟩ := okWide_slice Try.underlying22 (hval 0 22 v0 rfl rfl)
    obtain ⟨a, n, cap, X, h1, h2, h3, h4, h5, h6⟩ := ops_open sa sl sc hv h0
    have hAll : Rows.uptoBulkAll _ ≤ 1048576 := of_decide_eq_true hk
    exact ⟨a, n, cap, X, h1, h2, h3, h4, h5, Nat.le_trans h6 (Nat.le_trans (bulk_mem (show d0 ∈ _ by simp)) hAll)⟩
  clear hA0 hval0
  refine (walk a0 n0 cap0 X0 W x0 lc0 cm0 nz0 y0).mono fun e W' ⟨he, bel⟩ => ?_
  subst he
  exact ⟨_, rfl, _, _, _, [], _, [], hW', trodAll_mk1 (shut_bool Try.underlying4 _), (trodAll_cons_mk (Below.trod laidOut (by kernel_rfl) (of_decide_eq_true (by kernel_rfl)) k0 bel lt0) trodAll_mk0), rfl, bel.frame _, fun h => by cases h⟩

theorem over : Rows.packWritesUptoRow.holds Try.pinned (Rows.OpenSpec.upto Rows.packWritesSpec) :=
  OpenClaim.holds_of_cond 3 Try.f3 rfl rfl rfl rfl rfl rfl rfl ⟨rfl, rfl, rfl, rfl, rfl⟩ rfl rfl rfl rfl rfl (by kernel_rfl) Try.func3 (by kernel_rfl)
    (of_decide_eq_true (by kernel_rfl)) (by unfold Func.isWrapper; first | (rw [if_pos (by decide +kernel)]; kernel_rfl) | (rw [if_neg (by decide +kernel)]; exact ⟨rfl, rfl⟩))
    (fun os started H enc _ F => lifted os started H enc F)

end Go.Proofs.Ytdedmmodlbnnfaa.packWrites
namespace Go.Proofs.Ytdedmmodlbnnfaa
theorem packWrites_holds : Rows.PackWritesUptoSaid := packWrites.over
#print axioms packWrites_holds
end Go.Proofs.Ytdedmmodlbnnfaa
