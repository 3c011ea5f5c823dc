/-
  What the law's act answers over a disk, and the disk behind it: what the act itself answers; the bytes that were handed in stay. Condition: the disk's numbers are small, the texts at most 2^46.
-/
import Derived.Test.YteoohgjoffpmkaaFa
import Derived.Test.YteoohgjoffpmkaaKLi
namespace Go.Proofs.Yteoohgjoffpmkaa
open Go.RowKit
set_option linter.unusedVariables false

/-- Cells of a block that may be written. -/
def WriK (w : World) (g n : Nat) : Prop := ∃ cur T, w.heap[g]? = some (.cells cur T) ∧ n ≤ cur.size
theorem own_wriK {B g n k : Nat} {w : World} {xs : List Int} (h : Own B w (.slice (some ⟨g, 0, none⟩) n k) n xs) : WriK w g n ∧ B ≤ g := by
  rcases h.2 with ⟨z, _⟩ | ⟨g', cap, cur, e, hb, hc, h1, h2, h3, h4⟩
  · cases z
  · cases e
    exact ⟨⟨cur, _, hc, by omega⟩, hb⟩
theorem WriK.set {w : World} {g n i : Nat} {v : Value} (h : WriK w g n) : WriK (w.setCell ⟨g, i, none⟩ v) g n := by
  obtain ⟨cur, T, hc, hn⟩ := h
  refine ⟨cur.setIfInBounds i v, T, ?_, by simpa using hn⟩
  simp only [World.setCell, Array.getElem?_modify]
  rw [if_pos trivial, hc]; rfl
theorem WriK.at_ {w : World} {g n i : Nat} (h : WriK w g n) (hi : i < n) : ∃ v, w.cell? ⟨g, i, none⟩ = some v := by
  obtain ⟨cur, T, hc, hn⟩ := h
  exact ⟨cur[i], by rw [cell_of_row w g i _ _ _ hc, Array.getElem?_eq_getElem (by omega)]⟩
theorem WriK.free {w : World} {g n i : Nat} (h : WriK w g n) : w.frozen? ⟨g, i, none⟩ = false := by
  obtain ⟨cur, T, hc, hn⟩ := h
  exact frozen_of_row w g i _ _ hc
theorem WriK.gr {G : Nat → Prop} {w w' : World} {g n : Nat} (h : WriK w g n) (hg : Gr G w w') (hn : ¬ G g) : WriK w' g n := by
  obtain ⟨cur, T, hc, hl⟩ := h
  exact ⟨cur, T, (hg.block g (lt_of_block hc) hn).trans hc, hl⟩
theorem own_segAd {B g n k : Nat} {w : World} {xs : List Int} (h : Own B w (.slice (some ⟨g, 0, none⟩) n k) n xs) : Seg .u8 w (some ⟨g, 0, none⟩) n xs := by
  obtain ⟨a, c, e, hs, _⟩ := Own.seg h
  cases e
  exact hs
def acellsA (k : Int) (s t d : ByteArray) (z : Int) : Array Value := #[.int .i64 k, .string s, .string t, .string d, .int .i64 z]
theorem bytes_sbA (d : ByteArray) : Bytes (sb d) := fun i hi => by
  obtain ⟨c, _, e⟩ := List.mem_map.1 (List.mem_of_getElem? (List.getElem?_eq_getElem hi))
  rw [List.getElem?_eq_getElem hi, Option.getD_some, ← e]
  have : c.toNat < 256 := c.toNat_lt
  constructor <;> omega
/-- What an act answers, and the disk behind it. -/
def acR (D : Dk) (k : Int) (s t d : ByteArray) (z : Int) : Int × Dk := if k = 1 then crR D s else if k = 2 then apR D s (sb d) else if k = 3 then ctR D s z else if k = 4 then rnR D s t else if k = 5 then rmR D s else syR D
def ActB (G : Nat → Prop) (w : World) (g : Nat) (R : Int × Dk) (r : Ending) (w' : World) : Prop :=
  r = .returned (.tuple #[.int .i64 R.1, .bool true]) ∧ DkM (fun k => G k ∨ (w.heap.size ≤ k ∧ k < w'.heap.size)) w' g R.2 ∧ Gr G w w' ∧ Dok R.2
theorem ActA.b {G : Nat → Prop} {w W0 : World} {g : Nat} {R : Int × Dk} {r : Ending} {w' : World} (h : ActA G W0 g R r w') (hb : Below w.heap.size w W0) : ActB G w g R (.returned (.tuple #[.int .i64 R.1, .bool true])) w' := by
  obtain ⟨_, h2, h3, h4⟩ := h
  have hs := hb.size
  exact ⟨rfl, h2.weak (fun k hk => hk.imp id (fun z => ⟨by omega, z.2⟩)), (Gr.ofB hb).trans h3, h4⟩
set_option maxRecDepth 20000 in
set_option maxHeartbeats 2000000 in
theorem act_do1 {G : Nat → Prop} (g : Nat) (D : Dk) (k : Int) (s t d : ByteArray) (z : Int) (w : World) (h : DkM G w g D) (hd : Dok D) (hm : Dsm D) (hG : ∀ k, G k → k < w.heap.size) (hl : s.size ≤ 70368744177664 ∧ t.size ≤ 70368744177664 ∧ d.size ≤ 70368744177664) (hz : -9223372036854775808 ≤ z ∧ z ≤ 9223372036854775807) (hk : k = 1) :
    Calls Try.prog 28 #[.pointer (some ⟨g, 0, none⟩), .agg #[.int .i64 k, .string s, .string t, .string d, .int .i64 z]] w (ActB G w g (acR D k s t d z)) := by
  obtain ⟨W0, hW0⟩ : ∃ W0, W0 = w.alloc (.cells (acellsA k s t d z) 38) := ⟨_, rfl⟩
  have HB : Hid (Below w.heap.size w W0) := by rw [hW0]; exact (Below.refl _ _).alloc (Nat.le_refl _) _
  have HU : Hid (DkM G W0 g D ∧ Dok D ∧ Dsm D) := ⟨h.below HB.out, hd, hm⟩
  have HK : Hid (Bk 38 W0 w.heap.size (acellsA k s t d z)) := by rw [hW0]; exact (blk_new w 38 _).1
  have HG : Hid (∀ k, G k → k < w.heap.size) := hG
  obtain ⟨hl1, hl2, hl3⟩ := hl
  clear h hd hm hG
  subst hk
  obtain ⟨R, hR⟩ : ∃ R, R = crR D s := ⟨_, rfl⟩
  have HC : Hid (Calls Try.prog 51 _ W0 (ActA G W0 g R)) := hR ▸ createA_c s W0 g D HU.out.1 HU.out.2.1 HU.out.2.2 (by omega)
  have e : acR D 1 s t d z = R := by rw [hR]; rfl
  rw [e]
  clear e hR
  unfold acellsA at hW0
  rw [hW0] at HC
  go_enter Try.func28, Try.ntmps28
  go_wp2_with (first
    | (go_at_call 51; go_must (refine (Calls.mono HC.out ?_)); rintro r w1 hr; rw [← hW0] at hr; have hrr := hr.1; subst hrr; have H1 : Hid (ActB G w g R (.returned (.tuple #[.int .i64 R.1, .bool true])) w1) := hr.b HB.out; clear hr)
    | (go_at_call 11; go_must (refine (Calls.mono (num_c _ _) ?_)); rintro r wq ⟨rfl, hq⟩; obtain rfl := hq.symm; clear hq))
  go_ret2
  exact H1.out
set_option maxRecDepth 20000 in
set_option maxHeartbeats 2000000 in
theorem act_do3 {G : Nat → Prop} (g : Nat) (D : Dk) (k : Int) (s t d : ByteArray) (z : Int) (w : World) (h : DkM G w g D) (hd : Dok D) (hm : Dsm D) (hG : ∀ k, G k → k < w.heap.size) (hl : s.size ≤ 70368744177664 ∧ t.size ≤ 70368744177664 ∧ d.size ≤ 70368744177664) (hz : -9223372036854775808 ≤ z ∧ z ≤ 9223372036854775807) (hk : k = 3) :
    Calls Try.prog 28 #[.pointer (some ⟨g, 0, none⟩), .agg #[.int .i64 k, .string s, .string t, .string d, .int .i64 z]] w (ActB G w g (acR D k s t d z)) := by
  obtain ⟨W0, hW0⟩ : ∃ W0, W0 = w.alloc (.cells (acellsA k s t d z) 38) := ⟨_, rfl⟩
  have HB : Hid (Below w.heap.size w W0) := by rw [hW0]; exact (Below.refl _ _).alloc (Nat.le_refl _) _
  have HU : Hid (DkM G W0 g D ∧ Dok D ∧ Dsm D) := ⟨h.below HB.out, hd, hm⟩
  have HK : Hid (Bk 38 W0 w.heap.size (acellsA k s t d z)) := by rw [hW0]; exact (blk_new w 38 _).1
  have HG : Hid (∀ k, G k → k < w.heap.size) := hG
  obtain ⟨hl1, hl2, hl3⟩ := hl
  clear h hd hm hG
  subst hk
  obtain ⟨R, hR⟩ : ∃ R, R = ctR D s z := ⟨_, rfl⟩
  have HC : Hid (Calls Try.prog 61 _ W0 (ActA G W0 g R)) := hR ▸ cutA_c s z W0 g D HU.out.1 HU.out.2.1 HU.out.2.2 (by omega) hz
  have e : acR D 3 s t d z = R := by rw [hR]; rfl
  rw [e]
  clear e hR
  unfold acellsA at hW0
  rw [hW0] at HC
  go_enter Try.func28, Try.ntmps28
  go_wp2_with (first
    | (go_at_call 61; go_must (refine (Calls.mono HC.out ?_)); rintro r w1 hr; rw [← hW0] at hr; have hrr := hr.1; subst hrr; have H1 : Hid (ActB G w g R (.returned (.tuple #[.int .i64 R.1, .bool true])) w1) := hr.b HB.out; clear hr)
    | (go_at_call 11; go_must (refine (Calls.mono (num_c _ _) ?_)); rintro r wq ⟨rfl, hq⟩; obtain rfl := hq.symm; clear hq))
  go_ret2
  exact H1.out
set_option maxRecDepth 20000 in
set_option maxHeartbeats 2000000 in
theorem act_do4 {G : Nat → Prop} (g : Nat) (D : Dk) (k : Int) (s t d : ByteArray) (z : Int) (w : World) (h : DkM G w g D) (hd : Dok D) (hm : Dsm D) (hG : ∀ k, G k → k < w.heap.size) (hl : s.size ≤ 70368744177664 ∧ t.size ≤ 70368744177664 ∧ d.size ≤ 70368744177664) (hz : -9223372036854775808 ≤ z ∧ z ≤ 9223372036854775807) (hk : k = 4) :
    Calls Try.prog 28 #[.pointer (some ⟨g, 0, none⟩), .agg #[.int .i64 k, .string s, .string t, .string d, .int .i64 z]] w (ActB G w g (acR D k s t d z)) := by
  obtain ⟨W0, hW0⟩ : ∃ W0, W0 = w.alloc (.cells (acellsA k s t d z) 38) := ⟨_, rfl⟩
  have HB : Hid (Below w.heap.size w W0) := by rw [hW0]; exact (Below.refl _ _).alloc (Nat.le_refl _) _
  have HU : Hid (DkM G W0 g D ∧ Dok D ∧ Dsm D) := ⟨h.below HB.out, hd, hm⟩
  have HK : Hid (Bk 38 W0 w.heap.size (acellsA k s t d z)) := by rw [hW0]; exact (blk_new w 38 _).1
  have HG : Hid (∀ k, G k → k < w.heap.size) := hG
  obtain ⟨hl1, hl2, hl3⟩ := hl
  clear h hd hm hG
  subst hk
  obtain ⟨R, hR⟩ : ∃ R, R = rnR D s t := ⟨_, rfl⟩
  have HC : Hid (Calls Try.prog 62 _ W0 (ActA G W0 g R)) := hR ▸ renameA_c s t W0 g D HU.out.1 HU.out.2.1 HU.out.2.2 (by omega) (by omega)
  have e : acR D 4 s t d z = R := by rw [hR]; rfl
  rw [e]
  clear e hR
  unfold acellsA at hW0
  rw [hW0] at HC
  go_enter Try.func28, Try.ntmps28
  go_wp2_with (first
    | (go_at_call 62; go_must (refine (Calls.mono HC.out ?_)); rintro r w1 hr; rw [← hW0] at hr; have hrr := hr.1; subst hrr; have H1 : Hid (ActB G w g R (.returned (.tuple #[.int .i64 R.1, .bool true])) w1) := hr.b HB.out; clear hr)
    | (go_at_call 11; go_must (refine (Calls.mono (num_c _ _) ?_)); rintro r wq ⟨rfl, hq⟩; obtain rfl := hq.symm; clear hq))
  go_ret2
  exact H1.out
set_option maxRecDepth 20000 in
set_option maxHeartbeats 2000000 in
theorem act_do5 {G : Nat → Prop} (g : Nat) (D : Dk) (k : Int) (s t d : ByteArray) (z : Int) (w : World) (h : DkM G w g D) (hd : Dok D) (hm : Dsm D) (hG : ∀ k, G k → k < w.heap.size) (hl : s.size ≤ 70368744177664 ∧ t.size ≤ 70368744177664 ∧ d.size ≤ 70368744177664) (hz : -9223372036854775808 ≤ z ∧ z ≤ 9223372036854775807) (hk : k = 5) :
    Calls Try.prog 28 #[.pointer (some ⟨g, 0, none⟩), .agg #[.int .i64 k, .string s, .string t, .string d, .int .i64 z]] w (ActB G w g (acR D k s t d z)) := by
  obtain ⟨W0, hW0⟩ : ∃ W0, W0 = w.alloc (.cells (acellsA k s t d z) 38) := ⟨_, rfl⟩
  have HB : Hid (Below w.heap.size w W0) := by rw [hW0]; exact (Below.refl _ _).alloc (Nat.le_refl _) _
  have HU : Hid (DkM G W0 g D ∧ Dok D ∧ Dsm D) := ⟨h.below HB.out, hd, hm⟩
  have HK : Hid (Bk 38 W0 w.heap.size (acellsA k s t d z)) := by rw [hW0]; exact (blk_new w 38 _).1
  have HG : Hid (∀ k, G k → k < w.heap.size) := hG
  obtain ⟨hl1, hl2, hl3⟩ := hl
  clear h hd hm hG
  subst hk
  obtain ⟨R, hR⟩ : ∃ R, R = rmR D s := ⟨_, rfl⟩
  have HC : Hid (Calls Try.prog 63 _ W0 (ActA G W0 g R)) := hR ▸ removeA_c s W0 g D HU.out.1 HU.out.2.1 HU.out.2.2 (by omega)
  have e : acR D 5 s t d z = R := by rw [hR]; rfl
  rw [e]
  clear e hR
  unfold acellsA at hW0
  rw [hW0] at HC
  go_enter Try.func28, Try.ntmps28
  go_wp2_with (first
    | (go_at_call 63; go_must (refine (Calls.mono HC.out ?_)); rintro r w1 hr; rw [← hW0] at hr; have hrr := hr.1; subst hrr; have H1 : Hid (ActB G w g R (.returned (.tuple #[.int .i64 R.1, .bool true])) w1) := hr.b HB.out; clear hr)
    | (go_at_call 11; go_must (refine (Calls.mono (num_c _ _) ?_)); rintro r wq ⟨rfl, hq⟩; obtain rfl := hq.symm; clear hq))
  go_ret2
  exact H1.out
set_option maxRecDepth 20000 in
set_option maxHeartbeats 2000000 in
theorem act_do6 {G : Nat → Prop} (g : Nat) (D : Dk) (k : Int) (s t d : ByteArray) (z : Int) (w : World) (h : DkM G w g D) (hd : Dok D) (hm : Dsm D) (hG : ∀ k, G k → k < w.heap.size) (hl : s.size ≤ 70368744177664 ∧ t.size ≤ 70368744177664 ∧ d.size ≤ 70368744177664) (hz : -9223372036854775808 ≤ z ∧ z ≤ 9223372036854775807) (h1 : k ≠ 1) (h2 : k ≠ 2) (h3 : k ≠ 3) (h4 : k ≠ 4) (h5 : k ≠ 5) :
    Calls Try.prog 28 #[.pointer (some ⟨g, 0, none⟩), .agg #[.int .i64 k, .string s, .string t, .string d, .int .i64 z]] w (ActB G w g (acR D k s t d z)) := by
  obtain ⟨W0, hW0⟩ : ∃ W0, W0 = w.alloc (.cells (acellsA k s t d z) 38) := ⟨_, rfl⟩
  have HB : Hid (Below w.heap.size w W0) := by rw [hW0]; exact (Below.refl _ _).alloc (Nat.le_refl _) _
  have HU : Hid (DkM G W0 g D ∧ Dok D ∧ Dsm D) := ⟨h.below HB.out, hd, hm⟩
  have HK : Hid (Bk 38 W0 w.heap.size (acellsA k s t d z)) := by rw [hW0]; exact (blk_new w 38 _).1
  have HG : Hid (∀ k, G k → k < w.heap.size) := hG
  obtain ⟨hl1, hl2, hl3⟩ := hl
  clear h hd hm hG
  obtain ⟨R, hR⟩ : ∃ R, R = syR D := ⟨_, rfl⟩
  have HC : Hid (Calls Try.prog 18 _ W0 (ActA G W0 g R)) := hR ▸ syncA_c W0 g D HU.out.1 HU.out.2.1 HU.out.2.2
  have e : acR D k s t d z = R := by rw [hR]; simp [acR, h1, h2, h3, h4, h5]
  rw [e]
  clear e hR
  have e1 : (k == 1) = false := by simp; exact h1
  have e2 : (k == 2) = false := by simp; exact h2
  have e3 : (k == 3) = false := by simp; exact h3
  have e4 : (k == 4) = false := by simp; exact h4
  have e5 : (k == 5) = false := by simp; exact h5
  unfold acellsA at hW0
  rw [hW0] at HC
  go_enter Try.func28, Try.ntmps28
  go_wp2_with (first
    | (go_at_call 18; go_must (refine (Calls.mono HC.out ?_)); rintro r w1 hr; rw [← hW0] at hr; have hrr := hr.1; subst hrr; have H1 : Hid (ActB G w g R (.returned (.tuple #[.int .i64 R.1, .bool true])) w1) := hr.b HB.out; clear hr)
    | (go_at_call 11; go_must (refine (Calls.mono (num_c _ _) ?_)); rintro r wq ⟨rfl, hq⟩; obtain rfl := hq.symm; clear hq))
  go_ret2
  exact H1.out
set_option maxRecDepth 20000 in
set_option maxHeartbeats 2000000 in
theorem act_do2 {G : Nat → Prop} (g : Nat) (D : Dk) (k : Int) (s t d : ByteArray) (z : Int) (w : World) (h : DkM G w g D) (hd : Dok D) (hm : Dsm D) (hG : ∀ k, G k → k < w.heap.size) (hl : s.size ≤ 70368744177664 ∧ t.size ≤ 70368744177664 ∧ d.size ≤ 70368744177664) (hz : -9223372036854775808 ≤ z ∧ z ≤ 9223372036854775807) (hk : k = 2) :
    Calls Try.prog 28 #[.pointer (some ⟨g, 0, none⟩), .agg #[.int .i64 k, .string s, .string t, .string d, .int .i64 z]] w (ActB G w g (acR D k s t d z)) := by
  obtain ⟨W0, hW0⟩ : ∃ W0, W0 = w.alloc (.cells (acellsA k s t d z) 38) := ⟨_, rfl⟩
  have HB : Hid (Below w.heap.size w W0) := by rw [hW0]; exact (Below.refl _ _).alloc (Nat.le_refl _) _
  have HU : Hid (DkM G W0 g D ∧ Dok D ∧ Dsm D) := ⟨h.below HB.out, hd, hm⟩
  have HK : Hid (Bk 38 W0 w.heap.size (acellsA k s t d z)) := by rw [hW0]; exact (blk_new w 38 _).1
  have HG : Hid (∀ k, G k → k < w.heap.size) := hG
  obtain ⟨hl1, hl2, hl3⟩ := hl
  clear h hd hm hG
  subst hk
  obtain ⟨R, hR⟩ : ∃ R, R = apR D s (sb d) := ⟨_, rfl⟩
  have eR : acR D 2 s t d z = R := by rw [hR]; rfl
  rw [eR]
  have e0 : W0.heap.size = w.heap.size + 1 := by rw [hW0]; exact World.size_alloc _ _
  obtain ⟨W1, C1, hcv1, hs1, hb1⟩ := str_bytesK d W0 (by omega)
  have HB1 : Hid (Below w.heap.size w W1) := HB.out.trans (hb1.mono HB.out.size)
  rw [e0] at hcv1 hs1
  have HRo : Hid _ := roomy_c _ _ C1 _ W1 (fun h => by cases h) hs1 (by omega)
  have HU1 : Hid (DkM G W1 g D ∧ Bk 38 W1 w.heap.size (acellsA 2 s t d z)) := ⟨HU.out.1.below hb1, HK.out.below hb1 (lt_of_block HK.out)⟩
  have HS2 : Hid (∀ W, ∃ W2 C, (convert 9 57 (.string d)).run Try.prog W = .ok (.slice (some ⟨W.heap.size, 0, none⟩) d.size C) W2 ∧ Seg .u8 W2 (some ⟨W.heap.size, 0, none⟩) d.size (sb d) ∧ Below W.heap.size W W2) := fun W => str_bytesK d W (by omega)
  have HAP : Hid (∀ w2 gb kk, DkM G w2 g D → Seg .u8 w2 (some ⟨gb, 0, none⟩) (d.size + 8) (sb d ++ marks) → w.heap.size ≤ gb → Calls Try.prog 52 #[.pointer (some ⟨g, 0, none⟩), .string s, .slice (some ⟨gb, 0, none⟩) d.size kk] w2 (ActA G w2 g R)) := by
    show ∀ w2, _
    intro w2 gb kk q1 q2 q3
    rw [hR]
    exact appendA_c s _ d.size kk (sb d) w2 g D q1 HU.out.2.1 HU.out.2.2 (by omega) (frontK q2 (by simp [sb])) (bytes_sbA d) (fun e => by cases e) (by omega) (fun b o q e => by cases e; intro z; have := HG.out _ z; omega)
  clear hs1 hb1 hR eR
  rw [hW0] at hcv1
  unfold acellsA at hcv1
  go_enter Try.func28, Try.ntmps28
  go_wp2_with (first
    | ((fail_if_success (have z := H2)); go_at_call 60; go_must (refine (Calls.mono HRo.out ?_)); rintro r w2 ⟨gb, kk, rfl, k1, k2, k3⟩; have H2 : Hid (Own W1.heap.size w2 (.slice (some ⟨gb, 0, none⟩) (d.size + 8) kk) (d.size + 8) (sb d ++ marks) ∧ d.size + 8 ≤ kk ∧ Below W1.heap.size W1 w2) := ⟨k1, k2, k3⟩; have H3 : Hid (DkM G w2 g D ∧ Bk 38 w2 w.heap.size (acellsA 2 s t d z)) := ⟨HU1.out.1.below k3, HU1.out.2.below k3 (lt_of_block HU1.out.2)⟩; have c1 : w2.cell? ⟨w.heap.size, 1, none⟩ = some (.string s) := Bk.cell H3.out.2 1; have c3 : w2.cell? ⟨w.heap.size, 3, none⟩ = some (.string d) := Bk.cell H3.out.2 3; clear k1 k2 k3)
    | ((fail_if_success (have z := H4)); have zz := H2; clear zz; go_at_call 52; go_must (refine (Calls.mono (HAP.out w2 gb kk H3.out.1 (own_segAd H2.out.1) (Nat.le_trans HB1.out.size (own_wriK H2.out.1).2)) ?_)); rintro r w4 hr; have hrr := hr.1; subst hrr; have H4 : Hid (ActA G w2 g R (.returned (.int .i64 R.1)) w4 ∧ Bk 38 w4 w.heap.size (acellsA 2 s t d z)) := ⟨hr, H3.out.2.gr hr.2.2.1 (fun z => Nat.lt_irrefl _ (HG.out _ z))⟩; have c4 : w4.cell? ⟨w.heap.size, 3, none⟩ = some (.string d) := Bk.cell H4.out.2 3; obtain ⟨W5, C5, hcv5, k5, k6⟩ := HS2.out w4; have H5 : Hid (Seg .u8 W5 (some ⟨w4.heap.size, 0, none⟩) d.size (sb d) ∧ Below w4.heap.size w4 W5) := ⟨k5, k6⟩; clear hr k5 k6)
    | ((fail_if_success (have z := H6)); have zz := H5; clear zz; go_at_call 35; go_must (refine (Calls.mono (kept_c gb d.size kk (sb d) _ _ _ (((own_segAd H2.out.1).gr H4.out.1.2.2.1 (fun b o q e z => by cases e; have h1 := HG.out _ z; have h2 := (own_wriK H2.out.1).2; have h3 := HB1.out.size; omega)).below H5.out.2) H2.out.2.1 H5.out.1 (by omega)) ?_)); rintro r wq ⟨rfl, hq⟩; obtain rfl := hq.symm; clear hq; have H6 : Hid True := trivial))
  have H7 : Hid (WriK W5 gb d.size ∧ DkM (fun k => G k ∨ (w2.heap.size ≤ k ∧ k < w4.heap.size)) W5 g R.2 ∧ Gr G w W5 ∧ Dok R.2 ∧ w.heap.size ≤ gb ∧ gb < w2.heap.size ∧ w.heap.size ≤ w2.heap.size) := by
    obtain ⟨x1, x2⟩ := own_wriK H2.out.1
    obtain ⟨_, y1, y2, y3⟩ := H4.out.1
    have hz1 := HB1.out.size
    have hz2 := H2.out.2.2.size
    have b2 : Below w.heap.size w w2 := HB1.out.trans (H2.out.2.2.mono hz1)
    have hlt : gb < w2.heap.size := by obtain ⟨cur, T, hc, hn⟩ := x1; exact lt_of_block hc
    have hng : ¬ G gb := fun z => by have := HG.out _ z; omega
    have x3 : WriK w2 gb d.size := by obtain ⟨cur, T, hc, hn⟩ := x1; exact ⟨cur, T, hc, by omega⟩
    exact ⟨(x3.gr y2 hng).gr (Gr.ofB (G := fun _ => False) H5.out.2) (fun z => z), y1.below H5.out.2, ((Gr.ofB b2).trans y2).trans (Gr.ofB H5.out.2), y3, by omega, hlt, b2.size⟩
  have HZ5 : Hid (w4.heap.size ≤ W5.heap.size) := H5.out.2.size
  have hdl : d.size ≤ 70368744177664 := hl3
  clear HU1 HK HU HB HB1 HRo HS2 HAP e0 H2 H3 H4 H5 H6 c1 c3 c4 hcv1 hcv5
  go_loopw [9] (fun i wr => ∃ j : Nat, j ≤ d.size ∧ i = .int .i64 j ∧ Hid (WriK wr gb d.size ∧ DkM (fun k => G k ∨ (w2.heap.size ≤ k ∧ k < w4.heap.size)) wr g R.2 ∧ Gr G w wr ∧ w4.heap.size ≤ wr.heap.size)) (fun i _ => d.size - (intOf i).toNat)
  case atStart => exact ⟨0, Nat.zero_le _, rfl, ⟨H7.out.1, H7.out.2.1, H7.out.2.2.1, HZ5.out⟩⟩
  case round =>
    obtain ⟨j, hj, rfl, HI⟩ := hrel
    by_cases hlt : j < d.size
    · obtain ⟨v, hc⟩ := HI.out.1.at_ hlt
      have hf := HI.out.1.free (i := j)
      have hj1 : (j : Int) < (d.size : Int) := by omega
      have H8 : Hid (WriK (wr.setCell ⟨gb, j, none⟩ (.int .u8 77)) gb d.size ∧ DkM (fun k => G k ∨ (w2.heap.size ≤ k ∧ k < w4.heap.size)) (wr.setCell ⟨gb, j, none⟩ (.int .u8 77)) g R.2 ∧ Gr G w (wr.setCell ⟨gb, j, none⟩ (.int .u8 77)) ∧ w4.heap.size ≤ (wr.setCell ⟨gb, j, none⟩ (.int .u8 77)).heap.size) := by
        obtain ⟨_, _, _, _, z5, z6, z7⟩ := H7.out
        have hg1 : Gr (fun k => k = gb) wr (wr.setCell ⟨gb, j, none⟩ (.int .u8 77)) := (Gr.refl (fun k => k = gb) wr).set gb j rfl _
        refine ⟨HI.out.1.set, HI.out.2.1.gr hg1 (fun k hk e => ?_), HI.out.2.2.1.then hg1 (fun i hi e => ?_), Nat.le_trans HI.out.2.2.2 hg1.size⟩
        · rcases hk with hk | hk
          · have := HG.out _ hk; omega
          · omega
        · omega
      go_wp2
      go_roundw
      case rel => exact ⟨j + 1, by omega, by go_num, H8⟩
      case measure => simp [intOf]; omega
    · obtain rfl : j = d.size := by omega
      have HE : Hid (ActB G w g R (.returned (.tuple #[.int .i64 R.1, .bool true])) wr) := ⟨rfl, HI.out.2.1.weak (fun k hk => hk.imp id (fun z => by
        have h1 := H7.out.2.2.2.2.2.2
        have h2 := HI.out.2.2.2
        exact ⟨by omega, by omega⟩)), HI.out.2.2.1, H7.out.2.2.2.1⟩
      go_wp2_with (go_at_call 11; go_must (refine (Calls.mono (num_c _ _) ?_)); rintro r wq ⟨rfl, hq⟩; obtain rfl := hq.symm; clear hq)
      go_ret2
      exact HE.out
theorem actD_c {G : Nat → Prop} (g : Nat) (D : Dk) (k : Int) (s t d : ByteArray) (z : Int) (w : World) (h : DkM G w g D) (hd : Dok D) (hm : Dsm D) (hG : ∀ k, G k → k < w.heap.size) (hl : s.size ≤ 70368744177664 ∧ t.size ≤ 70368744177664 ∧ d.size ≤ 70368744177664) (hz : -9223372036854775808 ≤ z ∧ z ≤ 9223372036854775807) :
    Calls Try.prog 28 #[.pointer (some ⟨g, 0, none⟩), .agg #[.int .i64 k, .string s, .string t, .string d, .int .i64 z]] w (ActB G w g (acR D k s t d z)) := by
  by_cases h1 : k = 1
  · exact act_do1 g D k s t d z w h hd hm hG hl hz h1
  by_cases h2 : k = 2
  · exact act_do2 g D k s t d z w h hd hm hG hl hz h2
  by_cases h3 : k = 3
  · exact act_do3 g D k s t d z w h hd hm hG hl hz h3
  by_cases h4 : k = 4
  · exact act_do4 g D k s t d z w h hd hm hG hl hz h4
  by_cases h5 : k = 5
  · exact act_do5 g D k s t d z w h hd hm hG hl hz h5
  exact act_do6 g D k s t d z w h hd hm hG hl hz h1 h2 h3 h4 h5
end Go.Proofs.Yteoohgjoffpmkaa
