/-
  What frame.cut, Encode, Decode and One answer, called with whatever bytes. Condition: the table of package crc lies in memory as the program's text lays it; the bytes can be read, and are at most 2^47.
-/
import Derived.Test.YtbfbehjldloeoaaDoorRows
import Derived.Test.YtbfbehjldloeoaaDoorFDe
import Derived.Test.YtbfbehjldloeoaaDoorFBk
import Derived.Laws.CopyOwn
namespace Go.Proofs.YtbfbehjldloeoaaDoor
set_option linter.unusedVariables false
open Go.RowKit

/-- The type, the count of bytes and the body that Decode tells. -/
def ftp (xs : List Int) : Int := if fdec xs = 0 then xs[2]?.getD 0 else 0
def fnn (xs : List Int) : Nat := if fdec xs = 0 then flen xs + 14 else 0
def fbd (xs : List Int) : List Int := if fdec xs = 0 then fbody xs else []

theorem made_row {w0 w1 : World} {n : Nat} (hown : w1.ownsRow w0.heap.size 5 1 (.slice (some ⟨w0.heap.size, 0, none⟩) n n) n (madeCells (Value.int .u8 0).cells (n * 1)).toList) : Row .u8 5 w1 w0.heap.size (List.replicate n 0) :=
  row_of_own _ hown (by rw [List.map_replicate]; simpa [Value.cells] using toList_madeCells_one (.int .u8 0) n)
theorem splice_all (n : Nat) (xs : List Int) (h : xs.length = n) : splice ((List.replicate n (0 : Int)).map (Value.int .u8)) 0 (xs.map (Value.int .u8)) = xs.map (Value.int .u8) := by
  simp [splice, h]
/-- A row is bytes of one's own. -/
theorem Row.own {w : World} {B g n : Nat} {xs : List Int} (h : Row .u8 5 w g xs) (hn : xs.length = n) (hB : B ≤ g) (hm : n ≤ maxLen) : Own B w (.slice (some ⟨g, 0, none⟩) n n) n xs := by
  refine ⟨by simp [hn], .inr ⟨g, n, _, rfl, hB, h, Nat.le_refl _, hm, by simp [hn], by rw [Nat.mul_one, List.take_of_length_le (by simp [hn])]⟩⟩
theorem Tryd.sizeU8 : (Tryd.prog.info? 5).map (·.size) = some 1 := by kernel_rfl
theorem u8s_one (l : List Int) : ∀ v ∈ l.map (Value.int .u8), v.oneCell' = true := by
  intro v hv
  obtain ⟨z, _, rfl⟩ := List.mem_map.1 hv
  rfl

theorem made_cut {w W0 w1 : World} {N n : Nat} (h0 : Bk 29 W0 N #[Value.int IntKind.i64 0, Value.slice none 0 0]) (hb : Below N w W0) (hs : W0.heap.size = N + 1) (hown : w1.ownsRow W0.heap.size 5 1 (.slice (some ⟨W0.heap.size, 0, none⟩) n n) n (madeCells (Value.int .u8 0).cells (n * 1)).toList) (hg : W0.grownBy w1 none) :
    Row .u8 5 w1 (N + 1) (List.replicate n 0) ∧ Bk 29 w1 N #[Value.int IntKind.i64 0, Value.slice none 0 0] ∧ Below N w w1 := by
  refine ⟨by rw [← hs]; exact made_row hown, h0.grew hg (by simp), hb.grown hg (by omega) (fun k hk => by cases hk)⟩

theorem copied_cut {w w1 w2 : World} {N n : Nat} {ys : List Int} (h : Row .u8 5 w1 (N + 1) (List.replicate n 0) ∧ Bk 29 w1 N #[Value.int IntKind.i64 0, Value.slice none 0 0] ∧ Below N w w1)
    (hg : w2.heap[N + 1]? = some (.cells (splice ((List.replicate n (0 : Int)).map (Value.int .u8)) 0 (ys.map (Value.int .u8))).toArray 5 (0, 0))) (hb : Below (N + 1) w1 w2) (hl : ys.length = n) :
    Row .u8 5 w2 (N + 1) ys ∧ Bk 29 w2 N #[Value.int IntKind.i64 0, Value.slice none 0 0] ∧ Below N w w2 := by
  rw [splice_all n ys hl] at hg
  exact ⟨hg, h.2.1.below hb (by omega), h.2.2.trans (hb.mono (by omega))⟩
theorem stored_cut {w w2 w3 : World} {N n : Nat} {ys : List Int} {cs : Array Value} (h3 : Bk 29 w3 N cs) (h : Row .u8 5 w2 (N + 1) ys ∧ Bk 29 w2 N #[Value.int IntKind.i64 0, Value.slice none 0 0] ∧ Below N w w2) (hg : w2.grownBy w3 (some N)) (hl : ys.length = n) (hm : n ≤ 1048576) :
    Bk 29 w3 N cs ∧ Own N w3 (.slice (some ⟨N + 1, 0, none⟩) n n) n ys ∧ Below N w w3 := by
  have hr : Row .u8 5 w3 (N + 1) ys := (hg.block (N + 1) (lt_of_block h.1) (fun e => by simp at e)).trans h.1
  exact ⟨h3, hr.own hl (by omega) (by unfold maxLen; omega), h.2.2.grown hg (Nat.le_of_lt (lt_of_block h.2.1)) (fun k hk => by cases hk; omega)⟩
theorem Tryd.infoFrame : (Tryd.prog.info? 29).map (·.size) = some 2 := by kernel_rfl

set_option maxHeartbeats 1000000 in
theorem cut_c (a : Option Addr) (n cap : Nat) (xs : List Int) (w : World) (hs : Seg .u8 w a (n + 14) xs) (hx : Bytes xs) (hl : n ≤ 1048576) (hlc : n + 14 ≤ cap) :
    Calls Tryd.prog 25 #[.slice a (n + 14) cap] w fun e w' => ∃ u, e = .returned (.agg #[.int .i64 (xs[2]?.getD 0), u]) ∧ Own w.heap.size w' u n ((xs.drop 10).take n) ∧ Below w.heap.size w w' := by
  obtain ⟨i0, hi, hz0, hz1, hz2⟩ := info_parts Tryd.infoU8
  obtain ⟨b, off, rfl, hbw, hc⟩ := hs.cells (by omega)
  have HC2 : Hid (w.cell? ⟨b, off + 2, none⟩ = some (.int .u8 (xs[2]?.getD 0)) ∧ b < w.heap.size) := ⟨hc 2 (by omega), hbw⟩
  have HS : Hid (Seg .u8 w (some ⟨b, off + 10, none⟩) n ((xs.drop 10).take n)) := by
    have := (hs.drop 10 (by omega) (by omega)).take n (by omega)
    exact this
  have b2 := hx 2 (by have := hs.1; omega)
  obtain ⟨X2, hX2⟩ : ∃ X, X = xs[2]?.getD (0 : Int) := ⟨_, rfl⟩
  rw [← hX2] at HC2 b2 ⊢
  obtain ⟨ys, hys⟩ : ∃ ys, ys = (xs.drop 10).take n := ⟨_, rfl⟩
  rw [← hys] at HS ⊢
  clear hs hx hc hbw hX2 hys
  have HSL : Hid (ys.length = n) := HS.out.1
  have HL : Hid (n ≤ 1048576) := hl
  obtain ⟨N, hN⟩ : ∃ N, N = w.heap.size := ⟨_, rfl⟩
  by_cases hn : n = 0
  · subst hn
    go_enter Tryd.func25, Tryd.ntmps25
    go_wp2_with (first
      | (at_make; rw [← hN]; generalize hW0 : World.alloc w _ = W0; have H0 : Hid (Bk 29 W0 N #[Value.int IntKind.i64 0, Value.slice none 0 0] ∧ Below N w W0 ∧ W0.heap.size = N + 1) := by (rw [← hW0, hN]; exact ⟨heap_new w _, (Below.refl _ _).alloc (Nat.le_refl _) _, by simp⟩)
         have HNW : Hid (N = w.heap.size) := hN
         clear hW0 hN
         go_must (refine wpList_make_full _ rfl _ _ 22 rfl W0.heap.size 5 i0 (.int .u8 0) 1 Tryd.underlying22 hi hz0 hz1 _ _ _ _ 0 rfl rfl (by omega) (by omega) (by rw [hz2]; omega) (by unfold maxLen; omega) (Nat.le_refl _) ?_)
         intro w1 hown hgrow; have H1 : Hid (Row .u8 5 w1 (N + 1) (List.replicate 0 0) ∧ Bk 29 w1 N #[Value.int IntKind.i64 0, Value.slice none 0 0] ∧ Below N w w1) := made_cut H0.out.1 H0.out.2.1 H0.out.2.2 hown hgrow; rw [H0.out.2.2] at hown ⊢; clear hown hgrow)
      | (refine wpList_copy_splice rfl (.tmp 16) (.tmp 17) 22 22 rfl 5 Tryd.underlying22 Tryd.sizeU8 _ _ _ _ _ _ rfl rfl (N + 1) 0 ((List.replicate 0 (0 : Int)).map (Value.int .u8)) 5 H1.out.1 (ys.map (Value.int .u8)) (by rw [List.length_map, HSL.out]; first | (show _ = min _ _; omega) | simp) (fun hp => by (rw [List.length_map, HSL.out] at hp; omega)) (by rw [List.length_map, List.length_map, List.length_replicate, HSL.out]; omega) (u8s_one ys) (N + 1) w1 (Below.refl _ _) (Nat.le_refl _) ?_; intro w2 hg2 hb2; have H2 : Hid (Row .u8 5 w2 (N + 1) ys ∧ Bk 29 w2 N #[Value.int IntKind.i64 0, Value.slice none 0 0] ∧ Below N w w2) := copied_cut H1.out hg2.out hb2 HSL.out; clear hg2 hb2; have c2 : w2.cell? ⟨b, off + 2, none⟩ = some (.int .u8 X2) := (H2.out.2.2.cell (p := ⟨b, off + 2, none⟩) (by rw [HNW.out]; exact HC2.out.2)).trans HC2.out.1)
      | (refine wpList_store_bk 29 rfl (.tmp 2) (.tmp 24) rfl Tryd.infoFrame N _ _ rfl rfl H2.out.2.1 rfl rfl (by simp [Value.oneCell']) ?_; intro w3 h3 h3g; have H3 : Hid (Bk 29 w3 N #[.int .i64 X2, .slice (some ⟨N + 1, 0, none⟩) 0 0] ∧ Own N w3 (.slice (some ⟨N + 1, 0, none⟩) 0 0) 0 ys ∧ Below N w w3) := stored_cut h3 H2.out h3g HSL.out HL.out; clear h3 h3g))
    refine bodyPost_ret (results_cell1 Tryd.results25 _ _ _ ⟨N, 0, none⟩ _ rfl (bk_load Tryd.underlying29 rfl Tryd.infoFrame H3.out.1 rfl)) rfl ?_
    rw [← HNW.out]
    exact ⟨_, rfl, H3.out.2.1, H3.out.2.2⟩
  · go_enter Tryd.func25, Tryd.ntmps25
    have j1 : n + 14 - 4 - 10 = n := by omega
    go_wp2_with (first
      | (at_make; rw [← hN]; generalize hW0 : World.alloc w _ = W0; have H0 : Hid (Bk 29 W0 N #[Value.int IntKind.i64 0, Value.slice none 0 0] ∧ Below N w W0 ∧ W0.heap.size = N + 1) := by (rw [← hW0, hN]; exact ⟨heap_new w _, (Below.refl _ _).alloc (Nat.le_refl _) _, by simp⟩)
         have HNW : Hid (N = w.heap.size) := hN
         clear hW0 hN
         go_must (refine wpList_make_full _ rfl _ _ 22 rfl W0.heap.size 5 i0 (.int .u8 0) 1 Tryd.underlying22 hi hz0 hz1 _ _ _ _ n rfl rfl (by omega) (by omega) (by rw [hz2]; omega) (by unfold maxLen; omega) (Nat.le_refl _) ?_)
         intro w1 hown hgrow; have H1 : Hid (Row .u8 5 w1 (N + 1) (List.replicate n 0) ∧ Bk 29 w1 N #[Value.int IntKind.i64 0, Value.slice none 0 0] ∧ Below N w w1) := made_cut H0.out.1 H0.out.2.1 H0.out.2.2 hown hgrow; rw [H0.out.2.2] at hown ⊢; clear hown hgrow)
      | (refine wpList_copy_splice rfl (.tmp 16) (.tmp 17) 22 22 rfl 5 Tryd.underlying22 Tryd.sizeU8 _ _ _ _ _ _ rfl rfl (N + 1) 0 ((List.replicate n (0 : Int)).map (Value.int .u8)) 5 H1.out.1 (ys.map (Value.int .u8)) (by rw [List.length_map, HSL.out]; first | (show _ = min _ _; omega) | simp) (fun hp => ⟨rfl, _, rfl, seg_news' (HS.out.below (HNW.out ▸ H1.out.2.2)) _ rfl⟩) (by rw [List.length_map, List.length_map, List.length_replicate, HSL.out]; omega) (u8s_one ys) (N + 1) w1 (Below.refl _ _) (Nat.le_refl _) ?_; intro w2 hg2 hb2; have H2 : Hid (Row .u8 5 w2 (N + 1) ys ∧ Bk 29 w2 N #[Value.int IntKind.i64 0, Value.slice none 0 0] ∧ Below N w w2) := copied_cut H1.out hg2.out hb2 HSL.out; clear hg2 hb2; have c2 : w2.cell? ⟨b, off + 2, none⟩ = some (.int .u8 X2) := (H2.out.2.2.cell (p := ⟨b, off + 2, none⟩) (by rw [HNW.out]; exact HC2.out.2)).trans HC2.out.1)
      | (refine wpList_store_bk 29 rfl (.tmp 2) (.tmp 24) rfl Tryd.infoFrame N _ _ rfl rfl H2.out.2.1 rfl rfl (by simp [Value.oneCell']) ?_; intro w3 h3 h3g; have H3 : Hid (Bk 29 w3 N #[.int .i64 X2, .slice (some ⟨N + 1, 0, none⟩) n n] ∧ Own N w3 (.slice (some ⟨N + 1, 0, none⟩) n n) n ys ∧ Below N w w3) := stored_cut h3 H2.out h3g HSL.out HL.out; clear h3 h3g))
    refine bodyPost_ret (results_cell1 Tryd.results25 _ _ _ ⟨N, 0, none⟩ _ rfl (bk_load Tryd.underlying29 rfl Tryd.infoFrame H3.out.1 rfl)) rfl ?_
    rw [← HNW.out]
    exact ⟨_, rfl, H3.out.2.1, H3.out.2.2⟩
end Go.Proofs.YtbfbehjldloeoaaDoor
