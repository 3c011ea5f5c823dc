/-
  What merkle's Leaf answers of no rows: the digest of one byte 0. No condition.
-/
import Derived.Test.YthbnbomdngecmaaMNd
import Derived.RangeFuncNested
import Derived.RangeFuncBound
import Derived.RangeFuncCalls
import Derived.RangeFuncFrom
import Derived.RangeFuncBox
import Derived.RangeFuncLeaves
import Derived.Shelf.Abstract
import Derived.OwnWalkIn
import Derived.TacticsInMore
import Derived.LoopNIn
import Derived.LoopIn
namespace Go.Proofs.Ythbnbomdngecmaa
open Go.RowKit Go.Shelf
set_option linter.unusedVariables false
attribute [local go_sem] Oper.semAt_some

/-- What a loop's body keeps: the iterator's block. -/
def BsK (Bs : Nat) (A B : World) : Prop := B.heap[Bs]? = A.heap[Bs]?
theorem BsK.trans {Bs : Nat} {A B C : World} (h : BsK Bs A B) (k : BsK Bs B C) : BsK Bs A C := Eq.trans (show C.heap[Bs]? = B.heap[Bs]? from k) h
theorem BsK.put {Bs : Nat} {w : World} (hBs : Bs < w.heap.size) (W : World) (l : Nat) (o o' : Obj) (hl : w.heap.size ≤ l) (h : W.heap[l]? = some o) (h1 : o.isCells = false) (h2 : o.isWalk = false) : BsK Bs W (W.putObj l o') :=
  World.putObj_heap_other (by omega)
theorem cell_one {W : World} {B : Nat} {v : Value} {t : TypeId} (h : W.heap[B]? = some (.cells #[v] t (0, 0))) : W.cell? ⟨B, 0, none⟩ = some v := by
  have := cell_of_row W B 0 #[v] t (0, 0) h
  simpa using this
theorem hw_write' {w wr : World} {g D : Nat} {ys : List Int} (h : HW w wr g D ys) (a : Option Addr) (len cap : Nat) (xs : List Int) (hs : Seg .u8 wr a len xs) (hx : Bytes xs) (hf : Far g a len) (hlc : len ≤ cap) (hcm : cap ≤ 9223372036854775807) (hn : ys.length + len < 4611686018427387904) :
    Calls Try.prog 21 #[.pointer (some ⟨g, 0, none⟩), .slice a len cap] wr fun r w' => r = .returned (.tuple #[]) ∧ HW w w' g D (ys ++ xs) ∧ wr.grownBy w' (some g) := by
  obtain ⟨h1, h2, h3, h4, h5, h6⟩ := h
  refine (hwrite_c g (shz (st0, []) ys) ys.length a len cap xs wr h1 hs hx (shz_bytes (st0, []) ys (fun i hi => by simp at hi) h6 (by simp)) hf hlc hcm hn).mono ?_
  rintro r w' ⟨rfl, k1, k2⟩
  refine ⟨rfl, ⟨?_, h2.grew k2 (fun e => by cases e; omega), gb_newer h3 k2 (by omega), h4, h5, bytes_cat h6 hx⟩, k2⟩
  rw [shz_app, List.length_append, hs.1]
  exact k1
theorem hw_sum' {w wr : World} {g D : Nat} {ys : List Int} (h : HW w wr g D ys) (hn : ys.length < 2305843009213693952) :
    Calls Try.prog 22 #[.pointer (some ⟨g, 0, none⟩)] wr fun r w' => r = .returned (.agg (u8s (sha ys))) ∧ Bk 25 w' D (u8s dz32) ∧ wr.grownBy w' none := by
  obtain ⟨h1, h2, h3, h4, h5, h6⟩ := h
  refine (hsum_c g (shz (st0, []) ys) ys.length wr h1 (shz_bytes (st0, []) ys (fun i hi => by simp at hi) h6 (by simp)) hn).mono ?_
  rintro r w' ⟨rfl, k1⟩
  exact ⟨rfl, h2.gb k1, k1⟩
/-- The Hasher and the variable that points to it: kept by whatever the loop's own book-keeping turns. -/
theorem HW.kept {w W W' : World} {g D : Nat} {ys : List Int} {row : Option Nat} (h : HW w W g D ys) (hg : W.grownBy W' row) (hr : ∀ r, row = some r → w.heap.size ≤ r ∧ ∃ o : Obj, W.heap[r]? = some o ∧ o.isCells = false) : HW w W' g D ys := by
  obtain ⟨h1, h2, h3, h4, h5, h6⟩ := h
  have no : ∀ {b : Nat} {c : Array Value} {T : TypeId}, W.heap[b]? = some (.cells c T (0, 0)) → some b ≠ row := fun hb e => by
    obtain ⟨_, o, ho, hc⟩ := hr _ e.symm
    rw [hb] at ho; cases ho; simp [Obj.isCells] at hc
  have k1 := (hg.block g (lt_of_block h1.1.1) (no h1.1.1)).trans h1.1.1
  have k2 := (hg.block D (lt_of_block h2) (no h2)).trans h2
  refine ⟨⟨⟨k1, h1.1.2⟩, h1.2⟩, k2, ?_, h4, h5, h6⟩
  cases row with
  | none => exact gb_trans h3 hg
  | some r => exact gb_newer h3 hg (hr r rfl).1
def enc0 (x : Fin 0) : Array Value := #[undef]
set_option maxHeartbeats 400000 in
theorem values0_stops (n : Nat) (Bs : Nat) (w : World) (hBs : Bs < w.heap.size) (hc : w.heap[Bs]? = some (.cells #[.slice none 0 0] 28 (0, 0))) :
    SeqStopsK Fence.wide n Try.prog 29 #[.pointer (some ⟨Bs, 0, none⟩)] enc0 (BsK Bs) (fun xs => xs = []) (fun _ => False) 0 w := fun l J Jx W hW hJ hJx hY h0 => by
  have hcb := cell_one ((hW.block _ hBs).trans hc)
  refine callsIn_of_wp Try.func29 rfl trivial ?_ rfl
  simp only [Try.ntmps29, List.size_toArray, List.length_cons, List.length_nil, Nat.reduceAdd, Nat.reduceSub, Array.replicate_succ, Array.replicate_zero, List.push_toArray, List.append_toArray, List.nil_append, List.cons_append]
  have H0 : Hid (J [] W) := h0
  clear hY hJ hJx h0
  gi_wp2
  gi_loopw [7] (fun i wr => i = .int .i64 0 ∧ Hid (J [] wr)) (fun i _ => 0)
  case atStart => exact ⟨rfl, H0⟩
  case round =>
    obtain ⟨rfl, hr⟩ := hrel
    gi_wp2
    go_end0
    exact ⟨⟨_, rfl⟩, .inl ⟨[], rfl, hr.out⟩⟩
set_option maxHeartbeats 400000 in
theorem values_c (a : Option Addr) (n cap : Nat) (w : World) :
    Calls Try.prog 17 #[.slice a n cap] w fun e w' => e = .returned (.func (.func 29) #[] #[.pointer (some ⟨w.heap.size, 0, none⟩)]) ∧ w' = w.alloc (.cells #[.slice a n cap] 28) := by
  go_enter Try.func17, Try.ntmps17
  go_wp2
  go_ret
  exact ⟨rfl, rfl⟩
set_option maxRecDepth 20000 in
set_option maxHeartbeats 1000000 in
theorem digest0_c (Bs : Nat) (w : World) (hc : w.heap[Bs]? = some (.cells #[.slice none 0 0] 28 (0, 0))) :
    Calls Try.prog 16 #[.func (.func 29) #[] #[.pointer (some ⟨Bs, 0, none⟩)]] w fun e w' => e = .returned (.agg (u8s (sha [0]))) ∧ w.grownBy w' none := by
  have hzd := zD
  have HBs : Hid (Bs < w.heap.size) := (Array.getElem?_eq_some_iff.1 hc).1
  have HC : Hid (w.heap[Bs]? = some (.cells #[.slice none 0 0] 28 (0, 0))) := hc
  have HSL : Hid ((sha [0]).length = 32) := sha_len _
  obtain ⟨E, hE⟩ : ∃ E, E = sha [0] := ⟨_, rfl⟩
  have HE : Hid (sha [0] = E) := hE.symm
  rw [← hE] at HSL ⊢
  clear hc hE
  refine (callsIn_wide (n := 5)).1 ?_
  refine callsIn_of_wp_marks Try.func16 rfl trivial ?_ rfl
  simp only [Try.ntmps16, List.size_toArray, List.length_cons, List.length_nil, Nat.reduceAdd, Nat.reduceSub, Array.replicate_succ, Array.replicate_zero, List.push_toArray, List.append_toArray, List.nil_append, List.cons_append]
  refine wpIn_wide.2 ?_
  go_wp2_with (first
    | (go_at_call 20; go_must (refine (hnew_c _).mono ?_); rintro r w1 ⟨g, rfl, hg1, hH, h1⟩; have H1 : Hid (HW w w1 g w.heap.size []) := hw_new hg1 hH h1; clear hg1 hH h1)
    | (go_at_call 21; go_must (refine (hw_write' (H1.out.gb (gb_trans (World.grownBy_alloc w1 (.cells #[.pointer (some ⟨g, 0, none⟩)] 52) none) (World.grownBy_alloc _ (.cells #[.int .u8 0] 5) none))) _ 1 1 [0] (seg_at (w1.heap.size + 1) _ .u8 _ _ 1 [0] (by simp) rfl rfl) bytes_0 (.inr ⟨_, _, rfl, by have := H1.out.1.1.lt; omega⟩) (by decide) (by decide) (by decide)).mono ?_); rintro r w2 ⟨rfl, h2, h3⟩; have H2 : Hid (HW w w2 g w.heap.size [0] ∧ Boxed w2 w1.heap.size 52 (.pointer (some ⟨g, 0, none⟩)) ∧ w.heap.size ≤ w1.heap.size) := ⟨h2, ((Boxed.new w1 52 (.pointer (some ⟨g, 0, none⟩))).alloc _).kept h3 (fun e => by have := H1.out.1.1.lt; cases e; omega), H1.out.2.2.1.size⟩; clear h2 h3))
  obtain ⟨Bh, hBh⟩ : ∃ Bh, Bh = w1.heap.size := ⟨_, rfl⟩
  rw [← hBh] at H2 ⊢
  clear hBh H1
  refine (wpIn_wide (n := 5)).1 ?_
  refine wpIn_rangeFunc_ownF rfl (by decide) (gf := 29) (lb := #[.pointer (some ⟨Bs, 0, none⟩)]) rfl trivial (enters_of Try.func29 (by kernel_rfl) rfl)
    (values0_stops 4 Bs w2 (Nat.lt_of_lt_of_le HBs.out H2.out.1.2.2.1.size) ((H2.out.1.2.2.1.block Bs HBs.out (by simp)).trans HC.out)) BsK.trans (BsK.put (Nat.lt_of_lt_of_le HBs.out H2.out.1.2.2.1.size)) (Below.refl _ _) (fun _ => rfl)
    (fun pre W => HW w W g w.heap.size [0] ∧ Boxed W Bh 52 (.pointer (some ⟨g, 0, none⟩))) (fun _ _ _ => False)
    (fun s A B row hs hg hr => ⟨hs.1.kept hg (fun r e => ⟨Nat.le_trans H2.out.1.2.2.1.size (hr r e).1, (hr r e).2⟩), hs.2.kept hg (fun e => by obtain ⟨_, o, ho, hc⟩ := hr _ e.symm; rw [show A.heap[Bh]? = _ from hs.2] at ho; cases ho; simp [Obj.isCells] at hc)⟩)
    (fun _ _ _ _ _ hs _ _ => hs) ⟨H2.out.1, H2.out.2.1⟩ (fun x => x.elim0) (fun l x => x.elim0) (fun l pre x => x.elim0) ?done (fun D c pre W hD h => h.elim)
  rintro D ys W hD rfl ⟨hW, hBx⟩ hK
  have hcell := hBx.cell
  have HSU : Hid (Calls Try.prog 22 #[.pointer (some ⟨g, 0, none⟩)] W fun r w' => r = .returned (.agg (u8s E)) ∧ Bk 25 w' w.heap.size (u8s dz32) ∧ W.grownBy w' none) := by
    have h1 := hw_sum' hW (by decide)
    rw [HE.out] at h1
    exact h1
  have HG : Hid (w.grownBy W none ∧ w.heap.size ≠ D ∧ w.heap.size ≤ D ∧ W.heap[D]? = some (.deferred (some []))) := ⟨hW.2.2.1, by have := lt_of_block H2.out.1.2.1; omega, Nat.le_trans H2.out.1.2.2.1.size hD, hK⟩
  clear hW hBx hK hD H2
  go_wp2_with (first
    | (go_at_call 22; go_must (refine (Calls.mono HSU.out ?_)); rintro r w6 ⟨rfl, h6, q6⟩; have H6 : Hid (Bk 25 w6 w.heap.size (u8s dz32) ∧ w.grownBy w6 none ∧ w6.heap[D]? = some (.deferred (some []))) := ⟨h6, gb_trans HG.out.1 q6, (q6.block D (Array.getElem?_eq_some_iff.1 HG.out.2.2.2).1 (by simp)).trans HG.out.2.2.2⟩; clear h6 q6)
    | (refine wpList_store_bk 25 rfl (.tmp 2) (.tmp 16) rfl infoD w.heap.size (u8s dz32) (u8s E) rfl rfl H6.out.1 rfl (by rw [u8s_size]; exact HSL.out) (u8s_one _) ?_; intro w7 h1 h2; have H7 : Hid (Bk 25 w7 w.heap.size (u8s E) ∧ w.grownBy w7 none ∧ w7.heap[D]? = some (.deferred (some []))) := ⟨h1, gb_newer H6.out.2.1 h2 (Nat.le_refl _), (h2.block D (Array.getElem?_eq_some_iff.1 H6.out.2.2).1 (fun e => HG.out.2.1 (by cases e; rfl))).trans H6.out.2.2⟩; clear h1 h2))
  refine ⟨by simp, .inl ⟨_, _, rfl, run_takeDeferred H7.out.2.2, ?_⟩⟩
  have H8 : Hid (Bk 25 (w7.putObj D (.deferred none)) w.heap.size (u8s E) ∧ w.grownBy (w7.putObj D (.deferred none)) none) := ⟨(World.putObj_heap_other HG.out.2.1).trans H7.out.1, gb_newer H7.out.2.1 (grownBy_putObj' w7 D (.deferred none)) HG.out.2.2.1⟩
  exact ⟨.agg (u8s E), results_cell1 Try.results16 _ _ _ ⟨w.heap.size, 0, none⟩ (.agg (u8s E)) rfl (bk_load (T := 25) Try.underlying25 rfl infoD H8.out.1 (by rw [u8s_size]; exact HSL.out)), rfl, H8.out.2⟩
set_option maxHeartbeats 400000 in
theorem leaf0_c (w : World) : Calls Try.prog 8 #[.slice none 0 0] w fun e w' => e = .returned (.agg (u8s (sha [0]))) ∧ w.grownBy w' none := by
  have hzd := zD
  have HSL : Hid ((sha [0]).length = 32) := sha_len _
  have HD : Hid (∀ Bs W, W.heap[Bs]? = some (.cells #[.slice none 0 0] 28 (0, 0)) → Calls Try.prog 16 #[.func (.func 29) #[] #[.pointer (some ⟨Bs, 0, none⟩)]] W fun e w' => e = .returned (.agg (u8s (sha [0]))) ∧ W.grownBy w' none) := fun Bs W h => digest0_c Bs W h
  obtain ⟨E, hE⟩ : ∃ E, E = sha [0] := ⟨_, rfl⟩
  rw [← hE] at HSL HD ⊢
  clear hE
  have HB : Hid (Bk 25 (w.alloc (.cells (u8s dz32) 25)) w.heap.size (u8s dz32) ∧ w.grownBy (w.alloc (.cells (u8s dz32) 25)) none) := blk_new w _ _
  go_enter Try.func8, Try.ntmps8
  go_wp2_with (first
    | (go_at_call 17; go_must (refine (values_c _ _ _ _).mono ?_); rintro r w1 ⟨rfl, h1⟩; have H1 : Hid (w1.heap[(w.alloc (.cells (u8s dz32) 25)).heap.size]? = some (.cells #[.slice none 0 0] 28 (0, 0)) ∧ Bk 25 w1 w.heap.size (u8s dz32) ∧ w.grownBy w1 none) := (by rw [h1]; exact ⟨heap_new _ _, HB.out.1.gb (World.grownBy_alloc _ _ _), gb_trans HB.out.2 (World.grownBy_alloc _ _ _)⟩); clear h1)
    | (go_at_call 16; go_must (refine (Calls.mono (HD.out _ _ (by simpa using H1.out.1)) ?_)); rintro r w2 ⟨rfl, q⟩; have H2 : Hid (Bk 25 w2 w.heap.size (u8s dz32) ∧ w.grownBy w2 none) := ⟨H1.out.2.1.gb q, gb_trans H1.out.2.2 q⟩; clear q)
    | (refine wpList_store_bk 25 rfl (.tmp 2) (.tmp 5) rfl infoD w.heap.size (u8s dz32) (u8s E) rfl rfl H2.out.1 rfl (by rw [u8s_size]; exact HSL.out) (u8s_one _) ?_; intro w7 h1 h2; have H7 : Hid (Bk 25 w7 w.heap.size (u8s E) ∧ w.grownBy w7 none) := ⟨h1, gb_newer H2.out.2 h2 (Nat.le_refl _)⟩; clear h1 h2))
  refine bodyPost_ret (results_cell1 Try.results8 _ _ _ ⟨w.heap.size, 0, none⟩ (.agg (u8s E)) rfl (bk_load (T := 25) Try.underlying25 rfl infoD H7.out.1 (by rw [u8s_size]; exact HSL.out))) rfl ?_
  exact ⟨rfl, H7.out.2⟩
theorem sha_zero : sha [0] = [110, 52, 11, 156, 255, 179, 122, 152, 156, 165, 68, 230, 187, 120, 10, 44, 120, 144, 29, 63, 179, 55, 56, 118, 133, 17, 163, 6, 23, 175, 160, 29] := by decide +kernel
end Go.Proofs.Ythbnbomdngecmaa
