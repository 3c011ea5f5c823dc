/-
  What merkle's Leaf answers of no rows: the digest of one byte 0. No condition.
  What a loop over slices.Values of rows may count on: each row comes, in its order, all of them, or those up to the one at which the loop was left. Condition: at most 2^20 rows.
-/
import Derived.Test.YthbnbomdngecmaaMNd
import Derived.RangeFuncNested
import Derived.RangeFuncBound
import Derived.RangeFuncCalls
import Derived.RangeFuncFrom
import Derived.RangeFuncBox
import Derived.RangeFuncLeaves
import Derived.Shelf.Abstract
import Derived.OwnWalkIn
import Derived.TacticsInMore
import Derived.LoopNIn
import Derived.LoopIn
namespace Go.Proofs.Ythbnbomdngecmaa
open Go.RowKit Go.Shelf
set_option linter.unusedVariables false
attribute [local go_sem] Oper.semAt_some

/-- What a loop's body keeps: the iterator's block. -/
def BsK (Bs : Nat) (A B : World) : Prop := B.heap[Bs]? = A.heap[Bs]?
theorem BsK.trans {Bs : Nat} {A B C : World} (h : BsK Bs A B) (k : BsK Bs B C) : BsK Bs A C := Eq.trans (show C.heap[Bs]? = B.heap[Bs]? from k) h
theorem BsK.put {Bs : Nat} {w : World} (hBs : Bs < w.heap.size) (W : World) (l : Nat) (o o' : Obj) (hl : w.heap.size ≤ l) (h : W.heap[l]? = some o) (h1 : o.isCells = false) (h2 : o.isWalk = false) : BsK Bs W (W.putObj l o') :=
  World.putObj_heap_other (by omega)
theorem cell_one {W : World} {B : Nat} {v : Value} {t : TypeId} (h : W.heap[B]? = some (.cells #[v] t (0, 0))) : W.cell? ⟨B, 0, none⟩ = some v := by
  have := cell_of_row W B 0 #[v] t (0, 0) h
  simpa using this
theorem hw_write' {w wr : World} {g D : Nat} {ys : List Int} (h : HW w wr g D ys) (a : Option Addr) (len cap : Nat) (xs : List Int) (hs : Seg .u8 wr a len xs) (hx : Bytes xs) (hf : Far g a len) (hlc : len ≤ cap) (hcm : cap ≤ 9223372036854775807) (hn : ys.length + len < 4611686018427387904) :
    Calls Try.prog 21 #[.pointer (some ⟨g, 0, none⟩), .slice a len cap] wr fun r w' => r = .returned (.tuple #[]) ∧ HW w w' g D (ys ++ xs) ∧ wr.grownBy w' (some g) := by
  obtain ⟨h1, h2, h3, h4, h5, h6⟩ := h
  refine (hwrite_c g (shz (st0, []) ys) ys.length a len cap xs wr h1 hs hx (shz_bytes (st0, []) ys (fun i hi => by simp at hi) h6 (by simp)) hf hlc hcm hn).mono ?_
  rintro r w' ⟨rfl, k1, k2⟩
  refine ⟨rfl, ⟨?_, h2.grew k2 (fun e => by cases e; omega), gb_newer h3 k2 (by omega), h4, h5, bytes_cat h6 hx⟩, k2⟩
  rw [shz_app, List.length_append, hs.1]
  exact k1
theorem hw_sum' {w wr : World} {g D : Nat} {ys : List Int} (h : HW w wr g D ys) (hn : ys.length < 2305843009213693952) :
    Calls Try.prog 22 #[.pointer (some ⟨g, 0, none⟩)] wr fun r w' => r = .returned (.agg (u8s (sha ys))) ∧ Bk 25 w' D (u8s dz32) ∧ wr.grownBy w' none := by
  obtain ⟨h1, h2, h3, h4, h5, h6⟩ := h
  refine (hsum_c g (shz (st0, []) ys) ys.length wr h1 (shz_bytes (st0, []) ys (fun i hi => by simp at hi) h6 (by simp)) hn).mono ?_
  rintro r w' ⟨rfl, k1⟩
  exact ⟨rfl, h2.gb k1, k1⟩
/-- The Hasher and the variable that points to it: kept by whatever the loop's own book-keeping turns. -/
theorem HW.kept {w W W' : World} {g D : Nat} {ys : List Int} {row : Option Nat} (h : HW w W g D ys) (hg : W.grownBy W' row) (hr : ∀ r, row = some r → w.heap.size ≤ r ∧ ∃ o : Obj, W.heap[r]? = some o ∧ o.isCells = false) : HW w W' g D ys := by
  obtain ⟨h1, h2, h3, h4, h5, h6⟩ := h
  have no : ∀ {b : Nat} {c : Array Value} {T : TypeId}, W.heap[b]? = some (.cells c T (0, 0)) → some b ≠ row := fun hb e => by
    obtain ⟨_, o, ho, hc⟩ := hr _ e.symm
    rw [hb] at ho; cases ho; simp [Obj.isCells] at hc
  have k1 := (hg.block g (lt_of_block h1.1.1) (no h1.1.1)).trans h1.1.1
  have k2 := (hg.block D (lt_of_block h2) (no h2)).trans h2
  refine ⟨⟨⟨k1, h1.1.2⟩, h1.2⟩, k2, ?_, h4, h5, h6⟩
  cases row with
  | none => exact gb_trans h3 hg
  | some r => exact gb_newer h3 hg (hr r rfl).1
def enc0 (x : Fin 0) : Array Value := #[undef]
set_option maxHeartbeats 400000 in
theorem values0_stops (n : Nat) (Bs : Nat) (w : World) (hBs : Bs < w.heap.size) (hc : w.heap[Bs]? = some (.cells #[.slice none 0 0] 28 (0, 0))) :
    SeqStopsK Fence.wide n Try.prog 29 #[.pointer (some ⟨Bs, 0, none⟩)] enc0 (BsK Bs) (fun xs => xs = []) (fun _ => False) 0 w := fun l J Jx W hW hJ hJx hY h0 => by
  have hcb := cell_one ((hW.block _ hBs).trans hc)
  refine callsIn_of_wp Try.func29 rfl trivial ?_ rfl
  simp only [Try.ntmps29, List.size_toArray, List.length_cons, List.length_nil, Nat.reduceAdd, Nat.reduceSub, Array.replicate_succ, Array.replicate_zero, List.push_toArray, List.append_toArray, List.nil_append, List.cons_append]
  have H0 : Hid (J [] W) := h0
  clear hY hJ hJx h0
  gi_wp2
  gi_loopw [7] (fun i wr => i = .int .i64 0 ∧ Hid (J [] wr)) (fun i _ => 0)
  case atStart => exact ⟨rfl, H0⟩
  case round =>
    obtain ⟨rfl, hr⟩ := hrel
    gi_wp2
    go_end0
    exact ⟨⟨_, rfl⟩, .inl ⟨[], rfl, hr.out⟩⟩
set_option maxHeartbeats 400000 in
theorem values_c (a : Option Addr) (n cap : Nat) (w : World) :
    Calls Try.prog 17 #[.slice a n cap] w fun e w' => e = .returned (.func (.func 29) #[] #[.pointer (some ⟨w.heap.size, 0, none⟩)]) ∧ w' = w.alloc (.cells #[.slice a n cap] 28) := by
  go_enter Try.func17, Try.ntmps17
  go_wp2
  go_ret
  exact ⟨rfl, rfl⟩
set_option maxRecDepth 20000 in
set_option maxHeartbeats 1000000 in
theorem digest0_c (Bs : Nat) (w : World) (hc : w.heap[Bs]? = some (.cells #[.slice none 0 0] 28 (0, 0))) :
    Calls Try.prog 16 #[.func (.func 29) #[] #[.pointer (some ⟨Bs, 0, none⟩)]] w fun e w' => e = .returned (.agg (u8s (sha [0]))) ∧ w.grownBy w' none := by
  have hzd := zD
  have HBs : Hid (Bs < w.heap.size) := (Array.getElem?_eq_some_iff.1 hc).1
  have HC : Hid (w.heap[Bs]? = some (.cells #[.slice none 0 0] 28 (0, 0))) := hc
  have HSL : Hid ((sha [0]).length = 32) := sha_len _
  obtain ⟨E, hE⟩ : ∃ E, E = sha [0] := ⟨_, rfl⟩
  have HE : Hid (sha [0] = E) := hE.symm
  rw [← hE] at HSL ⊢
  clear hc hE
  refine (callsIn_wide (n := 5)).1 ?_
  refine callsIn_of_wp_marks Try.func16 rfl trivial ?_ rfl
  simp only [Try.ntmps16, List.size_toArray, List.length_cons, List.length_nil, Nat.reduceAdd, Nat.reduceSub, Array.replicate_succ, Array.replicate_zero, List.push_toArray, List.append_toArray, List.nil_append, List.cons_append]
  refine wpIn_wide.2 ?_
  go_wp2_with (first
    | (go_at_call 20; go_must (refine (hnew_c _).mono ?_); rintro r w1 ⟨g, rfl, hg1, hH, h1⟩; have H1 : Hid (HW w w1 g w.heap.size []) := hw_new hg1 hH h1; clear hg1 hH h1)
    | (go_at_call 21; go_must (refine (hw_write' (H1.out.gb (gb_trans (World.grownBy_alloc w1 (.cells #[.pointer (some ⟨g, 0, none⟩)] 52) none) (World.grownBy_alloc _ (.cells #[.int .u8 0] 5) none))) _ 1 1 [0] (seg_at (w1.heap.size + 1) _ .u8 _ _ 1 [0] (by simp) rfl rfl) bytes_0 (.inr ⟨_, _, rfl, by have := H1.out.1.1.lt; omega⟩) (by decide) (by decide) (by decide)).mono ?_); rintro r w2 ⟨rfl, h2, h3⟩; have H2 : Hid (HW w w2 g w.heap.size [0] ∧ Boxed w2 w1.heap.size 52 (.pointer (some ⟨g, 0, none⟩)) ∧ w.heap.size ≤ w1.heap.size) := ⟨h2, ((Boxed.new w1 52 (.pointer (some ⟨g, 0, none⟩))).alloc _).kept h3 (fun e => by have := H1.out.1.1.lt; cases e; omega), H1.out.2.2.1.size⟩; clear h2 h3))
  obtain ⟨Bh, hBh⟩ : ∃ Bh, Bh = w1.heap.size := ⟨_, rfl⟩
  rw [← hBh] at H2 ⊢
  clear hBh H1
  refine (wpIn_wide (n := 5)).1 ?_
  refine wpIn_rangeFunc_ownF rfl (by decide) (gf := 29) (lb := #[.pointer (some ⟨Bs, 0, none⟩)]) rfl trivial (enters_of Try.func29 (by kernel_rfl) rfl)
    (values0_stops 4 Bs w2 (Nat.lt_of_lt_of_le HBs.out H2.out.1.2.2.1.size) ((H2.out.1.2.2.1.block Bs HBs.out (by simp)).trans HC.out)) BsK.trans (BsK.put (Nat.lt_of_lt_of_le HBs.out H2.out.1.2.2.1.size)) (Below.refl _ _) (fun _ => rfl)
    (fun pre W => HW w W g w.heap.size [0] ∧ Boxed W Bh 52 (.pointer (some ⟨g, 0, none⟩))) (fun _ _ _ => False)
    (fun s A B row hs hg hr => ⟨hs.1.kept hg (fun r e => ⟨Nat.le_trans H2.out.1.2.2.1.size (hr r e).1, (hr r e).2⟩), hs.2.kept hg (fun e => by obtain ⟨_, o, ho, hc⟩ := hr _ e.symm; rw [show A.heap[Bh]? = _ from hs.2] at ho; cases ho; simp [Obj.isCells] at hc)⟩)
    (fun _ _ _ _ _ hs _ _ => hs) ⟨H2.out.1, H2.out.2.1⟩ (fun x => x.elim0) (fun l x => x.elim0) (fun l pre x => x.elim0) ?done (fun D c pre W hD h => h.elim)
  rintro D ys W hD rfl ⟨hW, hBx⟩ hK
  have hcell := hBx.cell
  have HSU : Hid (Calls Try.prog 22 #[.pointer (some ⟨g, 0, none⟩)] W fun r w' => r = .returned (.agg (u8s E)) ∧ Bk 25 w' w.heap.size (u8s dz32) ∧ W.grownBy w' none) := by
    have h1 := hw_sum' hW (by decide)
    rw [HE.out] at h1
    exact h1
  have HG : Hid (w.grownBy W none ∧ w.heap.size ≠ D ∧ w.heap.size ≤ D ∧ W.heap[D]? = some (.deferred (some []))) := ⟨hW.2.2.1, by have := lt_of_block H2.out.1.2.1; omega, Nat.le_trans H2.out.1.2.2.1.size hD, hK⟩
  clear hW hBx hK hD H2
  go_wp2_with (first
    | (go_at_call 22; go_must (refine (Calls.mono HSU.out ?_)); rintro r w6 ⟨rfl, h6, q6⟩; have H6 : Hid (Bk 25 w6 w.heap.size (u8s dz32) ∧ w.grownBy w6 none ∧ w6.heap[D]? = some (.deferred (some []))) := ⟨h6, gb_trans HG.out.1 q6, (q6.block D (Array.getElem?_eq_some_iff.1 HG.out.2.2.2).1 (by simp)).trans HG.out.2.2.2⟩; clear h6 q6)
    | (refine wpList_store_bk 25 rfl (.tmp 2) (.tmp 16) rfl infoD w.heap.size (u8s dz32) (u8s E) rfl rfl H6.out.1 rfl (by rw [u8s_size]; exact HSL.out) (u8s_one _) ?_; intro w7 h1 h2; have H7 : Hid (Bk 25 w7 w.heap.size (u8s E) ∧ w.grownBy w7 none ∧ w7.heap[D]? = some (.deferred (some []))) := ⟨h1, gb_newer H6.out.2.1 h2 (Nat.le_refl _), (h2.block D (Array.getElem?_eq_some_iff.1 H6.out.2.2).1 (fun e => HG.out.2.1 (by cases e; rfl))).trans H6.out.2.2⟩; clear h1 h2))
  refine ⟨by simp, .inl ⟨_, _, rfl, run_takeDeferred H7.out.2.2, ?_⟩⟩
  have H8 : Hid (Bk 25 (w7.putObj D (.deferred none)) w.heap.size (u8s E) ∧ w.grownBy (w7.putObj D (.deferred none)) none) := ⟨(World.putObj_heap_other HG.out.2.1).trans H7.out.1, gb_newer H7.out.2.1 (grownBy_putObj' w7 D (.deferred none)) HG.out.2.2.1⟩
  exact ⟨.agg (u8s E), results_cell1 Try.results16 _ _ _ ⟨w.heap.size, 0, none⟩ (.agg (u8s E)) rfl (bk_load (T := 25) Try.underlying25 rfl infoD H8.out.1 (by rw [u8s_size]; exact HSL.out)), rfl, H8.out.2⟩
set_option maxHeartbeats 400000 in
theorem leaf0_c (w : World) : Calls Try.prog 8 #[.slice none 0 0] w fun e w' => e = .returned (.agg (u8s (sha [0]))) ∧ w.grownBy w' none := by
  have hzd := zD
  have HSL : Hid ((sha [0]).length = 32) := sha_len _
  have HD : Hid (∀ Bs W, W.heap[Bs]? = some (.cells #[.slice none 0 0] 28 (0, 0)) → Calls Try.prog 16 #[.func (.func 29) #[] #[.pointer (some ⟨Bs, 0, none⟩)]] W fun e w' => e = .returned (.agg (u8s (sha [0]))) ∧ W.grownBy w' none) := fun Bs W h => digest0_c Bs W h
  obtain ⟨E, hE⟩ : ∃ E, E = sha [0] := ⟨_, rfl⟩
  rw [← hE] at HSL HD ⊢
  clear hE
  have HB : Hid (Bk 25 (w.alloc (.cells (u8s dz32) 25)) w.heap.size (u8s dz32) ∧ w.grownBy (w.alloc (.cells (u8s dz32) 25)) none) := blk_new w _ _
  go_enter Try.func8, Try.ntmps8
  go_wp2_with (first
    | (go_at_call 17; go_must (refine (values_c _ _ _ _).mono ?_); rintro r w1 ⟨rfl, h1⟩; have H1 : Hid (w1.heap[(w.alloc (.cells (u8s dz32) 25)).heap.size]? = some (.cells #[.slice none 0 0] 28 (0, 0)) ∧ Bk 25 w1 w.heap.size (u8s dz32) ∧ w.grownBy w1 none) := (by rw [h1]; exact ⟨heap_new _ _, HB.out.1.gb (World.grownBy_alloc _ _ _), gb_trans HB.out.2 (World.grownBy_alloc _ _ _)⟩); clear h1)
    | (go_at_call 16; go_must (refine (Calls.mono (HD.out _ _ (by simpa using H1.out.1)) ?_)); rintro r w2 ⟨rfl, q⟩; have H2 : Hid (Bk 25 w2 w.heap.size (u8s dz32) ∧ w.grownBy w2 none) := ⟨H1.out.2.1.gb q, gb_trans H1.out.2.2 q⟩; clear q)
    | (refine wpList_store_bk 25 rfl (.tmp 2) (.tmp 5) rfl infoD w.heap.size (u8s dz32) (u8s E) rfl rfl H2.out.1 rfl (by rw [u8s_size]; exact HSL.out) (u8s_one _) ?_; intro w7 h1 h2; have H7 : Hid (Bk 25 w7 w.heap.size (u8s E) ∧ w.grownBy w7 none) := ⟨h1, gb_newer H2.out.2 h2 (Nat.le_refl _)⟩; clear h1 h2))
  refine bodyPost_ret (results_cell1 Try.results8 _ _ _ ⟨w.heap.size, 0, none⟩ (.agg (u8s E)) rfl (bk_load (T := 25) Try.underlying25 rfl infoD H7.out.1 (by rw [u8s_size]; exact HSL.out))) rfl ?_
  exact ⟨rfl, H7.out.2⟩
theorem sha_zero : sha [0] = [110, 52, 11, 156, 255, 179, 122, 152, 156, 165, 68, 230, 187, 120, 10, 44, 120, 144, 29, 63, 179, 55, 56, 118, 133, 17, 163, 6, 23, 175, 160, 29] := by decide +kernel
end Go.Proofs.Ythbnbomdngecmaa
namespace Go.Proofs.Ythbnbomdngecmaa
open Go.RowKit Go.Shelf
set_option linter.unusedVariables false
attribute [local go_sem] Oper.semAt_some

abbrev Rw := ByteArray × ByteArray × Int
def rv3 (r : Rw) : Value := .agg #[.string r.1, .string r.2.1, .int .i64 r.2.2]
def rw0 : Rw := (.empty, .empty, 0)
/-- Rows in memory, in a block below a place. -/
def Rws (n0 : Nat) (w : World) (a : Option Addr) (X : List Rw) : Prop := X = [] ∨ ∃ b off, a = some ⟨b, off, none⟩ ∧ b < n0 ∧ ∀ i, i < X.length →
  w.cell? ⟨b, off + i * 3, none⟩ = some (.string (X.getD i rw0).1) ∧ w.cell? ⟨b, off + i * 3 + 1, none⟩ = some (.string (X.getD i rw0).2.1) ∧ w.cell? ⟨b, off + i * 3 + 2, none⟩ = some (.int .i64 (X.getD i rw0).2.2)
/-- The blocks below a place stay. -/
def KB (n0 : Nat) (A B : World) : Prop := ∀ i, i < n0 → B.heap[i]? = A.heap[i]?
theorem KB.trans {n0 : Nat} {A B C : World} (h : KB n0 A B) (k : KB n0 B C) : KB n0 A C := fun i hi => (k i hi).trans (h i hi)
theorem KB.put {n0 : Nat} {w : World} (hn : n0 ≤ w.heap.size) (W : World) (l : Nat) (o o' : Obj) (hl : w.heap.size ≤ l) (h : W.heap[l]? = some o) (h1 : o.isCells = false) (h2 : o.isWalk = false) : KB n0 W (W.putObj l o') := fun i hi =>
  World.putObj_heap_other (by omega)
theorem KB.gb {n0 : Nat} {A B : World} (h : A.grownBy B none) (hn : n0 ≤ A.heap.size) : KB n0 A B := fun i hi => h.block i (by omega) (by simp)
theorem KB.cell {n0 : Nat} {A B : World} (h : KB n0 A B) {b o : Nat} (hb : b < n0) : B.cell? ⟨b, o, none⟩ = A.cell? ⟨b, o, none⟩ := World.cell?_of_block (w := A) (a := ⟨b, o, none⟩) (h b hb)
theorem Rws.kb {n0 : Nat} {w W : World} {a : Option Addr} {X : List Rw} (h : Rws n0 w a X) (hk : KB n0 w W) : Rws n0 W a X := by
  rcases h with h | ⟨b, off, ha, hb, hc⟩
  · exact .inl h
  · exact .inr ⟨b, off, ha, hb, fun i hi => ⟨(hk.cell hb).trans (hc i hi).1, (hk.cell hb).trans (hc i hi).2.1, (hk.cell hb).trans (hc i hi).2.2⟩⟩
set_option maxRecDepth 100000 in
set_option maxHeartbeats 1000000 in
theorem values1_in (n : Nat) (hn : 1 ≤ n) (l Bs n0 : Nat) (a : Option Addr) (cap : Nat) (X : List Rw) (hX : X.length ≤ 1048576) (J Jx : Nat → World → Prop)
    (hG : ∀ k W W', J k W → W.grownBy W' none → J k W') (hC : ∀ k W, J k W → W.cell? ⟨Bs, 0, none⟩ = some (.slice a X.length cap) ∧ Rws n0 W a X)
    (hY : ∀ k W, J k W → k < X.length → YieldAt Fence.wide (n - 1) Try.prog l #[rv3 (X.getD k rw0)] W fun e W' =>
      (e = .returned (.bool true) ∧ J (k + 1) W') ∨ (e = .returned (.bool false) ∧ Jx k W'))
    (W : World) (h0 : J 0 W) :
    CallsIn Fence.wide n Try.prog 29 #[.func (.yield l) #[] #[], .pointer (some ⟨Bs, 0, none⟩)] W fun e W' => (∃ v, e = .returned v) ∧ (J X.length W' ∨ ∃ k, k < X.length ∧ Jx k W') := by
  have HG : Hid _ := hG
  have HC : Hid _ := hC
  have HY : Hid _ := hY
  have hcb := (hC 0 W h0).1
  obtain ⟨N, hN⟩ : ∃ N, N = X.length := ⟨_, rfl⟩
  rw [← hN] at hcb HC HY hX ⊢
  clear hG hC hY
  refine callsIn_of_wp Try.func29 rfl trivial ?_ rfl
  simp only [Try.ntmps29, List.size_toArray, List.length_cons, List.length_nil, Nat.reduceAdd, Nat.reduceSub, Array.replicate_succ, Array.replicate_zero, List.push_toArray, List.append_toArray, List.nil_append, List.cons_append]
  gi_wp2
  clear hcb
  gi_loopw [7] (fun i wr => ∃ k : Nat, k ≤ N ∧ i = .int .i64 k ∧ Hid (J k wr)) (fun i _ => N - (intOf i).toNat)
  case atStart => exact ⟨0, Nat.zero_le _, rfl, h0⟩
  case round =>
    obtain ⟨k, hk, rfl, hr⟩ := hrel
    by_cases hlt : k < N
    · have i2 : (k : Int) < (N : Int) := by omega
      have i0 : (0 : Int) ≤ (k : Int) := by omega
      have HYK : Hid _ := HY.out k
      rcases (HC.out k wr hr.out).2 with h1 | ⟨b, off, rfl, hb, hc⟩
      · rw [h1] at hN; simp at hN; omega
      · have hc1 := hc k (by omega)
        clear hc
        generalize X.getD k rw0 = r at hc1 HYK
        obtain ⟨f, u, v⟩ := r
        unfold rv3 at HYK
        obtain ⟨c0, c1, c2⟩ := hc1
        simp only at c0 c1 c2 HYK
        have HJ3 : Hid (J k (wr.alloc (.cells #[.string f, .string u, .int .i64 v] 30))) := HG.out k wr _ hr.out (World.grownBy_alloc _ _ _)
        obtain ⟨fn, tmps, assign, body, hy, hR⟩ := HYK.out (wr.alloc (.cells #[.string f, .string u, .int .i64 v] 30)) HJ3.out hlt
        gi_wp2
        refine hR.mono ?_
        rintro e W3 (⟨rfl, hJ3⟩ | ⟨rfl, hJx3⟩)
        · gi_wp2
          go_roundw
          case rel => exact ⟨k + 1, by omega, by simp, hJ3⟩
          case measure => simp [intOf]; omega
        · gi_wp2
          refine bodyPost_ret (results_none rfl _ _ _) rfl ?_
          exact ⟨⟨_, rfl⟩, .inr ⟨k, hlt, hJx3⟩⟩
    · obtain rfl : k = N := by omega
      gi_wp2
      go_end0
      exact ⟨⟨_, rfl⟩, .inl hr.out⟩
def encR (X : List Rw) (k : Fin X.length) : Array Value := #[rv3 (X.getD k.val rw0)]
theorem values_stops (n : Nat) (hn : 1 ≤ n) (n0 Bs : Nat) (a : Option Addr) (cap : Nat) (X : List Rw) (hX : X.length ≤ 1048576) (w : World) (hBs : Bs < n0) (hn0 : n0 ≤ w.heap.size) (hc : w.heap[Bs]? = some (.cells #[.slice a X.length cap] 28 (0, 0))) (hR : Rws n0 w a X) :
    SeqStopsK Fence.wide n Try.prog 29 #[.pointer (some ⟨Bs, 0, none⟩)] (encR X) (KB n0) (fun xs => xs.map Fin.val = List.range X.length) (fun pre => ∃ k, k < X.length ∧ pre.map Fin.val = List.range (k + 1)) X.length w := fun l J Jx W hW hJ hJx hY h0 => by
  refine (values1_in n hn l Bs n0 a cap X hX (fun k W' => ∃ pre : List (Fin X.length), pre.map Fin.val = List.range k ∧ J pre W' ∧ KB n0 w W' ∧ n0 ≤ W'.heap.size) (fun k W' => ∃ pre : List (Fin X.length), pre.map Fin.val = List.range (k + 1) ∧ Jx pre W') ?_ ?_ ?_ W ⟨[], rfl, h0, fun i hi => hW.block i (by omega), Nat.le_trans hn0 hW.size⟩).mono ?_
  · rintro k A B ⟨pre, h1, h2, h3, h4⟩ hg
    exact ⟨pre, h1, hJ _ A B none h2 hg (fun r e => by cases e), h3.trans (KB.gb hg h4), Nat.le_trans h4 hg.size⟩
  · rintro k A ⟨pre, h1, h2, h3, h4⟩
    exact ⟨cell_one ((h3 Bs hBs).trans hc), hR.kb h3⟩
  · rintro k W1 ⟨pre, h1, h2, h3, h4⟩ hk
    have hl : pre.length = k := by have := congrArg List.length h1; simpa using this
    refine (hY pre ⟨k, hk⟩ W1 h2 (by omega)).mono ?_
    rintro e W' (⟨he, hj, hkp⟩ | ⟨he, hj⟩)
    · refine .inl ⟨he, pre ++ [⟨k, hk⟩], by simp [h1, List.range_succ], hj, h3.trans hkp, ?_⟩
      rcases Nat.eq_zero_or_pos n0 with h | h
      · omega
      · have hlt : n0 - 1 < W'.heap.size := (Array.getElem?_eq_some_iff.1 ((hkp (n0 - 1) (by omega)).trans (Array.getElem?_eq_getElem (show n0 - 1 < W1.heap.size by omega)))).1
        omega
    · exact .inr ⟨he, pre ++ [⟨k, hk⟩], by simp [h1, List.range_succ], hj⟩
  · rintro e W' ⟨he, h⟩
    refine ⟨he, ?_⟩
    rcases h with ⟨pre, h1, h2, _⟩ | ⟨k, hk, pre, h1, h2⟩
    · exact .inl ⟨pre, h1, h2⟩
    · exact .inr ⟨pre, ⟨k, hk, h1⟩, h2⟩
end Go.Proofs.Ythbnbomdngecmaa
