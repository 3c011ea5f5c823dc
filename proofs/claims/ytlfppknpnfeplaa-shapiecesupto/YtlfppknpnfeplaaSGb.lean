/-
  What the document's turn, rounds, begin and block answer. Condition of block: 64 bytes that can be read.
-/
import Derived.Test.YtlfppknpnfeplaaSBe
namespace Go.Proofs.Ytlfppknpnfeplaa
set_option linter.unusedVariables false
open Go.RowKit

theorem gturn_w (x : Wd) (n : Nat) (h : n < 32) : bits .or .u32 (W x / (2 : Int) ^ n) (W x * (2 : Int) ^ (32 - n) % (4294967296 : Int)) = W (rot n x) := by
  rw [W_shl, W_shr, W_or, rot]
theorem gturn_c (x : Wd) (n : Int) (h : n ∈ [(2 : Int), 6, 7, 11, 13, 17, 18, 19, 22, 25]) (w : World) : Calls Try.prog 47 #[.int .u32 (W x), .int .i64 n] w fun r w' => r = .returned (.int .u32 (W (rotI n x))) ∧ ∃ q, w' = w.drewN q := by
  simp only [List.mem_cons, List.not_mem_nil, or_false] at h
  rcases h with rfl | rfl | rfl | rfl | rfl | rfl | rfl | rfl | rfl | rfl
  · have h := gturn_w x 2 (by omega)
    simp only [show (2 : Int) ^ 2 = 4 from rfl, show (2 : Int) ^ (32 - 2) = 1073741824 from rfl] at h
    go_enter Try.func47, Try.ntmps47
    go_wp2
    go_quiet (fail)
    go_wp2
    go_ret
    exact ⟨rfl, _, rfl⟩
  · have h := gturn_w x 6 (by omega)
    simp only [show (2 : Int) ^ 6 = 64 from rfl, show (2 : Int) ^ (32 - 6) = 67108864 from rfl] at h
    go_enter Try.func47, Try.ntmps47
    go_wp2
    go_quiet (fail)
    go_wp2
    go_ret
    exact ⟨rfl, _, rfl⟩
  · have h := gturn_w x 7 (by omega)
    simp only [show (2 : Int) ^ 7 = 128 from rfl, show (2 : Int) ^ (32 - 7) = 33554432 from rfl] at h
    go_enter Try.func47, Try.ntmps47
    go_wp2
    go_quiet (fail)
    go_wp2
    go_ret
    exact ⟨rfl, _, rfl⟩
  · have h := gturn_w x 11 (by omega)
    simp only [show (2 : Int) ^ 11 = 2048 from rfl, show (2 : Int) ^ (32 - 11) = 2097152 from rfl] at h
    go_enter Try.func47, Try.ntmps47
    go_wp2
    go_quiet (fail)
    go_wp2
    go_ret
    exact ⟨rfl, _, rfl⟩
  · have h := gturn_w x 13 (by omega)
    simp only [show (2 : Int) ^ 13 = 8192 from rfl, show (2 : Int) ^ (32 - 13) = 524288 from rfl] at h
    go_enter Try.func47, Try.ntmps47
    go_wp2
    go_quiet (fail)
    go_wp2
    go_ret
    exact ⟨rfl, _, rfl⟩
  · have h := gturn_w x 17 (by omega)
    simp only [show (2 : Int) ^ 17 = 131072 from rfl, show (2 : Int) ^ (32 - 17) = 32768 from rfl] at h
    go_enter Try.func47, Try.ntmps47
    go_wp2
    go_quiet (fail)
    go_wp2
    go_ret
    exact ⟨rfl, _, rfl⟩
  · have h := gturn_w x 18 (by omega)
    simp only [show (2 : Int) ^ 18 = 262144 from rfl, show (2 : Int) ^ (32 - 18) = 16384 from rfl] at h
    go_enter Try.func47, Try.ntmps47
    go_wp2
    go_quiet (fail)
    go_wp2
    go_ret
    exact ⟨rfl, _, rfl⟩
  · have h := gturn_w x 19 (by omega)
    simp only [show (2 : Int) ^ 19 = 524288 from rfl, show (2 : Int) ^ (32 - 19) = 8192 from rfl] at h
    go_enter Try.func47, Try.ntmps47
    go_wp2
    go_quiet (fail)
    go_wp2
    go_ret
    exact ⟨rfl, _, rfl⟩
  · have h := gturn_w x 22 (by omega)
    simp only [show (2 : Int) ^ 22 = 4194304 from rfl, show (2 : Int) ^ (32 - 22) = 1024 from rfl] at h
    go_enter Try.func47, Try.ntmps47
    go_wp2
    go_quiet (fail)
    go_wp2
    go_ret
    exact ⟨rfl, _, rfl⟩
  · have h := gturn_w x 25 (by omega)
    simp only [show (2 : Int) ^ 25 = 33554432 from rfl, show (2 : Int) ^ (32 - 25) = 128 from rfl] at h
    go_enter Try.func47, Try.ntmps47
    go_wp2
    go_quiet (fail)
    go_wp2
    go_ret
    exact ⟨rfl, _, rfl⟩
theorem grounds_c (w : World) : Calls Try.prog 48 #[] w fun r w' => r = .returned (.agg (wds kws)) ∧ w.grownBy w' none := by
  obtain ⟨N, hN⟩ : ∃ N, N = w.heap.size := ⟨_, rfl⟩
  have HN : Hid (N = w.heap.size) := hN
  have HKL : Hid (kws.length = 64) := rfl
  have HZ := blk_new w 92 (wds wz64)
  have hz := zz64
  go_enter Try.func48, Try.ntmps48
  go_wp2_with (first
    | (refine wpList_build_run rfl 92 _ rfl (.agg (wds kws)) (by kernel_rfl) ?_)
    | (refine wpList_store_bk 92 rfl (.tmp 0) (.tmp 1) rfl info64 w.heap.size (wds wz64) (wds kws) rfl rfl HZ.1 rfl rfl (wds_one _) ?_; intro w2 h1 h2; have H2 : Hid (Bk 92 w2 w.heap.size (wds kws) ∧ w.grownBy w2 none) := ⟨h1, gb_new HZ.2 h2⟩; clear h1 h2))
  refine bodyPost_ret (results_cell1 Try.results48 _ _ _ ⟨w.heap.size, 0, none⟩ (.agg (wds kws)) rfl (bk_load (T := 92) Try.underlying92 rfl info64 H2.out.1 rfl)) rfl ?_
  exact ⟨rfl, H2.out.2⟩
theorem info8u : (Try.prog.info? 42).map (·.size) = some 8 := by kernel_rfl
set_option maxRecDepth 20000 in
theorem gbegin_c (w : World) : Calls Try.prog 29 #[] w fun r w' => r = .returned (.agg (wds st0.words)) ∧ w.grownBy w' none := by
  go_enter Try.func29, Try.ntmps29
  go_wp2_with fail
  refine bodyPost_ret (results_cell1 Try.results29 _ _ _ ⟨w.heap.size, 0, none⟩ (.agg (wds st0.words)) rfl (bk_load (T := 42) Try.underlying42 rfl info8u (heap_new w _) rfl)) rfl ?_
  exact ⟨rfl, World.grownBy_alloc _ _ _⟩

theorem zz8u (w : World) : (zeroValue 42).run Try.prog w = .ok (.agg (wds (List.replicate 8 0))) w := by
  have h : (Try.prog.info? 42).map (fun i => (i.zero, i.size)) = some (some (.agg (wds (List.replicate 8 0))), 8) := by kernel_rfl
  exact (zero_of_info h).1 w
/-- The bytes of a block can be read. -/
def Rd64 (w : World) (b off : Nat) (bs : List Int) : Prop := b < w.heap.size ∧ ∀ i, i < 64 → w.cell? ⟨b, off + i, none⟩ = some (.int .u8 (bs.getD i 0))
theorem Rd64.gb {w w' b off bs} (h : Rd64 w b off bs) (hg : w.grownBy w' none) : Rd64 w' b off bs :=
  ⟨Nat.lt_of_lt_of_le h.1 hg.size, fun i hi => ((gb_below hg).cell (p := ⟨b, off + i, none⟩) h.1).trans (h.2 i hi)⟩
/-- block's own blocks: the state, what it answers, the words so far. -/
def GbB (w wr : World) (N : Nat) (s : St) (l : List Wd) : Prop :=
  Bk 42 wr N (wds s.words) ∧ Bk 42 wr (N + 1) (wds (List.replicate 8 0)) ∧ Bk 92 wr (N + 1 + 1) (wds l) ∧ w.grownBy wr none ∧ N = w.heap.size
theorem gbb_new (w : World) (s : St) : GbB w (((w.alloc (.cells (wds s.words) 42)).alloc (.cells (wds (List.replicate 8 0)) 42)).alloc (.cells (wds wz64) 92)) w.heap.size s wz64 := by
  refine ⟨?_, ?_, ?_, gb_trans (gb_trans (World.grownBy_alloc _ _ _) (World.grownBy_alloc _ _ _)) (World.grownBy_alloc _ _ _), rfl⟩
  · exact (Below.heap_alloc _ _ _ (by simp; omega)).trans ((Below.heap_alloc _ _ _ (by simp)).trans (heap_new w _))
  · have := heap_new (w.alloc (.cells (wds s.words) 42)) (.cells (wds (List.replicate 8 0)) 42)
    rw [World.size_alloc] at this
    exact (Below.heap_alloc _ _ _ (by simp)).trans this
  · have := heap_new ((w.alloc (.cells (wds s.words) 42)).alloc (.cells (wds (List.replicate 8 0)) 42)) (.cells (wds wz64) 92)
    rw [World.size_alloc, World.size_alloc] at this
    exact this
theorem GbB.set {w wr N s l} (h : GbB w wr N s l) (i : Nat) (x : Wd) : GbB w (wr.setCell ⟨N + 1 + 1, i, none⟩ (.int .u32 (W x))) N s (l.set i x) := by
  obtain ⟨h1, h2, h3, h4, h5⟩ := h
  refine ⟨(Below.heap_setCell _ _ _ _ (by show N ≠ N + 1 + 1; omega)).trans h1, (Below.heap_setCell _ _ _ _ (by show N + 1 ≠ N + 1 + 1; omega)).trans h2, ?_, gb_newer (N := N + 1 + 1) h4 ⟨rfl, rfl, rfl, by simp, fun k _ hk => Below.heap_setCell _ _ _ _ (fun e => hk (by rw [e]))⟩ (by omega), h5⟩
  have := h3.set i (.int .u32 (W x))
  rw [wds_set] at this
  exact this
theorem GbB.drew {w wr N s l} (h : GbB w wr N s l) (n : Nat) : GbB w (wr.drewN n) N s l := by
  obtain ⟨h1, h2, h3, h4, h5⟩ := h
  exact ⟨h1, h2, h3, gb_drewN h4 n, h5⟩
theorem GbB.gb {w wr wz N s l} (h : GbB w wr N s l) (hg : wr.grownBy wz none) : GbB w wz N s l := ⟨h.1.gb hg, h.2.1.gb hg, h.2.2.1.gb hg, gb_trans h.2.2.2.1 hg, h.2.2.2.2⟩
theorem GbB.gbs {w wr wz N s l} (h : GbB w wr N s l) (b : Nat) (hg : wr.grownBy wz (some b)) (hb : N + 1 + 1 < b) : GbB w wz N s l :=
  ⟨h.1.grew hg (fun e => by cases e; omega), h.2.1.grew hg (fun e => by cases e; omega), h.2.2.1.grew hg (fun e => by cases e; omega), gb_newer h.2.2.2.1 hg (by have := h.2.2.2.2; omega), h.2.2.2.2⟩
theorem word_add (z0 z1 z2 z3 : Int) (h0 : 0 ≤ z0 ∧ z0 < 256) (h1 : 0 ≤ z1 ∧ z1 < 256) (h2 : 0 ≤ z2 ∧ z2 < 256) (h3 : 0 ≤ z3 ∧ z3 < 256) :
    z0 * 16777216 + z1 * 65536 + z2 * 256 + z3 = W (BitVec.ofNat 32 (z0.toNat * 16777216 + z1.toNat * 65536 + z2.toNat * 256 + z3.toNat)) := by
  unfold W; rw [BitVec.toNat_ofNat]; omega
theorem rd_set {w : World} {b j c i : Nat} {u v : Value} (h : w.cell? ⟨b, j, none⟩ = some v) (hc : b ≠ c) : (w.setCell ⟨c, i, none⟩ u).cell? ⟨b, j, none⟩ = some v :=
  (World.cell?_setCell_other _ _ _ _ (fun e => hc (by injection e with e1; exact e1.symm))).trans h

/-- What lies there while the rounds go on: the numbers and the state so far besides. -/
def GbR (w wr : World) (N : Nat) (s : St) (ws : List Wd) (M P : Nat) (t : St) : Prop :=
  GbB w wr N s ws ∧ Bk 92 wr M (wds kws) ∧ Bk 42 wr P (wds t.words) ∧ N + 1 + 1 < M ∧ M < P
theorem gbr_new {w w2 wa w3 : World} {N : Nat} {s : St} {ws : List Wd} {M : Nat} (h : GbB w w2 N s ws) (hM : Bk 92 w2 M (wds kws)) (hN : N + 1 + 1 < M) (ha : w2.grownBy wa none) (h1 : Bk 42 w3 w2.heap.size (wds s.words)) (h2 : wa.grownBy w3 (some w2.heap.size)) : GbR w w3 N s ws M w2.heap.size s := by
  have hl := lt_of_block hM
  exact ⟨(h.gb ha).gbs _ h2 (by omega), (hM.gb ha).grew h2 (fun e => by cases e; omega), h1, hN, hl⟩
theorem GbR.gb {w wr wz N s ws M P t} (h : GbR w wr N s ws M P t) (hg : wr.grownBy wz none) : GbR w wz N s ws M P t := ⟨h.1.gb hg, h.2.1.gb hg, h.2.2.1.gb hg, h.2.2.2⟩
theorem GbR.gbs {w wr wz N s ws M P t} (h : GbR w wr N s ws M P t) (t' : St) (h1 : Bk 42 wz P (wds t'.words)) (hg : wr.grownBy wz (some P)) : GbR w wz N s ws M P t' :=
  ⟨h.1.gbs _ hg (by have := h.2.2.2; omega), h.2.1.grew hg (fun e => by cases e; have := h.2.2.2; omega), h1, h.2.2.2⟩
/-- The cells that a round reads. -/
def GCs (wr : World) (N M P k : Nat) (a b c d e f g h K X : Wd) : Prop :=
  wr.cell? ⟨P, 0, none⟩ = some (.int .u32 (W a)) ∧ wr.cell? ⟨P, 1, none⟩ = some (.int .u32 (W b)) ∧ wr.cell? ⟨P, 2, none⟩ = some (.int .u32 (W c)) ∧ wr.cell? ⟨P, 3, none⟩ = some (.int .u32 (W d)) ∧ wr.cell? ⟨P, 4, none⟩ = some (.int .u32 (W e)) ∧ wr.cell? ⟨P, 5, none⟩ = some (.int .u32 (W f)) ∧ wr.cell? ⟨P, 6, none⟩ = some (.int .u32 (W g)) ∧ wr.cell? ⟨P, 7, none⟩ = some (.int .u32 (W h)) ∧ wr.cell? ⟨M, k, none⟩ = some (.int .u32 (W K)) ∧ wr.cell? ⟨N + 1 + 1, k, none⟩ = some (.int .u32 (W X))
theorem gcs_of {w wr : World} {N M P k : Nat} {s : St} {ws : List Wd} {a b c d e f g h K X : Wd} (hr : GbR w wr N s ws M P ⟨a, b, c, d, e, f, g, h⟩) (hK : wr.cell? ⟨M, k, none⟩ = some (.int .u32 (W K))) (hX : wr.cell? ⟨N + 1 + 1, k, none⟩ = some (.int .u32 (W X))) : GCs wr N M P k a b c d e f g h K X :=
  ⟨hr.2.2.1.cell 0, hr.2.2.1.cell 1, hr.2.2.1.cell 2, hr.2.2.1.cell 3, hr.2.2.1.cell 4, hr.2.2.1.cell 5, hr.2.2.1.cell 6, hr.2.2.1.cell 7, hK, hX⟩
/-- The words of the state and of the rounds' end, the first k of them added. -/
def adl (xs ys : List Wd) (k : Nat) : List Wd := (List.zipWith (fun x y => y + x) xs ys).take k ++ ys.drop k
theorem adl_zero (xs ys : List Wd) : adl xs ys 0 = ys := by simp [adl]
theorem adl_len (xs ys : List Wd) (hx : xs.length = 8) (hy : ys.length = 8) (k : Nat) (hk : k ≤ 8) : (adl xs ys k).length = 8 := by simp [adl, hx, hy]; omega
theorem adl_get (xs ys : List Wd) (hx : xs.length = 8) (hy : ys.length = 8) (k : Nat) (hk : k < 8) : (adl xs ys k).getD k 0 = ys.getD k 0 := by
  unfold adl
  simp only [List.getD_eq_getElem?_getD]
  rw [List.getElem?_append_right (by simp; omega)]
  simp [hx, hy, Nat.min_eq_left (Nat.le_of_lt hk)]
theorem adl_set (xs ys : List Wd) (hx : xs.length = 8) (hy : ys.length = 8) (k : Nat) (hk : k < 8) : (adl xs ys k).set k (ys.getD k 0 + xs.getD k 0) = adl xs ys (k + 1) := by
  unfold adl
  have hl : ((List.zipWith (fun x y => y + x) xs ys).take k).length = k := by simp [hx, hy]; omega
  rw [List.set_append_right _ _ (by rw [hl]; exact Nat.le_refl _), hl, Nat.sub_self, List.drop_eq_getElem_cons (by omega), List.set_cons_zero, List.take_succ_eq_append_getElem (by simp [hx, hy]; omega)]
  simp [hx, hy, hk]
theorem adl_end (s t : St) : adl s.words t.words 8 = (s.add t).words := by
  simp [adl, St.words, St.add, BitVec.add_comm]
/-- What lies there while the words are added. -/
def GbT (w wr : World) (N : Nat) (s : St) (ws : List Wd) (P : Nat) (l : List Wd) : Prop :=
  GbB w wr N s ws ∧ Bk 42 wr P (wds l) ∧ N + 1 + 1 < P
theorem GbT.set {w wr N s ws P l} (h : GbT w wr N s ws P l) (i : Nat) (x : Wd) : GbT w (wr.setCell ⟨P, i, none⟩ (.int .u32 (W x))).drew N s ws P (l.set i x) := by
  have hg : wr.grownBy (wr.setCell ⟨P, i, none⟩ (.int .u32 (W x))) (some P) := ⟨rfl, rfl, rfl, by simp, fun k _ hk => Below.heap_setCell _ _ _ _ (fun e => hk (by rw [e]))⟩
  have hg2 : wr.grownBy (wr.setCell ⟨P, i, none⟩ (.int .u32 (W x))).drew (some P) := gb_drewN hg 1
  refine ⟨h.1.gbs P hg2 h.2.2, ?_, h.2.2⟩
  have := h.2.1.set i (.int .u32 (W x))
  rw [wds_set] at this
  exact this
set_option maxRecDepth 20000 in
set_option maxHeartbeats 1000000 in
theorem gblock_c (s : St) (b off cap : Nat) (bs : List Int) (hl : bs.length = 64) (hb : Bytes bs) (w : World) (hrd : Rd64 w b off bs) : Calls Try.prog 32 #[.agg (wds s.words), .slice (some ⟨b, off, none⟩) 64 cap] w fun r w' => r = .returned (.agg (wds (blk s bs).words)) ∧ w.grownBy w' none := by
  have HNEW : Hid (GbB w (((w.alloc (.cells (wds s.words) 42)).alloc (.cells (wds (List.replicate 8 0)) 42)).alloc (.cells (wds wz64) 92)) w.heap.size s wz64) := gbb_new w s
  have HRD : Hid (Rd64 w b off bs) := hrd
  have HBL : Hid (blk s bs = s.add (rnds s (spr bs 64) 64)) := rfl
  obtain ⟨S', hS'⟩ : ∃ S', S' = blk s bs := ⟨_, rfl⟩
  rw [← hS'] at HBL ⊢
  clear hS' hrd
  have hz := zz64
  have hz8 := zz8u
  obtain ⟨N, hN⟩ : ∃ N, N = w.heap.size := ⟨_, rfl⟩
  obtain ⟨sw, hsw⟩ : ∃ sw, sw = wds s.words := ⟨_, rfl⟩
  rw [← hsw]
  have HSW : Hid (sw = wds s.words) := hsw
  clear hsw
  go_enter Try.func32, Try.ntmps32
  go_wp2_with fail
  generalize hW1 : World.alloc (World.alloc (World.alloc w _) _) _ = W1
  have H0 : Hid (GbB w W1 N s (spz bs 0)) := by rw [← hW1, hN, HSW.out]; exact HNEW
  rw [← hN]
  clear hW1 HNEW
  have HN : Hid (N = w.heap.size) := hN
  clear hN
  go_loopw [6, 7, 8] (fun i x y wr => ∃ k : Nat, k ≤ 64 ∧ i = .int .i64 k ∧ Hid (GbB w wr N s (spz bs k))) (fun i _ _ _ => 64 - (intOf i).toNat)
  case atStart => exact ⟨0, Nat.zero_le _, rfl, H0⟩
  case round =>
    obtain ⟨k, hk, rfl, hr⟩ := hrel
    clear H0
    by_cases hlt : k < 64
    · by_cases h16 : k < 16
      · have i1 : (4 : Int) * k < 64 := by omega
        have hcell : wr.cell? ⟨N + 1 + 1, k, none⟩ = some (.int .u32 (W ((spz bs k).getD k 0))) := by
          rw [hr.out.2.2.1.cell k, wds_at _ _ (by rw [spz_len bs k hk]; exact hlt)]
        have hfree : wr.frozen? ⟨N + 1 + 1, k, none⟩ = false := frozen_of_row wr (N + 1 + 1) k _ 92 hr.out.2.2.1
        have hbN : b ≠ N + 1 + 1 := by have := HRD.out.1; have := HN.out; omega
        have hc : ∀ i, i < 64 → wr.cell? ⟨b, off + i, none⟩ = some (.int .u8 (bs.getD i 0)) := (HRD.out.gb hr.out.2.2.2.1).2
        have hbd : ∀ i, i < 64 → 0 ≤ bs.getD i 0 ∧ bs.getD i 0 < 256 := fun i hi => by
          have := hb i (by rw [hl]; exact hi)
          simpa using this
        have c0 := hc (4 * k) (by omega)
        have c1 := hc (4 * k + 1) (by omega)
        have c2 := hc (4 * k + 2) (by omega)
        have c3 := hc (4 * k + 3) (by omega)
        have d0 := hbd (4 * k) (by omega)
        have d1 := hbd (4 * k + 1) (by omega)
        have d2 := hbd (4 * k + 2) (by omega)
        have d3 := hbd (4 * k + 3) (by omega)
        have HX : Hid (bs.getD (4 * k) 0 * 16777216 + bs.getD (4 * k + 1) 0 * 65536 + bs.getD (4 * k + 2) 0 * 256 + bs.getD (4 * k + 3) 0 = W (nxt bs (spr bs k))) := by
          show _ = _
          rw [nxt_low bs k h16]; exact word_add _ _ _ _ d0 d1 d2 d3
        have HSE : Hid ((spz bs k).set k (nxt bs (spr bs k)) = spz bs (k + 1)) := spz_set bs k hlt
        obtain ⟨z0, hz0⟩ : ∃ z, z = bs.getD (4 * k) 0 := ⟨_, rfl⟩
        obtain ⟨z1, hz1⟩ : ∃ z, z = bs.getD (4 * k + 1) 0 := ⟨_, rfl⟩
        obtain ⟨z2, hz2⟩ : ∃ z, z = bs.getD (4 * k + 2) 0 := ⟨_, rfl⟩
        obtain ⟨z3, hz3⟩ : ∃ z, z = bs.getD (4 * k + 3) 0 := ⟨_, rfl⟩
        rw [← hz0] at c0 d0 HX
        rw [← hz1] at c1 d1 HX
        rw [← hz2] at c2 d2 HX
        rw [← hz3] at c3 d3 HX
        clear hz0 hz1 hz2 hz3 hc hbd hb hl
        have t0 : off + (4 * (k : Int)).toNat = off + 4 * k := by omega
        have t1 : off + (4 * (k : Int) + 1).toNat = off + (4 * k + 1) := by omega
        have t2 : off + (4 * (k : Int) + 2).toNat = off + (4 * k + 2) := by omega
        have t3 : off + (4 * (k : Int) + 3).toNat = off + (4 * k + 3) := by omega
        have m0 : IntKind.i64.wrap (4 * (k : Int)) = 4 * k := IntWalk.i64_in _ ⟨by omega, by omega⟩
        have m1 : IntKind.i64.wrap (4 * (k : Int) + 1) = 4 * k + 1 := IntWalk.i64_in _ ⟨by omega, by omega⟩
        have m2 : IntKind.i64.wrap (4 * (k : Int) + 2) = 4 * k + 2 := IntWalk.i64_in _ ⟨by omega, by omega⟩
        have m3 : IntKind.i64.wrap (4 * (k : Int) + 3) = 4 * k + 3 := IntWalk.i64_in _ ⟨by omega, by omega⟩
        have p0 : (0 : Int) ≤ 4 * (k : Int) := by omega
        have p1 : (0 : Int) ≤ 4 * (k : Int) + 1 := by omega
        have p2 : (0 : Int) ≤ 4 * (k : Int) + 2 := by omega
        have p3 : (0 : Int) ≤ 4 * (k : Int) + 3 := by omega
        have r1 : 4 * (k : Int) + 1 < 64 := by omega
        have r2 : 4 * (k : Int) + 2 < 64 := by omega
        have r3 : 4 * (k : Int) + 3 < 64 := by omega
        have pk : (0 : Int) ≤ (k : Int) := by omega
        have rk : (k : Int) < 64 := by omega
        go_wp2
        go_region_held3 (fun wz => wz.cell? ⟨b, off + 4 * k, none⟩ = some (.int .u8 z0) ∧ wz.cell? ⟨b, off + (4 * k + 1), none⟩ = some (.int .u8 z1) ∧ wz.cell? ⟨b, off + (4 * k + 2), none⟩ = some (.int .u8 z2) ∧ wz.cell? ⟨b, off + (4 * k + 3), none⟩ = some (.int .u8 z3)) (first | assumption | exact ⟨c0, c1, c2, c3⟩ | exact ⟨rd_set (by assumption) hbN, rd_set (by assumption) hbN, rd_set (by assumption) hbN, rd_set (by assumption) hbN⟩) (fail)
        go_wp2
        rw [HX.out]
        have hr3 : Hid (GbB w (wr.setCell ⟨N + 1 + 1, k, none⟩ (.int .u32 (W (nxt bs (spr bs k))))).drew N s (spz bs (k + 1))) := by
          have := (hr.out.set k (nxt bs (spr bs k))).drew 1
          rw [HSE.out] at this
          exact this
        generalize World.drew (World.setCell wr _ _) = w9 at hr3 ⊢
        go_roundw
        case rel => exact ⟨k + 1, by omega, by go_num, hr3⟩
        case measure => simp [intOf]; omega
      · obtain ⟨j, rfl⟩ : ∃ j, k = j + 16 := ⟨k - 16, by omega⟩
        have HX : Hid (nxt bs (spr bs (j + 16)) = (spr bs (j + 16)).getD j 0 + s0 ((spr bs (j + 16)).getD (j + 1) 0) + (spr bs (j + 16)).getD (j + 9) 0 + s1 ((spr bs (j + 16)).getD (j + 14) 0)) := nxt_high bs (j + 16) h16
        have HSE : Hid ((spz bs (j + 16)).set (j + 16) (nxt bs (spr bs (j + 16))) = spz bs (j + 16 + 1)) := spz_set bs (j + 16) hlt
        have hc : ∀ i, i < j + 16 → wr.cell? ⟨N + 1 + 1, i, none⟩ = some (.int .u32 (W ((spr bs (j + 16)).getD i 0))) := fun i hi => by
          rw [hr.out.2.2.1.cell i, wds_at _ _ (by rw [spz_len bs (j + 16) hk]; omega), spz_get _ _ _ hi]
        have hcell : wr.cell? ⟨N + 1 + 1, j + 16, none⟩ = some (.int .u32 (W ((spz bs (j + 16)).getD (j + 16) 0))) := by
          rw [hr.out.2.2.1.cell _, wds_at _ _ (by rw [spz_len bs (j + 16) hk]; exact hlt)]
        have hfree : wr.frozen? ⟨N + 1 + 1, j + 16, none⟩ = false := frozen_of_row wr (N + 1 + 1) _ _ 92 hr.out.2.2.1
        have c0 := hc j (by omega)
        have c1 := hc (j + 1) (by omega)
        have c9 := hc (j + 9) (by omega)
        have c14 := hc (j + 14) (by omega)
        obtain ⟨x0, hx0⟩ : ∃ x, x = (spr bs (j + 16)).getD j 0 := ⟨_, rfl⟩
        obtain ⟨x1, hx1⟩ : ∃ x, x = (spr bs (j + 16)).getD (j + 1) 0 := ⟨_, rfl⟩
        obtain ⟨x9, hx9⟩ : ∃ x, x = (spr bs (j + 16)).getD (j + 9) 0 := ⟨_, rfl⟩
        obtain ⟨x14, hx14⟩ : ∃ x, x = (spr bs (j + 16)).getD (j + 14) 0 := ⟨_, rfl⟩
        rw [← hx0] at c0 HX
        rw [← hx1] at c1 HX
        rw [← hx9] at c9 HX
        rw [← hx14] at c14 HX
        clear hx0 hx1 hx9 hx14 hc hb hl
        have HS : Hid (s0 x1 = rotI 7 x1 ^^^ rotI 18 x1 ^^^ (x1 >>> 3) ∧ s1 x14 = rotI 17 x14 ^^^ rotI 19 x14 ^^^ (x14 >>> 10)) := ⟨rfl, rfl⟩
        have a1 := W_xor (rotI 7 x1) (rotI 18 x1)
        have a2 : W x1 / (8 : Int) = W (x1 >>> 3) := W_shr x1 3
        have a3 := W_xor (rotI 7 x1 ^^^ rotI 18 x1) (x1 >>> 3)
        have b1 := W_xor (rotI 17 x14) (rotI 19 x14)
        have b2 : W x14 / (1024 : Int) = W (x14 >>> 10) := W_shr x14 10
        have b3 := W_xor (rotI 17 x14 ^^^ rotI 19 x14) (x14 >>> 10)
        rw [← HS.out.1] at a3
        rw [← HS.out.2] at b3
        have d1 := W_add x0 (s0 x1)
        have d2 := W_add (x0 + s0 x1) x9
        have d3 := W_add (x0 + s0 x1 + x9) (s1 x14)
        clear HS
        have i2 : (j : Int) + 16 < 64 := by omega
        have e1 : (j : Int) + 16 - 15 = ((j + 1 : Nat) : Int) := by omega
        have e14 : (j : Int) + 16 - 2 = ((j + 14 : Nat) : Int) := by omega
        have e0 : (j : Int) + 16 - 16 = (j : Int) := by omega
        have e9 : (j : Int) + 16 - 7 = ((j + 9 : Nat) : Int) := by omega
        have h16i : ¬ (j : Int) + 16 < 16 := by omega
        go_wp2
        go_quiet (fail)
        have hr2 : Hid (GbB w (wr.drewN nq) N s (spz bs (j + 16))) := hr.out.drew nq
        have k0 : (wr.drewN nq).cell? ⟨N + 1 + 1, j, none⟩ = some (.int .u32 (W x0)) := c0
        have k9 : (wr.drewN nq).cell? ⟨N + 1 + 1, j + 9, none⟩ = some (.int .u32 (W x9)) := c9
        have kc : (wr.drewN nq).cell? ⟨N + 1 + 1, j + 16, none⟩ = some (.int .u32 (W ((spz bs (j + 16)).getD (j + 16) 0))) := hcell
        have kf : (wr.drewN nq).frozen? ⟨N + 1 + 1, j + 16, none⟩ = false := hfree
        generalize wr.drewN nq = wq at hr2 k0 k9 kc kf ⊢
        clear hr c0 c1 c9 c14 hcell hfree
        have q0 : (0 : Int) ≤ (j : Int) := by omega
        have q1 : (j : Int) < 64 := by omega
        have q2 : (0 : Int) ≤ (j : Int) + 9 := by omega
        have q3 : (j : Int) + 9 < 64 := by omega
        have q4 : (0 : Int) ≤ (j : Int) + 16 := by omega
        have n1 : IntKind.i64.wrap ((j : Int) + 16 - 16) = j := by rw [e0]; exact IntWalk.i64_in _ ⟨by omega, by omega⟩
        have n2 : IntKind.i64.wrap ((j : Int) + 16 - 7) = j + 9 := by rw [show (j : Int) + 16 - 7 = j + 9 from by omega]; exact IntWalk.i64_in _ ⟨by omega, by omega⟩
        have n3 : IntKind.i64.wrap (j : Int) = j := IntWalk.i64_in _ ⟨by omega, by omega⟩
        have n4 : IntKind.i64.wrap ((j : Int) + 9) = j + 9 := IntWalk.i64_in _ ⟨by omega, by omega⟩
        have t9 : ((j : Int) + 9).toNat = j + 9 := by omega
        have t16 : ((j : Int) + 16).toNat = j + 16 := by omega
        go_wp2
        go_region_held3 (fun wz => wz.cell? ⟨N + 1 + 1, j, none⟩ = some (.int .u32 (W x0)) ∧ wz.cell? ⟨N + 1 + 1, j + 9, none⟩ = some (.int .u32 (W x9))) (first | assumption | exact ⟨k0, k9⟩ | exact cell_set16 (by assumption) (by assumption)) (first | (go_at_call 47; go_must (refine (gturn_c _ _ (by decide) _).mono ?_); rintro r w1 ⟨rfl, q, rfl⟩))
        have HV : Hid (IntKind.u32.wrap (IntKind.u32.wrap (IntKind.u32.wrap (W x0 + W (s0 x1)) + W x9) + W (s1 x14)) = W (nxt bs (spr bs (j + 16)))) := by
          show _ = _
          rw [IntKind.wrap_u32, IntKind.wrap_u32, IntKind.wrap_u32, d1, d2, d3, HX.out]
        rw [HV.out]
        have hq : Hid (∀ Q, GbB w ((wq.drewN Q).setCell ⟨N + 1 + 1, j + 16, none⟩ (.int .u32 (W (nxt bs (spr bs (j + 16)))))) N s (spz bs (j + 16 + 1))) := fun Q => by
          have := (hr2.out.drew Q).set (j + 16) (nxt bs (spr bs (j + 16)))
          rw [HSE.out] at this
          exact this
        generalize hWW : World.setCell (World.drewN wq _) _ _ = w9
        have hr3 : Hid (GbB w w9 N s (spz bs (j + 16 + 1))) := by
          rw [← hWW]
          exact hq.out _
        clear hq
        clear hr2 k0 k9 kc kf HV HX HSE a1 a2 a3 b1 b2 b3 d1 d2 d3 hWW
        go_wp2
        go_roundw
        case rel => exact ⟨j + 16 + 1, by omega, by go_num, hr3⟩
        case measure => simp [intOf]; omega
    · obtain rfl : k = 64 := by omega
      have HE : Hid (spz bs 64 = spr bs 64) := spz_end bs
      have HL : Hid ((spr bs 64).length = 64) := spr_len bs 64
      rw [HE.out] at hr
      clear HE hb hl HRD
      obtain ⟨ws, hws⟩ : ∃ ws, ws = spr bs 64 := ⟨_, rfl⟩
      rw [← hws] at hr HL HBL
      clear hws hlt hk
      go_wp2_with (first
        | (go_at_call 48; go_must (refine (grounds_c _).mono ?_); rintro r w1 ⟨rfl, hg1⟩; have H1 : Hid (GbB w w1 N s ws) := hr.out.gb hg1; have HA : Hid _ := blk_new w1 92 (wds wz64); clear hg1 hr)
        | (refine wpList_store_bk 92 rfl (.tmp 9) (.tmp 95) rfl info64 w1.heap.size (wds wz64) (wds kws) rfl rfl HA.out.1 rfl rfl (wds_one _) ?_; intro w2 h1 h2; have H2 : Hid (GbB w w2 N s ws ∧ Bk 92 w2 w1.heap.size (wds kws) ∧ N + 1 + 1 < w1.heap.size) := ⟨(H1.out.gb HA.out.2).gbs _ h2 (lt_of_block H1.out.2.2.1), h1, lt_of_block H1.out.2.2.1⟩; clear h1 h2; have HB : Hid _ := blk_new w2 42 (wds (List.replicate 8 0)); clear H1 HA)
        | (refine wpList_load_bk 42 rfl (.tmp 2) rfl Try.underlying42 rfl info8u N (wds s.words) rfl H2.out.1.1 (by rw [wds_size]; rfl) ?_)
        | (refine wpList_store_bk 42 rfl (.tmp 10) (.tmp 96) rfl info8u w2.heap.size (wds (List.replicate 8 0)) (wds s.words) rfl rfl HB.out.1 rfl rfl (wds_one _) ?_; intro w3 h1 h2; have H3 : Hid (GbR w w3 N s ws w1.heap.size w2.heap.size s) := gbr_new H2.out.1 H2.out.2.1 H2.out.2.2 HB.out.2 h1 h2; clear h1 h2 HB H2))
      clear hz hz8
      generalize w1.heap.size = M at H3 ⊢
      generalize w2.heap.size = P at H3 ⊢
      go_loopw [11, 12, 13, 14, 15] (fun i va ve vx vy wr => ∃ k : Nat, k ≤ 64 ∧ i = .int .i64 k ∧ Hid (GbR w wr N s ws M P (rnds s ws k))) (fun i _ _ _ _ _ => 64 - (intOf i).toNat)
      case atStart => exact ⟨0, Nat.zero_le _, rfl, H3⟩
      case round =>
        obtain ⟨k, hk, rfl, hr⟩ := hrel
        clear H3
        by_cases hlt : k < 64
        · have c5 : wr.cell? ⟨M, k, none⟩ = some (.int .u32 (W (ks k))) := by
            rw [hr.out.2.1.cell k, wds_at _ _ (by show k < 64; exact hlt)]
            show some (Value.int .u32 (W ((kk.map (BitVec.ofNat 32)).getD k 0))) = some (Value.int .u32 (W (BitVec.ofNat 32 (kk.getD k 0))))
            congr 3
            simp only [List.getD_eq_getElem?_getD, List.getElem?_map]
            rw [List.getElem?_eq_getElem (show k < kk.length from hlt)]; rfl
          have c6 : wr.cell? ⟨N + 1 + 1, k, none⟩ = some (.int .u32 (W (ws.getD k 0))) := by
            rw [hr.out.1.2.2.1.cell k, wds_at _ _ (by rw [HL.out]; exact hlt)]
          have HR : Hid (rnds s ws (k + 1) = rnd (rnds s ws k) (ks k) (ws.getD k 0)) := rfl
          obtain ⟨K, hK⟩ : ∃ K, K = ks k := ⟨_, rfl⟩
          obtain ⟨X, hX⟩ : ∃ X, X = ws.getD k 0 := ⟨_, rfl⟩
          rw [← hK] at c5 HR
          rw [← hX] at c6 HR
          obtain ⟨R, hR⟩ : ∃ R, R = rnds s ws k := ⟨_, rfl⟩
          rw [← hR] at HR hr
          clear hK hX hR
          obtain ⟨a, b', c, d, e, f, g, h⟩ := R
          have HC : Hid (GCs wr N M P k a b' c d e f g h K X) := gcs_of hr.out c5 c6
          clear c5 c6
          obtain ⟨S1, hS1⟩ : ∃ x, x = rotI 6 e ^^^ rotI 11 e ^^^ rotI 25 e := ⟨_, rfl⟩
          obtain ⟨S0, hS0⟩ : ∃ x, x = rotI 2 a ^^^ rotI 13 a ^^^ rotI 22 a := ⟨_, rfl⟩
          obtain ⟨CH, hCH⟩ : ∃ x, x = (e &&& f) ^^^ (~~~ e &&& g) := ⟨_, rfl⟩
          obtain ⟨MJ, hMJ⟩ : ∃ x, x = (a &&& b') ^^^ (a &&& c) ^^^ (b' &&& c) := ⟨_, rfl⟩
          have HRR : Hid (rnds s ws (k + 1) = ⟨h + S1 + CH + K + X + (S0 + MJ), a, b', c, d + (h + S1 + CH + K + X), e, f, g⟩) := by
            show _ = _
            rw [HR.out, hS1, hS0, hCH, hMJ]; rfl
          have x1 := W_xor (rotI 6 e) (rotI 11 e)
          have x2 := W_xor (rotI 6 e ^^^ rotI 11 e) (rotI 25 e)
          have y1 := W_xor (rotI 2 a) (rotI 13 a)
          have y2 := W_xor (rotI 2 a ^^^ rotI 13 a) (rotI 22 a)
          have n1 := W_and e f
          have n2 := W_com e
          have n2b := W_not e
          have n2c := W_neg e
          have n3 := W_and (~~~ e) g
          have n4 := W_xor (e &&& f) (~~~ e &&& g)
          have m1 := W_and a b'
          have m2 := W_and a c
          have m3 := W_and b' c
          have m4 := W_xor (a &&& b') (a &&& c)
          have m5 := W_xor ((a &&& b') ^^^ (a &&& c)) (b' &&& c)
          rw [← hS1] at x2
          rw [← hS0] at y2
          rw [← hCH] at n4
          rw [← hMJ] at m5
          have p1 := W_add h S1
          have p2 := W_add (h + S1) CH
          have p3 := W_add (h + S1 + CH) K
          have p4 := W_add (h + S1 + CH + K) X
          have q1 := W_addw h S1
          have q2 := W_addw (h + S1) CH
          have q3 := W_addw (h + S1 + CH) K
          have q4 := W_addw (h + S1 + CH + K) X
          have p5 := W_add S0 MJ
          have q5 := W_addw S0 MJ
          obtain ⟨T, hT⟩ : ∃ T, T = h + S1 + CH + K + X := ⟨_, rfl⟩
          obtain ⟨U, hU⟩ : ∃ U, U = S0 + MJ := ⟨_, rfl⟩
          rw [← hT] at p4 q4 HRR
          rw [← hU] at p5 q5 HRR
          have p6 := W_add d T
          have p7 := W_add T U
          have q6 := W_addw d T
          have q7 := W_addw T U
          clear hS1 hS0 hCH hMJ HR hT hU
          have HE : Hid (#[.int .u32 (W (T + U)), .int .u32 (W a), .int .u32 (W b'), .int .u32 (W c), .int .u32 (W (d + T)), .int .u32 (W e), .int .u32 (W f), .int .u32 (W g)] = wds (rnds s ws (k + 1)).words) := by
            show _ = _
            rw [HRR.out]; rfl
          have w1 : (0 : Int) ≤ (k : Int) := by omega
          have w2 : (k : Int) < 64 := by omega
          obtain ⟨c0, c1, c2, c3, c4, c5, c6, c7, c8, c9⟩ := HC.out
          go_wp2
          go_quiet (fail)
          have hr2 : Hid (GbR w (wr.drewN nq) N s ws M P ⟨a, b', c, d, e, f, g, h⟩) := hr.out.gb ⟨rfl, rfl, rfl, Nat.le_refl _, fun _ _ _ => rfl⟩
          have HC2 : Hid (GCs (wr.drewN nq) N M P k a b' c d e f g h K X) := HC.out
          generalize wr.drewN nq = wr2 at hr2 HC2 ⊢
          clear c0 c1 c2 c3 c4 c5 c6 c7 c8 c9 HC hr
          obtain ⟨c0, c1, c2, c3, c4, c5, c6, c7, c8, c9⟩ := HC2.out
          go_wp2
          go_quiet ((go_at_call 47; go_must (refine Calls.quiet_of (gturn_c _ _ (by decide) _))))
          have hr : Hid (GbR w (wr2.drewN nq) N s ws M P ⟨a, b', c, d, e, f, g, h⟩) := hr2.out.gb ⟨rfl, rfl, rfl, Nat.le_refl _, fun _ _ _ => rfl⟩
          have HC : Hid (GCs (wr2.drewN nq) N M P k a b' c d e f g h K X) := HC2.out
          generalize wr2.drewN nq = wr3 at hr HC ⊢
          clear c0 c1 c2 c3 c4 c5 c6 c7 c8 c9 HC2 hr2
          obtain ⟨c0, c1, c2, c3, c4, c5, c6, c7, c8, c9⟩ := HC.out
          go_wp2
          go_quiet ((go_at_call 47; go_must (refine Calls.quiet_of (gturn_c _ _ (by decide) _))))
          have hr2 : Hid (GbR w (wr3.drewN nq) N s ws M P ⟨a, b', c, d, e, f, g, h⟩) := hr.out.gb ⟨rfl, rfl, rfl, Nat.le_refl _, fun _ _ _ => rfl⟩
          have HC2 : Hid (GCs (wr3.drewN nq) N M P k a b' c d e f g h K X) := HC.out
          generalize wr3.drewN nq = wr4 at hr2 HC2 ⊢
          clear c0 c1 c2 c3 c4 c5 c6 c7 c8 c9 HC hr
          obtain ⟨c0, c1, c2, c3, c4, c5, c6, c7, c8, c9⟩ := HC2.out
          go_wp2_with (refine wpList_store_bk 42 rfl (.tmp 10) (.tmp 178) rfl info8u P (wds (St.mk a b' c d e f g h).words) (wds (rnds s ws (k + 1)).words) rfl (by rw [← HE.out]; rfl) hr2.out.2.2.1 rfl rfl (wds_one _) ?_; intro w5 h1 h2; have H5 : Hid (GbR w w5 N s ws M P (rnds s ws (k + 1))) := hr2.out.gbs _ h1 h2; clear h1 h2)
          go_roundw
          case rel => exact ⟨k + 1, by omega, by go_num, H5⟩
          case measure => simp [intOf]; omega
        · obtain rfl : k = 64 := by omega
          clear hlt hk
          obtain ⟨R, hR⟩ : ∃ R, R = rnds s ws 64 := ⟨_, rfl⟩
          rw [← hR] at HBL hr
          clear hR HL
          have H6 : Hid (GbT w wr N s ws P (adl s.words R.words 0)) := ⟨hr.out.1, hr.out.2.2.1, by have := hr.out.2.2.2; omega⟩
          clear hr
          have HSL : Hid (s.words.length = 8 ∧ R.words.length = 8) := ⟨rfl, rfl⟩
          have HAE : Hid (adl s.words R.words 8 = S'.words) := by
            show _ = _
            rw [HBL.out]; exact adl_end s R
          clear HBL
          obtain ⟨ys, hys⟩ : ∃ ys, ys = R.words := ⟨_, rfl⟩
          rw [← hys] at H6 HSL HAE
          clear hys
          go_wp2
          go_loopw [16] (fun i wr => ∃ k : Nat, k ≤ 8 ∧ i = .int .i64 k ∧ Hid (GbT w wr N s ws P (adl s.words ys k))) (fun i _ => 8 - (intOf i).toNat)
          case atStart => exact ⟨0, Nat.zero_le _, rfl, H6⟩
          case round =>
            obtain ⟨k, hk, rfl, hr⟩ := hrel
            clear H6
            by_cases hlt : k < 8
            · have cs : wr.cell? ⟨N, k, none⟩ = some (.int .u32 (W (s.words.getD k 0))) := by
                rw [hr.out.1.1.cell k, wds_at _ _ (by rw [HSL.out.1]; exact hlt)]
              have ct : wr.cell? ⟨P, k, none⟩ = some (.int .u32 (W (ys.getD k 0))) := by
                rw [hr.out.2.1.cell k, wds_at _ _ (by rw [adl_len _ _ HSL.out.1 HSL.out.2 k hk]; exact hlt), adl_get _ _ HSL.out.1 HSL.out.2 k hlt]
              have cf : wr.frozen? ⟨P, k, none⟩ = false := frozen_of_row wr P k _ 42 hr.out.2.1
              have HST : Hid ((adl s.words ys k).set k (ys.getD k 0 + s.words.getD k 0) = adl s.words ys (k + 1)) := adl_set _ _ HSL.out.1 HSL.out.2 k hlt
              have HG : Hid (GbT w (wr.setCell ⟨P, k, none⟩ (.int .u32 (W (ys.getD k 0 + s.words.getD k 0)))).drew N s ws P (adl s.words ys (k + 1))) := by
                have := hr.out.set k (ys.getD k 0 + s.words.getD k 0)
                rw [HST.out] at this
                exact this
              have hNP : N ≠ P := by have := hr.out.2.2; omega
              obtain ⟨x, hx⟩ : ∃ x, x = s.words.getD k 0 := ⟨_, rfl⟩
              obtain ⟨y, hy⟩ : ∃ y, y = ys.getD k 0 := ⟨_, rfl⟩
              rw [← hx] at cs HG
              rw [← hy] at ct HG
              clear hx hy HST hr
              have p0 : (0 : Int) ≤ (k : Int) := by omega
              have p1 : (k : Int) < 8 := by omega
              have a1 := W_add y x
              have a2 := W_addw y x
              go_wp2
              go_region
              generalize World.drew (World.setCell wr _ _) = w9 at HG ⊢
              go_wp2
              go_roundw
              case rel => exact ⟨k + 1, by omega, by go_num, HG⟩
              case measure => simp [intOf]; omega
            · obtain rfl : k = 8 := by omega
              rw [HAE.out] at hr
              go_wp2_with (first
                | (refine wpList_load_bk 42 rfl (.tmp 10) rfl Try.underlying42 rfl info8u P (wds S'.words) rfl hr.out.2.1 (by rw [wds_size]; rfl) ?_)
                | (refine wpList_store_bk 42 rfl (.tmp 4) (.tmp 191) rfl info8u (N + 1) (wds (List.replicate 8 0)) (wds S'.words) rfl rfl hr.out.1.2.1 rfl rfl (wds_one _) ?_; intro w4 h1 h2; have H4 : Hid (Bk 42 w4 (N + 1) (wds S'.words) ∧ w.grownBy w4 none) := ⟨h1, gb_newer hr.out.1.2.2.2.1 h2 (by have := hr.out.1.2.2.2.2; omega)⟩; clear h1 h2))
              refine bodyPost_ret (results_cell1 Try.results32 _ _ _ ⟨N + 1, 0, none⟩ (.agg (wds S'.words)) rfl (bk_load (T := 42) Try.underlying42 rfl info8u H4.out.1 rfl)) rfl ?_
              exact ⟨rfl, H4.out.2⟩
end Go.Proofs.Ytlfppknpnfeplaa
