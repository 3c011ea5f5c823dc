/-
  What image's Encode answers of a state: its image, or the error. Condition: the state's rows can be read, and the table of package crc lies in memory.
  What the document's Same answers of two lists of bytes. No condition of its own.
  The laws' own image: what one and lives answer. Condition: the table of package crc lies in memory.
  What the Opener's takeNumber answers: the number that stands there, or that it is not whole, or a panic. Condition: at most 2^46 bytes.
  What the Opener's takeSeq and takeCount answer. Condition: a list that can be read.
-/
import Derived.Test.YtcdgfghcmeadgaaDoorFc
import Derived.Test.YtcdgfghcmeadgaaDoorFa
import Derived.Lib.SmallJoins
import Derived.Test.YtcdgfghcmeadgaaDoorFb
namespace Go.Proofs.YtcdgfghcmeadgaaDoor
open Go.RowKit
set_option linter.unusedVariables false

theorem infoState : (Tryd.prog.info? 24).map (·.size) = some 2 := by kernel_rfl
/-- A number laid behind what a writer has. -/
theorem wint_go (g : Nat) (ys : List Int) (x most : Int) (fs : List Nat) (w : World) (h : WS w g ys 0 fs) (h0 : 0 ≤ x) (h1 : x ≤ most) (hm : most ≤ 9223372036854775807) (hb : ys.length + 10 ≤ 140737488355328) :
    Calls Tryd.prog 38 #[.pointer (some ⟨g, 0, none⟩), .int .i64 x, .int .i64 most] w fun r w' => r = .returned (.tuple #[]) ∧ ∃ fs', WS w' g (ys ++ enc x.toNat) 0 fs' ∧ Gr (fun k => k = g) w w' := by
  have k := wint_c g ys 0 x most fs w h (by omega) hb
  have e : ferr 0 (wie x most) = 0 := by unfold ferr wie; simp; omega
  rw [e, show wadd 0 ys (enc x.toNat) = ys ++ enc x.toNat from if_pos rfl] at k
  exact k.mono fun r w' ⟨k1, fs', k2, k3, _⟩ => ⟨k1, fs', k2, k3⟩
theorem wrow_go (key val : ByteArray) (ver : Int) (w : World) (he : wre key val ver = 0) (hk : key.size ≤ 1024) (hv : val.size ≤ 65536) (hn : ver ≤ 1152921504606846976) (o : Obj) :
    Calls Tryd.prog 40 #[.pointer (some ⟨w.heap.size + 1, 0, none⟩), .agg #[.string key, .string val, .int .i64 ver]] ((w.alloc o).alloc (.cells Tryd.zeroCells92 92)) fun r w' => r = .returned (.tuple #[]) ∧ ∃ fs, WS w' (w.heap.size + 1) (rowB key val ver) 0 fs ∧ w.grownBy w' none := by
  have hw : WS ((w.alloc o).alloc (.cells Tryd.zeroCells92 92)) (w.heap.size + 1) [] 0 [] := by
    have h := heap_new (w.alloc o) (.cells Tryd.zeroCells92 92)
    rw [World.size_alloc] at h
    exact ws_none h
  have k := wrow_c (w.heap.size + 1) [] 0 key val ver [] _ hw (by omega) (by omega) (by omega) (by simp; omega)
  rw [show ferr 0 (wre key val ver) = 0 from by unfold ferr; rw [if_pos rfl, he], show wadd 0 [] (rowB key val ver) = rowB key val ver from if_pos rfl] at k
  exact k.mono fun r w' ⟨k1, fs', k2, k3, _⟩ => ⟨k1, fs', k2, gb_wr (gb_trans (gal w o) (gal _ _)) k3 (by omega)⟩
theorem rws_lt {w : World} {a : Option Addr} {n : Nat} {X : List Rwi} (h : Rws w a n X) : ∀ b o s, a = some ⟨b, o, s⟩ → n = 0 ∨ b < w.heap.size := by
  intro b o s q
  rcases h.2 with z | ⟨b', off, q', hb, _⟩
  · exact .inl z
  · rw [q'] at q
    cases q
    exact .inr hb
theorem arr_seg (w : World) (T : TypeId) (b0 b1 b2 b3 : Int) : Seg .u8 (w.alloc (.cells #[.int .u8 b0, .int .u8 b1, .int .u8 b2, .int .u8 b3] T)) (some ⟨w.heap.size, 0, none⟩) 4 [b0, b1, b2, b3] := by
  refine ⟨rfl, .inr ⟨w.heap.size, 0, rfl, by simp, fun i hi => ?_⟩⟩
  rw [Nat.zero_add, cell_of_row _ _ i _ _ _ (heap_new w _)]
  rcases (by omega : i = 0 ∨ i = 1 ∨ i = 2 ∨ i = 3) with rfl | rfl | rfl | rfl <;> rfl
theorem Own.seg_len {B : Nat} {w : World} {v : Value} {n : Nat} {xs : List Int} (h : Own B w v n xs) : xs.length = n := by
  obtain ⟨_, _, _, hs, _⟩ := h.seg
  exact hs.1
theorem bytes_mem {xs : List Int} (h : ∀ z ∈ xs, 0 ≤ z ∧ z < 256) : Bytes xs := fun i hi => by
  rw [List.getElem?_eq_getElem hi]
  exact h _ (List.getElem_mem hi)
theorem sb_mem (s : ByteArray) : ∀ z ∈ sb s, 0 ≤ z ∧ z < 256 := fun z hz => by
  unfold sb at hz
  obtain ⟨c, _, rfl⟩ := List.mem_map.1 hz
  have := c.toNat_lt
  omega
theorem row_mem (k v : ByteArray) (n : Int) : ∀ z ∈ rowB k v n, 0 ≤ z ∧ z < 256 := fun z hz => by
  unfold rowB at hz
  simp only [List.mem_append] at hz
  rcases hz with (hz | hz) | (hz | hz) | hz
  · exact enc_bytes _ z hz
  · exact sb_mem _ z hz
  · exact enc_bytes _ z hz
  · exact sb_mem _ z hz
  · exact enc_bytes _ z hz
theorem rows_mem (X : List Rwi) : ∀ k, ∀ z ∈ rowsB X k, 0 ≤ z ∧ z < 256
  | 0, z, hz => by cases hz
  | k + 1, z, hz => by
    rcases List.mem_append.1 (show z ∈ rowsB X k ++ (rAt X k).bytes from hz) with q | q
    · exact rows_mem X k z q
    · exact row_mem _ _ _ z q
theorem body_bytes (seq : Int) (n : Nat) (X : List Rwi) (k : Nat) (h : ∀ j, j < k → fwI (rAt X j) (ahd X j) seq = true) : Bytes (bodyTo seq n X k) := by
  apply bytes_mem
  intro z hz
  unfold bodyTo at hz
  rcases List.mem_append.1 hz with q | q
  · have : ∀ z ∈ mark4, 0 ≤ z ∧ z < 256 := by decide
    exact this z q
  · rcases List.mem_append.1 q with q | q
    · unfold numB at q
      obtain ⟨v, _, hv⟩ := List.mem_flatMap.1 q
      exact enc_bytes _ z hv
    · exact rows_mem X k z q
theorem ws_fs {w : World} {g : Nat} {ys : List Int} {e : Int} {fs : List Nat} (h : WS w g ys e fs) : ∀ k ∈ fs, k < w.heap.size := by
  obtain ⟨d, ps, u, cs, _, h2, _⟩ := h
  exact h2.lt
theorem mark_cells : Go.Lib.strCells { data := #[104, 119, 105, 49] } = mark4.map (Value.int .u8) := rfl
theorem mark_size : ByteArray.size { data := #[104, 119, 105, 49] } = 4 := rfl
set_option maxRecDepth 20000 in
set_option maxHeartbeats 4000000 in
theorem iencode_c (seq : Int) (a : Option Addr) (n cap : Nat) (X : List Rwi) (w : World) (h : Rws w a n X) (ht : Cr.Tab w) :
    Calls Tryd.prog 11 #[.agg #[.int .i64 seq, .slice a n cap]] w fun r w' => ∃ va vc, r = .returned (.tuple #[.slice va (iB seq n X).length vc, .int .i64 (sE seq n X)]) ∧ Own w.heap.size w' (.slice va (iB seq n X).length vc) (iB seq n X).length (iB seq n X) ∧ Below w.heap.size w w' := by
  have HB0 : Hid (Bk 24 (w.alloc (.cells #[.int .i64 seq, .slice a n cap] 24)) w.heap.size #[.int .i64 seq, .slice a n cap] ∧ w.grownBy (w.alloc (.cells #[.int .i64 seq, .slice a n cap] 24)) none) := blk_new w _ _
  obtain ⟨E, hE⟩ : ∃ E, E = sE seq n X := ⟨_, rfl⟩
  by_cases hE0 : E = 0
  · subst hE0
    obtain ⟨hn, hs0, hs1, hok, htz⟩ := sE_ok hE.symm
    obtain ⟨L, hL⟩ : ∃ L, L = tz seq n X n := ⟨_, rfl⟩
    have HSZ : Hid (∀ W, w.grownBy W none → Calls Tryd.prog 12 #[.agg #[.int .i64 seq, .slice a n cap]] W fun r w' => r = .returned (.tuple #[.int .i64 (L : Int), .int .i64 0]) ∧ W.grownBy w' none) := fun W hg => by
      have k := isize_c seq a n cap X W (h.below (gbb hg))
      rw [show sN seq n X = (L : Int) from by unfold sN; rw [if_pos hE.symm, hL], ← hE] at k
      exact k
    have HXX : Hid (Rws w a n X ∧ Cr.Tab w ∧ okTo X seq n = true ∧ L = tz seq n X n ∧ 0 = sE seq n X) := ⟨h, ht, hok, hL, hE⟩
    have hLb : L ≤ 268435456 := by omega
    obtain ⟨i0, hi, hz0, hz1, hz2⟩ := info_parts Tryd.infoU8
    have HI : Hid (Tryd.prog.info? 5 = some i0 ∧ i0.zero = some (.int .u8 0) ∧ i0.size = 1 ∧ i0.bytes = 1) := ⟨hi, hz0, hz1, hz2⟩
    clear h ht hE hok htz hL hi hz0 hz1 hz2
    go_enter Tryd.func11, Tryd.ntmps11
    go_wp2_with (first
      | ((fail_if_success (have z := H1)); refine wpList_load_bk 24 rfl (.tmp 1) rfl Tryd.underlying24 rfl infoState w.heap.size _ rfl HB0.out.1 rfl ?_)
      | ((fail_if_success (have z := H1)); go_at_call 12; go_must (refine (Calls.mono (HSZ.out _ HB0.out.2) ?_)); rintro r w1 ⟨rfl, h1⟩; have H1 : Hid (w.grownBy w1 none ∧ Bk 24 w1 w.heap.size #[.int .i64 seq, .slice a n cap]) := ⟨gb_trans HB0.out.2 h1, HB0.out.1.grew h1 (by simp)⟩; have d0 : ∀ o, (w1.alloc o).cell? ⟨w.heap.size, 0, none⟩ = some (.int .i64 seq) := (fun o => (H1.out.2.grew (gal w1 o) (by simp)).cell 0); clear h1)
      | ((fail_if_success (have z := H2)); have z := H1; clear z; go_at_call 38; go_must (refine (Calls.mono (wint_go w1.heap.size [] seq 1152921504606846976 [] _ (ws_none (heap_new w1 _)) hs0 hs1 (by omega) (by simp)) ?_)); rintro r w2 ⟨rfl, fs2, h1, h2⟩; have hg2 : w1.grownBy w2 none := gb_wr (gal w1 _) h2 (Nat.le_refl _); have H2 : Hid (WS w2 w1.heap.size (enc seq.toNat) 0 fs2 ∧ w1.grownBy w2 none ∧ Bk 24 w2 w.heap.size #[.int .i64 seq, .slice a n cap]) := ⟨h1, hg2, H1.out.2.grew hg2 (by simp)⟩; have d1 : w2.cell? ⟨w.heap.size, 1, none⟩ = some (.slice a n cap) := H2.out.2.2.cell 1; clear h1 h2 hg2 d0)
      | ((fail_if_success (have z := H3)); have z := H2; clear z; go_at_call 38; go_must (refine (Calls.mono (wint_go w1.heap.size (enc seq.toNat) (n : Int) 1048576 fs2 _ H2.out.1 (by omega) (by omega) (by omega) (by have := enc_leN seq.toNat (by omega); omega)) ?_)); rintro r w3 ⟨rfl, fs3, h1, h2⟩; have hg3 : w1.grownBy w3 none := gb_wr H2.out.2.1 h2 (Nat.le_refl _); have H3 : Hid (WS w3 w1.heap.size (numB [seq, (n : Int)]) 0 fs3 ∧ w1.grownBy w3 none ∧ Bk 24 w3 w.heap.size #[.int .i64 seq, .slice a n cap]) := ⟨by rw [show numB [seq, (n : Int)] = enc seq.toNat ++ enc ((n : Int)).toNat from by simp [numB]]; exact h1, hg3, H1.out.2.grew hg3 (by simp)⟩; clear h1 h2 hg3 d1)
      | ((fail_if_success (have z := H4)); have z := H3; clear z; at_make; go_must (refine wpList_make_own _ rfl _ _ 27 rfl w3.heap.size 5 i0 (.int .u8 0) 1 Tryd.underlying27 HI.out.1 HI.out.2.1 HI.out.2.2.1 _ _ _ L rfl rfl rfl (by rw [HI.out.2.2.2]; omega) (by unfold maxLen; omega) (Nat.le_refl _) ?_); intro w4 hown hgrow; have hgw : w.grownBy w4 none := gb_trans H1.out.1 (gb_trans H3.out.2.1 hgrow); have hC : w.heap.size < w3.heap.size := lt_of_block H3.out.2.2; have H4 : Hid (ES w w4 w3.heap.size seq a n cap X (.slice (some ⟨w3.heap.size, 0, none⟩) 0 L) 0 [] ∧ WS w4 w1.heap.size (numB [seq, (n : Int)]) 0 fs3 ∧ (∀ k ∈ fs3, k < w3.heap.size) ∧ w1.heap.size < w3.heap.size) := ⟨⟨hown, H3.out.2.2.grew hgrow (by simp), HXX.out.1.below (gbb hgw), gbb hgw, hgrow.size, hC, HXX.out.2.1.below (gbb hgw)⟩, H3.out.1.new hgrow, ws_fs H3.out.1, H3.out.1.lt⟩; clear hown hgrow hgw hC)
      | ((fail_if_success (have z := H5)); have z := H4; clear z; at_builtin; go_must (refine Go.Lib.wpList_append_own_string _ rfl (.tmp 29) _ 27 9 rfl w3.heap.size 5 i0 Tryd.underlying27 Tryd.underlying9 HI.out.1 HI.out.2.1 HI.out.2.2.1 HI.out.2.2.2 _ 0 _ rfl H4.out.1.own { data := #[104, 119, 105, 49] } rfl (by rw [mark_size]; unfold maxLen; omega) (by rw [mark_size]; omega) H4.out.1.hi ?_); intro v5 w5 h1 h2 _; rw [mark_cells, mark_size] at h1; have H5 : Hid (ES w w5 w3.heap.size seq a n cap X v5 4 mark4 ∧ WS w5 w1.heap.size (numB [seq, (n : Int)]) 0 fs3) := ⟨H4.out.1.app (xs' := mark4) (m' := 4) h1 h2 (rws_lt HXX.out.1), H4.out.2.1.gr (G := fun k => k = w3.heap.size) (Gr.of h2 (fun k hk => .inl (Option.some.inj hk).symm)) (by have := H4.out.2.2.2; omega) (fun k hk => by have := H4.out.2.2.1 k hk; omega)⟩; clear h1 h2)
      | ((fail_if_success (have z := H6)); have z := H5; clear z; go_at_call 39; go_must (refine (Calls.mono (ilaid_c v5 4 mark4 (numB [seq, (n : Int)]) w3.heap.size w1.heap.size fs3 _ H5.out.1.own H5.out.2 H5.out.1.hi (by have := num2_le seq (n : Int) (by omega) (by omega); omega)) ?_)); rintro r w6 ⟨v6, rfl, h1, h2⟩; have H6 : Hid (ES w w6 w3.heap.size seq a n cap X v6 (bodyTo seq n X 0).length (bodyTo seq n X 0)) := (by rw [show bodyTo seq n X 0 = mark4 ++ numB [seq, (n : Int)] from by simp [bodyTo, rowsB]]; rw [List.length_append]; exact H5.out.1.app h1 h2 (rws_lt HXX.out.1)); have d1 : w6.cell? ⟨w.heap.size, 1, none⟩ = some (.slice a n cap) := H6.out.bk.cell 1; clear h1 h2))
    obtain ⟨C, hC⟩ : ∃ C, C = w3.heap.size := ⟨_, rfl⟩
    rw [← hC] at H6
    clear H5 H4 H3 H2 hC
    go_loopw [7, 36] (fun v i wr => ∃ (k : Nat) (bv : Value), k ≤ n ∧ v = bv ∧ i = .int .i64 (k : Int) ∧ Hid (ES w wr C seq a n cap X bv (bodyTo seq n X k).length (bodyTo seq n X k))) (fun _ i _ => n - (intOf i).toNat)
    case atStart => exact ⟨0, _, Nat.zero_le _, rfl, rfl, H6.out⟩
    case round =>
      obtain ⟨k, bv, hk, hbv, rfl, hr⟩ := hrel
      obtain rfl := hbv.symm
      clear H6 d1
      by_cases hlt : k < n
      · have hi1 : (k : Int) < n := by omega
        rcases hr.out.rows.2 with z | ⟨b, off, rfl, hbl, hcl⟩
        · omega
        obtain ⟨u, hu⟩ : ∃ u, u = rAt X k := ⟨_, rfl⟩
        have hfw := okTo_at HXX.out.2.2.1 hlt
        rw [← hu] at hfw
        have hbd := fw_bd hfw
        have hwe := fw_wre hfw
        have HRG : Hid (wr.rangeAt b (off + k * 3) u.cells) := by rw [hu]; exact hcl k hlt
        have HBM : Hid (bodyTo seq n X (k + 1) = bodyTo seq n X k ++ u.bytes ∧ (bodyTo seq n X (k + 1)).length ≤ 268435456) := ⟨by rw [hu]; exact body_more seq n X k, by have := body_len seq n X (k + 1); have := tz_mono seq n X (show k + 1 ≤ n by omega); have := HXX.out.2.2.2.1; omega⟩
        clear hu hcl hbl hfw
        obtain ⟨kk, vv, nn⟩ := u
        simp only at hbd hwe
        have HBK : Hid (∀ o, Bk 48 ((wr.alloc (.cells #[.string kk, .string vv, .int .i64 nn] 48)).alloc o) wr.heap.size #[.string kk, .string vv, .int .i64 nn]) := fun o => (blk_new wr 48 _).1.grew (gal _ o) (by simp)
        have HRO : Hid (Calls Tryd.prog 40 #[.pointer (some ⟨wr.heap.size + 1, 0, none⟩), .agg #[.string kk, .string vv, .int .i64 nn]] ((wr.alloc (.cells #[.string kk, .string vv, .int .i64 nn] 48)).alloc (.cells Tryd.zeroCells92 92)) fun r w' => r = .returned (.tuple #[]) ∧ ∃ fs, WS w' (wr.heap.size + 1) (rowB kk vv nn) 0 fs ∧ wr.grownBy w' none) := wrow_go kk vv nn wr hwe (by omega) (by omega) (by omega) _
        clear hbd hwe
        go_wp2_with (first
          | ((fail_if_success (have z := A1)); refine wpList_load_mid rfl 48 (.tmp 38) rfl b (off + k * 3) (by first | rfl | simp) [.string kk, .string vv, .int .i64 nn] _ HRG.out Tryd.underlying48 rfl (by kernel_rfl) ?_)
          | ((fail_if_success (have z := A1)); refine wpList_load_bk 48 rfl (.tmp 9) rfl Tryd.underlying48 rfl infoRwI wr.heap.size _ rfl (HBK.out _) rfl ?_)
          | ((fail_if_success (have z := A1)); go_at_call 40; go_must (refine (Calls.mono HRO.out ?_)); rintro r x1 ⟨rfl, fs, h1, h2⟩; have A1 : Hid (WS x1 (wr.heap.size + 1) (rowB kk vv nn) 0 fs ∧ ES w x1 C seq (some ⟨b, off, none⟩) n cap X bv (bodyTo seq n X k).length (bodyTo seq n X k)) := ⟨h1, hr.out.new h2⟩; clear h1 h2)
          | ((fail_if_success (have z := A2)); have z := A1; clear z; go_at_call 39; go_must (refine (Calls.mono (ilaid_c bv _ (bodyTo seq n X k) (rowB kk vv nn) C (wr.heap.size + 1) fs _ A1.out.2.own A1.out.1 A1.out.2.hi (by have h1 := HBM.out.1; have h2 := HBM.out.2; rw [h1, List.length_append] at h2; have : Rwi.bytes ⟨kk, vv, nn⟩ = rowB kk vv nn := rfl; rw [this] at h2; omega)) ?_)); rintro r x2 ⟨v2, rfl, h1, h2⟩; have A2 : Hid (ES w x2 C seq (some ⟨b, off, none⟩) n cap X v2 (bodyTo seq n X (k + 1)).length (bodyTo seq n X (k + 1))) := (by rw [HBM.out.1, List.length_append]; exact A1.out.2.app h1 h2 (rws_lt HXX.out.1)); clear h1 h2))
        go_roundw
        case rel => exact ⟨k + 1, v2, by omega, rfl, by go_num, A2.out⟩
        case measure => simp [intOf]; omega
      · obtain rfl : k = n := by omega
        have hge : ¬ (k : Int) < k := by omega
        obtain ⟨va, vc, hv, hsg, hvn, _⟩ := hr.out.own.seg
        obtain rfl := hv
        obtain ⟨m, hm⟩ : ∃ m, m = (bodyTo seq k X k).length := ⟨_, rfl⟩
        obtain ⟨xs, hxs⟩ : ∃ xs, xs = bodyTo seq k X k := ⟨_, rfl⟩
        obtain ⟨t, ht⟩ : ∃ t, t = Cr.sum xs := ⟨_, rfl⟩
        obtain ⟨b0, b1, b2, b3, ha4, hb4⟩ := Cr.arr4_ex t
        have hbx : Bytes xs := by rw [hxs]; exact body_bytes seq k X k (fun j hj => okTo_at HXX.out.2.2.1 hj)
        rw [← hxs] at hm
        have hmb : m + 4 = L := by have := body_len seq k X k; have := HXX.out.2.2.2.1; rw [hm, hxs]; omega
        rw [← hxs, ← hm] at hr hsg ⊢
        have HR : Hid (ES w wr C seq a k cap X (.slice va m vc) m xs) := hr.out
        have HSU : Hid (Calls Tryd.prog 42 #[.slice (some ⟨wr.heap.size, 0, none⟩) 1 1] (wr.alloc (.cells #[.slice va m vc] 27)) fun r w' => r = .returned (.int .u32 (Cr.W t)) ∧ w' = wr.alloc (.cells #[.slice va m vc] 27)) := by
          have k := Cr.sum_c (some ⟨wr.heap.size, 0, none⟩) 1 1 [xs] (wr.alloc (.cells #[.slice va m vc] 27)) (Cr.segs_one (cap := vc) 27 hsg hbx (by omega)) (hr.out.tab.below (gbb (gal _ _))) (by omega)
          rw [show ([xs] : List (List Int)).flatten = xs from by simp, ← ht] at k
          exact k
        have HSO : Hid (∀ W, Calls Tryd.prog 41 #[.int .u32 (Cr.W t)] W fun r w' => r = .returned (.agg #[.int .u8 b0, .int .u8 b1, .int .u8 b2, .int .u8 b3]) ∧ W.grownBy w' none) := fun W => by
          rw [← ha4]
          exact sumOf_c t W
        have HFI : Hid (iB seq k X = xs ++ [b0, b1, b2, b3] ∧ sE seq k X = 0) := ⟨by unfold iB img; rw [if_pos HXX.out.2.2.2.2.symm, ← hxs, ← ht, hb4], HXX.out.2.2.2.2.symm⟩
        clear hr hsg hvn hbx ht ha4 hb4 hm hxs
        go_wp2_with (first
          | (go_at_call 42; go_must (refine (Calls.mono HSU.out ?_)); rintro r wq ⟨rfl, hq⟩; obtain rfl := hq.symm)
          | (go_at_call 41; go_must (refine (Calls.mono (HSO.out _) ?_)); rintro r x1 ⟨rfl, h1⟩; have hgx : wr.grownBy (x1.alloc (.cells #[.int .u8 b0, .int .u8 b1, .int .u8 b2, .int .u8 b3] 96)) none := gb_trans (gb_trans (gal _ _) h1) (gal _ _); have A1 : Hid (ES w (x1.alloc (.cells #[.int .u8 b0, .int .u8 b1, .int .u8 b2, .int .u8 b3] 96)) C seq a k cap X (.slice va m vc) m xs ∧ Seg .u8 (x1.alloc (.cells #[.int .u8 b0, .int .u8 b1, .int .u8 b2, .int .u8 b3] 96)) (some ⟨x1.heap.size, 0, none⟩) 4 [b0, b1, b2, b3]) := ⟨HR.out.new hgx, arr_seg _ _ _ _ _ _⟩; clear h1 hgx)
          | (at_builtin; go_must (refine wpList_append_apart _ rfl (.tmp 49) (.tmp 50) rfl C m (.slice va m vc) xs rfl A1.out.1.own (some ⟨x1.heap.size, 0, none⟩) 4 4 [b0, b1, b2, b3] rfl (fun e => by cases e) A1.out.2 (by omega) A1.out.1.hi ?_); intro v2 x2 ho hg _; have A2 : Hid (ES w x2 C seq a k cap X v2 (m + 4) (xs ++ [b0, b1, b2, b3])) := A1.out.1.app ho hg (rws_lt HXX.out.1); clear ho hg))
        go_ret2
        obtain ⟨ra, rc, hrv, _⟩ := A2.out.own.seg
        have hfl : (xs ++ [b0, b1, b2, b3]).length = m + 4 := by rw [List.length_append, HR.out.own.seg_len]; rfl
        have ho2 := A2.out
        subst hrv
        rw [HFI.out.1, HFI.out.2, hfl]
        exact ⟨ra, rc, rfl, ho2.own.base (by have := ho2.lt; omega), ho2.bel⟩
  · have HSZ : Hid (∀ W, w.grownBy W none → Calls Tryd.prog 12 #[.agg #[.int .i64 seq, .slice a n cap]] W fun r w' => r = .returned (.tuple #[.int .i64 0, .int .i64 E]) ∧ W.grownBy w' none) := fun W hg => by
      have k := isize_c seq a n cap X W (h.below (gbb hg))
      rw [sN_no (by rw [← hE]; exact hE0), ← hE] at k
      exact k
    have hEb : (E != 0) = true := by simp [hE0]
    have HFI : Hid (iB seq n X = [] ∧ sE seq n X = E) := ⟨by unfold iB; rw [if_neg (by rw [← hE]; exact hE0)], hE.symm⟩
    clear h ht hE hE0
    go_enter Tryd.func11, Tryd.ntmps11
    go_wp2_with (first
      | ((fail_if_success (have z := H1)); refine wpList_load_bk 24 rfl (.tmp 1) rfl Tryd.underlying24 rfl infoState w.heap.size _ rfl HB0.out.1 rfl ?_)
      | ((fail_if_success (have z := H1)); go_at_call 12; go_must (refine (Calls.mono (HSZ.out _ HB0.out.2) ?_)); rintro r w1 ⟨rfl, h1⟩; have H1 : Hid (w.grownBy w1 none) := gb_trans HB0.out.2 h1; clear h1))
    go_ret2
    rw [HFI.out.1, HFI.out.2]
    exact ⟨none, 0, rfl, own_nil _ _, gbb H1.out⟩
end Go.Proofs.YtcdgfghcmeadgaaDoor
namespace Go.Proofs.YtcdgfghcmeadgaaDoor
open Go.RowKit
set_option linter.unusedVariables false

theorem same_c (a b : Option Addr) (la ca lb cb : Nat) (xs ys : List Int) (w : World) (h1 : Seg .u8 w a la xs) (h2 : Seg .u8 w b lb ys) (hx : Bytes xs) (hy : Bytes ys) :
    Calls Tryd.prog 14 #[.slice a la ca, .slice b lb cb] w fun e w' => e = .returned (.bool (decide (xs = ys))) ∧ w' = w := by
  have r1 := seg_string (P := Tryd.prog) 27 9 5 ca h1 Tryd.underlying27 Tryd.underlying5 Tryd.underlying9
  have r2 := seg_string (P := Tryd.prog) 27 9 5 cb h2 Tryd.underlying27 Tryd.underlying5 Tryd.underlying9
  have HE : Hid (((strOfNums xs).toList == (strOfNums ys).toList) = decide (xs = ys)) := str_eq hx hy
  clear h1 h2 hx hy
  go_enter Tryd.func14, Tryd.ntmps14
  go_wp2
  go_ret
  exact ⟨by rw [← HE.out]; rfl, rfl⟩
end Go.Proofs.YtcdgfghcmeadgaaDoor
namespace Go.Proofs.YtcdgfghcmeadgaaDoor
open Go.RowKit
set_option linter.unusedVariables false

def r1 : Rwi := ⟨{ data := #[107] }, { data := #[118] }, 5⟩
def b11 : List Int := [104, 119, 105, 49, 7, 1, 1, 107, 1, 118, 5]
theorem r1_fw : fwI r1 .empty 7 = true := by decide +kernel
theorem r1_body : bodyTo 7 1 [r1] 1 = b11 := by
  unfold bodyTo mark4 numB b11
  have e1 : enc 1 = [1] := enc_small (by omega)
  have e5 : enc 5 = [5] := enc_small (by omega)
  have e7 : enc 7 = [7] := enc_small (by omega)
  have hr : rowsB [r1] 1 = [1, 107, 1, 118, 5] := by
    show [] ++ rowB r1.k r1.v r1.n = _
    unfold rowB r1
    have z : ByteArray.size { data := #[107] } = 1 := rfl
    have z2 : ByteArray.size { data := #[118] } = 1 := rfl
    simp [z, z2, e1, e5, sb]
  rw [hr]
  simp [e1, e7]
theorem r1_tz : tz 7 1 [r1] 1 = 15 := by
  have := body_len 7 1 [r1] 1
  rw [r1_body] at this
  exact this.symm
theorem r1_sE : sE 7 1 [r1] = 0 := by
  unfold sE
  have hok : okTo [r1] 7 1 = true := by
    show (true && fwI r1 .empty 7) = true
    rw [r1_fw]; rfl
  rw [if_neg (by omega), if_neg (by omega), if_neg (by rw [hok]; decide), r1_tz, if_neg (by omega)]
theorem r1_iB : iB 7 1 [r1] = b11 ++ Cr.by4 (Cr.sum b11) := by
  unfold iB img
  rw [if_pos r1_sE, r1_body]
theorem r1_len : (iB 7 1 [r1]).length = 15 := by rw [r1_iB]; rfl
theorem r1_rows (w : World) (T : TypeId) : Rws (w.alloc (.cells #[.string { data := #[107] }, .string { data := #[118] }, .int .i64 5] T)) (some ⟨w.heap.size, 0, none⟩) 1 [r1] := by
  refine ⟨rfl, .inr ⟨w.heap.size, 0, rfl, by simp, fun i hi => ?_⟩⟩
  obtain rfl : i = 0 := by omega
  intro j v hv
  rw [Nat.zero_mul, Nat.add_zero, Nat.zero_add, cell_of_row _ _ j _ _ _ (heap_new w _)]
  have : rAt [r1] 0 = r1 := rfl
  rw [this] at hv
  simpa [Rwi.cells, r1] using hv
theorem results_cellI {fn : Func} {p : Tmp} {ty : TypeId} (h : fn.results = #[.cell p ty]) (tmps : Array Value) (P : Program) (w : World) (ad : Addr) (v : Value)
    (hp : tmps.getD p undef = .pointer (some ad)) (hl : (loadVar ty ad).run P w = .ok v w) : (results fn tmps).run P w = .ok v w := by
  have hp' : tmps[p]?.getD undef = .pointer (some ad) := by simpa using hp
  simp only [results, h]
  simp [hp', asAddr, hl]
set_option maxRecDepth 20000 in
theorem one_c (w : World) : Calls Tryd.prog 46 #[] w fun r w' => ∃ g, r = .returned (.agg #[.int .i64 7, .slice (some ⟨g, 0, none⟩) 1 1]) ∧ Rws w' (some ⟨g, 0, none⟩) 1 [r1] ∧ w.grownBy w' none := by
  go_enter Tryd.func46, Tryd.ntmps46
  go_wp2
  have hb : Bk 24 ((w.alloc (.cells #[.int .i64 7, .slice (some ⟨w.heap.size + 1, 0, none⟩) 1 1] 24)).alloc (.cells #[.string { data := #[107] }, .string { data := #[118] }, .int .i64 5] 48)) w.heap.size #[.int .i64 7, .slice (some ⟨w.heap.size + 1, 0, none⟩) 1 1] := (blk_new w 24 _).1.grew (gal _ _) (by simp)
  refine bodyPost_ret (results_cellI Tryd.results46 _ _ _ ⟨w.heap.size, 0, none⟩ _ rfl (bk_load Tryd.underlying24 rfl infoState hb rfl)) rfl ?_
  refine ⟨w.heap.size + 1, rfl, ?_, gb_trans (gal _ _) (gal _ _)⟩
  have h := r1_rows (w.alloc (.cells #[.int .i64 7, .slice (some ⟨w.heap.size + 1, 0, none⟩) 1 1] 24)) 48
  rw [World.size_alloc] at h
  exact h
theorem lit11_seg (w : World) : Seg .u8 (w.alloc (.cells #[.int .u8 104, .int .u8 119, .int .u8 105, .int .u8 49, .int .u8 7, .int .u8 1, .int .u8 1, .int .u8 107, .int .u8 1, .int .u8 118, .int .u8 5] 5 (11, 12))) (some ⟨w.heap.size, 0, none⟩) 11 b11 := by
  refine ⟨rfl, .inr ⟨w.heap.size, 0, rfl, by simp, fun i hi => ?_⟩⟩
  rw [Nat.zero_add, World.cell?_alloc_mark]
  rcases (by omega : i = 0 ∨ i = 1 ∨ i = 2 ∨ i = 3 ∨ i = 4 ∨ i = 5 ∨ i = 6 ∨ i = 7 ∨ i = 8 ∨ i = 9 ∨ i = 10) with rfl | rfl | rfl | rfl | rfl | rfl | rfl | rfl | rfl | rfl | rfl <;> rfl
theorem b11_bytes : Bytes b11 := by unfold Bytes; decide
theorem slice_hI (a : Option Addr) (len cap h : Nat) (H : Int) (hH : H = h) (hc : h ≤ cap) (W : World) : (Instr.slice 27 (.slice a len cap) none (some (.int .i64 H)) none).run Tryd.prog W = .ok (.slice a h cap) W := by
  subst hH
  obtain ⟨i0, hi, hz0, hz1, hz2⟩ := info_parts Tryd.infoU8
  have hel : Tryd.prog.elem 27 = 5 := by simp [Program.elem]
  rw [run_slice_h W 27 a len cap (by rw [hel]; exact Tryd.underlying27) .i64 h (by omega) (by omega)]
  rw [hel]
  have ea : ∀ (a : Option Addr), Option.map (fun x => x.add 0) a = a := fun a => by cases a <;> simp [Addr.add]
  simp [sizeOf, typeInfo, hi, sliced, hz1, ea]
theorem seg_takeI {w : World} {a : Option Addr} {len : Nat} {xs : List Int} (h : Seg .u8 w a len xs) (n : Nat) (hn : n ≤ len) : Seg .u8 w a n (xs.take n) := by
  refine ⟨by simp [h.1]; omega, ?_⟩
  rcases h.2 with h0 | ⟨b, off, ha, hw, hc⟩
  · exact .inl (by omega)
  · exact .inr ⟨b, off, ha, hw, fun i hi => by rw [hc i (by omega), List.getElem?_take_of_lt hi]⟩
set_option maxRecDepth 20000 in
set_option maxHeartbeats 1000000 in
theorem lives_c (w : World) (ht : Cr.Tab w) : Calls Tryd.prog 17 #[] w fun r w' => r = .returned (.bool true) ∧ w.grownBy w' none := by
  have HO : Hid (Calls Tryd.prog 46 #[] w fun r w' => ∃ g, r = .returned (.agg #[.int .i64 7, .slice (some ⟨g, 0, none⟩) 1 1]) ∧ Rws w' (some ⟨g, 0, none⟩) 1 [r1] ∧ w.grownBy w' none) := one_c w
  have HE : Hid (∀ g W, Rws W (some ⟨g, 0, none⟩) 1 [r1] → w.grownBy W none → Calls Tryd.prog 11 #[.agg #[.int .i64 7, .slice (some ⟨g, 0, none⟩) 1 1]] W fun r w' => ∃ va vc, r = .returned (.tuple #[.slice va 15 vc, .int .i64 0]) ∧ (Seg .u8 w' va 11 b11 ∧ 15 ≤ vc) ∧ w.grownBy w' none) := fun g W hr hg => by
    have k := iencode_c 7 (some ⟨g, 0, none⟩) 1 1 [r1] W hr (ht.below (gbb hg))
    rw [r1_len, r1_sE] at k
    refine k.mono ?_
    rintro r w' ⟨va, vc, rfl, h1, h2⟩
    obtain ⟨a', c', e, hs, _, hc⟩ := h1.seg
    cases e
    have h11 := seg_takeI hs 11 (by omega)
    rw [r1_iB, List.take_left' (by rfl)] at h11
    exact ⟨va, vc, rfl, ⟨h11, hc⟩, gb_trans hg (bgb h2)⟩
  clear ht
  go_enter Tryd.func17, Tryd.ntmps17
  go_wp2_with (first
    | (go_at_call 46; go_must (refine (Calls.mono HO.out ?_)); rintro r w1 ⟨g, rfl, h1, h2⟩; have H1 : Hid (Rws w1 (some ⟨g, 0, none⟩) 1 [r1] ∧ w.grownBy w1 none) := ⟨h1, h2⟩; clear h1 h2)
    | (go_at_call 11; go_must (refine (Calls.mono (HE.out g _ H1.out.1 H1.out.2) ?_)); rintro r w2 ⟨va, vc, rfl, h1, h2⟩; have hs11 := slice_hI va 15 vc 11 11 rfl (by have := h1.2; omega); have H2 : Hid (Seg .u8 w2 va 11 b11 ∧ w.grownBy w2 none) := ⟨h1.1, h2⟩; have hcv := Go.Joins.run_convert_bytes_const_at (P := Tryd.prog) w2 27 5 #[.int .u8 104, .int .u8 119, .int .u8 105, .int .u8 49, .int .u8 7, .int .u8 1, .int .u8 1, .int .u8 107, .int .u8 1, .int .u8 118, .int .u8 5] 11 11 w2.heap.size rfl Tryd.underlying27 Tryd.underlying5; clear h1 h2)
    | (go_at_call 14; go_must (refine (Calls.mono (same_c va _ 11 _ 11 _ b11 b11 _ (H2.out.1.grew (gal _ _) (by simp)) (lit11_seg _) b11_bytes b11_bytes) ?_)); rintro r wq ⟨rfl, hq⟩; obtain rfl := hq.symm))
  go_ret
  exact ⟨rfl, gb_trans H2.out.2 (gal _ _)⟩
end Go.Proofs.YtcdgfghcmeadgaaDoor
namespace Go.Proofs.YtcdgfghcmeadgaaDoor
open Go.RowKit
set_option linter.unusedVariables false

/-- What takeNumber answers. -/
def NA (g : Nat) (o' : Int → Opn) (ys : List Int) (most : Int) (w : World) (r : Ending) (w' : World) : Prop :=
  (((ri ys 0 most).2.2 = 0 ∨ (ri ys 0 most).2.2 = 30) → r = .returned (.tuple #[.int .i64 ((ri ys 0 most).2.1 : Int), .bool ((ri ys 0 most).2.2 == 0)]) ∧ OpB w' g (o' (ri ys 0 most).1)) ∧
  (((ri ys 0 most).2.2 ≠ 0 ∧ (ri ys 0 most).2.2 ≠ 30) → r = .panicked (chnE 92) ∧ OpB w' g { o' (ri ys 0 most).1 with err := 92, rest := none }) ∧ w.grownBy w' (some g)
theorem onum_rdr {w w2 : World} {g i q k cap P : Nat} {a : Option Addr} {ys : List Int} {E V : Int} (h : RS w2 q a k cap ys E P) (hg : g < w.heap.size) (hq : w.heap.size ≤ q) (ha : ∀ b o s, a = some ⟨b, o, s⟩ → w.heap.size ≤ b) : Rdr (w2.setCell ⟨g, i, none⟩ (.int .i64 V)) q E (.slice a k cap) P := by
  refine (h.other (grownBy_cell w2 g i (.int .i64 V)) ?_ ?_).rdr
  · intro e; cases e; omega
  · intro x e
    cases e
    intro b o s hb
    have := ha b o s hb
    omega
theorem onum_set {w : World} {g i : Nat} {o : Opn} {o' : Int → Opn} (h : OpB w g o) (hs : ∀ v, o.cells.setIfInBounds i (.int .i64 v) = (o' v).cells) (V : Int) : OpB (w.setCell ⟨g, i, none⟩ (.int .i64 V)) g (o' V) := by
  have := Bk.setO h i (.int .i64 V)
  rw [hs] at this
  exact this
set_option maxRecDepth 20000 in
theorem onum_k (g i k : Nat) (o : Opn) (o' : Int → Opn) (old : Int) (hc : o.cells[i]? = some (.int .i64 old)) (hset : ∀ v, o.cells.setIfInBounds i (.int .i64 v) = (o' v).cells) (a : Option Addr) (n c : Nat) (xs : List Int) (most : Int) (w : World)
    (h : OpB w g o) (hx : Seg .u8 w a k (xs.take k)) (hb : Bytes (xs.take k)) (hnz : a = none → c = 0) (hkc : k ≤ c) (hk : k ≤ 10) (hm : most ≤ 9223372036854775807) (hmin : ((n : Int) ≤ 10 ∧ n = k) ∨ (¬ (n : Int) ≤ 10 ∧ k = 10)) :
    Calls Tryd.prog 129 #[.pointer (some ⟨g, 0, none⟩), .slice a n c, .pointer (some ⟨g, i, none⟩), .int .i64 most] w fun r w' => NA g o' (xs.take k) most w r w' := by
  obtain ⟨ys, hys⟩ : ∃ ys, ys = xs.take k := ⟨_, rfl⟩
  rw [← hys] at hx hb ⊢
  have HNW : Hid (Calls Tryd.prog 51 #[.slice a k c] w fun r w' => ∃ q a' cap', r = .returned (.pointer (some ⟨q, 0, none⟩)) ∧ RS w' q a' k cap' ys 0 0 ∧ w.heap.size ≤ q ∧ (∀ b o s, a' = some ⟨b, o, s⟩ → w.heap.size ≤ b) ∧ w.grownBy w' none) := new_c a k c ys w hx hb (by omega) hnz
  have HO : Hid (OpB w g o ∧ g < w.heap.size) := ⟨h, lt_of_block h⟩
  obtain ⟨V, P, E, hri⟩ : ∃ V P E, ri ys 0 most = (V, P, E) := ⟨_, _, _, rfl⟩
  unfold NA
  rw [hri]
  have HIN : Hid (∀ q a' cap' W, RS W q a' k cap' ys 0 0 → Calls Tryd.prog 81 #[.pointer (some ⟨q, 0, none⟩), .int .i64 most] W fun r w' => r = .returned (.int .i64 V) ∧ RS w' q a' k cap' ys E P ∧ W.grownBy w' (some q)) := fun q a' cap' W hr => by
    have := int_ok q a' k cap' ys 0 most W hr hm
    rw [hri] at this
    exact this
  have HSE : Hid (o.cells[i]? = some (.int .i64 old) ∧ ∀ v, o.cells.setIfInBounds i (.int .i64 v) = (o' v).cells) := ⟨hc, hset⟩
  clear h hx hb hnz hm hys hc hset hri
  rcases hmin with ⟨hle, rfl⟩ | ⟨hle, rfl⟩
  · skip
    have hsl := slice_hI a n c n n rfl hkc
    by_cases hE : E = 0 ∨ E = 30
    · go_enter Tryd.func129, Tryd.ntmps129
      go_wp2_with (first
        | ((fail_if_success (have z := H1)); go_at_call 51; go_must (refine (Calls.mono HNW.out ?_)); rintro r w1 ⟨q, a', cap', rfl, h1, h2, h3, h4⟩; have H1 : Hid (RS w1 q a' _ cap' ys 0 0 ∧ w.heap.size ≤ q ∧ w.grownBy w1 none ∧ (∀ b o s, a' = some ⟨b, o, s⟩ → w.heap.size ≤ b)) := ⟨h1, h2, h4, h3⟩; clear h1 h2 h3 h4)
        | ((fail_if_success (have z := H2)); have z := H1; clear z; go_at_call 81; go_must (refine (Calls.mono (HIN.out _ _ _ _ H1.out.1) ?_)); rintro r w2 ⟨rfl, h1, h2⟩; have H2 : Hid (RS w2 q a' _ cap' ys E P ∧ w.grownBy w2 none ∧ OpB w2 g o) := ⟨h1, gb_far' H1.out.2.2.1 h2 H1.out.2.1, opb_gb HO.out.1 (gb_far' H1.out.2.2.1 h2 H1.out.2.1)⟩; have ki : w2.cell? ⟨g, i, none⟩ = some (.int .i64 old) := (Bk.cell H2.out.2.2 i).trans HSE.out.1; have fi : w2.frozen? ⟨g, i, none⟩ = false := frozen_of_row w2 g i _ _ H2.out.2.2; have H3 : Hid (Rdr (w2.setCell ⟨g, i, none⟩ (.int .i64 V)) q E (.slice a' _ cap') P ∧ OpB (w2.setCell ⟨g, i, none⟩ (.int .i64 V)) g (o' V) ∧ w.grownBy (w2.setCell ⟨g, i, none⟩ (.int .i64 V)) (some g)) := ⟨onum_rdr h1 HO.out.2 H1.out.2.1 H1.out.2.2.2, onum_set H2.out.2.2 HSE.out.2 V, gb_trans (gb_wide H2.out.2.1 _) (grownBy_cell _ _ _ _)⟩; clear h1 h2)
        | (have z := H3; clear z; go_at_call 98; go_must (refine (Calls.mono (at_c q E _ P _ H3.out.1) ?_)); rintro r wq ⟨rfl, hq⟩; obtain rfl := hq.symm; clear hq)
        | (have z := H3; clear z; go_at_call 130; go_must (refine (Calls.mono (othere_so g q E _ P _ H3.out.1 hE) ?_)); rintro r wq ⟨rfl, hq⟩; obtain rfl := hq.symm; clear hq))
      go_ret2
      exact ⟨fun _ => ⟨rfl, H3.out.2.1⟩, fun z => absurd hE (by rcases z with ⟨z1, z2⟩; rintro (e | e); exact z1 e; exact z2 e), H3.out.2.2⟩
    · replace hE : E ≠ 0 ∧ E ≠ 30 := ⟨fun e => hE (.inl e), fun e => hE (.inr e)⟩
      go_enter Tryd.func129, Tryd.ntmps129
      go_wp2_with (first
        | ((fail_if_success (have z := H1)); go_at_call 51; go_must (refine (Calls.mono HNW.out ?_)); rintro r w1 ⟨q, a', cap', rfl, h1, h2, h3, h4⟩; have H1 : Hid (RS w1 q a' _ cap' ys 0 0 ∧ w.heap.size ≤ q ∧ w.grownBy w1 none ∧ (∀ b o s, a' = some ⟨b, o, s⟩ → w.heap.size ≤ b)) := ⟨h1, h2, h4, h3⟩; clear h1 h2 h3 h4)
        | ((fail_if_success (have z := H2)); have z := H1; clear z; go_at_call 81; go_must (refine (Calls.mono (HIN.out _ _ _ _ H1.out.1) ?_)); rintro r w2 ⟨rfl, h1, h2⟩; have H2 : Hid (RS w2 q a' _ cap' ys E P ∧ w.grownBy w2 none ∧ OpB w2 g o) := ⟨h1, gb_far' H1.out.2.2.1 h2 H1.out.2.1, opb_gb HO.out.1 (gb_far' H1.out.2.2.1 h2 H1.out.2.1)⟩; have ki : w2.cell? ⟨g, i, none⟩ = some (.int .i64 old) := (Bk.cell H2.out.2.2 i).trans HSE.out.1; have fi : w2.frozen? ⟨g, i, none⟩ = false := frozen_of_row w2 g i _ _ H2.out.2.2; have H3 : Hid (Rdr (w2.setCell ⟨g, i, none⟩ (.int .i64 V)) q E (.slice a' _ cap') P ∧ OpB (w2.setCell ⟨g, i, none⟩ (.int .i64 V)) g (o' V) ∧ w.grownBy (w2.setCell ⟨g, i, none⟩ (.int .i64 V)) (some g)) := ⟨onum_rdr h1 HO.out.2 H1.out.2.1 H1.out.2.2.2, onum_set H2.out.2.2 HSE.out.2 V, gb_trans (gb_wide H2.out.2.1 _) (grownBy_cell _ _ _ _)⟩; clear h1 h2)
        | (have z := H3; clear z; go_at_call 98; go_must (refine (Calls.mono (at_c q E _ P _ H3.out.1) ?_)); rintro r wq ⟨rfl, hq⟩; obtain rfl := hq.symm; clear hq)
        | (have z := H3; clear z; go_at_call 130; go_must (refine (Calls.mono (othere_no g q (o' V) E _ P _ H3.out.2.1 H3.out.1 hE.1 hE.2) ?_)); rintro r w4 ⟨rfl, h1, h2⟩; have H4 : Hid (OpB w4 g { o' V with err := 92, rest := none } ∧ w.grownBy w4 (some g)) := ⟨h1, gb_trans H3.out.2.2 h2⟩; clear h1 h2))
      exact ⟨rfl, fun z => absurd z (by rintro (e | e); exact hE.1 e; exact hE.2 e), fun _ => ⟨rfl, H4.out.1⟩, H4.out.2⟩
  · skip
    have hlt : (10 : Int) < (n : Int) := by omega
    have hsl : ∀ W, (Instr.slice 27 (.slice a n c) none (some (.int .i64 10)) none).run Tryd.prog W = .ok (.slice a 10 c) W := slice_hI a n c 10 10 rfl hkc
    by_cases hE : E = 0 ∨ E = 30
    · go_enter Tryd.func129, Tryd.ntmps129
      go_wp2_with (first
        | ((fail_if_success (have z := H1)); go_at_call 51; go_must (refine (Calls.mono HNW.out ?_)); rintro r w1 ⟨q, a', cap', rfl, h1, h2, h3, h4⟩; have H1 : Hid (RS w1 q a' _ cap' ys 0 0 ∧ w.heap.size ≤ q ∧ w.grownBy w1 none ∧ (∀ b o s, a' = some ⟨b, o, s⟩ → w.heap.size ≤ b)) := ⟨h1, h2, h4, h3⟩; clear h1 h2 h3 h4)
        | ((fail_if_success (have z := H2)); have z := H1; clear z; go_at_call 81; go_must (refine (Calls.mono (HIN.out _ _ _ _ H1.out.1) ?_)); rintro r w2 ⟨rfl, h1, h2⟩; have H2 : Hid (RS w2 q a' _ cap' ys E P ∧ w.grownBy w2 none ∧ OpB w2 g o) := ⟨h1, gb_far' H1.out.2.2.1 h2 H1.out.2.1, opb_gb HO.out.1 (gb_far' H1.out.2.2.1 h2 H1.out.2.1)⟩; have ki : w2.cell? ⟨g, i, none⟩ = some (.int .i64 old) := (Bk.cell H2.out.2.2 i).trans HSE.out.1; have fi : w2.frozen? ⟨g, i, none⟩ = false := frozen_of_row w2 g i _ _ H2.out.2.2; have H3 : Hid (Rdr (w2.setCell ⟨g, i, none⟩ (.int .i64 V)) q E (.slice a' _ cap') P ∧ OpB (w2.setCell ⟨g, i, none⟩ (.int .i64 V)) g (o' V) ∧ w.grownBy (w2.setCell ⟨g, i, none⟩ (.int .i64 V)) (some g)) := ⟨onum_rdr h1 HO.out.2 H1.out.2.1 H1.out.2.2.2, onum_set H2.out.2.2 HSE.out.2 V, gb_trans (gb_wide H2.out.2.1 _) (grownBy_cell _ _ _ _)⟩; clear h1 h2)
        | (have z := H3; clear z; go_at_call 98; go_must (refine (Calls.mono (at_c q E _ P _ H3.out.1) ?_)); rintro r wq ⟨rfl, hq⟩; obtain rfl := hq.symm; clear hq)
        | (have z := H3; clear z; go_at_call 130; go_must (refine (Calls.mono (othere_so g q E _ P _ H3.out.1 hE) ?_)); rintro r wq ⟨rfl, hq⟩; obtain rfl := hq.symm; clear hq))
      go_ret2
      exact ⟨fun _ => ⟨rfl, H3.out.2.1⟩, fun z => absurd hE (by rcases z with ⟨z1, z2⟩; rintro (e | e); exact z1 e; exact z2 e), H3.out.2.2⟩
    · replace hE : E ≠ 0 ∧ E ≠ 30 := ⟨fun e => hE (.inl e), fun e => hE (.inr e)⟩
      go_enter Tryd.func129, Tryd.ntmps129
      go_wp2_with (first
        | ((fail_if_success (have z := H1)); go_at_call 51; go_must (refine (Calls.mono HNW.out ?_)); rintro r w1 ⟨q, a', cap', rfl, h1, h2, h3, h4⟩; have H1 : Hid (RS w1 q a' _ cap' ys 0 0 ∧ w.heap.size ≤ q ∧ w.grownBy w1 none ∧ (∀ b o s, a' = some ⟨b, o, s⟩ → w.heap.size ≤ b)) := ⟨h1, h2, h4, h3⟩; clear h1 h2 h3 h4)
        | ((fail_if_success (have z := H2)); have z := H1; clear z; go_at_call 81; go_must (refine (Calls.mono (HIN.out _ _ _ _ H1.out.1) ?_)); rintro r w2 ⟨rfl, h1, h2⟩; have H2 : Hid (RS w2 q a' _ cap' ys E P ∧ w.grownBy w2 none ∧ OpB w2 g o) := ⟨h1, gb_far' H1.out.2.2.1 h2 H1.out.2.1, opb_gb HO.out.1 (gb_far' H1.out.2.2.1 h2 H1.out.2.1)⟩; have ki : w2.cell? ⟨g, i, none⟩ = some (.int .i64 old) := (Bk.cell H2.out.2.2 i).trans HSE.out.1; have fi : w2.frozen? ⟨g, i, none⟩ = false := frozen_of_row w2 g i _ _ H2.out.2.2; have H3 : Hid (Rdr (w2.setCell ⟨g, i, none⟩ (.int .i64 V)) q E (.slice a' _ cap') P ∧ OpB (w2.setCell ⟨g, i, none⟩ (.int .i64 V)) g (o' V) ∧ w.grownBy (w2.setCell ⟨g, i, none⟩ (.int .i64 V)) (some g)) := ⟨onum_rdr h1 HO.out.2 H1.out.2.1 H1.out.2.2.2, onum_set H2.out.2.2 HSE.out.2 V, gb_trans (gb_wide H2.out.2.1 _) (grownBy_cell _ _ _ _)⟩; clear h1 h2)
        | (have z := H3; clear z; go_at_call 98; go_must (refine (Calls.mono (at_c q E _ P _ H3.out.1) ?_)); rintro r wq ⟨rfl, hq⟩; obtain rfl := hq.symm; clear hq)
        | (have z := H3; clear z; go_at_call 130; go_must (refine (Calls.mono (othere_no g q (o' V) E _ P _ H3.out.2.1 H3.out.1 hE.1 hE.2) ?_)); rintro r w4 ⟨rfl, h1, h2⟩; have H4 : Hid (OpB w4 g { o' V with err := 92, rest := none } ∧ w.grownBy w4 (some g)) := ⟨h1, gb_trans H3.out.2.2 h2⟩; clear h1 h2))
      exact ⟨rfl, fun z => absurd z (by rintro (e | e); exact hE.1 e; exact hE.2 e), fun _ => ⟨rfl, H4.out.1⟩, H4.out.2⟩
end Go.Proofs.YtcdgfghcmeadgaaDoor
namespace Go.Proofs.YtcdgfghcmeadgaaDoor
open Go.RowKit
set_option linter.unusedVariables false

theorem seg_takeO {w : World} {a : Option Addr} {len : Nat} {xs : List Int} (h : Seg .u8 w a len xs) (n : Nat) (hn : n ≤ len) : Seg .u8 w a n (xs.take n) := by
  refine ⟨by simp [h.1]; omega, ?_⟩
  rcases h.2 with h0 | ⟨b, off, ha, hw, hc⟩
  · exact .inl (by omega)
  · exact .inr ⟨b, off, ha, hw, fun i hi => by rw [hc i (by omega), List.getElem?_take_of_lt hi]⟩
theorem bytes_takeO {xs : List Int} (h : Bytes xs) (k : Nat) : Bytes (xs.take k) := fun i hi => by
  rw [List.length_take] at hi
  rw [List.getElem?_take_of_lt (by omega)]
  exact h i (by omega)
theorem oseq_c (g : Nat) (o : Opn) (a : Option Addr) (n c : Nat) (xs : List Int) (w : World) (h : OpB w g o) (hx : Seg .u8 w a n xs) (hb : Bytes xs) (hnz : a = none → c = 0) (hnc : n ≤ c) :
    Calls Tryd.prog 123 #[.pointer (some ⟨g, 0, none⟩), .slice a n c] w fun r w' => NA g (fun v => { o with seq := v }) (xs.take 10) 1152921504606846976 w r w' := by
  have HK : Hid (Calls Tryd.prog 129 #[.pointer (some ⟨g, 0, none⟩), .slice a n c, .pointer (some ⟨g, 8, none⟩), .int .i64 1152921504606846976] w fun r w' => NA g (fun v => { o with seq := v }) (xs.take 10) 1152921504606846976 w r w') := by
    rcases Nat.lt_or_ge 10 n with hn | hn
    · exact onum_k g 8 10 o _ o.seq rfl (fun v => rfl) a n c xs 1152921504606846976 w h (seg_takeO hx 10 (by omega)) (bytes_takeO hb 10) hnz (by omega) (by omega) (by omega) (.inr ⟨by omega, rfl⟩)
    · have e : xs.take n = xs.take 10 := by rw [List.take_of_length_le (by rw [hx.1]; omega), List.take_of_length_le (by rw [hx.1]; omega)]
      have := onum_k g 8 n o (fun v => { o with seq := v }) o.seq rfl (fun v => rfl) a n c xs 1152921504606846976 w h (seg_takeO hx n (by omega)) (bytes_takeO hb n) hnz (by omega) (by omega) (by omega) (.inl ⟨by omega, rfl⟩)
      rw [e] at this
      exact this
  clear h hx hb
  unfold NA at HK ⊢
  generalize ri (xs.take 10) 0 1152921504606846976 = t at HK ⊢
  obtain ⟨V, P, E⟩ := t
  by_cases hE : E = 0 ∨ E = 30
  · go_enter Tryd.func123, Tryd.ntmps123
    go_wp2_with (go_at_call 129; go_must (refine (Calls.mono HK.out ?_)); rintro r w1 ⟨h1, h2, h3⟩; obtain ⟨rfl, h4⟩ := h1 hE; have H1 : Hid _ := And.intro h4 h3; clear h1 h2 h3 h4)
    go_ret2
    exact ⟨fun _ => ⟨rfl, H1.out.1⟩, fun z => absurd hE (by rcases z with ⟨z1, z2⟩; rintro (e | e); exact z1 e; exact z2 e), H1.out.2⟩
  · have hE2 : E ≠ 0 ∧ E ≠ 30 := ⟨fun e => hE (.inl e), fun e => hE (.inr e)⟩
    go_enter Tryd.func123, Tryd.ntmps123
    go_wp2_with (go_at_call 129; go_must (refine (Calls.mono HK.out ?_)); rintro r w1 ⟨h1, h2, h3⟩; obtain ⟨rfl, h4⟩ := h2 hE2; have H1 : Hid _ := And.intro h4 h3; clear h1 h2 h3 h4)
    exact ⟨rfl, fun z => absurd z hE, fun _ => ⟨rfl, H1.out.1⟩, H1.out.2⟩
theorem ocount_c (g : Nat) (o : Opn) (a : Option Addr) (n c : Nat) (xs : List Int) (w : World) (h : OpB w g o) (hx : Seg .u8 w a n xs) (hb : Bytes xs) (hnz : a = none → c = 0) (hnc : n ≤ c) :
    Calls Tryd.prog 124 #[.pointer (some ⟨g, 0, none⟩), .slice a n c] w fun r w' => NA g (fun v => { o with left := v }) (xs.take 10) 1048576 w r w' := by
  have HK : Hid (Calls Tryd.prog 129 #[.pointer (some ⟨g, 0, none⟩), .slice a n c, .pointer (some ⟨g, 9, none⟩), .int .i64 1048576] w fun r w' => NA g (fun v => { o with left := v }) (xs.take 10) 1048576 w r w') := by
    rcases Nat.lt_or_ge 10 n with hn | hn
    · exact onum_k g 9 10 o _ o.left rfl (fun v => rfl) a n c xs 1048576 w h (seg_takeO hx 10 (by omega)) (bytes_takeO hb 10) hnz (by omega) (by omega) (by omega) (.inr ⟨by omega, rfl⟩)
    · have e : xs.take n = xs.take 10 := by rw [List.take_of_length_le (by rw [hx.1]; omega), List.take_of_length_le (by rw [hx.1]; omega)]
      have := onum_k g 9 n o (fun v => { o with left := v }) o.left rfl (fun v => rfl) a n c xs 1048576 w h (seg_takeO hx n (by omega)) (bytes_takeO hb n) hnz (by omega) (by omega) (by omega) (.inl ⟨by omega, rfl⟩)
      rw [e] at this
      exact this
  clear h hx hb
  unfold NA at HK ⊢
  generalize ri (xs.take 10) 0 1048576 = t at HK ⊢
  obtain ⟨V, P, E⟩ := t
  by_cases hE : E = 0 ∨ E = 30
  · go_enter Tryd.func124, Tryd.ntmps124
    go_wp2_with (go_at_call 129; go_must (refine (Calls.mono HK.out ?_)); rintro r w1 ⟨h1, h2, h3⟩; obtain ⟨rfl, h4⟩ := h1 hE; have H1 : Hid _ := And.intro h4 h3; clear h1 h2 h3 h4)
    go_ret2
    exact ⟨fun _ => ⟨rfl, H1.out.1⟩, fun z => absurd hE (by rcases z with ⟨z1, z2⟩; rintro (e | e); exact z1 e; exact z2 e), H1.out.2⟩
  · have hE2 : E ≠ 0 ∧ E ≠ 30 := ⟨fun e => hE (.inl e), fun e => hE (.inr e)⟩
    go_enter Tryd.func124, Tryd.ntmps124
    go_wp2_with (go_at_call 129; go_must (refine (Calls.mono HK.out ?_)); rintro r w1 ⟨h1, h2, h3⟩; obtain ⟨rfl, h4⟩ := h2 hE2; have H1 : Hid _ := And.intro h4 h3; clear h1 h2 h3 h4)
    exact ⟨rfl, fun z => absurd z hE, fun _ => ⟨rfl, H1.out.1⟩, H1.out.2⟩
end Go.Proofs.YtcdgfghcmeadgaaDoor
