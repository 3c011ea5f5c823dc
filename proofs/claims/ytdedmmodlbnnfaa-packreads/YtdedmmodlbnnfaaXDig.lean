/-
  What the document's Reader's Digest answers: what the plain function rg gives. Condition: its bytes can be read, and their length is one that a machine has.
-/
import Derived.Test.YtdedmmodlbnnfaaXRs
import Derived.Test.YtdedmmodlbnnfaaPDig
namespace Go.Proofs.Ytdedmmodlbnnfaa
open Go.RowKit
set_option linter.unusedVariables false

theorem infoA : (Try.prog.info? 35).map (·.size) = some 32 := by kernel_rfl
theorem XS.keep {w w2 w4 g a len cap xs e0 p0 e p} (h0 : XS w g a len cap xs e0 p0) (h : XS w2 g a len cap xs e p) (hb : ∀ k, k < w.heap.size → w4.heap[k]? = w2.heap[k]?) (hs : w.heap.size ≤ w4.heap.size) : XS w4 g a len cap xs e p := by
  refine ⟨(hb g (lt_of_block h0.rdr)).trans h.rdr, ⟨h.seg.1, ?_⟩, h.bytes, h.off, h.le, h.lc, h.lm, h.cm⟩
  rcases h0.seg.2 with h1 | ⟨b, off, ha, hw, _⟩
  · exact .inl h1
  · rcases h.seg.2 with h1 | ⟨b', off', ha', _, hc⟩
    · exact .inl h1
    · rw [ha] at ha'; cases ha'
      exact .inr ⟨b, off, ha, Nat.lt_of_lt_of_le hw hs, fun i hi => (World.cell?_of_block (w := w2) (w' := w4) (a := ⟨b, off + i, none⟩) (hb b hw)).trans (hc i hi)⟩

theorem cell_two {w : World} {ad : Addr} {v : Value} (h : w.cell? ad = some v) (hl : ad.block < w.heap.size) (T : TypeId) (C1 C2 : Array Value) : ((w.alloc (.cells C1 T)).alloc (.cells C2 T)).cell? ad = some v :=
  ((gb_trans (World.grownBy_alloc w (.cells C1 T) none) (World.grownBy_alloc _ (.cells C2 T) none)).cell h (by simp))
set_option maxRecDepth 20000 in
theorem xdigest_no (g : Nat) (a : Option Addr) (len cap : Nat) (xs : List Int) (e : Int) (p : Nat) (w : World) (h : XS w g a len cap xs e p) (he : (e == 0) = false) :
    Calls Try.prog 43 #[.pointer (some ⟨g, 0, none⟩)] w fun r w' => r = .returned (.agg (u8s (List.replicate 32 0))) ∧ XS w' g a len cap xs e p ∧ w.grownBy w' (some g) := by
  have HR : Hid (XS w g a len cap xs e p) := h
  have HT := two_new w 35 (List.replicate 32 0) (List.replicate 32 0)
  obtain ⟨N, hN⟩ : ∃ N, N = w.heap.size := ⟨_, rfl⟩
  obtain ⟨Z, hZ⟩ : ∃ Z : List Int, Z = List.replicate 32 0 := ⟨_, rfl⟩
  rw [← hZ]
  have HZ : Hid (Z = List.replicate 32 0) := hZ
  have HZL : Hid (Z.length = 32) := by rw [hZ, List.length_replicate]; exact rfl
  have HGL : Hid (N = w.heap.size) := hN
  have hb : (e != 0) = true := by simp at he ⊢; exact he
  have c2 := cell_two h.rdr.c2 (lt_of_block h.rdr) 35
  clear h hZ
  go_enter Try.func43, Try.ntmps43
  go_wp2_with (first
    | (refine wpList_load_dg 35 rfl (.tmp 3) rfl Try.underlying35 infoA (w.heap.size + 1) (List.replicate 32 0) rfl HT.2.1 (by simp) ?_; generalize hW1 : World.alloc (World.alloc w _) _ = W1; rw [← hN]; have H1 : Hid (Dg 35 W1 N Z ∧ w.grownBy W1 none) := (by rw [← hW1, hN, HZ.out]; exact ⟨HT.1, HT.2.2⟩); clear hW1 HT hN c2)
    | (refine wpList_store_dg 35 rfl (.tmp 2) (.tmp 10) rfl infoA N Z Z rfl (by rw [HZ.out]; rfl) H1.out.1 HZL.out HZL.out ?_; intro w2 h1 h2; have H2 : Hid (Dg 35 w2 N Z ∧ W1.grownBy w2 (some N)) := ⟨h1, h2⟩; clear h1 h2))
  refine bodyPost_ret (results_cell1 Try.results43 _ _ _ ⟨N, 0, none⟩ (.agg (u8s Z)) rfl (dg_load Try.underlying35 infoA H2.out.1 HZL.out).1) rfl ?_
  have hg2 := gb_newer H1.out.2 H2.out.2 (Nat.le_of_eq HGL.out.symm)
  exact ⟨rfl, HR.out.new hg2, gb_wide hg2 _⟩

set_option maxRecDepth 20000 in
set_option maxHeartbeats 1000000 in
theorem xdigest_ok (g : Nat) (a : Option Addr) (len cap : Nat) (xs : List Int) (p : Nat) (w : World) (h : XS w g a len cap xs 0 p) :
    Calls Try.prog 43 #[.pointer (some ⟨g, 0, none⟩)] w fun r w' => r = .returned (.agg (u8s (rg xs p).1)) ∧ XS w' g a len cap xs (rg xs p).2.2 (rg xs p).2.1 ∧ w.grownBy w' (some g) := by
  have HR : Hid (XS w g a len cap xs 0 p) := h
  have HT := two_new w 35 (List.replicate 32 0) (List.replicate 32 0)
  have hgl : g < w.heap.size := lt_of_block h.rdr
  obtain ⟨N, hN⟩ : ∃ N, N = w.heap.size := ⟨_, rfl⟩
  obtain ⟨Z, hZ⟩ : ∃ Z : List Int, Z = List.replicate 32 0 := ⟨_, rfl⟩
  have HZ : Hid (Z = List.replicate 32 0) := hZ
  have HZL : Hid (Z.length = 32) := by rw [hZ, List.length_replicate]; exact rfl
  have HGL : Hid (g < N ∧ N = w.heap.size) := ⟨by rw [hN]; exact hgl, hN⟩
  have HGG : Hid (rg xs p = if len - p < 32 then (Z, p, 30) else ((xs.drop p).take 32, p + 32, 0)) := by show _ = _; rw [rg, h.seg.1, hZ]
  obtain ⟨R, hR⟩ : ∃ R, R = rg xs p := ⟨_, rfl⟩
  rw [← hR] at HGG ⊢
  have HLL : Hid (xs.length = len) := h.seg.1
  have c2 := cell_two h.rdr.c2 (lt_of_block h.rdr) 35
  have hple := h.le
  have hlm := h.lm
  clear h hgl hZ hR
  by_cases hs : len - p < 32
  · rw [if_pos hs] at HGG
    have hs2 : (len : Int) - (p : Int) < 32 := by omega
    clear hs
    go_enter Try.func43, Try.ntmps43
    go_wp2
    generalize hW1 : World.alloc (World.alloc w _) _ = W1
    rw [← hN]
    have H1 : Hid (Dg 35 W1 N Z ∧ Dg 35 W1 (N + 1) Z ∧ w.grownBy W1 none) := by rw [← hW1, hN, HZ.out]; exact HT
    have HR1 : Hid (XS W1 g a len cap xs 0 p) := HR.out.new H1.out.2.2
    clear hW1 HT hN c2
    have c0 := HR1.out.rdr.c0
    have c1 := HR1.out.rdr.c1
    go_quiet (fail)
    obtain ⟨w2, hw2⟩ : ∃ w2, w2 = W1.drewN nq := ⟨_, rfl⟩
    rw [← hw2]
    have H2 : Hid (XS w2 g a len cap xs 0 p ∧ W1.grownBy w2 none) := by rw [hw2]; exact ⟨HR1.out.drewN _, gb_drewN (World.grownBy.refl _ _) _⟩
    have HD2 : Hid (Dg 35 w2 N Z ∧ Dg 35 w2 (N + 1) Z) := ⟨H1.out.1.grew H2.out.2 (by simp), H1.out.2.1.grew H2.out.2 (by simp)⟩
    clear hw2 c0 c1
    go_wp2_with fail
    refine (xfail_c g a len cap xs 0 30 p w2 H2.out.1).mono ?_
    rintro r w3 ⟨rfl, h1, h2⟩
    have H3 : Hid (XS w3 g a len cap xs 30 p ∧ w2.grownBy w3 (some g)) := ⟨h1, h2⟩
    have HD3 : Hid (Dg 35 w3 N Z ∧ Dg 35 w3 (N + 1) Z) := ⟨HD2.out.1.grew h2 (fun e => by cases e; have := HGL.out; omega), HD2.out.2.grew h2 (fun e => by cases e; have := HGL.out; omega)⟩
    clear h1 h2
    go_wp2_with (first
      | (refine wpList_load_dg 35 rfl (.tmp 3) rfl Try.underlying35 infoA (N + 1) Z rfl HD3.out.2 HZL.out ?_)
      | (refine wpList_store_dg 35 rfl (.tmp 2) (.tmp 24) rfl infoA N Z Z rfl rfl HD3.out.1 HZL.out HZL.out ?_; intro w4 h1 h2; have H4 : Hid (Dg 35 w4 N Z ∧ w3.grownBy w4 (some N)) := ⟨h1, h2⟩; clear h1 h2))
    refine bodyPost_ret (results_cell1 Try.results43 _ _ _ ⟨N, 0, none⟩ (.agg (u8s Z)) rfl (dg_load Try.underlying35 infoA H4.out.1 HZL.out).1) rfl ?_
    rw [HGG.out]
    have hA : w.grownBy w3 (some g) := gb_trans (gb_trans (gb_wide H1.out.2.2 _) (gb_wide H2.out.2 _)) H3.out.2
    have hk : ∀ k, k < w.heap.size → w4.heap[k]? = w3.heap[k]? := fun k hk => H4.out.2.block k (Nat.lt_of_lt_of_le hk hA.size) (fun e => by cases e; have := HGL.out.2; omega)
    exact ⟨rfl, HR.out.keep H3.out.1 hk (Nat.le_trans hA.size H4.out.2.size), ⟨H4.out.2.os.trans hA.os, H4.out.2.tape.trans hA.tape, H4.out.2.output.trans hA.output, Nat.le_trans hA.size H4.out.2.size, fun k hkl hne => (hk k hkl).trans (hA.block k hkl hne)⟩⟩
  · rw [if_neg hs] at HGG
    obtain ⟨D, hD⟩ : ∃ D, D = (xs.drop p).take 32 := ⟨_, rfl⟩
    rw [← hD] at HGG
    have HDL : Hid (D.length = 32) := by
      show _ = _
      rw [hD, List.length_take, List.length_drop, HLL.out]; omega
    have HDX : Hid (∀ k, k < 32 → D[k]?.getD 0 = xs[p + k]?.getD 0) := by
      intro k hk
      rw [hD, List.getElem?_take_of_lt hk, List.getElem?_drop]
    have hs2 : decide ((len : Int) - (p : Int) < 32) = false := by simp; omega
    have hp32 : p + 32 ≤ len := by omega
    clear hs hD
    obtain ⟨b, off, rfl, HBW⟩ : ∃ b off, a = some ⟨b, off, none⟩ ∧ Hid (b < N) := by
      rcases HR.out.seg.2 with h0 | ⟨b, off, ha, hb, _⟩
      · omega
      · exact ⟨b, off, ha, by show _ < _; rw [hN]; exact hb⟩
    have HCL : Hid (∀ (w : World) (e : Int) (q k : Nat), XS w g (some ⟨b, off, none⟩) len cap xs e q → k < 32 → w.cell? ⟨b, off + (p + k), none⟩ = some (.int .u8 (D[k]?.getD 0))) := by
      intro w e q k h hk
      rcases h.seg.2 with h0 | ⟨b', off', he, hb, hcl⟩
      · omega
      · cases he
        rw [HDX.out k hk]; exact hcl (p + k) (by omega)
    go_enter Try.func43, Try.ntmps43
    go_wp2
    generalize hW1 : World.alloc (World.alloc w _) _ = W1
    rw [← hN]
    have H1 : Hid (Dg 35 W1 N Z ∧ Dg 35 W1 (N + 1) Z ∧ w.grownBy W1 none) := by rw [← hW1, hN, HZ.out]; exact HT
    have HR1 : Hid (XS W1 g (some ⟨b, off, none⟩) len cap xs 0 p) := HR.out.new H1.out.2.2
    clear hW1 HT hN c2
    have c0 := HR1.out.rdr.c0
    have c1 := HR1.out.rdr.c1
    go_quiet (fail)
    obtain ⟨w2, hw2⟩ : ∃ w2, w2 = W1.drewN nq := ⟨_, rfl⟩
    rw [← hw2]
    have H2 : Hid (XS w2 g (some ⟨b, off, none⟩) len cap xs 0 p ∧ W1.grownBy w2 none) := by rw [hw2]; exact ⟨HR1.out.drewN _, gb_drewN (World.grownBy.refl _ _) _⟩
    have HD2 : Hid (Dg 35 w2 N Z ∧ Dg 35 w2 (N + 1) Z) := ⟨H1.out.1.grew H2.out.2 (by simp), H1.out.2.1.grew H2.out.2 (by simp)⟩
    clear hw2 c0 c1
    go_wp2
    go_loopw [4] (fun i wr => ∃ k : Nat, k ≤ 32 ∧ i = .int .i64 k ∧ Hid (XS wr g (some ⟨b, off, none⟩) len cap xs 0 p ∧ Dg 35 wr N Z ∧ Dg 35 wr (N + 1) (D.take k ++ Z.drop k) ∧ w.grownBy wr none)) (fun i _ => 32 - (intOf i).toNat)
    case atStart => exact ⟨0, Nat.zero_le _, rfl, H2.out.1, HD2.out.1, by simpa using HD2.out.2, gb_trans H1.out.2.2 H2.out.2⟩
    case round =>
      obtain ⟨k, hk, rfl, HI⟩ := hrel
      clear H1 H2 HD2 HR1
      by_cases hlt : k < 32
      · have c0 := HI.out.1.rdr.c0
        have c1 := HI.out.1.rdr.c1
        have cx := HCL.out wr 0 p k HI.out.1 hlt
        have hll : (D.take k ++ Z.drop k).length = 32 := by rw [List.length_append, List.length_take, List.length_drop, HDL.out, HZL.out]; omega
        have d1 := Row.cell (k := .u8) HI.out.2.2.1 k (by rw [hll]; exact hlt)
        have f1 := Row.free (k := .u8) HI.out.2.2.1 k
        obtain ⟨y, hy⟩ : ∃ y, y = (D.take k ++ Z.drop k)[k]?.getD 0 := ⟨_, rfl⟩
        rw [← hy] at d1
        obtain ⟨c, hc⟩ : ∃ c, c = D[k]?.getD 0 := ⟨_, rfl⟩
        rw [← hc] at cx
        have HNX : Hid (Dg 35 (wr.setCell ⟨N + 1, k, none⟩ (.int .u8 c)) (N + 1) (D.take (k + 1) ++ Z.drop (k + 1))) := by
          have h1 := Row.set (k := .u8) HI.out.2.2.1 k c
          have e1 : (D.take k ++ Z.drop k).set k c = D.take (k + 1) ++ Z.drop (k + 1) := by
            have hk1 : (D.take k).length = k := by rw [List.length_take, HDL.out]; omega
            rw [List.set_append_right _ _ (by omega), hk1, Nat.sub_self, List.drop_eq_getElem_cons (by rw [HZL.out]; exact hlt), List.set_cons_zero, List.take_succ_eq_append_getElem (by rw [HDL.out]; exact hlt), List.append_assoc, hc, List.getElem?_eq_getElem (by rw [HDL.out]; exact hlt)]
            rfl
          rw [e1] at h1; exact h1
        have hn1 : N + 1 ≠ g := by have := HGL.out.1; omega
        have hn2 : N + 1 ≠ b := by have : b < N := HBW.out; omega
        have hk32 : (k : Int) < 32 := by omega
        have hb0 : (0 : Int) ≤ (p : Int) + (k : Int) := by omega
        have hb1 : (p : Int) + (k : Int) < (len : Int) := by omega
        have hwr : IntKind.i64.wrap ((p : Int) + (k : Int)) = (p : Int) + (k : Int) := by rw [IntKind.wrap_i64]; omega
        have htn : ((p : Int) + (k : Int)).toNat = p + k := by omega
        clear hy hc hll
        go_wp2
        go_region_held3 (fun w' => w'.cell? ⟨g, 0, none⟩ = some (.slice (some ⟨b, off, none⟩) len cap) ∧ w'.cell? ⟨g, 1, none⟩ = some (.int .i64 (p : Int)) ∧ w'.cell? ⟨b, off + (p + k), none⟩ = some (.int .u8 c)) (go_keep) (fail)
        have HNW : Hid (XS (wr.setCell ⟨N + 1, k, none⟩ (.int .u8 c)).drew g (some ⟨b, off, none⟩) len cap xs 0 p ∧ Dg 35 (wr.setCell ⟨N + 1, k, none⟩ (.int .u8 c)).drew N Z ∧ Dg 35 (wr.setCell ⟨N + 1, k, none⟩ (.int .u8 c)).drew (N + 1) (D.take (k + 1) ++ Z.drop (k + 1)) ∧ w.grownBy (wr.setCell ⟨N + 1, k, none⟩ (.int .u8 c)).drew none) := by
          have hg := gb_drewN (grownBy_cell wr (N + 1) k (.int .u8 c)) 1
          exact ⟨HI.out.1.other hg (fun e => by cases e; exact hn1 rfl) (fun j hj => by cases hj; exact .inr (by intro b' o' s' e; cases e; exact fun h => hn2 h.symm)), HI.out.2.1.grew hg (fun e => by cases e), HNX.out, gb_newer HI.out.2.2.2 hg (by have := HGL.out.2; omega)⟩
        go_wp2
        go_roundw
        case rel => exact ⟨k + 1, by omega, by go_num, HNW⟩
        case measure => simp [intOf]; omega
      · obtain rfl : k = 32 := by omega
        have HDD : Hid (Dg 35 wr (N + 1) D) := by
          have := HI.out.2.2.1
          rw [List.take_of_length_le (by rw [HDL.out]; omega), List.drop_eq_nil_of_le (by rw [HZL.out]; omega), List.append_nil] at this
          exact this
        have e2 : (p : Int) + 32 = ((p + 32 : Nat) : Int) := by omega
        obtain ⟨m1, m2⟩ := HI.out.1.moves (p + 32) hp32
        rw [← e2] at m1 m2
        have c1 := HI.out.1.rdr.c1
        have f1 := HI.out.1.rdr.free 1
        obtain ⟨w3, hw3⟩ : ∃ w3, (wr.setCell ⟨g, 1, none⟩ (.int .i64 ((p : Int) + 32))) = w3 := ⟨_, rfl⟩
        rw [hw3] at m1 m2
        have H3 : Hid (XS w3 g (some ⟨b, off, none⟩) len cap xs 0 (p + 32) ∧ w.grownBy w3 (some g) ∧ Dg 35 w3 N Z ∧ Dg 35 w3 (N + 1) D) :=
          ⟨m1, gb_trans (gb_wide HI.out.2.2.2 _) m2, HI.out.2.1.grew m2 (fun e => by cases e; have := HGL.out.1; omega), HDD.out.grew m2 (fun e => by cases e; have := HGL.out.1; omega)⟩
        clear m1 m2 e2 hlt hk
        go_wp2_with (first
          | (refine wpList_load_dg 35 rfl (.tmp 3) rfl Try.underlying35 infoA (N + 1) D rfl H3.out.2.2.2 HDL.out ?_)
          | (refine wpList_store_dg 35 rfl (.tmp 2) (.tmp 50) rfl infoA N Z D rfl rfl H3.out.2.2.1 HZL.out HDL.out ?_; intro w4 h1 h2; have H4 : Hid (Dg 35 w4 N D ∧ w3.grownBy w4 (some N)) := ⟨h1, h2⟩; clear h1 h2))
        refine bodyPost_ret (results_cell1 Try.results43 _ _ _ ⟨N, 0, none⟩ (.agg (u8s D)) rfl (dg_load Try.underlying35 infoA H4.out.1 HDL.out).1) rfl ?_
        rw [HGG.out]
        have hA : w.grownBy w3 (some g) := H3.out.2.1
        have hk : ∀ k, k < w.heap.size → w4.heap[k]? = w3.heap[k]? := fun k hk => H4.out.2.block k (Nat.lt_of_lt_of_le hk hA.size) (fun e => by cases e; have := HGL.out.2; omega)
        exact ⟨rfl, HR.out.keep H3.out.1 hk (Nat.le_trans hA.size H4.out.2.size), ⟨H4.out.2.os.trans hA.os, H4.out.2.tape.trans hA.tape, H4.out.2.output.trans hA.output, Nat.le_trans hA.size H4.out.2.size, fun k hkl hne => (hk k hkl).trans (hA.block k hkl hne)⟩⟩
end Go.Proofs.Ytdedmmodlbnnfaa
