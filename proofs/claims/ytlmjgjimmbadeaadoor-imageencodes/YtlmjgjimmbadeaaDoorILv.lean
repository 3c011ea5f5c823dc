/-
  The laws' own image: what one and lives answer. Condition: the table of package crc lies in memory.
-/
import Derived.Test.YtlmjgjimmbadeaaDoorIEo
import Derived.Test.YtlmjgjimmbadeaaDoorSme
import Derived.Lib.SmallJoins
namespace Go.Proofs.YtlmjgjimmbadeaaDoor
open Go.RowKit
set_option linter.unusedVariables false

def r1 : Rwi := ⟨{ data := #[107] }, { data := #[118] }, 5⟩
def b11 : List Int := [104, 119, 105, 49, 7, 1, 1, 107, 1, 118, 5]
theorem r1_fw : fwI r1 .empty 7 = true := by decide +kernel
theorem r1_body : bodyTo 7 1 [r1] 1 = b11 := by
  unfold bodyTo mark4 numB b11
  have e1 : enc 1 = [1] := enc_small (by omega)
  have e5 : enc 5 = [5] := enc_small (by omega)
  have e7 : enc 7 = [7] := enc_small (by omega)
  have hr : rowsB [r1] 1 = [1, 107, 1, 118, 5] := by
    show [] ++ rowB r1.k r1.v r1.n = _
    unfold rowB r1
    have z : ByteArray.size { data := #[107] } = 1 := rfl
    have z2 : ByteArray.size { data := #[118] } = 1 := rfl
    simp [z, z2, e1, e5, sb]
  rw [hr]
  simp [e1, e7]
theorem r1_tz : tz 7 1 [r1] 1 = 15 := by
  have := body_len 7 1 [r1] 1
  rw [r1_body] at this
  exact this.symm
theorem r1_sE : sE 7 1 [r1] = 0 := by
  unfold sE
  have hok : okTo [r1] 7 1 = true := by
    show (true && fwI r1 .empty 7) = true
    rw [r1_fw]; rfl
  rw [if_neg (by omega), if_neg (by omega), if_neg (by rw [hok]; decide), r1_tz, if_neg (by omega)]
theorem r1_iB : iB 7 1 [r1] = b11 ++ Cr.by4 (Cr.sum b11) := by
  unfold iB img
  rw [if_pos r1_sE, r1_body]
theorem r1_len : (iB 7 1 [r1]).length = 15 := by rw [r1_iB]; rfl
theorem r1_rows (w : World) (T : TypeId) : Rws (w.alloc (.cells #[.string { data := #[107] }, .string { data := #[118] }, .int .i64 5] T)) (some ⟨w.heap.size, 0, none⟩) 1 [r1] := by
  refine ⟨rfl, .inr ⟨w.heap.size, 0, rfl, by simp, fun i hi => ?_⟩⟩
  obtain rfl : i = 0 := by omega
  intro j v hv
  rw [Nat.zero_mul, Nat.add_zero, Nat.zero_add, cell_of_row _ _ j _ _ _ (heap_new w _)]
  have : rAt [r1] 0 = r1 := rfl
  rw [this] at hv
  simpa [Rwi.cells, r1] using hv
theorem results_cellI {fn : Func} {p : Tmp} {ty : TypeId} (h : fn.results = #[.cell p ty]) (tmps : Array Value) (P : Program) (w : World) (ad : Addr) (v : Value)
    (hp : tmps.getD p undef = .pointer (some ad)) (hl : (loadVar ty ad).run P w = .ok v w) : (results fn tmps).run P w = .ok v w := by
  have hp' : tmps[p]?.getD undef = .pointer (some ad) := by simpa using hp
  simp only [results, h]
  simp [hp', asAddr, hl]
set_option maxRecDepth 20000 in
theorem one_c (w : World) : Calls Tryd.prog 46 #[] w fun r w' => ∃ g, r = .returned (.agg #[.int .i64 7, .slice (some ⟨g, 0, none⟩) 1 1]) ∧ Rws w' (some ⟨g, 0, none⟩) 1 [r1] ∧ w.grownBy w' none := by
  go_enter Tryd.func46, Tryd.ntmps46
  go_wp2
  have hb : Bk 24 ((w.alloc (.cells #[.int .i64 7, .slice (some ⟨w.heap.size + 1, 0, none⟩) 1 1] 24)).alloc (.cells #[.string { data := #[107] }, .string { data := #[118] }, .int .i64 5] 48)) w.heap.size #[.int .i64 7, .slice (some ⟨w.heap.size + 1, 0, none⟩) 1 1] := (blk_new w 24 _).1.grew (gal _ _) (by simp)
  refine bodyPost_ret (results_cellI Tryd.results46 _ _ _ ⟨w.heap.size, 0, none⟩ _ rfl (bk_load Tryd.underlying24 rfl infoState hb rfl)) rfl ?_
  refine ⟨w.heap.size + 1, rfl, ?_, gb_trans (gal _ _) (gal _ _)⟩
  have h := r1_rows (w.alloc (.cells #[.int .i64 7, .slice (some ⟨w.heap.size + 1, 0, none⟩) 1 1] 24)) 48
  rw [World.size_alloc] at h
  exact h
theorem lit11_seg (w : World) : Seg .u8 (w.alloc (.cells #[.int .u8 104, .int .u8 119, .int .u8 105, .int .u8 49, .int .u8 7, .int .u8 1, .int .u8 1, .int .u8 107, .int .u8 1, .int .u8 118, .int .u8 5] 5 (11, 12))) (some ⟨w.heap.size, 0, none⟩) 11 b11 := by
  refine ⟨rfl, .inr ⟨w.heap.size, 0, rfl, by simp, fun i hi => ?_⟩⟩
  rw [Nat.zero_add, World.cell?_alloc_mark]
  rcases (by omega : i = 0 ∨ i = 1 ∨ i = 2 ∨ i = 3 ∨ i = 4 ∨ i = 5 ∨ i = 6 ∨ i = 7 ∨ i = 8 ∨ i = 9 ∨ i = 10) with rfl | rfl | rfl | rfl | rfl | rfl | rfl | rfl | rfl | rfl | rfl <;> rfl
theorem b11_bytes : Bytes b11 := by unfold Bytes; decide
theorem slice_hI (a : Option Addr) (len cap h : Nat) (H : Int) (hH : H = h) (hc : h ≤ cap) (W : World) : (Instr.slice 27 (.slice a len cap) none (some (.int .i64 H)) none).run Tryd.prog W = .ok (.slice a h cap) W := by
  subst hH
  obtain ⟨i0, hi, hz0, hz1, hz2⟩ := info_parts Tryd.infoU8
  have hel : Tryd.prog.elem 27 = 5 := by simp [Program.elem]
  rw [run_slice_h W 27 a len cap (by rw [hel]; exact Tryd.underlying27) .i64 h (by omega) (by omega)]
  rw [hel]
  have ea : ∀ (a : Option Addr), Option.map (fun x => x.add 0) a = a := fun a => by cases a <;> simp [Addr.add]
  simp [sizeOf, typeInfo, hi, sliced, hz1, ea]
theorem seg_takeI {w : World} {a : Option Addr} {len : Nat} {xs : List Int} (h : Seg .u8 w a len xs) (n : Nat) (hn : n ≤ len) : Seg .u8 w a n (xs.take n) := by
  refine ⟨by simp [h.1]; omega, ?_⟩
  rcases h.2 with h0 | ⟨b, off, ha, hw, hc⟩
  · exact .inl (by omega)
  · exact .inr ⟨b, off, ha, hw, fun i hi => by rw [hc i (by omega), List.getElem?_take_of_lt hi]⟩
set_option maxRecDepth 20000 in
set_option maxHeartbeats 1000000 in
theorem lives_c (w : World) (ht : Cr.Tab w) : Calls Tryd.prog 17 #[] w fun r w' => r = .returned (.bool true) ∧ w.grownBy w' none := by
  have HO : Hid (Calls Tryd.prog 46 #[] w fun r w' => ∃ g, r = .returned (.agg #[.int .i64 7, .slice (some ⟨g, 0, none⟩) 1 1]) ∧ Rws w' (some ⟨g, 0, none⟩) 1 [r1] ∧ w.grownBy w' none) := one_c w
  have HE : Hid (∀ g W, Rws W (some ⟨g, 0, none⟩) 1 [r1] → w.grownBy W none → Calls Tryd.prog 11 #[.agg #[.int .i64 7, .slice (some ⟨g, 0, none⟩) 1 1]] W fun r w' => ∃ va vc, r = .returned (.tuple #[.slice va 15 vc, .int .i64 0]) ∧ (Seg .u8 w' va 11 b11 ∧ 15 ≤ vc) ∧ w.grownBy w' none) := fun g W hr hg => by
    have k := iencode_c 7 (some ⟨g, 0, none⟩) 1 1 [r1] W hr (ht.below (gbb hg))
    rw [r1_len, r1_sE] at k
    refine k.mono ?_
    rintro r w' ⟨va, vc, rfl, h1, h2⟩
    obtain ⟨a', c', e, hs, _, hc⟩ := h1.seg
    cases e
    have h11 := seg_takeI hs 11 (by omega)
    rw [r1_iB, List.take_left' (by rfl)] at h11
    exact ⟨va, vc, rfl, ⟨h11, hc⟩, gb_trans hg (bgb h2)⟩
  clear ht
  go_enter Tryd.func17, Tryd.ntmps17
  go_wp2_with (first
    | (go_at_call 46; go_must (refine (Calls.mono HO.out ?_)); rintro r w1 ⟨g, rfl, h1, h2⟩; have H1 : Hid (Rws w1 (some ⟨g, 0, none⟩) 1 [r1] ∧ w.grownBy w1 none) := ⟨h1, h2⟩; clear h1 h2)
    | (go_at_call 11; go_must (refine (Calls.mono (HE.out g _ H1.out.1 H1.out.2) ?_)); rintro r w2 ⟨va, vc, rfl, h1, h2⟩; have hs11 := slice_hI va 15 vc 11 11 rfl (by have := h1.2; omega); have H2 : Hid (Seg .u8 w2 va 11 b11 ∧ w.grownBy w2 none) := ⟨h1.1, h2⟩; have hcv := Go.Joins.run_convert_bytes_const_at (P := Tryd.prog) w2 27 5 #[.int .u8 104, .int .u8 119, .int .u8 105, .int .u8 49, .int .u8 7, .int .u8 1, .int .u8 1, .int .u8 107, .int .u8 1, .int .u8 118, .int .u8 5] 11 11 w2.heap.size rfl Tryd.underlying27 Tryd.underlying5; clear h1 h2)
    | (go_at_call 14; go_must (refine (Calls.mono (same_c va _ 11 _ 11 _ b11 b11 _ (H2.out.1.grew (gal _ _) (by simp)) (lit11_seg _) b11_bytes b11_bytes) ?_)); rintro r wq ⟨rfl, hq⟩; obtain rfl := hq.symm))
  go_ret
  exact ⟨rfl, gb_trans H2.out.2 (gal _ _)⟩
end Go.Proofs.YtlmjgjimmbadeaaDoor
