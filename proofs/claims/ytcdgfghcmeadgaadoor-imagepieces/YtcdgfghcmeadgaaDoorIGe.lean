/-
  What the document's head answers of a state: the mark and the two numbers, in memory of one's own. Condition: the numbers are not below 0.
-/
import Derived.Test.YtcdgfghcmeadgaaDoorIGc
import Derived.Test.YtcdgfghcmeadgaaDoorFd
import Derived.Lib.SmallJoins
import Derived.ArgAppend
namespace Go.Proofs.YtcdgfghcmeadgaaDoor
open Go.RowKit
set_option linter.unusedVariables false

theorem mark_seg (w : World) : Seg .u8 (w.alloc (.cells #[.int .u8 104, .int .u8 119, .int .u8 105, .int .u8 49] 5 (4, 5))) (some ⟨w.heap.size, 0, none⟩) 4 mark4 := by
  refine ⟨rfl, .inr ⟨w.heap.size, 0, rfl, by simp, fun i hi => ?_⟩⟩
  rw [Nat.zero_add, World.cell?_alloc_mark]
  rcases (by omega : i = 0 ∨ i = 1 ∨ i = 2 ∨ i = 3) with rfl | rfl | rfl | rfl <;> rfl
set_option maxRecDepth 20000 in
set_option maxHeartbeats 2000000 in
theorem jhead_c (seq : Int) (a : Option Addr) (n cap : Nat) (w : World) (h0 : 0 ≤ seq) (h1 : seq < 9223372036854775808) (hn : n ≤ 1048576) :
    Calls Tryd.prog 34 #[.agg #[.int .i64 seq, .slice a n cap]] w fun r w' => ∃ v, r = .returned v ∧ Own w.heap.size w' v (4 + (numB [seq, (n : Int)]).length) (mark4 ++ numB [seq, (n : Int)]) ∧ Below w.heap.size w w' := by
  have HB0 : Hid (Bk 24 (w.alloc (.cells #[.int .i64 seq, .slice a n cap] 24)) w.heap.size #[.int .i64 seq, .slice a n cap] ∧ w.grownBy (w.alloc (.cells #[.int .i64 seq, .slice a n cap] 24)) none) := blk_new w _ _
  have hcv := Go.Joins.run_convert_bytes_const_at (P := Tryd.prog) (w.alloc (.cells #[.int .i64 seq, .slice a n cap] 24)) 27 5 #[.int .u8 104, .int .u8 119, .int .u8 105, .int .u8 49] 4 4 (w.heap.size + 1) (by simp) Tryd.underlying27 Tryd.underlying5
  obtain ⟨i0, hi, hz0, hz1, hz2⟩ := info_parts Tryd.infoU8
  have HI : Hid (Tryd.prog.info? 5 = some i0 ∧ i0.zero = some (.int .u8 0) ∧ i0.size = 1 ∧ i0.bytes = 1) := ⟨hi, hz0, hz1, hz2⟩
  have HS : Hid (Bytes (enc seq.toNat) ∧ (enc seq.toNat).length ≤ 10 ∧ 1 ≤ (enc seq.toNat).length) := ⟨bytes_mem (enc_bytes _), enc_leN _ (by omega), enc_pos _⟩
  have HBS : Hid (∀ W, Calls Tryd.prog 64 #[.int .u64 seq] W fun e w' => ∃ g n cap, e = .returned (.slice (some ⟨g, 0, none⟩) n cap) ∧ Mine w' W.heap.size g n cap (enc seq.toNat) ∧ Below W.heap.size W w') := fun W => bytes_c seq h0 (by omega) W
  have HBN : Hid (∀ W, Calls Tryd.prog 64 #[.int .u64 (n : Int)] W fun e w' => ∃ g m cap, e = .returned (.slice (some ⟨g, 0, none⟩) m cap) ∧ Mine w' W.heap.size g m cap (enc n) ∧ Below W.heap.size W w') := fun W => by
    have k := bytes_c (n : Int) (by omega) (by omega) W
    rw [Int.toNat_natCast] at k
    exact k
  have hnum : numB [seq, (n : Int)] = enc seq.toNat ++ enc n := by simp [numB]
  have HNL : Hid ((enc n).length ≤ 10) := enc_leN _ (by omega)
  rw [hnum]
  clear hi hz0 hz1 hz2 hnum
  go_enter Tryd.func34, Tryd.ntmps34
  go_wp2_with (first
    | ((fail_if_success (have z := H1)); go_at_call 64; go_must (refine (Calls.mono (HBS.out _) ?_)); rintro r w1 ⟨g1, n1, p1, rfl, q1, q2⟩
       have H1 : Hid (Seg .u8 w1 (some ⟨w.heap.size + 1, 0, none⟩) 4 mark4 ∧ Seg .u8 w1 (some ⟨g1, 0, none⟩) n1 (enc seq.toNat) ∧ n1 = (enc seq.toNat).length ∧ Bk 24 w1 w.heap.size #[.int .i64 seq, .slice a n cap] ∧ w.grownBy w1 none) := (by
         have hm := mark_seg (w.alloc (.cells #[.int .i64 seq, .slice a n cap] 24))
         rw [World.size_alloc] at hm
         exact ⟨hm.grew (bgb q2) (by simp), q1.seg, q1.len.symm, (HB0.out.1.grew (gal _ _) (by simp)).grew (bgb q2) (by simp), gb_trans HB0.out.2 (gb_trans (gal _ _) (bgb q2))⟩)
       clear q1 q2)
    | ((fail_if_success (have z := H2)); have z := H1; clear z; at_builtin; go_must (refine wpList_append_grows _ rfl (.tmp 5) (.tmp 9) 27 rfl 5 i0 (.int .u8 0) 1 1 Tryd.underlying27 HI.out.1 HI.out.2.1 HI.out.2.2.1 HI.out.2.2.2 rfl (by decide) (some ⟨w.heap.size + 1, 0, none⟩) 4 4 (mark4.map (Value.int .u8)) rfl (fun e => by cases e) rfl (fun b e => seg_news' H1.out.1 b e) ⟨g1, 0, none⟩ n1 p1 ((enc seq.toNat).map (Value.int .u8)) rfl (by rw [List.length_map, H1.out.2.2.1]; omega) (seg_news' H1.out.2.1 _ rfl) (by intro u hu; obtain ⟨z, _, rfl⟩ := List.mem_map.1 hu; rfl) (by rw [H1.out.2.2.1]; have := HS.out.2.2; omega) (by rw [H1.out.2.2.1]; have := HS.out.2.1; unfold maxLen; omega) (by rw [H1.out.2.2.1]; have := HS.out.2.1; omega) ?_)
       intro v2 w2 k1 k2
       have H2 : Hid (Own w.heap.size w2 v2 (4 + n1) (mark4 ++ enc seq.toNat) ∧ Bk 24 w2 w.heap.size #[.int .i64 seq, .slice a n cap] ∧ w.grownBy w2 none ∧ w.heap.size < w1.heap.size ∧ w1.heap.size ≤ w2.heap.size ∧ ∀ k, v2.ownBlock = some k → w1.heap.size ≤ k) := (by
         have ho : Own w1.heap.size w2 v2 (4 + n1) (mark4 ++ enc seq.toNat) := by unfold Own; rw [List.map_append]; exact k1
         exact ⟨ho.base H1.out.2.2.2.2.size, H1.out.2.2.2.1.grew k2 (by simp), gb_trans H1.out.2.2.2.2 k2, lt_of_block H1.out.2.2.2.1, k2.size, fun k hk => (ho.lo k hk).1⟩)
       have d1 : w2.cell? ⟨w.heap.size, 1, none⟩ = some (.slice a n cap) := H2.out.2.1.cell 1
       clear k1 k2)
    | ((fail_if_success (have z := H3)); have z := H2; clear z; go_at_call 64; go_must (refine (Calls.mono (HBN.out _) ?_)); rintro r w3 ⟨g3, n3, p3, rfl, q1, q2⟩
       have H3 : Hid (Own w.heap.size w3 v2 (4 + n1) (mark4 ++ enc seq.toNat) ∧ Seg .u8 w3 (some ⟨g3, 0, none⟩) n3 (enc n) ∧ n3 = (enc n).length ∧ w.grownBy w3 none ∧ w.heap.size ≤ w3.heap.size) := ⟨H2.out.1.below q2, q1.seg, q1.len.symm, gb_trans H2.out.2.2.1 (bgb q2), (gb_trans H2.out.2.2.1 (bgb q2)).size⟩
       clear q1 q2)
    | ((fail_if_success (have z := H4)); have z := H3; clear z; at_builtin; go_must (refine wpList_append_apart _ rfl (.tmp 11) (.tmp 16) rfl w.heap.size (4 + n1) v2 (mark4 ++ enc seq.toNat) rfl H3.out.1 (some ⟨g3, 0, none⟩) n3 p3 (enc n) rfl (fun e => by cases e) H3.out.2.1 (by rw [H1.out.2.2.1, H3.out.2.2.1]; have := HS.out.2.1; have := HNL.out; omega) H3.out.2.2.2.2 ?_)
       intro v4 w4 ho hg _
       have H4 : Hid (Own w.heap.size w4 v4 (4 + (enc seq.toNat ++ enc n).length) (mark4 ++ (enc seq.toNat ++ enc n)) ∧ Below w.heap.size w w4) := (by
         refine ⟨by rw [List.length_append, ← H1.out.2.2.1, ← H3.out.2.2.1, ← Nat.add_assoc, ← List.append_assoc]; exact ho, ?_⟩
         exact (gbb H3.out.2.2.2.1).trans ((Below.refl w.heap.size w3).grown hg H3.out.2.2.2.2 (fun k hk => (H3.out.1.lo k hk).1))
       )
       clear ho hg))
  go_ret
  exact ⟨_, rfl, H4.out.1, H4.out.2⟩
end Go.Proofs.YtcdgfghcmeadgaaDoor
