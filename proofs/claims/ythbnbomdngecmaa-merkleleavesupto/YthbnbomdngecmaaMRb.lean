/-
  What the document's rowBytes answers: a row's bytes. Condition: its texts are no longer than 2^30 bytes.
-/
import Derived.Test.YthbnbomdngecmaaMRg
import Derived.Test.YthbnbomdngecmaaMLa
namespace Go.Proofs.Ythbnbomdngecmaa.Pk
open Go.RowKit
set_option linter.unusedVariables false

theorem row_blk (w : World) (k v : ByteArray) (n : Int) : Go.Proofs.Ythbnbomdngecmaa.Bk 30 (w.alloc (.cells #[.string k, .string v, .int .i64 n] 30)) w.heap.size #[.string k, .string v, .int .i64 n] := heap_new w _
set_option maxRecDepth 20000 in
set_option maxHeartbeats 1000000 in
theorem rowBytes_c (k v : ByteArray) (n : Int) (w : World) (hk : k.size ≤ 1073741824) (hv : v.size ≤ 1073741824) :
    Calls Try.prog 18 #[.agg #[.string k, .string v, .int .i64 n]] w fun r w' => Ans (rowB k v n) w r w' := by
  obtain ⟨i0, hi, hz0, hz1, hz2⟩ := info_parts Try.infoU8
  have HI : Hid (Try.prog.info? 5 = some i0 ∧ i0.zero = some (.int .u8 0) ∧ i0.size = 1 ∧ i0.bytes = 1) := ⟨hi, hz0, hz1, hz2⟩
  have HK : Hid (k.size ≤ 1073741824 ∧ v.size ≤ 1073741824 ∧ (enc k.size).length ≤ 10 ∧ (enc v.size).length ≤ 10 ∧ (enc (vu n)).length ≤ 10) := ⟨hk, hv, enc_leN _ (by omega), enc_leN _ (by omega), enc_leN _ (by have := vu_bd n; unfold vu; omega)⟩
  have HN1 : Hid (∀ W, Calls Try.prog 30 #[.int .i64 (k.size : Int)] W fun r w' => Ans (enc k.size) W r w') := fun W => by
    have := gNum_c (k.size : Int) (by omega) (by omega) W
    simpa using this
  have HN2 : Hid (∀ W, Calls Try.prog 30 #[.int .i64 (v.size : Int)] W fun r w' => Ans (enc v.size) W r w') := fun W => by
    have := gNum_c (v.size : Int) (by omega) (by omega) W
    simpa using this
  have HN3 : Hid (∀ W, Calls Try.prog 31 #[.int .u64 (IntKind.u64.wrap n)] W fun r w' => Ans (enc (vu n)) W r w') := fun W => unum_c _ (vu_bd n).1 (vu_bd n).2 W
  obtain ⟨w1, hw1⟩ : ∃ w1, w1 = w.alloc (.cells #[.string k, .string v, .int .i64 n] 30) := ⟨_, rfl⟩
  have HB : Hid (Go.Proofs.Ythbnbomdngecmaa.Bk 30 w1 w.heap.size #[.string k, .string v, .int .i64 n] ∧ Below w.heap.size w w1 ∧ w.heap.size < w1.heap.size) := by
    rw [hw1]
    exact ⟨row_blk w k v n, (Below.refl _ w).alloc (Nat.le_refl _) _, by simp⟩
  have kc : ∀ {W : World} {vv : Value} {m : Nat} {ys : List Int}, GS w1.heap.size w1 W vv m ys → W.cell? ⟨w.heap.size, 0, none⟩ = some (.string k) ∧ W.cell? ⟨w.heap.size, 1, none⟩ = some (.string v) ∧ W.cell? ⟨w.heap.size, 2, none⟩ = some (.int .i64 n) := fun {W vv m ys} h => by
    have h1 := HB.out.1.below h.2.2.1 HB.out.2.2
    exact ⟨h1.cell 0, h1.cell 1, h1.cell 2⟩
  have KC : Hid _ := @kc
  have HEB : Hid (enc k.size ++ sb k ++ enc v.size ++ sb v ++ enc (vu n) = rowB k v n) := by show _ = _; unfold rowB; simp only [List.append_assoc]
  clear kc hi hz0 hz1 hz2 hk hv
  go_enter Try.func18, Try.ntmps18
  go_wp2_with (first
    | ((fail_if_success (have z := A1)); go_at_call 30; go_must (refine (Calls.mono (HN1.out _) ?_)); rintro r x1 ⟨ao, m, c, rfl, hm, ho, hsg, hn, hb⟩; rw [← hw1] at ho hb; have A1 : Hid (GS w1.heap.size w1 x1 (.slice ao m c) m (enc k.size)) := ⟨ho, hm, hb, hb.size, rfl⟩; have d1 := (KC.out A1.out).1; clear hm ho hsg hn hb)
    | (have z := A1; clear z; (fail_if_success (have z := A2)); at_builtin; go_must (refine Go.Lib.wpList_append_own_string _ rfl (.tmp 8) (.tmp 10) 48 9 rfl w1.heap.size 5 i0 Try.underlying48 Try.underlying9 HI.out.1 HI.out.2.1 HI.out.2.2.1 HI.out.2.2.2 _ m _ rfl A1.out.1 k rfl (by have := HK.out; have := A1.out.2.1; unfold maxLen; omega) (by have := HK.out; have := A1.out.2.1; omega) A1.out.2.2.2.1 ?_); intro v2 x2 h1 h2 _; have A2 : Hid (GS w1.heap.size w1 x2 v2 (m + k.size) (enc k.size ++ sb k)) := ⟨by show World.ownsRow _ _ _ _ _ _ _; rw [List.map_append, ← cells_sb]; exact h1, by rw [List.length_append, sb_length, ← A1.out.2.1], A1.out.2.2.1.trans ((Below.refl _ _).grown h2 A1.out.2.2.2.1 (fun k hk => own_lo A1.out.1 k hk)), Nat.le_trans A1.out.2.2.2.1 h2.size, rfl⟩; have d2 := (KC.out A2.out).2.1; clear h1 h2)
    | (have z := A2; clear z; (fail_if_success (have z := N2)); go_at_call 30; go_must (refine (Calls.mono (HN2.out _) ?_)); rintro r x3 ⟨ao3, m3, c3, rfl, hm, ho, hsg, hn, hb⟩; have N2 : Hid (GS w1.heap.size w1 x3 v2 (m + k.size) (enc k.size ++ sb k) ∧ Seg .u8 x3 ao3 m3 (enc v.size) ∧ (ao3 = none → c3 = 0) ∧ m3 = (enc v.size).length) := ⟨A2.out.later hb, hsg, hn, hm⟩; clear hm ho hsg hn hb)
    | (have z := N2; clear z; (fail_if_success (have z := A3)); at_builtin; go_must (refine wpList_append_apart _ rfl (.tmp 12) (.tmp 16) rfl w1.heap.size _ _ _ rfl N2.out.1.1 ao3 m3 c3 (enc v.size) rfl N2.out.2.2.1 N2.out.2.1 (by have h1 := N2.out.1.2.1; have h2 := N2.out.2.2.2; have := HK.out; simp only [List.length_append, sb_length] at h1 h2; omega) N2.out.1.2.2.2.1 ?_); intro v4 x4 ho hg _; have A3 : Hid (GS w1.heap.size w1 x4 v4 (m + k.size + m3) (enc k.size ++ sb k ++ enc v.size)) := ⟨ho, by rw [List.length_append (bs := enc v.size), ← N2.out.1.2.1, ← N2.out.2.2.2], N2.out.1.2.2.1.trans ((Below.refl _ _).grown hg N2.out.1.2.2.2.1 (fun k hk => own_lo N2.out.1.1 k hk)), Nat.le_trans N2.out.1.2.2.2.1 hg.size, rfl⟩; have d3 := (KC.out A3.out).2.1; clear ho hg)
    | (have z := A3; clear z; (fail_if_success (have z := A4)); at_builtin; go_must (refine Go.Lib.wpList_append_own_string _ rfl (.tmp 18) (.tmp 20) 48 9 rfl w1.heap.size 5 i0 Try.underlying48 Try.underlying9 HI.out.1 HI.out.2.1 HI.out.2.2.1 HI.out.2.2.2 _ (m + k.size + m3) _ rfl A3.out.1 v rfl (by have := HK.out; have := A3.out.2.1; simp only [List.length_append, sb_length] at this; unfold maxLen; omega) (by have := HK.out; have := A3.out.2.1; simp only [List.length_append, sb_length] at this; omega) A3.out.2.2.2.1 ?_); intro v5 x5 h1 h2 _; have A4 : Hid (GS w1.heap.size w1 x5 v5 (m + k.size + m3 + v.size) (enc k.size ++ sb k ++ enc v.size ++ sb v)) := ⟨by show World.ownsRow _ _ _ _ _ _ _; rw [List.map_append, ← cells_sb]; exact h1, by rw [List.length_append (bs := sb v), sb_length, ← A3.out.2.1], A3.out.2.2.1.trans ((Below.refl _ _).grown h2 A3.out.2.2.2.1 (fun k hk => own_lo A3.out.1 k hk)), Nat.le_trans A3.out.2.2.2.1 h2.size, rfl⟩; have d4 := (KC.out A4.out).2.2; clear h1 h2)
    | (have z := A4; clear z; (fail_if_success (have z := N5)); go_at_call 31; go_must (refine (Calls.mono (HN3.out _) ?_)); rintro r x6 ⟨ao6, m6, c6, rfl, hm, ho, hsg, hn, hb⟩; have N5 : Hid (GS w1.heap.size w1 x6 v5 (m + k.size + m3 + v.size) (enc k.size ++ sb k ++ enc v.size ++ sb v) ∧ Seg .u8 x6 ao6 m6 (enc (vu n)) ∧ (ao6 = none → c6 = 0) ∧ m6 = (enc (vu n)).length) := ⟨A4.out.later hb, hsg, hn, hm⟩; clear hm ho hsg hn hb)
    | (have z := N5; clear z; at_builtin; go_must (refine wpList_append_apart _ rfl (.tmp 22) (.tmp 26) rfl w1.heap.size _ _ _ rfl N5.out.1.1 ao6 m6 c6 (enc (vu n)) rfl N5.out.2.2.1 N5.out.2.1 (by have h1 := N5.out.1.2.1; have h2 := N5.out.2.2.2; have := HK.out; simp only [List.length_append, sb_length] at h1 h2; omega) N5.out.1.2.2.2.1 ?_); intro v7 x7 ho hg _; have A6 : Hid (GS w1.heap.size w1 x7 v7 (m + k.size + m3 + v.size + m6) (enc k.size ++ sb k ++ enc v.size ++ sb v ++ enc (vu n))) := ⟨ho, by rw [List.length_append (bs := enc (vu n)), ← N5.out.1.2.1, ← N5.out.2.2.2], N5.out.1.2.2.1.trans ((Below.refl _ _).grown hg N5.out.1.2.2.2.1 (fun k hk => own_lo N5.out.1.1 k hk)), Nat.le_trans N5.out.1.2.2.2.1 hg.size, rfl⟩; clear ho hg))
  go_ret
  have hG := A6.out
  rw [HEB.out] at hG
  obtain ⟨g1, g2, g3, g4, _⟩ := hG
  rw [g2] at g1
  refine ans_of ⟨g1.1, ?_⟩ (HB.out.2.1.trans (g3.mono (Nat.le_of_lt HB.out.2.2)))
  rcases g1.2 with q | ⟨g, cap, cur, q1, q2, q3⟩
  · exact .inl q
  · exact .inr ⟨g, cap, cur, q1, Nat.le_trans (Nat.le_of_lt HB.out.2.2) q2, q3⟩
end Go.Proofs.Ythbnbomdngecmaa.Pk
