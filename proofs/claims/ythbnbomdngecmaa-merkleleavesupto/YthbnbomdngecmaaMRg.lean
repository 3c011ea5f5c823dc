/-
  What the document's number and Number answer: a number's bytes, with 63 bits and with 64. No condition.
-/
import Derived.Test.YthbnbomdngecmaaPkA
import Derived.Lib.AppendStr
namespace Go.Proofs.Ythbnbomdngecmaa.Pk
open Go.RowKit
set_option linter.unusedVariables false

theorem below_gb {a b : World} (h : Below a.heap.size a b) : a.grownBy b none := ⟨h.os, h.tape, h.output, h.size, fun i hi _ => h.block i hi⟩
theorem gb_alloc (w : World) (o : Obj) : w.grownBy (w.alloc o) none := World.grownBy_alloc _ _ _
theorem own_keep {B : Nat} {w w' : World} {v : Value} {n : Nat} {xs : List Int} (h : Own B w v n xs) (hg : w.grownBy w' none) : Own B w' v n xs := by
  refine ⟨h.1, ?_⟩
  rcases h.2 with q | ⟨g, cap, cur, q1, q2, q3, q4⟩
  · exact .inl q
  · exact .inr ⟨g, cap, cur, q1, q2, (hg.block g (lt_of_block q3) (by simp)).trans q3, q4⟩
theorem own_below {B : Nat} {w w' : World} {v : Value} {n : Nat} {xs : List Int} (h : Own B w v n xs) (hg : Below w.heap.size w w') : Own B w' v n xs := own_keep h (below_gb hg)
theorem own_lo {B : Nat} {w : World} {v : Value} {n : Nat} {xs : List Int} (h : Own B w v n xs) : ∀ g, v.ownBlock = some g → B ≤ g := by
  intro g hg
  rcases h.2 with ⟨rfl, _⟩ | ⟨g', cap, cur, rfl, hB, _⟩
  · cases hg
  · cases hg; exact hB
theorem byte_seg (w : World) (c : Int) : Seg .u8 (w.alloc (.cells #[.int .u8 c] 5)) (some ⟨w.heap.size, 0, none⟩) 1 [c] := by
  refine ⟨rfl, .inr ⟨w.heap.size, 0, rfl, by simp, fun i hi => ?_⟩⟩
  rw [Nat.zero_add, cell_of_row _ _ i _ _ _ (heap_new w _)]
  obtain rfl : i = 0 := by omega
  rfl
set_option maxRecDepth 20000 in
set_option maxHeartbeats 1000000 in
theorem gnumber_c (V : Nat) (hV : V < 9223372036854775808) (w : World) : Calls Try.prog 46 #[.int .i64 (V : Int)] w fun r w' => ∃ v, r = .returned v ∧ Own w.heap.size w' v (enc V).length (enc V) ∧ Below w.heap.size w w' := by
  obtain ⟨B, hB⟩ : ∃ B, B = w.heap.size := ⟨_, rfl⟩
  have HB : Hid (B = w.heap.size) := hB
  have HV : Hid (V < 9223372036854775808) := hV
  go_enter Try.func46, Try.ntmps46
  rw [← hB]
  clear hB hV
  go_wp2
  go_loopw [0, 3] (fun v b wr => ∃ (n : Nat) (ys : List Int) (bv : Value), v = .int .i64 (n : Int) ∧ b = bv ∧ n < 9223372036854775808 ∧ ys.length ≤ 100 ∧ Hid (Own B wr bv ys.length ys ∧ Below B w wr ∧ ys ++ enc n = enc V ∧ (enc n).length + ys.length ≤ 10)) (fun v _ _ => (intOf v).toNat)
  case atStart => exact ⟨V, [], _, rfl, rfl, HV.out, by simp, own_nil _ _, Below.refl _ _, rfl, by have := enc_leN V (by have := HV.out; omega); simpa using this⟩
  case round =>
    obtain ⟨n, ys, bv, rfl, hbv, hn, hyl, hr⟩ := hrel
    obtain rfl := hbv.symm
    have HBS : Hid (B ≤ wr.heap.size) := by have := hr.out.2.1.size; have := HB.out; show _ ≤ _; omega
    by_cases h : 127 < n
    · have h1 : (127 : Int) < (n : Int) := by omega
      have hq : (n : Int).tdiv 128 = ((n / 128 : Nat) : Int) := by rw [Int.tdiv_eq_ediv_of_nonneg (by omega)]; omega
      have hm : (n : Int).tmod 128 = ((n % 128 : Nat) : Int) := by rw [Int.tmod_eq_emod_of_nonneg (by omega)]; omega
      obtain ⟨c, hc⟩ : ∃ c : Nat, c = n % 128 := ⟨_, rfl⟩
      obtain ⟨d, hd⟩ : ∃ d : Nat, d = n / 128 := ⟨_, rfl⟩
      rw [← hc] at hm
      rw [← hd] at hq
      have hc2 : c < 128 := by omega
      have hu : IntKind.u8.wrap ((c : Int) + 128) = (c : Int) + 128 := by simp [IntKind.wrap, IntKind.signed, IntKind.bits]; omega
      have HN : Hid (enc n = ((c : Int) + 128) :: enc d) := by
        show _ = _
        rw [enc_big (by omega), hc, hd]
        simp
      have HD : Hid (d < n ∧ d < 9223372036854775808) := ⟨by omega, by omega⟩
      have hd2 : (d : Int) ≤ 9223372036854775807 := by omega
      clear hc hd h
      go_wp2_with (at_builtin; go_must (refine wpList_append_apart _ rfl (.tmp 6) (.tmp 11) rfl B ys.length bv ys rfl (own_keep hr.out.1 (gb_alloc wr _)) (some ⟨wr.heap.size, 0, none⟩) 1 1 [(c : Int) + 128] rfl (fun z => by cases z) (byte_seg wr _) (by omega) (by have := HBS.out; simp; omega) ?_); intro v2 w2 ho hg _; have H2 : Hid (Own B w2 v2 (ys.length + 1) (ys ++ [(c : Int) + 128]) ∧ Below B w w2) := ⟨ho, (hr.out.2.1.trans ((Below.refl _ _).alloc HBS.out _)).trans ((Below.refl _ _).grown hg (by have := HBS.out; simp; omega) (fun k hk => own_lo hr.out.1 k hk))⟩; clear ho hg)
      go_roundw
      case rel => exact ⟨d, ys ++ [(c : Int) + 128], v2, by go_num, rfl, HD.out.2, by have := hr.out.2.2.2; simp; omega, by simpa using H2.out.1, H2.out.2, by rw [← hr.out.2.2.1, HN.out]; simp, by have := hr.out.2.2.2; rw [HN.out] at this; simp at this ⊢; omega⟩
      case measure => have := HD.out.1; simp [intOf]; omega
    · have h1 : ¬ (127 : Int) < (n : Int) := by omega
      have hu : IntKind.u8.wrap (n : Int) = (n : Int) := by simp [IntKind.wrap, IntKind.signed, IntKind.bits]; omega
      have HN : Hid (enc n = [(n : Int)]) := enc_small (by omega)
      clear h
      go_wp2_with (at_builtin; go_must (refine wpList_append_apart _ rfl (.tmp 15) (.tmp 18) rfl B ys.length bv ys rfl (own_keep hr.out.1 (gb_alloc wr _)) (some ⟨wr.heap.size, 0, none⟩) 1 1 [(n : Int)] rfl (fun z => by cases z) (byte_seg wr _) (by omega) (by have := HBS.out; simp; omega) ?_); intro v2 w2 ho hg _; have H2 : Hid (Own B w2 v2 (ys.length + 1) (ys ++ [(n : Int)]) ∧ Below B w w2) := ⟨ho, (hr.out.2.1.trans ((Below.refl _ _).alloc HBS.out _)).trans ((Below.refl _ _).grown hg (by have := HBS.out; simp; omega) (fun k hk => own_lo hr.out.1 k hk))⟩; clear ho hg)
      go_ret
      have e : enc V = ys ++ [(n : Int)] := by rw [← hr.out.2.2.1, HN.out]
      rw [e]
      exact ⟨v2, rfl, by simpa using H2.out.1, H2.out.2⟩
set_option maxRecDepth 20000 in
set_option maxHeartbeats 1000000 in
theorem unumber_c (V : Nat) (hV : V < 18446744073709551616) (w : World) : Calls Try.prog 31 #[.int .u64 (V : Int)] w fun r w' => ∃ v, r = .returned v ∧ Own w.heap.size w' v (enc V).length (enc V) ∧ Below w.heap.size w w' := by
  obtain ⟨B, hB⟩ : ∃ B, B = w.heap.size := ⟨_, rfl⟩
  have HB : Hid (B = w.heap.size) := hB
  have HV : Hid (V < 18446744073709551616) := hV
  go_enter Try.func31, Try.ntmps31
  rw [← hB]
  clear hB hV
  go_wp2
  go_loopw [0, 3] (fun v b wr => ∃ (n : Nat) (ys : List Int) (bv : Value), v = .int .u64 (n : Int) ∧ b = bv ∧ n < 18446744073709551616 ∧ ys.length ≤ 100 ∧ Hid (Own B wr bv ys.length ys ∧ Below B w wr ∧ ys ++ enc n = enc V ∧ (enc n).length + ys.length ≤ 10)) (fun v _ _ => (intOf v).toNat)
  case atStart => exact ⟨V, [], _, rfl, rfl, HV.out, by simp, own_nil _ _, Below.refl _ _, rfl, by have := enc_leN V (by have := HV.out; omega); simpa using this⟩
  case round =>
    obtain ⟨n, ys, bv, rfl, hbv, hn, hyl, hr⟩ := hrel
    obtain rfl := hbv.symm
    have HBS : Hid (B ≤ wr.heap.size) := by have := hr.out.2.1.size; have := HB.out; show _ ≤ _; omega
    by_cases h : 127 < n
    · have h1 : (127 : Int) < (n : Int) := by omega
      have hq : (n : Int).tdiv 128 = ((n / 128 : Nat) : Int) := by rw [Int.tdiv_eq_ediv_of_nonneg (by omega)]; omega
      have hm : (n : Int).tmod 128 = ((n % 128 : Nat) : Int) := by rw [Int.tmod_eq_emod_of_nonneg (by omega)]; omega
      obtain ⟨c, hc⟩ : ∃ c : Nat, c = n % 128 := ⟨_, rfl⟩
      obtain ⟨d, hd⟩ : ∃ d : Nat, d = n / 128 := ⟨_, rfl⟩
      rw [← hc] at hm
      rw [← hd] at hq
      have hc2 : c < 128 := by omega
      have hu : IntKind.u8.wrap ((c : Int) + 128) = (c : Int) + 128 := by simp [IntKind.wrap, IntKind.signed, IntKind.bits]; omega
      have hw : IntKind.u64.wrap ((c : Int) + 128) = (c : Int) + 128 := by simp [IntKind.wrap, IntKind.signed, IntKind.bits]; omega
      have HN : Hid (enc n = ((c : Int) + 128) :: enc d) := by
        show _ = _
        rw [enc_big (by omega), hc, hd]
        simp
      have HD : Hid (d < n ∧ d < 18446744073709551616) := ⟨by omega, by omega⟩
      have hd2 : (d : Int) ≤ 18446744073709551615 := by omega
      clear hc hd h
      go_wp2_with (at_builtin; go_must (refine wpList_append_apart _ rfl (.tmp 6) (.tmp 11) rfl B ys.length bv ys rfl (own_keep hr.out.1 (gb_alloc wr _)) (some ⟨wr.heap.size, 0, none⟩) 1 1 [(c : Int) + 128] rfl (fun z => by cases z) (byte_seg wr _) (by omega) (by have := HBS.out; simp; omega) ?_); intro v2 w2 ho hg _; have H2 : Hid (Own B w2 v2 (ys.length + 1) (ys ++ [(c : Int) + 128]) ∧ Below B w w2) := ⟨ho, (hr.out.2.1.trans ((Below.refl _ _).alloc HBS.out _)).trans ((Below.refl _ _).grown hg (by have := HBS.out; simp; omega) (fun k hk => own_lo hr.out.1 k hk))⟩; clear ho hg)
      go_roundw
      case rel => exact ⟨d, ys ++ [(c : Int) + 128], v2, by go_num, rfl, HD.out.2, by have := hr.out.2.2.2; simp; omega, by simpa using H2.out.1, H2.out.2, by rw [← hr.out.2.2.1, HN.out]; simp, by have := hr.out.2.2.2; rw [HN.out] at this; simp at this ⊢; omega⟩
      case measure => have := HD.out.1; simp [intOf]; omega
    · have h1 : ¬ (127 : Int) < (n : Int) := by omega
      have hu : IntKind.u8.wrap (n : Int) = (n : Int) := by simp [IntKind.wrap, IntKind.signed, IntKind.bits]; omega
      have HN : Hid (enc n = [(n : Int)]) := enc_small (by omega)
      clear h
      go_wp2_with (at_builtin; go_must (refine wpList_append_apart _ rfl (.tmp 15) (.tmp 18) rfl B ys.length bv ys rfl (own_keep hr.out.1 (gb_alloc wr _)) (some ⟨wr.heap.size, 0, none⟩) 1 1 [(n : Int)] rfl (fun z => by cases z) (byte_seg wr _) (by omega) (by have := HBS.out; simp; omega) ?_); intro v2 w2 ho hg _; have H2 : Hid (Own B w2 v2 (ys.length + 1) (ys ++ [(n : Int)]) ∧ Below B w w2) := ⟨ho, (hr.out.2.1.trans ((Below.refl _ _).alloc HBS.out _)).trans ((Below.refl _ _).grown hg (by have := HBS.out; simp; omega) (fun k hk => own_lo hr.out.1 k hk))⟩; clear ho hg)
      go_ret
      have e : enc V = ys ++ [(n : Int)] := by rw [← hr.out.2.2.1, HN.out]
      rw [e]
      exact ⟨v2, rfl, by simpa using H2.out.1, H2.out.2⟩
theorem cells_sb (s : ByteArray) : Go.Lib.strCells s = (sb s).map (Value.int .u8) := by
  unfold Go.Lib.strCells sb
  rw [List.map_map]
  rfl
/-- A list of bytes that a call answered. -/
def Ans (ys : List Int) (w : World) (r : Ending) (w' : World) : Prop := ∃ ao m c, r = .returned (.slice ao m c) ∧ m = ys.length ∧ Own w.heap.size w' (.slice ao m c) m ys ∧ Seg .u8 w' ao m ys ∧ (ao = none → c = 0) ∧ Below w.heap.size w w'
theorem ans_of {ys : List Int} {w w' : World} {v : Value} (h : Own w.heap.size w' v ys.length ys) (hb : Below w.heap.size w w') : Ans ys w (.returned v) w' := by
  obtain ⟨ao, c, rfl, hs, hn, _⟩ := h.seg
  exact ⟨ao, _, c, rfl, rfl, h, hs, hn, hb⟩
theorem gnum_c (q : Int) (h0 : 0 ≤ q) (h1 : q < 9223372036854775808) (w : World) : Calls Try.prog 46 #[.int .i64 q] w fun r w' => Ans (enc q.toNat) w r w' := by
  have := gnumber_c q.toNat (by omega) w
  rw [show ((q.toNat : Nat) : Int) = q from by omega] at this
  refine this.mono ?_
  rintro r w' ⟨v, rfl, h2, h3⟩
  exact ans_of h2 h3
theorem unum_c (q : Int) (h0 : 0 ≤ q) (h1 : q < 18446744073709551616) (w : World) : Calls Try.prog 31 #[.int .u64 q] w fun r w' => Ans (enc q.toNat) w r w' := by
  have := unumber_c q.toNat (by omega) w
  rw [show ((q.toNat : Nat) : Int) = q from by omega] at this
  refine this.mono ?_
  rintro r w' ⟨v, rfl, h2, h3⟩
  exact ans_of h2 h3
theorem gNum_c (q : Int) (h0 : 0 ≤ q) (h1 : q < 9223372036854775808) (w : World) : Calls Try.prog 30 #[.int .i64 q] w fun r w' => Ans (enc q.toNat) w r w' := by
  have H : Hid _ := gnum_c q h0 h1 w
  go_enter Try.func30, Try.ntmps30
  go_wp2_with (go_at_call 46; go_must (refine (Calls.mono H.out ?_)); rintro r w2 ⟨ao, m, c, rfl, q⟩; have H2 : Hid _ := q; clear q)
  go_ret
  exact ⟨ao, m, c, rfl, H2.out⟩
/-- The document's bytes so far: a list of one's own. -/
def GS (B : Nat) (w W : World) (v : Value) (n : Nat) (ys : List Int) : Prop := Own B W v n ys ∧ n = ys.length ∧ Below B w W ∧ B ≤ W.heap.size ∧ B = w.heap.size
theorem GS.later {B w W W' v n ys} (h : GS B w W v n ys) (hb : Below W.heap.size W W') : GS B w W' v n ys := ⟨own_below h.1 hb, h.2.1, h.2.2.1.trans (hb.mono h.2.2.2.1), by have := hb.size; have := h.2.2.2.1; omega, h.2.2.2.2⟩
end Go.Proofs.Ythbnbomdngecmaa.Pk
