/-
  What the document's Encode answers of an update: the same bytes as delta's, the same error. No condition.
-/
import Derived.Test.YtmpedbddbknndaaDEn
import Derived.Test.YtmpedbddbknndaaDCv
import Derived.Lib.AppendStr
namespace Go.Proofs.Ytmpedbddbknndaa.Dl
open Go.RowKit
set_option linter.unusedVariables false

theorem own_keep {B : Nat} {w w' : World} {v : Value} {n : Nat} {xs : List Int} (h : Own B w v n xs) (hg : w.grownBy w' none) : Own B w' v n xs := by
  refine ⟨h.1, ?_⟩
  rcases h.2 with q | ⟨g, cap, cur, q1, q2, q3, q4⟩
  · exact .inl q
  · exact .inr ⟨g, cap, cur, q1, q2, (hg.block g (lt_of_block q3) (by simp)).trans q3, q4⟩
theorem own_below {B : Nat} {w w' : World} {v : Value} {n : Nat} {xs : List Int} (h : Own B w v n xs) (hg : Below w.heap.size w w') : Own B w' v n xs := own_keep h (below_gb hg)
theorem own_lo {B : Nat} {w : World} {v : Value} {n : Nat} {xs : List Int} (h : Own B w v n xs) : ∀ g, v.ownBlock = some g → B ≤ g := by
  intro g hg
  rcases h.2 with ⟨rfl, _⟩ | ⟨g', cap, cur, rfl, hB, _⟩
  · cases hg
  · cases hg; exact hB
theorem byte_seg (w : World) (c : Int) : Seg .u8 (w.alloc (.cells #[.int .u8 c] 5)) (some ⟨w.heap.size, 0, none⟩) 1 [c] := by
  refine ⟨rfl, .inr ⟨w.heap.size, 0, rfl, by simp, fun i hi => ?_⟩⟩
  rw [Nat.zero_add, cell_of_row _ _ i _ _ _ (heap_new w _)]
  obtain rfl : i = 0 := by omega
  rfl
set_option maxRecDepth 20000 in
set_option maxHeartbeats 1000000 in
theorem gnumber_c (V : Nat) (hV : V < 9223372036854775808) (w : World) : Calls Try.prog 30 #[.int .i64 (V : Int)] w fun r w' => ∃ v, r = .returned v ∧ Own w.heap.size w' v (enc V).length (enc V) ∧ Below w.heap.size w w' := by
  obtain ⟨B, hB⟩ : ∃ B, B = w.heap.size := ⟨_, rfl⟩
  have HB : Hid (B = w.heap.size) := hB
  have HV : Hid (V < 9223372036854775808) := hV
  go_enter Try.func30, Try.ntmps30
  rw [← hB]
  clear hB hV
  go_wp2
  go_loopw [0, 3] (fun v b wr => ∃ (n : Nat) (ys : List Int) (bv : Value), v = .int .i64 (n : Int) ∧ b = bv ∧ n < 9223372036854775808 ∧ ys.length ≤ 100 ∧ Hid (Own B wr bv ys.length ys ∧ Below B w wr ∧ ys ++ enc n = enc V ∧ (enc n).length + ys.length ≤ 10)) (fun v _ _ => (intOf v).toNat)
  case atStart => exact ⟨V, [], _, rfl, rfl, HV.out, by simp, own_nil _ _, Below.refl _ _, rfl, by have := enc_leN V (by have := HV.out; omega); simpa using this⟩
  case round =>
    obtain ⟨n, ys, bv, rfl, hbv, hn, hyl, hr⟩ := hrel
    obtain rfl := hbv.symm
    have HBS : Hid (B ≤ wr.heap.size) := by have := hr.out.2.1.size; have := HB.out; show _ ≤ _; omega
    by_cases h : 127 < n
    · have h1 : (127 : Int) < (n : Int) := by omega
      have hq : (n : Int).tdiv 128 = ((n / 128 : Nat) : Int) := by rw [Int.tdiv_eq_ediv_of_nonneg (by omega)]; omega
      have hm : (n : Int).tmod 128 = ((n % 128 : Nat) : Int) := by rw [Int.tmod_eq_emod_of_nonneg (by omega)]; omega
      obtain ⟨c, hc⟩ : ∃ c : Nat, c = n % 128 := ⟨_, rfl⟩
      obtain ⟨d, hd⟩ : ∃ d : Nat, d = n / 128 := ⟨_, rfl⟩
      rw [← hc] at hm
      rw [← hd] at hq
      have hc2 : c < 128 := by omega
      have hu : IntKind.u8.wrap ((c : Int) + 128) = (c : Int) + 128 := by simp [IntKind.wrap, IntKind.signed, IntKind.bits]; omega
      have HN : Hid (enc n = ((c : Int) + 128) :: enc d) := by
        show _ = _
        rw [enc_big (by omega), hc, hd]
        simp
      have HD : Hid (d < n ∧ d < 9223372036854775808) := ⟨by omega, by omega⟩
      have hd2 : (d : Int) ≤ 9223372036854775807 := by omega
      clear hc hd h
      go_wp2_with (at_builtin; go_must (refine wpList_append_apart _ rfl (.tmp 6) (.tmp 11) rfl B ys.length bv ys rfl (own_keep hr.out.1 (gb_alloc wr _)) (some ⟨wr.heap.size, 0, none⟩) 1 1 [(c : Int) + 128] rfl (fun z => by cases z) (byte_seg wr _) (by omega) (by have := HBS.out; simp; omega) ?_); intro v2 w2 ho hg _; have H2 : Hid (Own B w2 v2 (ys.length + 1) (ys ++ [(c : Int) + 128]) ∧ Below B w w2) := ⟨ho, (hr.out.2.1.trans ((Below.refl _ _).alloc HBS.out _)).trans ((Below.refl _ _).grown hg (by have := HBS.out; simp; omega) (fun k hk => own_lo hr.out.1 k hk))⟩; clear ho hg)
      go_roundw
      case rel => exact ⟨d, ys ++ [(c : Int) + 128], v2, by go_num, rfl, HD.out.2, by have := hr.out.2.2.2; simp; omega, by simpa using H2.out.1, H2.out.2, by rw [← hr.out.2.2.1, HN.out]; simp, by have := hr.out.2.2.2; rw [HN.out] at this; simp at this ⊢; omega⟩
      case measure => have := HD.out.1; simp [intOf]; omega
    · have h1 : ¬ (127 : Int) < (n : Int) := by omega
      have hu : IntKind.u8.wrap (n : Int) = (n : Int) := by simp [IntKind.wrap, IntKind.signed, IntKind.bits]; omega
      have HN : Hid (enc n = [(n : Int)]) := enc_small (by omega)
      clear h
      go_wp2_with (at_builtin; go_must (refine wpList_append_apart _ rfl (.tmp 15) (.tmp 18) rfl B ys.length bv ys rfl (own_keep hr.out.1 (gb_alloc wr _)) (some ⟨wr.heap.size, 0, none⟩) 1 1 [(n : Int)] rfl (fun z => by cases z) (byte_seg wr _) (by omega) (by have := HBS.out; simp; omega) ?_); intro v2 w2 ho hg _; have H2 : Hid (Own B w2 v2 (ys.length + 1) (ys ++ [(n : Int)]) ∧ Below B w w2) := ⟨ho, (hr.out.2.1.trans ((Below.refl _ _).alloc HBS.out _)).trans ((Below.refl _ _).grown hg (by have := HBS.out; simp; omega) (fun k hk => own_lo hr.out.1 k hk))⟩; clear ho hg)
      go_ret
      have e : enc V = ys ++ [(n : Int)] := by rw [← hr.out.2.2.1, HN.out]
      rw [e]
      exact ⟨v2, rfl, by simpa using H2.out.1, H2.out.2⟩
theorem cells_sb (s : ByteArray) : Go.Lib.strCells s = (sb s).map (Value.int .u8) := by
  unfold Go.Lib.strCells sb
  rw [List.map_map]
  rfl
/-- A list of bytes that a call answered. -/
def Ans (ys : List Int) (w : World) (r : Ending) (w' : World) : Prop := ∃ ao m c, r = .returned (.slice ao m c) ∧ m = ys.length ∧ Own w.heap.size w' (.slice ao m c) m ys ∧ Seg .u8 w' ao m ys ∧ (ao = none → c = 0) ∧ Below w.heap.size w w'
theorem ans_of {ys : List Int} {w w' : World} {v : Value} (h : Own w.heap.size w' v ys.length ys) (hb : Below w.heap.size w w') : Ans ys w (.returned v) w' := by
  obtain ⟨ao, c, rfl, hs, hn, _⟩ := h.seg
  exact ⟨ao, _, c, rfl, rfl, h, hs, hn, hb⟩
theorem gnum_c (q : Int) (h0 : 0 ≤ q) (h1 : q < 9223372036854775808) (w : World) : Calls Try.prog 30 #[.int .i64 q] w fun r w' => Ans (enc q.toNat) w r w' := by
  have := gnumber_c q.toNat (by omega) w
  rw [show ((q.toNat : Nat) : Int) = q from by omega] at this
  refine this.mono ?_
  rintro r w' ⟨v, rfl, h2, h3⟩
  exact ans_of h2 h3
set_option maxRecDepth 20000 in
theorem gtext_c (s : ByteArray) (hs : s.size ≤ 1125899906842) (w : World) : Calls Try.prog 31 #[.string s] w fun r w' => Ans (enc s.size ++ sb s) w r w' := by
  obtain ⟨i0, hi, hz0, hz1, hz2⟩ := info_parts Try.infoU8
  have HI : Hid (Try.prog.info? 5 = some i0 ∧ i0.zero = some (.int .u8 0) ∧ i0.size = 1 ∧ i0.bytes = 1) := ⟨hi, hz0, hz1, hz2⟩
  have HN : Hid (∀ W, Calls Try.prog 30 #[.int .i64 (s.size : Int)] W fun r w' => Ans (enc s.size) W r w') := fun W => by
    have := gnum_c (s.size : Int) (by omega) (by omega) W
    simpa using this
  have HL : Hid ((enc s.size).length ≤ 10 ∧ s.size ≤ 1125899906842) := ⟨enc_leN _ (by omega), hs⟩
  clear hi hz0 hz1 hz2 hs
  go_enter Try.func31, Try.ntmps31
  go_wp2_with (first
    | (go_at_call 30; go_must (refine (Calls.mono (HN.out _) ?_)); rintro r w2 ⟨ao, m, c, rfl, hm, ho, hsg, hn, hb⟩; have H2 : Hid (m = (enc s.size).length ∧ Own w.heap.size w2 (.slice ao m c) m (enc s.size) ∧ Below w.heap.size w w2) := ⟨hm, ho, hb⟩; clear hm ho hsg hn hb)
    | (at_builtin; go_must (refine Go.Lib.wpList_append_own_string _ rfl (.tmp 5) (.tmp 6) 27 9 rfl w.heap.size 5 i0 Try.underlying27 Try.underlying9 HI.out.1 HI.out.2.1 HI.out.2.2.1 HI.out.2.2.2 _ m _ rfl H2.out.2.1 s rfl (by have := HL.out; have := H2.out.1; unfold maxLen; omega) (by have := HL.out; have := H2.out.1; omega) H2.out.2.2.size ?_); intro v3 w3 h1 h2 _; have H3 : Hid (Ans (enc s.size ++ sb s) w (.returned v3) w3) := ans_of (by rw [List.length_append, sb_length, ← H2.out.1]; show World.ownsRow _ _ _ _ _ _ _; rw [List.map_append, ← cells_sb]; exact h1) (H2.out.2.2.trans ((Below.refl _ _).grown h2 H2.out.2.2.size (fun k hk => own_lo H2.out.2.1 k hk))); clear h1 h2))
  go_ret
  exact H3.out
/-- The document's bytes so far: a list of one's own. -/
def GS (B : Nat) (w W : World) (v : Value) (n : Nat) (ys : List Int) : Prop := Own B W v n ys ∧ n = ys.length ∧ Below B w W ∧ B ≤ W.heap.size ∧ B = w.heap.size
theorem GS.later {B w W W' v n ys} (h : GS B w W v n ys) (hb : Below W.heap.size W W') : GS B w W' v n ys := ⟨own_below h.1 hb, h.2.1, h.2.2.1.trans (hb.mono h.2.2.2.1), by have := hb.size; have := h.2.2.2.1; omega, h.2.2.2.2⟩
theorem gs_cell {B : Nat} {w W : World} {v : Value} {n : Nat} {ys : List Int} {T : TypeId} {P : Nat} {cs : Array Value} (h : GS B w W v n ys) (hb : Bk T w P cs) (i : Nat) : W.cell? ⟨P, i, none⟩ = cs[i]? := (hb.below h.2.2.1 (by have := lt_of_block hb; have := h.2.2.2.2; omega)).cell i
set_option maxRecDepth 20000 in
set_option maxHeartbeats 4000000 in
theorem gencode_c (q c n k : Int) (key val : ByteArray) (ver : Int) (w : World) : EA 10 q c n k key val ver w := by
  unfold EA
  have HC : Hid (∀ W, Calls Try.prog 29 #[.agg #[.int .i64 q, .int .i64 c, .int .i64 n, .int .i64 k, .string key, .string val, .int .i64 ver]] W fun r w' => r = .returned (.int .i64 (updE q c n k key val ver)) ∧ W.grownBy w' none) := gchecku_c q c n k key val ver
  have H0 : Hid (Bk 36 (w.alloc (.cells #[.int .i64 q, .int .i64 c, .int .i64 n, .int .i64 k, .string key, .string val, .int .i64 ver] 36)) w.heap.size #[.int .i64 q, .int .i64 c, .int .i64 n, .int .i64 k, .string key, .string val, .int .i64 ver] ∧ w.grownBy (w.alloc (.cells #[.int .i64 q, .int .i64 c, .int .i64 n, .int .i64 k, .string key, .string val, .int .i64 ver] 36)) none) := blk_new w _ _
  by_cases hE : updE q c n k key val ver = 0
  · have hb := upd_bd hE
    have hz : updZ q c n k key val ver = updB q c n k key val ver := if_pos hE
    have hlen := updB_len hE
    rw [hE] at HC
    rw [hz, hE]
    obtain ⟨Z, hZ⟩ : ∃ Z, Z = updB q c n k key val ver := ⟨_, rfl⟩
    rw [← hZ] at hlen ⊢
    have HZ : Hid (Z = updB q c n k key val ver ∧ Z.length ≤ 66640) := ⟨hZ, hlen⟩
    have HBD : Hid _ := hb
    have HL : Hid ((enc q.toNat).length ≤ 10 ∧ (enc c.toNat).length ≤ 10 ∧ (enc n.toNat).length ≤ 10 ∧ (enc k.toNat).length ≤ 10 ∧ (enc val.size).length ≤ 10 ∧ (enc key.size).length ≤ 10 ∧ (enc ver.toNat).length ≤ 10 ∧ key.size ≤ 1024 ∧ val.size ≤ 65536 ∧ (sb key).length = key.size ∧ (sb val).length = val.size) := ⟨enc_leN _ (by omega), enc_leN _ (by omega), enc_leN _ (by omega), enc_leN _ (by omega), enc_leN _ (by omega), enc_leN _ (by omega), enc_leN _ (by omega), hb.2.2.2.2.1.2, hb.2.2.2.2.2.1, sb_length _, sb_length _⟩
    have hk := hb.2.2.2.1
    clear hE hb hz hlen hZ
    rcases (show k = 1 ∨ k = 2 ∨ k = 3 by omega) with rfl | rfl | rfl
    · clear hk
      have HYY : Hid ([] ++ enc q.toNat ++ enc c.toNat ++ enc n.toNat ++ enc ((1 : Int)).toNat ++ (enc key.size ++ sb key) ++ (enc val.size ++ sb val) = updB q c n 1 key val ver) := by show _ = _; unfold updB updA; simp
      go_enter Try.func10, Try.ntmps10
      go_wp2_with (first
        | (refine wpList_load_bk 36 rfl (.tmp 1) rfl Try.underlying36 rfl infoGupd w.heap.size _ rfl H0.out.1 rfl ?_)
        | (go_at_call 29; go_must (refine (Calls.mono (HC.out _) ?_)); rintro r w2 ⟨rfl, h2⟩; have H2 : Hid (Bk 36 w2 w.heap.size #[.int .i64 q, .int .i64 c, .int .i64 n, .int .i64 1, .string key, .string val, .int .i64 ver] ∧ w.grownBy w2 none ∧ w.heap.size < w2.heap.size) := ⟨H0.out.1.grew h2 (by simp), gb_trans H0.out.2 h2, lt_of_block (H0.out.1.grew h2 (by simp))⟩; have A0 : Hid (GS w2.heap.size w2 w2 (.slice none 0 0) 0 []) := ⟨own_nil _ _, rfl, Below.refl _ _, Nat.le_refl _, rfl⟩; have dA0 : w2.cell? ⟨w.heap.size, 0, none⟩ = some (.int .i64 q) := gs_cell A0.out H2.out.1 0; clear h2 H0 HC)
        | ((fail_if_success (have z := N0)); have z := A0; clear z; go_at_call 30; go_must (refine (Calls.mono (gnum_c q (by have := HBD.out; omega) (by have := HBD.out; omega) _) ?_)); rintro r x0 ⟨ao0, m0, c0, rfl, hm, ho, hsg, hn, hb⟩; have N0 : Hid (GS w2.heap.size w2 x0 (.slice none 0 0) (0) ([]) ∧ Seg .u8 x0 ao0 m0 (enc q.toNat) ∧ (ao0 = none → c0 = 0) ∧ m0 = (enc q.toNat).length) := ⟨A0.out.later hb, hsg, hn, hm⟩; clear hm ho hsg hn hb)
        | (have z := N0; clear z; (fail_if_success (have z := A1)); at_builtin; go_must (refine wpList_append_apart _ rfl (.tmp 11) (.tmp 14) rfl w2.heap.size _ _ _ rfl N0.out.1.1 ao0 m0 c0 (enc q.toNat) rfl N0.out.2.2.1 N0.out.2.1 (by have h1 := N0.out.1.2.1; have h2 := N0.out.2.2.2; have := HL.out; simp only [List.length_nil] at h1 h2; omega) N0.out.1.2.2.2.1 ?_); intro v0 y0 ho hg _; have A1 : Hid (GS w2.heap.size w2 y0 v0 (0 + m0) ([] ++ enc q.toNat)) := ⟨ho, by rw [List.length_append, ← N0.out.1.2.1, ← N0.out.2.2.2], N0.out.1.2.2.1.trans ((Below.refl _ _).grown hg N0.out.1.2.2.2.1 (fun k hk => own_lo N0.out.1.1 k hk)), by have := hg.size; have := N0.out.1.2.2.2.1; omega, rfl⟩; have dA1_1 : y0.cell? ⟨w.heap.size, 1, none⟩ = some (.int .i64 c) := gs_cell A1.out H2.out.1 1; clear ho hg)
        | ((fail_if_success (have z := N1)); have z := A1; clear z; go_at_call 30; go_must (refine (Calls.mono (gnum_c c (by have := HBD.out; omega) (by have := HBD.out; omega) _) ?_)); rintro r x1 ⟨ao1, m1, c1, rfl, hm, ho, hsg, hn, hb⟩; have N1 : Hid (GS w2.heap.size w2 x1 (v0) (0 + m0) ([] ++ enc q.toNat) ∧ Seg .u8 x1 ao1 m1 (enc c.toNat) ∧ (ao1 = none → c1 = 0) ∧ m1 = (enc c.toNat).length) := ⟨A1.out.later hb, hsg, hn, hm⟩; clear hm ho hsg hn hb)
        | (have z := N1; clear z; (fail_if_success (have z := A2)); at_builtin; go_must (refine wpList_append_apart _ rfl (.tmp 16) (.tmp 19) rfl w2.heap.size _ _ _ rfl N1.out.1.1 ao1 m1 c1 (enc c.toNat) rfl N1.out.2.2.1 N1.out.2.1 (by have h1 := N1.out.1.2.1; have h2 := N1.out.2.2.2; have := HL.out; simp only [List.length_append, List.length_nil] at h1 h2; omega) N1.out.1.2.2.2.1 ?_); intro v1 y1 ho hg _; have A2 : Hid (GS w2.heap.size w2 y1 v1 (0 + m0 + m1) ([] ++ enc q.toNat ++ enc c.toNat)) := ⟨ho, by rw [List.length_append, ← N1.out.1.2.1, ← N1.out.2.2.2], N1.out.1.2.2.1.trans ((Below.refl _ _).grown hg N1.out.1.2.2.2.1 (fun k hk => own_lo N1.out.1.1 k hk)), by have := hg.size; have := N1.out.1.2.2.2.1; omega, rfl⟩; have dA2_2 : y1.cell? ⟨w.heap.size, 2, none⟩ = some (.int .i64 n) := gs_cell A2.out H2.out.1 2; clear ho hg)
        | ((fail_if_success (have z := N2)); have z := A2; clear z; go_at_call 30; go_must (refine (Calls.mono (gnum_c n (by have := HBD.out; omega) (by have := HBD.out; omega) _) ?_)); rintro r x2 ⟨ao2, m2, c2, rfl, hm, ho, hsg, hn, hb⟩; have N2 : Hid (GS w2.heap.size w2 x2 (v1) (0 + m0 + m1) ([] ++ enc q.toNat ++ enc c.toNat) ∧ Seg .u8 x2 ao2 m2 (enc n.toNat) ∧ (ao2 = none → c2 = 0) ∧ m2 = (enc n.toNat).length) := ⟨A2.out.later hb, hsg, hn, hm⟩; clear hm ho hsg hn hb)
        | (have z := N2; clear z; (fail_if_success (have z := A3)); at_builtin; go_must (refine wpList_append_apart _ rfl (.tmp 21) (.tmp 24) rfl w2.heap.size _ _ _ rfl N2.out.1.1 ao2 m2 c2 (enc n.toNat) rfl N2.out.2.2.1 N2.out.2.1 (by have h1 := N2.out.1.2.1; have h2 := N2.out.2.2.2; have := HL.out; simp only [List.length_append, List.length_nil] at h1 h2; omega) N2.out.1.2.2.2.1 ?_); intro v2 y2 ho hg _; have A3 : Hid (GS w2.heap.size w2 y2 v2 (0 + m0 + m1 + m2) ([] ++ enc q.toNat ++ enc c.toNat ++ enc n.toNat)) := ⟨ho, by rw [List.length_append, ← N2.out.1.2.1, ← N2.out.2.2.2], N2.out.1.2.2.1.trans ((Below.refl _ _).grown hg N2.out.1.2.2.2.1 (fun k hk => own_lo N2.out.1.1 k hk)), by have := hg.size; have := N2.out.1.2.2.2.1; omega, rfl⟩; have dA3_3 : y2.cell? ⟨w.heap.size, 3, none⟩ = some (.int .i64 1) := gs_cell A3.out H2.out.1 3; clear ho hg)
        | ((fail_if_success (have z := N3)); have z := A3; clear z; go_at_call 30; go_must (refine (Calls.mono (gnum_c 1 (by have := HBD.out; omega) (by have := HBD.out; omega) _) ?_)); rintro r x3 ⟨ao3, m3, c3, rfl, hm, ho, hsg, hn, hb⟩; have N3 : Hid (GS w2.heap.size w2 x3 (v2) (0 + m0 + m1 + m2) ([] ++ enc q.toNat ++ enc c.toNat ++ enc n.toNat) ∧ Seg .u8 x3 ao3 m3 (enc ((1 : Int)).toNat) ∧ (ao3 = none → c3 = 0) ∧ m3 = (enc ((1 : Int)).toNat).length) := ⟨A3.out.later hb, hsg, hn, hm⟩; clear hm ho hsg hn hb)
        | (have z := N3; clear z; (fail_if_success (have z := A4)); at_builtin; go_must (refine wpList_append_apart _ rfl (.tmp 26) (.tmp 30) rfl w2.heap.size _ _ _ rfl N3.out.1.1 ao3 m3 c3 (enc ((1 : Int)).toNat) rfl N3.out.2.2.1 N3.out.2.1 (by have h1 := N3.out.1.2.1; have h2 := N3.out.2.2.2; have := HL.out; simp only [List.length_append, List.length_nil] at h1 h2; omega) N3.out.1.2.2.2.1 ?_); intro v3 y3 ho hg _; have A4 : Hid (GS w2.heap.size w2 y3 v3 (0 + m0 + m1 + m2 + m3) ([] ++ enc q.toNat ++ enc c.toNat ++ enc n.toNat ++ enc ((1 : Int)).toNat)) := ⟨ho, by rw [List.length_append, ← N3.out.1.2.1, ← N3.out.2.2.2], N3.out.1.2.2.1.trans ((Below.refl _ _).grown hg N3.out.1.2.2.2.1 (fun k hk => own_lo N3.out.1.1 k hk)), by have := hg.size; have := N3.out.1.2.2.2.1; omega, rfl⟩; have dA4_4 : y3.cell? ⟨w.heap.size, 4, none⟩ = some (.string key) := gs_cell A4.out H2.out.1 4; clear ho hg)
        | ((fail_if_success (have z := N4)); have z := A4; clear z; go_at_call 31; go_must (refine (Calls.mono (gtext_c key (by have := HL.out; omega) _) ?_)); rintro r x4 ⟨ao4, m4, c4, rfl, hm, ho, hsg, hn, hb⟩; have N4 : Hid (GS w2.heap.size w2 x4 (v3) (0 + m0 + m1 + m2 + m3) ([] ++ enc q.toNat ++ enc c.toNat ++ enc n.toNat ++ enc ((1 : Int)).toNat) ∧ Seg .u8 x4 ao4 m4 ((enc key.size ++ sb key)) ∧ (ao4 = none → c4 = 0) ∧ m4 = ((enc key.size ++ sb key)).length) := ⟨A4.out.later hb, hsg, hn, hm⟩; clear hm ho hsg hn hb)
        | (have z := N4; clear z; (fail_if_success (have z := A5)); at_builtin; go_must (refine wpList_append_apart _ rfl (.tmp 32) (.tmp 36) rfl w2.heap.size _ _ _ rfl N4.out.1.1 ao4 m4 c4 ((enc key.size ++ sb key)) rfl N4.out.2.2.1 N4.out.2.1 (by have h1 := N4.out.1.2.1; have h2 := N4.out.2.2.2; have := HL.out; simp only [List.length_append, List.length_nil] at h1 h2; omega) N4.out.1.2.2.2.1 ?_); intro v4 y4 ho hg _; have A5 : Hid (GS w2.heap.size w2 y4 v4 (0 + m0 + m1 + m2 + m3 + m4) ([] ++ enc q.toNat ++ enc c.toNat ++ enc n.toNat ++ enc ((1 : Int)).toNat ++ (enc key.size ++ sb key))) := ⟨ho, by rw [List.length_append, ← N4.out.1.2.1, ← N4.out.2.2.2], N4.out.1.2.2.1.trans ((Below.refl _ _).grown hg N4.out.1.2.2.2.1 (fun k hk => own_lo N4.out.1.1 k hk)), by have := hg.size; have := N4.out.1.2.2.2.1; omega, rfl⟩; have dA5_3 : y4.cell? ⟨w.heap.size, 3, none⟩ = some (.int .i64 1) := gs_cell A5.out H2.out.1 3; have dA5_5 : y4.cell? ⟨w.heap.size, 5, none⟩ = some (.string val) := gs_cell A5.out H2.out.1 5; clear ho hg)
        | ((fail_if_success (have z := N5)); have z := A5; clear z; go_at_call 31; go_must (refine (Calls.mono (gtext_c val (by have := HL.out; omega) _) ?_)); rintro r x5 ⟨ao5, m5, c5, rfl, hm, ho, hsg, hn, hb⟩; have N5 : Hid (GS w2.heap.size w2 x5 (v4) (0 + m0 + m1 + m2 + m3 + m4) ([] ++ enc q.toNat ++ enc c.toNat ++ enc n.toNat ++ enc ((1 : Int)).toNat ++ (enc key.size ++ sb key)) ∧ Seg .u8 x5 ao5 m5 ((enc val.size ++ sb val)) ∧ (ao5 = none → c5 = 0) ∧ m5 = ((enc val.size ++ sb val)).length) := ⟨A5.out.later hb, hsg, hn, hm⟩; clear hm ho hsg hn hb)
        | (have z := N5; clear z; (fail_if_success (have z := A6)); at_builtin; go_must (refine wpList_append_apart _ rfl (.tmp 42) (.tmp 46) rfl w2.heap.size _ _ _ rfl N5.out.1.1 ao5 m5 c5 ((enc val.size ++ sb val)) rfl N5.out.2.2.1 N5.out.2.1 (by have h1 := N5.out.1.2.1; have h2 := N5.out.2.2.2; have := HL.out; simp only [List.length_append, List.length_nil] at h1 h2; omega) N5.out.1.2.2.2.1 ?_); intro v5 y5 ho hg _; have A6 : Hid (GS w2.heap.size w2 y5 v5 (0 + m0 + m1 + m2 + m3 + m4 + m5) ([] ++ enc q.toNat ++ enc c.toNat ++ enc n.toNat ++ enc ((1 : Int)).toNat ++ (enc key.size ++ sb key) ++ (enc val.size ++ sb val))) := ⟨ho, by rw [List.length_append, ← N5.out.1.2.1, ← N5.out.2.2.2], N5.out.1.2.2.1.trans ((Below.refl _ _).grown hg N5.out.1.2.2.2.1 (fun k hk => own_lo N5.out.1.1 k hk)), by have := hg.size; have := N5.out.1.2.2.2.1; omega, rfl⟩; have dA6_3 : y5.cell? ⟨w.heap.size, 3, none⟩ = some (.int .i64 1) := gs_cell A6.out H2.out.1 3; clear ho hg))
      go_ret2
      have hG := A6.out
      rw [HYY.out, ← HZ.out.1] at hG
      obtain ⟨g1, g2, g3, g4, _⟩ := hG
      rw [g2] at g1
      obtain ⟨va, vc, hv, hs, hn, _⟩ := g1.seg
      subst hv
      exact ⟨va, vc, rfl, own_low g1 (by have := H2.out.2.2; omega), (gb_below H2.out.2.1).trans (g3.mono H2.out.2.1.size)⟩
    · clear hk
      have HYY : Hid ([] ++ enc q.toNat ++ enc c.toNat ++ enc n.toNat ++ enc ((2 : Int)).toNat ++ (enc key.size ++ sb key) = updB q c n 2 key val ver) := by show _ = _; unfold updB updA; simp
      go_enter Try.func10, Try.ntmps10
      go_wp2_with (first
        | (refine wpList_load_bk 36 rfl (.tmp 1) rfl Try.underlying36 rfl infoGupd w.heap.size _ rfl H0.out.1 rfl ?_)
        | (go_at_call 29; go_must (refine (Calls.mono (HC.out _) ?_)); rintro r w2 ⟨rfl, h2⟩; have H2 : Hid (Bk 36 w2 w.heap.size #[.int .i64 q, .int .i64 c, .int .i64 n, .int .i64 2, .string key, .string val, .int .i64 ver] ∧ w.grownBy w2 none ∧ w.heap.size < w2.heap.size) := ⟨H0.out.1.grew h2 (by simp), gb_trans H0.out.2 h2, lt_of_block (H0.out.1.grew h2 (by simp))⟩; have A0 : Hid (GS w2.heap.size w2 w2 (.slice none 0 0) 0 []) := ⟨own_nil _ _, rfl, Below.refl _ _, Nat.le_refl _, rfl⟩; have dA0 : w2.cell? ⟨w.heap.size, 0, none⟩ = some (.int .i64 q) := gs_cell A0.out H2.out.1 0; clear h2 H0 HC)
        | ((fail_if_success (have z := N0)); have z := A0; clear z; go_at_call 30; go_must (refine (Calls.mono (gnum_c q (by have := HBD.out; omega) (by have := HBD.out; omega) _) ?_)); rintro r x0 ⟨ao0, m0, c0, rfl, hm, ho, hsg, hn, hb⟩; have N0 : Hid (GS w2.heap.size w2 x0 (.slice none 0 0) (0) ([]) ∧ Seg .u8 x0 ao0 m0 (enc q.toNat) ∧ (ao0 = none → c0 = 0) ∧ m0 = (enc q.toNat).length) := ⟨A0.out.later hb, hsg, hn, hm⟩; clear hm ho hsg hn hb)
        | (have z := N0; clear z; (fail_if_success (have z := A1)); at_builtin; go_must (refine wpList_append_apart _ rfl (.tmp 11) (.tmp 14) rfl w2.heap.size _ _ _ rfl N0.out.1.1 ao0 m0 c0 (enc q.toNat) rfl N0.out.2.2.1 N0.out.2.1 (by have h1 := N0.out.1.2.1; have h2 := N0.out.2.2.2; have := HL.out; simp only [List.length_nil] at h1 h2; omega) N0.out.1.2.2.2.1 ?_); intro v0 y0 ho hg _; have A1 : Hid (GS w2.heap.size w2 y0 v0 (0 + m0) ([] ++ enc q.toNat)) := ⟨ho, by rw [List.length_append, ← N0.out.1.2.1, ← N0.out.2.2.2], N0.out.1.2.2.1.trans ((Below.refl _ _).grown hg N0.out.1.2.2.2.1 (fun k hk => own_lo N0.out.1.1 k hk)), by have := hg.size; have := N0.out.1.2.2.2.1; omega, rfl⟩; have dA1_1 : y0.cell? ⟨w.heap.size, 1, none⟩ = some (.int .i64 c) := gs_cell A1.out H2.out.1 1; clear ho hg)
        | ((fail_if_success (have z := N1)); have z := A1; clear z; go_at_call 30; go_must (refine (Calls.mono (gnum_c c (by have := HBD.out; omega) (by have := HBD.out; omega) _) ?_)); rintro r x1 ⟨ao1, m1, c1, rfl, hm, ho, hsg, hn, hb⟩; have N1 : Hid (GS w2.heap.size w2 x1 (v0) (0 + m0) ([] ++ enc q.toNat) ∧ Seg .u8 x1 ao1 m1 (enc c.toNat) ∧ (ao1 = none → c1 = 0) ∧ m1 = (enc c.toNat).length) := ⟨A1.out.later hb, hsg, hn, hm⟩; clear hm ho hsg hn hb)
        | (have z := N1; clear z; (fail_if_success (have z := A2)); at_builtin; go_must (refine wpList_append_apart _ rfl (.tmp 16) (.tmp 19) rfl w2.heap.size _ _ _ rfl N1.out.1.1 ao1 m1 c1 (enc c.toNat) rfl N1.out.2.2.1 N1.out.2.1 (by have h1 := N1.out.1.2.1; have h2 := N1.out.2.2.2; have := HL.out; simp only [List.length_append, List.length_nil] at h1 h2; omega) N1.out.1.2.2.2.1 ?_); intro v1 y1 ho hg _; have A2 : Hid (GS w2.heap.size w2 y1 v1 (0 + m0 + m1) ([] ++ enc q.toNat ++ enc c.toNat)) := ⟨ho, by rw [List.length_append, ← N1.out.1.2.1, ← N1.out.2.2.2], N1.out.1.2.2.1.trans ((Below.refl _ _).grown hg N1.out.1.2.2.2.1 (fun k hk => own_lo N1.out.1.1 k hk)), by have := hg.size; have := N1.out.1.2.2.2.1; omega, rfl⟩; have dA2_2 : y1.cell? ⟨w.heap.size, 2, none⟩ = some (.int .i64 n) := gs_cell A2.out H2.out.1 2; clear ho hg)
        | ((fail_if_success (have z := N2)); have z := A2; clear z; go_at_call 30; go_must (refine (Calls.mono (gnum_c n (by have := HBD.out; omega) (by have := HBD.out; omega) _) ?_)); rintro r x2 ⟨ao2, m2, c2, rfl, hm, ho, hsg, hn, hb⟩; have N2 : Hid (GS w2.heap.size w2 x2 (v1) (0 + m0 + m1) ([] ++ enc q.toNat ++ enc c.toNat) ∧ Seg .u8 x2 ao2 m2 (enc n.toNat) ∧ (ao2 = none → c2 = 0) ∧ m2 = (enc n.toNat).length) := ⟨A2.out.later hb, hsg, hn, hm⟩; clear hm ho hsg hn hb)
        | (have z := N2; clear z; (fail_if_success (have z := A3)); at_builtin; go_must (refine wpList_append_apart _ rfl (.tmp 21) (.tmp 24) rfl w2.heap.size _ _ _ rfl N2.out.1.1 ao2 m2 c2 (enc n.toNat) rfl N2.out.2.2.1 N2.out.2.1 (by have h1 := N2.out.1.2.1; have h2 := N2.out.2.2.2; have := HL.out; simp only [List.length_append, List.length_nil] at h1 h2; omega) N2.out.1.2.2.2.1 ?_); intro v2 y2 ho hg _; have A3 : Hid (GS w2.heap.size w2 y2 v2 (0 + m0 + m1 + m2) ([] ++ enc q.toNat ++ enc c.toNat ++ enc n.toNat)) := ⟨ho, by rw [List.length_append, ← N2.out.1.2.1, ← N2.out.2.2.2], N2.out.1.2.2.1.trans ((Below.refl _ _).grown hg N2.out.1.2.2.2.1 (fun k hk => own_lo N2.out.1.1 k hk)), by have := hg.size; have := N2.out.1.2.2.2.1; omega, rfl⟩; have dA3_3 : y2.cell? ⟨w.heap.size, 3, none⟩ = some (.int .i64 2) := gs_cell A3.out H2.out.1 3; clear ho hg)
        | ((fail_if_success (have z := N3)); have z := A3; clear z; go_at_call 30; go_must (refine (Calls.mono (gnum_c 2 (by have := HBD.out; omega) (by have := HBD.out; omega) _) ?_)); rintro r x3 ⟨ao3, m3, c3, rfl, hm, ho, hsg, hn, hb⟩; have N3 : Hid (GS w2.heap.size w2 x3 (v2) (0 + m0 + m1 + m2) ([] ++ enc q.toNat ++ enc c.toNat ++ enc n.toNat) ∧ Seg .u8 x3 ao3 m3 (enc ((2 : Int)).toNat) ∧ (ao3 = none → c3 = 0) ∧ m3 = (enc ((2 : Int)).toNat).length) := ⟨A3.out.later hb, hsg, hn, hm⟩; clear hm ho hsg hn hb)
        | (have z := N3; clear z; (fail_if_success (have z := A4)); at_builtin; go_must (refine wpList_append_apart _ rfl (.tmp 26) (.tmp 30) rfl w2.heap.size _ _ _ rfl N3.out.1.1 ao3 m3 c3 (enc ((2 : Int)).toNat) rfl N3.out.2.2.1 N3.out.2.1 (by have h1 := N3.out.1.2.1; have h2 := N3.out.2.2.2; have := HL.out; simp only [List.length_append, List.length_nil] at h1 h2; omega) N3.out.1.2.2.2.1 ?_); intro v3 y3 ho hg _; have A4 : Hid (GS w2.heap.size w2 y3 v3 (0 + m0 + m1 + m2 + m3) ([] ++ enc q.toNat ++ enc c.toNat ++ enc n.toNat ++ enc ((2 : Int)).toNat)) := ⟨ho, by rw [List.length_append, ← N3.out.1.2.1, ← N3.out.2.2.2], N3.out.1.2.2.1.trans ((Below.refl _ _).grown hg N3.out.1.2.2.2.1 (fun k hk => own_lo N3.out.1.1 k hk)), by have := hg.size; have := N3.out.1.2.2.2.1; omega, rfl⟩; have dA4_4 : y3.cell? ⟨w.heap.size, 4, none⟩ = some (.string key) := gs_cell A4.out H2.out.1 4; clear ho hg)
        | ((fail_if_success (have z := N4)); have z := A4; clear z; go_at_call 31; go_must (refine (Calls.mono (gtext_c key (by have := HL.out; omega) _) ?_)); rintro r x4 ⟨ao4, m4, c4, rfl, hm, ho, hsg, hn, hb⟩; have N4 : Hid (GS w2.heap.size w2 x4 (v3) (0 + m0 + m1 + m2 + m3) ([] ++ enc q.toNat ++ enc c.toNat ++ enc n.toNat ++ enc ((2 : Int)).toNat) ∧ Seg .u8 x4 ao4 m4 ((enc key.size ++ sb key)) ∧ (ao4 = none → c4 = 0) ∧ m4 = ((enc key.size ++ sb key)).length) := ⟨A4.out.later hb, hsg, hn, hm⟩; clear hm ho hsg hn hb)
        | (have z := N4; clear z; (fail_if_success (have z := A5)); at_builtin; go_must (refine wpList_append_apart _ rfl (.tmp 32) (.tmp 36) rfl w2.heap.size _ _ _ rfl N4.out.1.1 ao4 m4 c4 ((enc key.size ++ sb key)) rfl N4.out.2.2.1 N4.out.2.1 (by have h1 := N4.out.1.2.1; have h2 := N4.out.2.2.2; have := HL.out; simp only [List.length_append, List.length_nil] at h1 h2; omega) N4.out.1.2.2.2.1 ?_); intro v4 y4 ho hg _; have A5 : Hid (GS w2.heap.size w2 y4 v4 (0 + m0 + m1 + m2 + m3 + m4) ([] ++ enc q.toNat ++ enc c.toNat ++ enc n.toNat ++ enc ((2 : Int)).toNat ++ (enc key.size ++ sb key))) := ⟨ho, by rw [List.length_append, ← N4.out.1.2.1, ← N4.out.2.2.2], N4.out.1.2.2.1.trans ((Below.refl _ _).grown hg N4.out.1.2.2.2.1 (fun k hk => own_lo N4.out.1.1 k hk)), by have := hg.size; have := N4.out.1.2.2.2.1; omega, rfl⟩; have dA5_3 : y4.cell? ⟨w.heap.size, 3, none⟩ = some (.int .i64 2) := gs_cell A5.out H2.out.1 3; clear ho hg))
      go_ret2
      have hG := A5.out
      rw [HYY.out, ← HZ.out.1] at hG
      obtain ⟨g1, g2, g3, g4, _⟩ := hG
      rw [g2] at g1
      obtain ⟨va, vc, hv, hs, hn, _⟩ := g1.seg
      subst hv
      exact ⟨va, vc, rfl, own_low g1 (by have := H2.out.2.2; omega), (gb_below H2.out.2.1).trans (g3.mono H2.out.2.1.size)⟩
    · clear hk
      have HYY : Hid ([] ++ enc q.toNat ++ enc c.toNat ++ enc n.toNat ++ enc ((3 : Int)).toNat ++ (enc key.size ++ sb key) ++ (enc val.size ++ sb val) ++ enc ver.toNat = updB q c n 3 key val ver) := by show _ = _; unfold updB updA; simp
      go_enter Try.func10, Try.ntmps10
      go_wp2_with (first
        | (refine wpList_load_bk 36 rfl (.tmp 1) rfl Try.underlying36 rfl infoGupd w.heap.size _ rfl H0.out.1 rfl ?_)
        | (go_at_call 29; go_must (refine (Calls.mono (HC.out _) ?_)); rintro r w2 ⟨rfl, h2⟩; have H2 : Hid (Bk 36 w2 w.heap.size #[.int .i64 q, .int .i64 c, .int .i64 n, .int .i64 3, .string key, .string val, .int .i64 ver] ∧ w.grownBy w2 none ∧ w.heap.size < w2.heap.size) := ⟨H0.out.1.grew h2 (by simp), gb_trans H0.out.2 h2, lt_of_block (H0.out.1.grew h2 (by simp))⟩; have A0 : Hid (GS w2.heap.size w2 w2 (.slice none 0 0) 0 []) := ⟨own_nil _ _, rfl, Below.refl _ _, Nat.le_refl _, rfl⟩; have dA0 : w2.cell? ⟨w.heap.size, 0, none⟩ = some (.int .i64 q) := gs_cell A0.out H2.out.1 0; clear h2 H0 HC)
        | ((fail_if_success (have z := N0)); have z := A0; clear z; go_at_call 30; go_must (refine (Calls.mono (gnum_c q (by have := HBD.out; omega) (by have := HBD.out; omega) _) ?_)); rintro r x0 ⟨ao0, m0, c0, rfl, hm, ho, hsg, hn, hb⟩; have N0 : Hid (GS w2.heap.size w2 x0 (.slice none 0 0) (0) ([]) ∧ Seg .u8 x0 ao0 m0 (enc q.toNat) ∧ (ao0 = none → c0 = 0) ∧ m0 = (enc q.toNat).length) := ⟨A0.out.later hb, hsg, hn, hm⟩; clear hm ho hsg hn hb)
        | (have z := N0; clear z; (fail_if_success (have z := A1)); at_builtin; go_must (refine wpList_append_apart _ rfl (.tmp 11) (.tmp 14) rfl w2.heap.size _ _ _ rfl N0.out.1.1 ao0 m0 c0 (enc q.toNat) rfl N0.out.2.2.1 N0.out.2.1 (by have h1 := N0.out.1.2.1; have h2 := N0.out.2.2.2; have := HL.out; simp only [List.length_nil] at h1 h2; omega) N0.out.1.2.2.2.1 ?_); intro v0 y0 ho hg _; have A1 : Hid (GS w2.heap.size w2 y0 v0 (0 + m0) ([] ++ enc q.toNat)) := ⟨ho, by rw [List.length_append, ← N0.out.1.2.1, ← N0.out.2.2.2], N0.out.1.2.2.1.trans ((Below.refl _ _).grown hg N0.out.1.2.2.2.1 (fun k hk => own_lo N0.out.1.1 k hk)), by have := hg.size; have := N0.out.1.2.2.2.1; omega, rfl⟩; have dA1_1 : y0.cell? ⟨w.heap.size, 1, none⟩ = some (.int .i64 c) := gs_cell A1.out H2.out.1 1; clear ho hg)
        | ((fail_if_success (have z := N1)); have z := A1; clear z; go_at_call 30; go_must (refine (Calls.mono (gnum_c c (by have := HBD.out; omega) (by have := HBD.out; omega) _) ?_)); rintro r x1 ⟨ao1, m1, c1, rfl, hm, ho, hsg, hn, hb⟩; have N1 : Hid (GS w2.heap.size w2 x1 (v0) (0 + m0) ([] ++ enc q.toNat) ∧ Seg .u8 x1 ao1 m1 (enc c.toNat) ∧ (ao1 = none → c1 = 0) ∧ m1 = (enc c.toNat).length) := ⟨A1.out.later hb, hsg, hn, hm⟩; clear hm ho hsg hn hb)
        | (have z := N1; clear z; (fail_if_success (have z := A2)); at_builtin; go_must (refine wpList_append_apart _ rfl (.tmp 16) (.tmp 19) rfl w2.heap.size _ _ _ rfl N1.out.1.1 ao1 m1 c1 (enc c.toNat) rfl N1.out.2.2.1 N1.out.2.1 (by have h1 := N1.out.1.2.1; have h2 := N1.out.2.2.2; have := HL.out; simp only [List.length_append, List.length_nil] at h1 h2; omega) N1.out.1.2.2.2.1 ?_); intro v1 y1 ho hg _; have A2 : Hid (GS w2.heap.size w2 y1 v1 (0 + m0 + m1) ([] ++ enc q.toNat ++ enc c.toNat)) := ⟨ho, by rw [List.length_append, ← N1.out.1.2.1, ← N1.out.2.2.2], N1.out.1.2.2.1.trans ((Below.refl _ _).grown hg N1.out.1.2.2.2.1 (fun k hk => own_lo N1.out.1.1 k hk)), by have := hg.size; have := N1.out.1.2.2.2.1; omega, rfl⟩; have dA2_2 : y1.cell? ⟨w.heap.size, 2, none⟩ = some (.int .i64 n) := gs_cell A2.out H2.out.1 2; clear ho hg)
        | ((fail_if_success (have z := N2)); have z := A2; clear z; go_at_call 30; go_must (refine (Calls.mono (gnum_c n (by have := HBD.out; omega) (by have := HBD.out; omega) _) ?_)); rintro r x2 ⟨ao2, m2, c2, rfl, hm, ho, hsg, hn, hb⟩; have N2 : Hid (GS w2.heap.size w2 x2 (v1) (0 + m0 + m1) ([] ++ enc q.toNat ++ enc c.toNat) ∧ Seg .u8 x2 ao2 m2 (enc n.toNat) ∧ (ao2 = none → c2 = 0) ∧ m2 = (enc n.toNat).length) := ⟨A2.out.later hb, hsg, hn, hm⟩; clear hm ho hsg hn hb)
        | (have z := N2; clear z; (fail_if_success (have z := A3)); at_builtin; go_must (refine wpList_append_apart _ rfl (.tmp 21) (.tmp 24) rfl w2.heap.size _ _ _ rfl N2.out.1.1 ao2 m2 c2 (enc n.toNat) rfl N2.out.2.2.1 N2.out.2.1 (by have h1 := N2.out.1.2.1; have h2 := N2.out.2.2.2; have := HL.out; simp only [List.length_append, List.length_nil] at h1 h2; omega) N2.out.1.2.2.2.1 ?_); intro v2 y2 ho hg _; have A3 : Hid (GS w2.heap.size w2 y2 v2 (0 + m0 + m1 + m2) ([] ++ enc q.toNat ++ enc c.toNat ++ enc n.toNat)) := ⟨ho, by rw [List.length_append, ← N2.out.1.2.1, ← N2.out.2.2.2], N2.out.1.2.2.1.trans ((Below.refl _ _).grown hg N2.out.1.2.2.2.1 (fun k hk => own_lo N2.out.1.1 k hk)), by have := hg.size; have := N2.out.1.2.2.2.1; omega, rfl⟩; have dA3_3 : y2.cell? ⟨w.heap.size, 3, none⟩ = some (.int .i64 3) := gs_cell A3.out H2.out.1 3; clear ho hg)
        | ((fail_if_success (have z := N3)); have z := A3; clear z; go_at_call 30; go_must (refine (Calls.mono (gnum_c 3 (by have := HBD.out; omega) (by have := HBD.out; omega) _) ?_)); rintro r x3 ⟨ao3, m3, c3, rfl, hm, ho, hsg, hn, hb⟩; have N3 : Hid (GS w2.heap.size w2 x3 (v2) (0 + m0 + m1 + m2) ([] ++ enc q.toNat ++ enc c.toNat ++ enc n.toNat) ∧ Seg .u8 x3 ao3 m3 (enc ((3 : Int)).toNat) ∧ (ao3 = none → c3 = 0) ∧ m3 = (enc ((3 : Int)).toNat).length) := ⟨A3.out.later hb, hsg, hn, hm⟩; clear hm ho hsg hn hb)
        | (have z := N3; clear z; (fail_if_success (have z := A4)); at_builtin; go_must (refine wpList_append_apart _ rfl (.tmp 26) (.tmp 30) rfl w2.heap.size _ _ _ rfl N3.out.1.1 ao3 m3 c3 (enc ((3 : Int)).toNat) rfl N3.out.2.2.1 N3.out.2.1 (by have h1 := N3.out.1.2.1; have h2 := N3.out.2.2.2; have := HL.out; simp only [List.length_append, List.length_nil] at h1 h2; omega) N3.out.1.2.2.2.1 ?_); intro v3 y3 ho hg _; have A4 : Hid (GS w2.heap.size w2 y3 v3 (0 + m0 + m1 + m2 + m3) ([] ++ enc q.toNat ++ enc c.toNat ++ enc n.toNat ++ enc ((3 : Int)).toNat)) := ⟨ho, by rw [List.length_append, ← N3.out.1.2.1, ← N3.out.2.2.2], N3.out.1.2.2.1.trans ((Below.refl _ _).grown hg N3.out.1.2.2.2.1 (fun k hk => own_lo N3.out.1.1 k hk)), by have := hg.size; have := N3.out.1.2.2.2.1; omega, rfl⟩; have dA4_4 : y3.cell? ⟨w.heap.size, 4, none⟩ = some (.string key) := gs_cell A4.out H2.out.1 4; clear ho hg)
        | ((fail_if_success (have z := N4)); have z := A4; clear z; go_at_call 31; go_must (refine (Calls.mono (gtext_c key (by have := HL.out; omega) _) ?_)); rintro r x4 ⟨ao4, m4, c4, rfl, hm, ho, hsg, hn, hb⟩; have N4 : Hid (GS w2.heap.size w2 x4 (v3) (0 + m0 + m1 + m2 + m3) ([] ++ enc q.toNat ++ enc c.toNat ++ enc n.toNat ++ enc ((3 : Int)).toNat) ∧ Seg .u8 x4 ao4 m4 ((enc key.size ++ sb key)) ∧ (ao4 = none → c4 = 0) ∧ m4 = ((enc key.size ++ sb key)).length) := ⟨A4.out.later hb, hsg, hn, hm⟩; clear hm ho hsg hn hb)
        | (have z := N4; clear z; (fail_if_success (have z := A5)); at_builtin; go_must (refine wpList_append_apart _ rfl (.tmp 32) (.tmp 36) rfl w2.heap.size _ _ _ rfl N4.out.1.1 ao4 m4 c4 ((enc key.size ++ sb key)) rfl N4.out.2.2.1 N4.out.2.1 (by have h1 := N4.out.1.2.1; have h2 := N4.out.2.2.2; have := HL.out; simp only [List.length_append, List.length_nil] at h1 h2; omega) N4.out.1.2.2.2.1 ?_); intro v4 y4 ho hg _; have A5 : Hid (GS w2.heap.size w2 y4 v4 (0 + m0 + m1 + m2 + m3 + m4) ([] ++ enc q.toNat ++ enc c.toNat ++ enc n.toNat ++ enc ((3 : Int)).toNat ++ (enc key.size ++ sb key))) := ⟨ho, by rw [List.length_append, ← N4.out.1.2.1, ← N4.out.2.2.2], N4.out.1.2.2.1.trans ((Below.refl _ _).grown hg N4.out.1.2.2.2.1 (fun k hk => own_lo N4.out.1.1 k hk)), by have := hg.size; have := N4.out.1.2.2.2.1; omega, rfl⟩; have dA5_3 : y4.cell? ⟨w.heap.size, 3, none⟩ = some (.int .i64 3) := gs_cell A5.out H2.out.1 3; have dA5_5 : y4.cell? ⟨w.heap.size, 5, none⟩ = some (.string val) := gs_cell A5.out H2.out.1 5; clear ho hg)
        | ((fail_if_success (have z := N5)); have z := A5; clear z; go_at_call 31; go_must (refine (Calls.mono (gtext_c val (by have := HL.out; omega) _) ?_)); rintro r x5 ⟨ao5, m5, c5, rfl, hm, ho, hsg, hn, hb⟩; have N5 : Hid (GS w2.heap.size w2 x5 (v4) (0 + m0 + m1 + m2 + m3 + m4) ([] ++ enc q.toNat ++ enc c.toNat ++ enc n.toNat ++ enc ((3 : Int)).toNat ++ (enc key.size ++ sb key)) ∧ Seg .u8 x5 ao5 m5 ((enc val.size ++ sb val)) ∧ (ao5 = none → c5 = 0) ∧ m5 = ((enc val.size ++ sb val)).length) := ⟨A5.out.later hb, hsg, hn, hm⟩; clear hm ho hsg hn hb)
        | (have z := N5; clear z; (fail_if_success (have z := A6)); at_builtin; go_must (refine wpList_append_apart _ rfl (.tmp 42) (.tmp 46) rfl w2.heap.size _ _ _ rfl N5.out.1.1 ao5 m5 c5 ((enc val.size ++ sb val)) rfl N5.out.2.2.1 N5.out.2.1 (by have h1 := N5.out.1.2.1; have h2 := N5.out.2.2.2; have := HL.out; simp only [List.length_append, List.length_nil] at h1 h2; omega) N5.out.1.2.2.2.1 ?_); intro v5 y5 ho hg _; have A6 : Hid (GS w2.heap.size w2 y5 v5 (0 + m0 + m1 + m2 + m3 + m4 + m5) ([] ++ enc q.toNat ++ enc c.toNat ++ enc n.toNat ++ enc ((3 : Int)).toNat ++ (enc key.size ++ sb key) ++ (enc val.size ++ sb val))) := ⟨ho, by rw [List.length_append, ← N5.out.1.2.1, ← N5.out.2.2.2], N5.out.1.2.2.1.trans ((Below.refl _ _).grown hg N5.out.1.2.2.2.1 (fun k hk => own_lo N5.out.1.1 k hk)), by have := hg.size; have := N5.out.1.2.2.2.1; omega, rfl⟩; have dA6_3 : y5.cell? ⟨w.heap.size, 3, none⟩ = some (.int .i64 3) := gs_cell A6.out H2.out.1 3; have dA6_6 : y5.cell? ⟨w.heap.size, 6, none⟩ = some (.int .i64 ver) := gs_cell A6.out H2.out.1 6; clear ho hg)
        | ((fail_if_success (have z := N6)); have z := A6; clear z; go_at_call 30; go_must (refine (Calls.mono (gnum_c ver (by have := HBD.out; omega) (by have := HBD.out; omega) _) ?_)); rintro r x6 ⟨ao6, m6, c6, rfl, hm, ho, hsg, hn, hb⟩; have N6 : Hid (GS w2.heap.size w2 x6 (v5) (0 + m0 + m1 + m2 + m3 + m4 + m5) ([] ++ enc q.toNat ++ enc c.toNat ++ enc n.toNat ++ enc ((3 : Int)).toNat ++ (enc key.size ++ sb key) ++ (enc val.size ++ sb val)) ∧ Seg .u8 x6 ao6 m6 (enc ver.toNat) ∧ (ao6 = none → c6 = 0) ∧ m6 = (enc ver.toNat).length) := ⟨A6.out.later hb, hsg, hn, hm⟩; clear hm ho hsg hn hb)
        | (have z := N6; clear z; (fail_if_success (have z := A7)); at_builtin; go_must (refine wpList_append_apart _ rfl (.tmp 52) (.tmp 56) rfl w2.heap.size _ _ _ rfl N6.out.1.1 ao6 m6 c6 (enc ver.toNat) rfl N6.out.2.2.1 N6.out.2.1 (by have h1 := N6.out.1.2.1; have h2 := N6.out.2.2.2; have := HL.out; simp only [List.length_append, List.length_nil] at h1 h2; omega) N6.out.1.2.2.2.1 ?_); intro v6 y6 ho hg _; have A7 : Hid (GS w2.heap.size w2 y6 v6 (0 + m0 + m1 + m2 + m3 + m4 + m5 + m6) ([] ++ enc q.toNat ++ enc c.toNat ++ enc n.toNat ++ enc ((3 : Int)).toNat ++ (enc key.size ++ sb key) ++ (enc val.size ++ sb val) ++ enc ver.toNat)) := ⟨ho, by rw [List.length_append, ← N6.out.1.2.1, ← N6.out.2.2.2], N6.out.1.2.2.1.trans ((Below.refl _ _).grown hg N6.out.1.2.2.2.1 (fun k hk => own_lo N6.out.1.1 k hk)), by have := hg.size; have := N6.out.1.2.2.2.1; omega, rfl⟩; clear ho hg))
      go_ret2
      have hG := A7.out
      rw [HYY.out, ← HZ.out.1] at hG
      obtain ⟨g1, g2, g3, g4, _⟩ := hG
      rw [g2] at g1
      obtain ⟨va, vc, hv, hs, hn, _⟩ := g1.seg
      subst hv
      exact ⟨va, vc, rfl, own_low g1 (by have := H2.out.2.2; omega), (gb_below H2.out.2.1).trans (g3.mono H2.out.2.1.size)⟩
  · have hz : updZ q c n k key val ver = [] := if_neg hE
    rw [hz]
    generalize updE q c n k key val ver = E at *
    have hEn : (E != 0) = true := by simp [hE]
    clear hE hz
    go_enter Try.func10, Try.ntmps10
    go_wp2_with (first
      | (refine wpList_load_bk 36 rfl (.tmp 1) rfl Try.underlying36 rfl infoGupd w.heap.size _ rfl H0.out.1 rfl ?_)
      | (go_at_call 29; refine (Calls.mono (HC.out _) ?_); rintro r w2 ⟨rfl, h2⟩; have H2 : Hid (w.grownBy w2 none) := gb_trans H0.out.2 h2; clear h2))
    go_ret2
    exact ⟨none, 0, rfl, own_nil _ _, gb_below H2.out⟩
end Go.Proofs.Ytmpedbddbknndaa.Dl
