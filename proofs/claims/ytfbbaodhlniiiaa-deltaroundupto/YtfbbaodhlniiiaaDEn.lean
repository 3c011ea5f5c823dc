/-
  What delta's Encode answers of an update: its bytes, or CheckUpdate's error. No condition.
-/
import Derived.Test.YtfbbaodhlniiiaaWMo
import Derived.Test.YtfbbaodhlniiiaaDCu
import Derived.Test.YtfbbaodhlniiiaaDOp
namespace Go.Proofs.Ytfbbaodhlniiiaa.Dl
open Go.RowKit
set_option linter.unusedVariables false

/-- An update's bytes: what all have, the value, the version. -/
def updA (q c n k : Int) (key : ByteArray) : List Int := enc q.toNat ++ enc c.toNat ++ enc n.toNat ++ enc k.toNat ++ (enc key.size ++ sb key)
def updB (q c n k : Int) (key val : ByteArray) (ver : Int) : List Int := updA q c n k key ++ (if k = 2 then [] else enc val.size ++ sb val) ++ (if k = 3 then enc ver.toNat else [])
/-- What Encode answers: these, or none where there is an error. -/
def updZ (q c n k : Int) (key val : ByteArray) (ver : Int) : List Int := if updE q c n k key val ver = 0 then updB q c n k key val ver else []
theorem upd_bd {q c n k : Int} {key val : ByteArray} {ver : Int} (h : updE q c n k key val ver = 0) : (1 ≤ q ∧ q ≤ 1152921504606846976) ∧ (1 ≤ c ∧ c ≤ 16) ∧ (1 ≤ n ∧ n ≤ 1152921504606846976) ∧ (1 ≤ k ∧ k ≤ 3) ∧ (1 ≤ key.size ∧ key.size ≤ 1024) ∧ val.size ≤ 65536 ∧ (0 ≤ ver ∧ ver ≤ 1152921504606846976) ∧ usr key = true ∧ (k = 2 → val = .empty) ∧ (k ≠ 3 → ver = 0) := by
  unfold updE at h
  split at h
  · omega
  split at h
  · omega
  split at h
  · omega
  unfold opE at h
  split at h
  · omega
  split at h
  · omega
  rename_i hu
  split at h
  · omega
  rename_i hv
  split at h
  · omega
  rename_i hn
  have hu' : usr key = true := by simpa using hu
  have hk : 1 ≤ key.size ∧ key.size ≤ 1024 := by
    unfold usr at hu'
    simp only [Bool.and_eq_true, decide_eq_true_eq] at hu'
    exact ⟨hu'.1.1, hu'.1.2⟩
  refine ⟨by omega, by omega, by omega, by omega, hk, ?_, by omega, hu', ?_, ?_⟩
  · rcases Nat.lt_or_ge 65536 val.size with z | z
    · exact absurd (.inl z) hv
    · exact z
  · intro z
    rcases Decidable.em (val = .empty) with y | y
    · exact y
    · exact absurd (.inr ⟨z, y⟩) hv
  · intro z
    rcases Decidable.em (ver = 0) with y | y
    · exact y
    · exact absurd (.inr ⟨z, y⟩) hn
theorem own_row {B : Nat} {w : World} {g : Nat} {xs : List Int} (h : Row .u8 5 w g xs) (hB : B ≤ g) (hm : xs.length ≤ maxLen) : Own B w (.slice (some ⟨g, 0, none⟩) xs.length xs.length) xs.length xs :=
  ⟨by simp, .inr ⟨g, xs.length, _, rfl, hB, h, Nat.le_refl _, hm, by simp, by rw [Nat.mul_one, List.take_of_length_le (by simp)]⟩⟩
theorem own_low {B C : Nat} {w : World} {v : Value} {n : Nat} {xs : List Int} (h : Own B w v n xs) (hC : C ≤ B) : Own C w v n xs := by
  refine ⟨h.1, ?_⟩
  rcases h.2 with q | ⟨g, cap, cur, q1, q2, q3⟩
  · exact .inl q
  · exact .inr ⟨g, cap, cur, q1, Nat.le_trans hC q2, q3⟩
/-- What either Encode answers. -/
def EA (f : FuncId) (q c n k : Int) (key val : ByteArray) (ver : Int) (w : World) : Prop :=
  Calls Try.prog f #[.agg #[.int .i64 q, .int .i64 c, .int .i64 n, .int .i64 k, .string key, .string val, .int .i64 ver]] w fun r w' => ∃ va vc, r = .returned (.tuple #[.slice va (updZ q c n k key val ver).length vc, .int .i64 (updE q c n k key val ver)]) ∧ Own w.heap.size w' (.slice va (updZ q c n k key val ver).length vc) (updZ q c n k key val ver).length (updZ q c n k key val ver) ∧ Below w.heap.size w w'
theorem wm_cell {B : Nat} {w W : World} {ys : List Int} {e : Int} {T : TypeId} {P : Nat} {cs : Array Value} (h : WM B w W ys e) (hb : Bk T w P cs) (hp : P < B) (i : Nat) : W.cell? ⟨P, i, none⟩ = cs[i]? := by
  obtain ⟨fs, _, _, hbel, _⟩ := h
  exact (hb.below hbel hp).cell i
theorem updA_len {q c n k : Int} {key : ByteArray} (h1 : q.toNat < 18446744073709551616) (h2 : c.toNat < 18446744073709551616) (h3 : n.toNat < 18446744073709551616) (h4 : k.toNat < 18446744073709551616) (h5 : key.size ≤ 1024) : (updA q c n k key).length ≤ 1074 := by
  have l1 := enc_leN q.toNat h1
  have l2 := enc_leN c.toNat h2
  have l3 := enc_leN n.toNat h3
  have l4 := enc_leN k.toNat h4
  have l5 := enc_leN key.size (by omega)
  unfold updA
  simp only [List.length_append, sb_length]
  omega
theorem updB_len {q c n k : Int} {key val : ByteArray} {ver : Int} (h : updE q c n k key val ver = 0) : (updB q c n k key val ver).length ≤ 66640 := by
  obtain ⟨h1, h2, h3, h4, h5, h6, h7, _⟩ := upd_bd h
  have l1 := updA_len (q := q) (c := c) (n := n) (k := k) (key := key) (by omega) (by omega) (by omega) (by omega) h5.2
  have l6 := enc_leN val.size (by omega)
  have l7 := enc_leN ver.toNat (by omega)
  unfold updB
  simp only [List.length_append]
  split <;> split <;> simp only [List.length_append, List.length_nil, sb_length] <;> omega
set_option maxRecDepth 20000 in
set_option maxHeartbeats 2000000 in
theorem encode_c (q c n k : Int) (key val : ByteArray) (ver : Int) (w : World) : EA 29 q c n k key val ver w := by
  unfold EA
  have HC : Hid (∀ W, Calls Try.prog 46 #[.agg #[.int .i64 q, .int .i64 c, .int .i64 n, .int .i64 k, .string key, .string val, .int .i64 ver]] W fun r w' => r = .returned (.int .i64 (updE q c n k key val ver)) ∧ W.grownBy w' none) := checku_c q c n k key val ver
  have H0 : Hid (Bk 27 (w.alloc (.cells #[.int .i64 q, .int .i64 c, .int .i64 n, .int .i64 k, .string key, .string val, .int .i64 ver] 27)) w.heap.size #[.int .i64 q, .int .i64 c, .int .i64 n, .int .i64 k, .string key, .string val, .int .i64 ver] ∧ w.grownBy (w.alloc (.cells #[.int .i64 q, .int .i64 c, .int .i64 n, .int .i64 k, .string key, .string val, .int .i64 ver] 27)) none) := blk_new w _ _
  by_cases hE : updE q c n k key val ver = 0
  · have hb := upd_bd hE
    have hz : updZ q c n k key val ver = updB q c n k key val ver := if_pos hE
    have hlen := updB_len hE
    rw [hE] at HC
    rw [hz, hE]
    obtain ⟨Z, hZ⟩ : ∃ Z, Z = updB q c n k key val ver := ⟨_, rfl⟩
    rw [← hZ] at hlen ⊢
    have HZ : Hid (Z = updB q c n k key val ver ∧ Z.length ≤ 66640) := ⟨hZ, hlen⟩
    have HBD : Hid _ := hb
    have HAL : Hid ((updA q c n k key).length ≤ 1074) := updA_len (by omega) (by omega) (by omega) (by omega) hb.2.2.2.2.1.2
    have HL : Hid ((enc q.toNat).length ≤ 10 ∧ (enc c.toNat).length ≤ 10 ∧ (enc n.toNat).length ≤ 10 ∧ (enc k.toNat).length ≤ 10 ∧ (enc val.size).length ≤ 10) := ⟨enc_leN _ (by omega), enc_leN _ (by omega), enc_leN _ (by omega), enc_leN _ (by omega), enc_leN _ (by omega)⟩
    have hk := hb.2.2.2.1
    clear hE hb hz hlen hZ
    rcases (show k = 1 ∨ k = 2 ∨ k = 3 by omega) with rfl | rfl | rfl
    · clear hk
      have HYY : Hid ([] ++ enc q.toNat ++ enc c.toNat ++ enc n.toNat ++ enc ((1 : Int)).toNat ++ (enc key.size ++ sb key) ++ (enc val.size ++ sb val) = updB q c n 1 key val ver) := by show _ = _; unfold updB updA; simp
      have HAL2 : Hid (([] ++ enc q.toNat ++ enc c.toNat ++ enc n.toNat ++ enc ((1 : Int)).toNat ++ (enc key.size ++ sb key)).length ≤ 2000) := by show _ ≤ _; have := HL.out; have := HBD.out.2.2.2.2.1; have := enc_leN key.size (by omega); simp only [List.length_append, List.length_nil, sb_length]; omega
      have HAL3 : Hid (([] ++ enc q.toNat ++ enc c.toNat ++ enc n.toNat ++ enc ((1 : Int)).toNat ++ (enc key.size ++ sb key) ++ (enc val.size ++ sb val)).length ≤ 70000) := by show _ ≤ _; have := HL.out; have := HBD.out.2.2.2.2.1; have := HBD.out.2.2.2.2.2.1; have := enc_leN key.size (by omega); simp only [List.length_append, List.length_nil, sb_length]; omega
      have HAL4 : Hid (([] ++ enc q.toNat ++ enc c.toNat ++ enc n.toNat ++ enc ((1 : Int)).toNat ++ (enc key.size ++ sb key) ++ (enc val.size ++ sb val)).length ≤ 70000) := by show _ ≤ _; rw [HYY.out, ← HZ.out.1]; have := HZ.out.2; omega
      have HZL : Hid (([] ++ enc q.toNat ++ enc c.toNat ++ enc n.toNat ++ enc ((1 : Int)).toNat ++ (enc key.size ++ sb key) ++ (enc val.size ++ sb val)).length = Z.length) := by show _ = _; rw [HYY.out, ← HZ.out.1]
      go_enter Try.func29, Try.ntmps29
      go_wp2_with (first
        | (refine wpList_load_bk 27 rfl (.tmp 1) rfl Try.underlying27 rfl infoUpd w.heap.size _ rfl H0.out.1 rfl ?_)
        | (go_at_call 46; go_must (refine (Calls.mono (HC.out _) ?_)); rintro r w2 ⟨rfl, h2⟩; have H2 : Hid (Bk 27 w2 w.heap.size #[.int .i64 q, .int .i64 c, .int .i64 n, .int .i64 1, .string key, .string val, .int .i64 ver] ∧ w.grownBy w2 none ∧ w.heap.size < w2.heap.size) := ⟨H0.out.1.grew h2 (by simp), gb_trans H0.out.2 h2, lt_of_block (H0.out.1.grew h2 (by simp))⟩; have G0 : Hid (WM w2.heap.size w2 (w2.alloc (.cells Try.zeroCells89 89)) [] 0) := ⟨[], ws_none (heap_new w2 _), by simp, (Below.refl _ _).alloc (Nat.le_refl _) _, by simp⟩; have d0 : (w2.alloc (.cells Try.zeroCells89 89)).cell? ⟨w.heap.size, 0, none⟩ = some (.int .i64 q) := wm_cell G0.out H2.out.1 H2.out.2.2 0; clear h2 H0 HC)
        | ((fail_if_success (have z := G1)); have z := G0; clear z; go_at_call 56; go_must (refine (G0.out.int q 1152921504606846976 (by have := HBD.out; omega) (by have := HBD.out; omega) (by omega) (by have := HL.out; simp only [List.length_nil]; omega)).mono ?_); rintro r w3 ⟨rfl, h⟩; have G1 : Hid (WM w2.heap.size w2 w3 ([] ++ enc q.toNat) 0) := h; have w3_1 : w3.cell? ⟨w.heap.size, 1, none⟩ = some (.int .i64 c) := wm_cell h H2.out.1 H2.out.2.2 1; clear h)
        | ((fail_if_success (have z := G2)); have z := G1; clear z; go_at_call 56; go_must (refine (G1.out.int c 16 (by have := HBD.out; omega) (by have := HBD.out; omega) (by omega) (by have := HL.out; simp only [List.length_append, List.length_nil]; omega)).mono ?_); rintro r w4 ⟨rfl, h⟩; have G2 : Hid (WM w2.heap.size w2 w4 ([] ++ enc q.toNat ++ enc c.toNat) 0) := h; have w4_2 : w4.cell? ⟨w.heap.size, 2, none⟩ = some (.int .i64 n) := wm_cell h H2.out.1 H2.out.2.2 2; clear h)
        | ((fail_if_success (have z := G3)); have z := G2; clear z; go_at_call 56; go_must (refine (G2.out.int n 1152921504606846976 (by have := HBD.out; omega) (by have := HBD.out; omega) (by omega) (by have := HL.out; simp only [List.length_append, List.length_nil]; omega)).mono ?_); rintro r w5 ⟨rfl, h⟩; have G3 : Hid (WM w2.heap.size w2 w5 ([] ++ enc q.toNat ++ enc c.toNat ++ enc n.toNat) 0) := h; have w5_3 : w5.cell? ⟨w.heap.size, 3, none⟩ = some (.int .i64 1) := wm_cell h H2.out.1 H2.out.2.2 3; clear h)
        | ((fail_if_success (have z := G4)); have z := G3; clear z; go_at_call 56; go_must (refine (G3.out.int 1 3 (by omega) (by omega) (by omega) (by have := HL.out; simp only [List.length_append, List.length_nil]; omega)).mono ?_); rintro r w6 ⟨rfl, h⟩; have G4 : Hid (WM w2.heap.size w2 w6 ([] ++ enc q.toNat ++ enc c.toNat ++ enc n.toNat ++ enc ((1 : Int)).toNat) 0) := h; have w6_4 : w6.cell? ⟨w.heap.size, 4, none⟩ = some (.string key) := wm_cell h H2.out.1 H2.out.2.2 4; clear h)
        | ((fail_if_success (have z := G5)); have z := G4; clear z; go_at_call 33; go_must (refine (G4.out.textm key 1024 (by have := HBD.out.2.2.2.2.1; omega) (by have := HBD.out.2.2.2.2.1; omega) (by have := HL.out; have := HBD.out.2.2.2.2.1; simp only [List.length_append, List.length_nil]; omega)).mono ?_); rintro r w7 ⟨rfl, h⟩; have G5 : Hid (WM w2.heap.size w2 w7 ([] ++ enc q.toNat ++ enc c.toNat ++ enc n.toNat ++ enc ((1 : Int)).toNat ++ (enc key.size ++ sb key)) 0) := h; have w7_3 : w7.cell? ⟨w.heap.size, 3, none⟩ = some (.int .i64 1) := wm_cell h H2.out.1 H2.out.2.2 3; have w7_5 : w7.cell? ⟨w.heap.size, 5, none⟩ = some (.string val) := wm_cell h H2.out.1 H2.out.2.2 5; clear h)
        | ((fail_if_success (have z := G6)); have z := G5; clear z; go_at_call 33; go_must (refine (G5.out.textm val 65536 (by have := HBD.out.2.2.2.2.2.1; omega) (by have := HBD.out.2.2.2.2.2.1; omega) (by have := HAL2.out; have := HBD.out.2.2.2.2.2.1; omega)).mono ?_); rintro r w8 ⟨rfl, h⟩; have G6 : Hid (WM w2.heap.size w2 w8 ([] ++ enc q.toNat ++ enc c.toNat ++ enc n.toNat ++ enc ((1 : Int)).toNat ++ (enc key.size ++ sb key) ++ (enc val.size ++ sb val)) 0) := h; have w8_3 : w8.cell? ⟨w.heap.size, 3, none⟩ = some (.int .i64 1) := wm_cell h H2.out.1 H2.out.2.2 3; have w8_6 : w8.cell? ⟨w.heap.size, 6, none⟩ = some (.int .i64 ver) := wm_cell h H2.out.1 H2.out.2.2 6; clear h)
        | (have z := G6; clear z; go_at_call 34; go_must (refine (G6.out.bytes_ok (by have := HAL4.out; omega)).mono ?_); rintro r wb ⟨b, rfl, h1, h2, h3⟩; rw [HYY.out, ← HZ.out.1] at h2; rw [HZL.out]; have GB : Hid (w2.heap.size ≤ b ∧ Row .u8 5 wb b Z ∧ Below w2.heap.size w2 wb) := ⟨h1, h2, h3⟩; clear h1 h2 h3))
      go_ret2
      refine ⟨some ⟨b, 0, none⟩, Z.length, rfl, own_row GB.out.2.1 (by have := GB.out.1; have := H2.out.2.2; omega) (by have := HZ.out.2; unfold maxLen; omega), (gb_below H2.out.2.1).trans (GB.out.2.2.mono H2.out.2.1.size)⟩
    · clear hk
      have HYY : Hid ([] ++ enc q.toNat ++ enc c.toNat ++ enc n.toNat ++ enc ((2 : Int)).toNat ++ (enc key.size ++ sb key) = updB q c n 2 key val ver) := by show _ = _; unfold updB updA; simp
      have HAL2 : Hid (([] ++ enc q.toNat ++ enc c.toNat ++ enc n.toNat ++ enc ((2 : Int)).toNat ++ (enc key.size ++ sb key)).length ≤ 2000) := by show _ ≤ _; have := HL.out; have := HBD.out.2.2.2.2.1; have := enc_leN key.size (by omega); simp only [List.length_append, List.length_nil, sb_length]; omega
      have HAL4 : Hid (([] ++ enc q.toNat ++ enc c.toNat ++ enc n.toNat ++ enc ((2 : Int)).toNat ++ (enc key.size ++ sb key)).length ≤ 70000) := by show _ ≤ _; rw [HYY.out, ← HZ.out.1]; have := HZ.out.2; omega
      have HZL : Hid (([] ++ enc q.toNat ++ enc c.toNat ++ enc n.toNat ++ enc ((2 : Int)).toNat ++ (enc key.size ++ sb key)).length = Z.length) := by show _ = _; rw [HYY.out, ← HZ.out.1]
      go_enter Try.func29, Try.ntmps29
      go_wp2_with (first
        | (refine wpList_load_bk 27 rfl (.tmp 1) rfl Try.underlying27 rfl infoUpd w.heap.size _ rfl H0.out.1 rfl ?_)
        | (go_at_call 46; go_must (refine (Calls.mono (HC.out _) ?_)); rintro r w2 ⟨rfl, h2⟩; have H2 : Hid (Bk 27 w2 w.heap.size #[.int .i64 q, .int .i64 c, .int .i64 n, .int .i64 2, .string key, .string val, .int .i64 ver] ∧ w.grownBy w2 none ∧ w.heap.size < w2.heap.size) := ⟨H0.out.1.grew h2 (by simp), gb_trans H0.out.2 h2, lt_of_block (H0.out.1.grew h2 (by simp))⟩; have G0 : Hid (WM w2.heap.size w2 (w2.alloc (.cells Try.zeroCells89 89)) [] 0) := ⟨[], ws_none (heap_new w2 _), by simp, (Below.refl _ _).alloc (Nat.le_refl _) _, by simp⟩; have d0 : (w2.alloc (.cells Try.zeroCells89 89)).cell? ⟨w.heap.size, 0, none⟩ = some (.int .i64 q) := wm_cell G0.out H2.out.1 H2.out.2.2 0; clear h2 H0 HC)
        | ((fail_if_success (have z := G1)); have z := G0; clear z; go_at_call 56; go_must (refine (G0.out.int q 1152921504606846976 (by have := HBD.out; omega) (by have := HBD.out; omega) (by omega) (by have := HL.out; simp only [List.length_nil]; omega)).mono ?_); rintro r w3 ⟨rfl, h⟩; have G1 : Hid (WM w2.heap.size w2 w3 ([] ++ enc q.toNat) 0) := h; have w3_1 : w3.cell? ⟨w.heap.size, 1, none⟩ = some (.int .i64 c) := wm_cell h H2.out.1 H2.out.2.2 1; clear h)
        | ((fail_if_success (have z := G2)); have z := G1; clear z; go_at_call 56; go_must (refine (G1.out.int c 16 (by have := HBD.out; omega) (by have := HBD.out; omega) (by omega) (by have := HL.out; simp only [List.length_append, List.length_nil]; omega)).mono ?_); rintro r w4 ⟨rfl, h⟩; have G2 : Hid (WM w2.heap.size w2 w4 ([] ++ enc q.toNat ++ enc c.toNat) 0) := h; have w4_2 : w4.cell? ⟨w.heap.size, 2, none⟩ = some (.int .i64 n) := wm_cell h H2.out.1 H2.out.2.2 2; clear h)
        | ((fail_if_success (have z := G3)); have z := G2; clear z; go_at_call 56; go_must (refine (G2.out.int n 1152921504606846976 (by have := HBD.out; omega) (by have := HBD.out; omega) (by omega) (by have := HL.out; simp only [List.length_append, List.length_nil]; omega)).mono ?_); rintro r w5 ⟨rfl, h⟩; have G3 : Hid (WM w2.heap.size w2 w5 ([] ++ enc q.toNat ++ enc c.toNat ++ enc n.toNat) 0) := h; have w5_3 : w5.cell? ⟨w.heap.size, 3, none⟩ = some (.int .i64 2) := wm_cell h H2.out.1 H2.out.2.2 3; clear h)
        | ((fail_if_success (have z := G4)); have z := G3; clear z; go_at_call 56; go_must (refine (G3.out.int 2 3 (by omega) (by omega) (by omega) (by have := HL.out; simp only [List.length_append, List.length_nil]; omega)).mono ?_); rintro r w6 ⟨rfl, h⟩; have G4 : Hid (WM w2.heap.size w2 w6 ([] ++ enc q.toNat ++ enc c.toNat ++ enc n.toNat ++ enc ((2 : Int)).toNat) 0) := h; have w6_4 : w6.cell? ⟨w.heap.size, 4, none⟩ = some (.string key) := wm_cell h H2.out.1 H2.out.2.2 4; clear h)
        | ((fail_if_success (have z := G5)); have z := G4; clear z; go_at_call 33; go_must (refine (G4.out.textm key 1024 (by have := HBD.out.2.2.2.2.1; omega) (by have := HBD.out.2.2.2.2.1; omega) (by have := HL.out; have := HBD.out.2.2.2.2.1; simp only [List.length_append, List.length_nil]; omega)).mono ?_); rintro r w7 ⟨rfl, h⟩; have G5 : Hid (WM w2.heap.size w2 w7 ([] ++ enc q.toNat ++ enc c.toNat ++ enc n.toNat ++ enc ((2 : Int)).toNat ++ (enc key.size ++ sb key)) 0) := h; have w7_3 : w7.cell? ⟨w.heap.size, 3, none⟩ = some (.int .i64 2) := wm_cell h H2.out.1 H2.out.2.2 3; have w7_5 : w7.cell? ⟨w.heap.size, 5, none⟩ = some (.string val) := wm_cell h H2.out.1 H2.out.2.2 5; clear h)
        | (have z := G5; clear z; go_at_call 34; go_must (refine (G5.out.bytes_ok (by have := HAL4.out; omega)).mono ?_); rintro r wb ⟨b, rfl, h1, h2, h3⟩; rw [HYY.out, ← HZ.out.1] at h2; rw [HZL.out]; have GB : Hid (w2.heap.size ≤ b ∧ Row .u8 5 wb b Z ∧ Below w2.heap.size w2 wb) := ⟨h1, h2, h3⟩; clear h1 h2 h3))
      go_ret2
      refine ⟨some ⟨b, 0, none⟩, Z.length, rfl, own_row GB.out.2.1 (by have := GB.out.1; have := H2.out.2.2; omega) (by have := HZ.out.2; unfold maxLen; omega), (gb_below H2.out.2.1).trans (GB.out.2.2.mono H2.out.2.1.size)⟩
    · clear hk
      have HYY : Hid ([] ++ enc q.toNat ++ enc c.toNat ++ enc n.toNat ++ enc ((3 : Int)).toNat ++ (enc key.size ++ sb key) ++ (enc val.size ++ sb val) ++ enc ver.toNat = updB q c n 3 key val ver) := by show _ = _; unfold updB updA; simp
      have HAL2 : Hid (([] ++ enc q.toNat ++ enc c.toNat ++ enc n.toNat ++ enc ((3 : Int)).toNat ++ (enc key.size ++ sb key)).length ≤ 2000) := by show _ ≤ _; have := HL.out; have := HBD.out.2.2.2.2.1; have := enc_leN key.size (by omega); simp only [List.length_append, List.length_nil, sb_length]; omega
      have HAL3 : Hid (([] ++ enc q.toNat ++ enc c.toNat ++ enc n.toNat ++ enc ((3 : Int)).toNat ++ (enc key.size ++ sb key) ++ (enc val.size ++ sb val)).length ≤ 70000) := by show _ ≤ _; have := HL.out; have := HBD.out.2.2.2.2.1; have := HBD.out.2.2.2.2.2.1; have := enc_leN key.size (by omega); simp only [List.length_append, List.length_nil, sb_length]; omega
      have HAL4 : Hid (([] ++ enc q.toNat ++ enc c.toNat ++ enc n.toNat ++ enc ((3 : Int)).toNat ++ (enc key.size ++ sb key) ++ (enc val.size ++ sb val) ++ enc ver.toNat).length ≤ 70000) := by show _ ≤ _; rw [HYY.out, ← HZ.out.1]; have := HZ.out.2; omega
      have HZL : Hid (([] ++ enc q.toNat ++ enc c.toNat ++ enc n.toNat ++ enc ((3 : Int)).toNat ++ (enc key.size ++ sb key) ++ (enc val.size ++ sb val) ++ enc ver.toNat).length = Z.length) := by show _ = _; rw [HYY.out, ← HZ.out.1]
      go_enter Try.func29, Try.ntmps29
      go_wp2_with (first
        | (refine wpList_load_bk 27 rfl (.tmp 1) rfl Try.underlying27 rfl infoUpd w.heap.size _ rfl H0.out.1 rfl ?_)
        | (go_at_call 46; go_must (refine (Calls.mono (HC.out _) ?_)); rintro r w2 ⟨rfl, h2⟩; have H2 : Hid (Bk 27 w2 w.heap.size #[.int .i64 q, .int .i64 c, .int .i64 n, .int .i64 3, .string key, .string val, .int .i64 ver] ∧ w.grownBy w2 none ∧ w.heap.size < w2.heap.size) := ⟨H0.out.1.grew h2 (by simp), gb_trans H0.out.2 h2, lt_of_block (H0.out.1.grew h2 (by simp))⟩; have G0 : Hid (WM w2.heap.size w2 (w2.alloc (.cells Try.zeroCells89 89)) [] 0) := ⟨[], ws_none (heap_new w2 _), by simp, (Below.refl _ _).alloc (Nat.le_refl _) _, by simp⟩; have d0 : (w2.alloc (.cells Try.zeroCells89 89)).cell? ⟨w.heap.size, 0, none⟩ = some (.int .i64 q) := wm_cell G0.out H2.out.1 H2.out.2.2 0; clear h2 H0 HC)
        | ((fail_if_success (have z := G1)); have z := G0; clear z; go_at_call 56; go_must (refine (G0.out.int q 1152921504606846976 (by have := HBD.out; omega) (by have := HBD.out; omega) (by omega) (by have := HL.out; simp only [List.length_nil]; omega)).mono ?_); rintro r w3 ⟨rfl, h⟩; have G1 : Hid (WM w2.heap.size w2 w3 ([] ++ enc q.toNat) 0) := h; have w3_1 : w3.cell? ⟨w.heap.size, 1, none⟩ = some (.int .i64 c) := wm_cell h H2.out.1 H2.out.2.2 1; clear h)
        | ((fail_if_success (have z := G2)); have z := G1; clear z; go_at_call 56; go_must (refine (G1.out.int c 16 (by have := HBD.out; omega) (by have := HBD.out; omega) (by omega) (by have := HL.out; simp only [List.length_append, List.length_nil]; omega)).mono ?_); rintro r w4 ⟨rfl, h⟩; have G2 : Hid (WM w2.heap.size w2 w4 ([] ++ enc q.toNat ++ enc c.toNat) 0) := h; have w4_2 : w4.cell? ⟨w.heap.size, 2, none⟩ = some (.int .i64 n) := wm_cell h H2.out.1 H2.out.2.2 2; clear h)
        | ((fail_if_success (have z := G3)); have z := G2; clear z; go_at_call 56; go_must (refine (G2.out.int n 1152921504606846976 (by have := HBD.out; omega) (by have := HBD.out; omega) (by omega) (by have := HL.out; simp only [List.length_append, List.length_nil]; omega)).mono ?_); rintro r w5 ⟨rfl, h⟩; have G3 : Hid (WM w2.heap.size w2 w5 ([] ++ enc q.toNat ++ enc c.toNat ++ enc n.toNat) 0) := h; have w5_3 : w5.cell? ⟨w.heap.size, 3, none⟩ = some (.int .i64 3) := wm_cell h H2.out.1 H2.out.2.2 3; clear h)
        | ((fail_if_success (have z := G4)); have z := G3; clear z; go_at_call 56; go_must (refine (G3.out.int 3 3 (by omega) (by omega) (by omega) (by have := HL.out; simp only [List.length_append, List.length_nil]; omega)).mono ?_); rintro r w6 ⟨rfl, h⟩; have G4 : Hid (WM w2.heap.size w2 w6 ([] ++ enc q.toNat ++ enc c.toNat ++ enc n.toNat ++ enc ((3 : Int)).toNat) 0) := h; have w6_4 : w6.cell? ⟨w.heap.size, 4, none⟩ = some (.string key) := wm_cell h H2.out.1 H2.out.2.2 4; clear h)
        | ((fail_if_success (have z := G5)); have z := G4; clear z; go_at_call 33; go_must (refine (G4.out.textm key 1024 (by have := HBD.out.2.2.2.2.1; omega) (by have := HBD.out.2.2.2.2.1; omega) (by have := HL.out; have := HBD.out.2.2.2.2.1; simp only [List.length_append, List.length_nil]; omega)).mono ?_); rintro r w7 ⟨rfl, h⟩; have G5 : Hid (WM w2.heap.size w2 w7 ([] ++ enc q.toNat ++ enc c.toNat ++ enc n.toNat ++ enc ((3 : Int)).toNat ++ (enc key.size ++ sb key)) 0) := h; have w7_3 : w7.cell? ⟨w.heap.size, 3, none⟩ = some (.int .i64 3) := wm_cell h H2.out.1 H2.out.2.2 3; have w7_5 : w7.cell? ⟨w.heap.size, 5, none⟩ = some (.string val) := wm_cell h H2.out.1 H2.out.2.2 5; clear h)
        | ((fail_if_success (have z := G6)); have z := G5; clear z; go_at_call 33; go_must (refine (G5.out.textm val 65536 (by have := HBD.out.2.2.2.2.2.1; omega) (by have := HBD.out.2.2.2.2.2.1; omega) (by have := HAL2.out; have := HBD.out.2.2.2.2.2.1; omega)).mono ?_); rintro r w8 ⟨rfl, h⟩; have G6 : Hid (WM w2.heap.size w2 w8 ([] ++ enc q.toNat ++ enc c.toNat ++ enc n.toNat ++ enc ((3 : Int)).toNat ++ (enc key.size ++ sb key) ++ (enc val.size ++ sb val)) 0) := h; have w8_3 : w8.cell? ⟨w.heap.size, 3, none⟩ = some (.int .i64 3) := wm_cell h H2.out.1 H2.out.2.2 3; have w8_6 : w8.cell? ⟨w.heap.size, 6, none⟩ = some (.int .i64 ver) := wm_cell h H2.out.1 H2.out.2.2 6; clear h)
        | ((fail_if_success (have z := G7)); have z := G6; clear z; go_at_call 56; go_must (refine (G6.out.int ver 1152921504606846976 (by have := HBD.out; omega) (by have := HBD.out; omega) (by omega) (by have := HAL3.out; omega)).mono ?_); rintro r w9 ⟨rfl, h⟩; have G7 : Hid (WM w2.heap.size w2 w9 ([] ++ enc q.toNat ++ enc c.toNat ++ enc n.toNat ++ enc ((3 : Int)).toNat ++ (enc key.size ++ sb key) ++ (enc val.size ++ sb val) ++ enc ver.toNat) 0) := h; have w9_3 : w9.cell? ⟨w.heap.size, 3, none⟩ = some (.int .i64 3) := wm_cell h H2.out.1 H2.out.2.2 3; clear h)
        | (have z := G7; clear z; go_at_call 34; go_must (refine (G7.out.bytes_ok (by have := HAL4.out; omega)).mono ?_); rintro r wb ⟨b, rfl, h1, h2, h3⟩; rw [HYY.out, ← HZ.out.1] at h2; rw [HZL.out]; have GB : Hid (w2.heap.size ≤ b ∧ Row .u8 5 wb b Z ∧ Below w2.heap.size w2 wb) := ⟨h1, h2, h3⟩; clear h1 h2 h3))
      go_ret2
      refine ⟨some ⟨b, 0, none⟩, Z.length, rfl, own_row GB.out.2.1 (by have := GB.out.1; have := H2.out.2.2; omega) (by have := HZ.out.2; unfold maxLen; omega), (gb_below H2.out.2.1).trans (GB.out.2.2.mono H2.out.2.1.size)⟩
  · have hz : updZ q c n k key val ver = [] := if_neg hE
    rw [hz]
    generalize updE q c n k key val ver = E at *
    have hEn : (E != 0) = true := by simp [hE]
    clear hE hz
    go_enter Try.func29, Try.ntmps29
    go_wp2_with (first
      | (refine wpList_load_bk 27 rfl (.tmp 1) rfl Try.underlying27 rfl infoUpd w.heap.size _ rfl H0.out.1 rfl ?_)
      | (go_at_call 46; refine (Calls.mono (HC.out _) ?_); rintro r w2 ⟨rfl, h2⟩; have H2 : Hid (w.grownBy w2 none) := gb_trans H0.out.2 h2; clear h2))
    go_ret2
    exact ⟨none, 0, rfl, own_nil _ _, gb_below H2.out⟩
end Go.Proofs.Ytfbbaodhlniiiaa.Dl
