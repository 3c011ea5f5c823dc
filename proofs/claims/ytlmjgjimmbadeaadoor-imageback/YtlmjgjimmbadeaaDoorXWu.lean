/-
  What the document's Writer's Text, Digest, Row and Bytes answer. Condition: what is laid down takes at most 2^47 bytes.
-/
import Derived.Test.YtlmjgjimmbadeaaDoorXWt
import Derived.Test.YtlmjgjimmbadeaaDoorFa
namespace Go.Proofs.YtlmjgjimmbadeaaDoor
open Go.RowKit
set_option linter.unusedVariables false

set_option maxRecDepth 20000 in
theorem xwtext_c (B g : Nat) (v : Value) (ys : List Int) (e : Int) (s : ByteArray) (most : Int) (F : Option Nat) (w : World) (h : XW B w g v ys e F) (hs : s.size ≤ 1125899906842) (hb : ys.length + s.size + 10 ≤ 140737488355328) :
    Calls Tryd.prog 66 #[.pointer (some ⟨g, 0, none⟩), .string s, .int .i64 most] w fun r w' => r = .returned (.tuple #[]) ∧ XGoes B w g F w' (wadd (ferr e (wte s.size most)) ys (enc s.size ++ sb s)) (ferr e (wte s.size most)) := by
  obtain ⟨i0, hi, hz0, hz1, hz2⟩ := info_parts Tryd.infoU8
  have HI : Hid (Tryd.prog.info? 5 = some i0 ∧ i0.zero = some (.int .u8 0) ∧ i0.size = 1 ∧ i0.bytes = 1) := ⟨hi, hz0, hz1, hz2⟩
  clear hi hz0 hz1 hz2
  have HW : Hid (XW B w g v ys e F) := h
  have HC : Hid (∀ w, Calls Tryd.prog 64 #[.int .u64 (s.size : Int)] w fun e w' => ∃ g n cap, e = .returned (.slice (some ⟨g, 0, none⟩) n cap) ∧ Mine w' w.heap.size g n cap (enc s.size) ∧ Below w.heap.size w w') := fun w => by
    have := bytes_c (s.size : Int) (by omega) (by omega) w
    rw [Int.toNat_natCast] at this; exact this
  have HEL : Hid ((enc s.size).length ≤ 10) := by
    show _ ≤ _
    rw [enc_length _ (by omega)]
    exact (sz_bd _).2
  have HL : Hid (s.size ≤ 140737488355328 ∧ ys.length + s.size + 10 ≤ 140737488355328) := ⟨by omega, hb⟩
  obtain ⟨E, hE⟩ : ∃ E, E = wte s.size most := ⟨_, rfl⟩
  rw [← hE]
  have HF : Hid (∀ w v F, XW B w g v ys e F → Calls Tryd.prog 65 #[.pointer (some ⟨g, 0, none⟩), .int .i64 E] w fun r w' => r = .returned (.tuple #[]) ∧ XGoes B w g F w' ys (ferr e E)) := fun w v F h => xwfail_c B g v ys e E F w h
  obtain ⟨E1, hE1⟩ : ∃ E1, E1 = ferr e E := ⟨_, rfl⟩
  rw [← hE1] at HF ⊢
  have HLY : Hid (∀ w v F g1 n1 c1, XW B w g v ys E1 F → Seg .u8 w (some ⟨g1, 0, none⟩) n1 (enc s.size ++ sb s) → Calls Tryd.prog 99 #[.pointer (some ⟨g, 0, none⟩), .slice (some ⟨g1, 0, none⟩) n1 c1] w fun r w' => r = .returned (.tuple #[]) ∧ XGoes B w g F w' (wadd E1 ys (enc s.size ++ sb s)) E1) := by
    intro w v F g1 n1 c1 h hsg
    have hln : n1 ≤ s.size + 10 := by
      have := hsg.1
      rw [List.length_append, sb_length] at this
      have := HEL.out; omega
    refine xlay_c B g v ys E1 F _ n1 c1 _ w h hsg ?_ (fun h => by cases h) (by omega)
    apply bytes_of_mem
    intro c hc
    rcases List.mem_append.1 hc with hc | hc
    · exact enc_bytes _ c hc
    · obtain ⟨u, _, rfl⟩ := List.mem_map.1 hc
      have := u.toNat_lt; omega
  obtain ⟨Y1, hY1⟩ : ∃ Y1, Y1 = wadd E1 ys (enc s.size ++ sb s) := ⟨_, rfl⟩
  rw [← hY1] at HLY ⊢
  have HE0 : Hid (E = 0 → E1 = e) := fun h => by rw [hE1, h, ferr_zero]
  obtain ⟨S, hS⟩ : ∃ S, S = s.size := ⟨_, rfl⟩
  have hsS : s.size = S := hS.symm
  have hSb : S ≤ 1125899906842 := by omega
  rw [hsS] at HC HEL HLY HL hE
  clear h hb hE1 hY1 hS hs
  by_cases h0 : most < 0
  · obtain rfl : E = 1 := by rw [hE, wte, if_pos h0]
    clear hE HE0
    go_enter Tryd.func66, Tryd.ntmps66
    go_wp2_with fail
    refine (HF.out w v F HW.out).mono ?_
    rintro r w1 ⟨rfl, v1, F1, hw1⟩
    have H1 : Hid (XStep B w g F w1 v1 ys E1 F1) := hw1
    clear hw1
    go_wp2_with fail
    refine (HC.out w1).mono ?_
    rintro r w2 ⟨g1, n1, c1, rfl, hm, hbl⟩
    have H2 : Hid (Mine w2 w1.heap.size g1 n1 c1 (enc S) ∧ Below w1.heap.size w1 w2) := ⟨hm, hbl⟩
    obtain ⟨W3, C, hcv, hM3, hB3⟩ := str_bytes s w2 (by rw [hsS]; exact HL.out.1)
    rw [hsS] at hcv hM3
    have H3 : Hid (Mine W3 w2.heap.size w2.heap.size S C (sb s) ∧ Below w2.heap.size w2 W3) := ⟨hM3, hB3⟩
    have H4 : Hid (Mine W3 w1.heap.size g1 n1 c1 (enc S)) := H2.out.1.later H3.out.2
    have HN : Hid (n1 + S ≤ 140737488355328) := by
      have := HL.out; have := HEL.out; have := H2.out.1.len; show _ ≤ _; omega
    clear hm hbl hM3 hB3
    go_wp2_with (at_builtin; go_must (refine wpList_append_mine _ rfl (.tmp 20) (.tmp 22) 27 rfl 5 i0 Tryd.underlying27 HI.out.1 HI.out.2.1 HI.out.2.2.1 HI.out.2.2.2 w1.heap.size g1 n1 c1 (enc S) rfl H4.out (some ⟨w2.heap.size, 0, none⟩) S C (sb s) rfl (fun h => by cases h) H3.out.1.seg HN.out ?_); intro b' cap' w4 hm4 hb4; have H5 : Hid (Seg .u8 w4 (some ⟨b', 0, none⟩) (n1 + S) (enc S ++ sb s) ∧ w1.grownBy w4 none) := ⟨hm4.seg, grownBy_below (H2.out.2.trans ((H3.out.2.mono H2.out.2.size).trans hb4)) _⟩; clear hm4 hb4)
    refine (HLY.out w4 v1 F1 b' (n1 + S) cap' (H1.out.1.new H5.out.2) H5.out.1).mono ?_
    rintro r w5 ⟨rfl, h5⟩
    have H6 : Hid (XGoes B w g F w5 Y1 E1) := H1.out.seq (XGoes.pre H5.out.2 h5)
    clear h5
    go_wp2
    go_end0
    exact ⟨rfl, H6.out⟩
  · by_cases h1 : most < (S : Int)
    · obtain rfl : E = 31 := by rw [hE, wte, if_neg h0, if_pos h1]
      clear hE HE0
      go_enter Tryd.func66, Tryd.ntmps66
      go_wp2_with fail
      refine (HF.out w v F HW.out).mono ?_
      rintro r w1 ⟨rfl, v1, F1, hw1⟩
      have H1 : Hid (XStep B w g F w1 v1 ys E1 F1) := hw1
      clear hw1
      go_wp2_with fail
      refine (HC.out w1).mono ?_
      rintro r w2 ⟨g1, n1, c1, rfl, hm, hbl⟩
      have H2 : Hid (Mine w2 w1.heap.size g1 n1 c1 (enc S) ∧ Below w1.heap.size w1 w2) := ⟨hm, hbl⟩
      obtain ⟨W3, C, hcv, hM3, hB3⟩ := str_bytes s w2 (by rw [hsS]; exact HL.out.1)
      rw [hsS] at hcv hM3
      have H3 : Hid (Mine W3 w2.heap.size w2.heap.size S C (sb s) ∧ Below w2.heap.size w2 W3) := ⟨hM3, hB3⟩
      have H4 : Hid (Mine W3 w1.heap.size g1 n1 c1 (enc S)) := H2.out.1.later H3.out.2
      have HN : Hid (n1 + S ≤ 140737488355328) := by
        have := HL.out; have := HEL.out; have := H2.out.1.len; show _ ≤ _; omega
      clear hm hbl hM3 hB3
      go_wp2_with (at_builtin; go_must (refine wpList_append_mine _ rfl (.tmp 20) (.tmp 22) 27 rfl 5 i0 Tryd.underlying27 HI.out.1 HI.out.2.1 HI.out.2.2.1 HI.out.2.2.2 w1.heap.size g1 n1 c1 (enc S) rfl H4.out (some ⟨w2.heap.size, 0, none⟩) S C (sb s) rfl (fun h => by cases h) H3.out.1.seg HN.out ?_); intro b' cap' w4 hm4 hb4; have H5 : Hid (Seg .u8 w4 (some ⟨b', 0, none⟩) (n1 + S) (enc S ++ sb s) ∧ w1.grownBy w4 none) := ⟨hm4.seg, grownBy_below (H2.out.2.trans ((H3.out.2.mono H2.out.2.size).trans hb4)) _⟩; clear hm4 hb4)
      refine (HLY.out w4 v1 F1 b' (n1 + S) cap' (H1.out.1.new H5.out.2) H5.out.1).mono ?_
      rintro r w5 ⟨rfl, h5⟩
      have H6 : Hid (XGoes B w g F w5 Y1 E1) := H1.out.seq (XGoes.pre H5.out.2 h5)
      clear h5
      go_wp2
      go_end0
      exact ⟨rfl, H6.out⟩
    · obtain rfl : E = 0 := by rw [hE, wte, if_neg h0, if_neg h1]
      obtain rfl := HE0.out rfl
      clear hE HE0
      go_enter Tryd.func66, Tryd.ntmps66
      go_wp2_with fail
      refine (HC.out w).mono ?_
      rintro r w2 ⟨g1, n1, c1, rfl, hm, hbl⟩
      have H2 : Hid (Mine w2 w.heap.size g1 n1 c1 (enc S) ∧ Below w.heap.size w w2) := ⟨hm, hbl⟩
      obtain ⟨W3, C, hcv, hM3, hB3⟩ := str_bytes s w2 (by rw [hsS]; exact HL.out.1)
      rw [hsS] at hcv hM3
      have H3 : Hid (Mine W3 w2.heap.size w2.heap.size S C (sb s) ∧ Below w2.heap.size w2 W3) := ⟨hM3, hB3⟩
      have H4 : Hid (Mine W3 w.heap.size g1 n1 c1 (enc S)) := H2.out.1.later H3.out.2
      have HN : Hid (n1 + S ≤ 140737488355328) := by
        have := HL.out; have := HEL.out; have := H2.out.1.len; show _ ≤ _; omega
      clear hm hbl hM3 hB3
      go_wp2_with (at_builtin; go_must (refine wpList_append_mine _ rfl (.tmp 20) (.tmp 22) 27 rfl 5 i0 Tryd.underlying27 HI.out.1 HI.out.2.1 HI.out.2.2.1 HI.out.2.2.2 w.heap.size g1 n1 c1 (enc S) rfl H4.out (some ⟨w2.heap.size, 0, none⟩) S C (sb s) rfl (fun h => by cases h) H3.out.1.seg HN.out ?_); intro b' cap' w4 hm4 hb4; have H5 : Hid (Seg .u8 w4 (some ⟨b', 0, none⟩) (n1 + S) (enc S ++ sb s) ∧ w.grownBy w4 none) := ⟨hm4.seg, grownBy_below (H2.out.2.trans ((H3.out.2.mono H2.out.2.size).trans hb4)) _⟩; clear hm4 hb4)
      refine (HLY.out w4 v F b' (n1 + S) cap' (HW.out.new H5.out.2) H5.out.1).mono ?_
      rintro r w5 ⟨rfl, h5⟩
      have H6 : Hid (XGoes B w g F w5 Y1 E1) := XGoes.pre H5.out.2 h5
      clear h5
      go_wp2
      go_end0
      exact ⟨rfl, H6.out⟩
end Go.Proofs.YtlmjgjimmbadeaaDoor
