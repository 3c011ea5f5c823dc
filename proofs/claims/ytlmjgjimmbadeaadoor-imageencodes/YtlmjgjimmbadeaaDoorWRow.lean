/-
  What the Writer's Row answers. Condition: what is laid down takes at most 2^47 bytes.
-/
import Derived.Test.YtlmjgjimmbadeaaDoorFb
import Derived.BigQuiet
import Derived.Deep.RegionHeld3
import Derived.Deep.QuietTactic
namespace Go.Proofs.YtlmjgjimmbadeaaDoor
open Go.RowKit
set_option linter.unusedVariables false

set_option maxRecDepth 20000 in
set_option maxHeartbeats 20000000 in
theorem wrow_c (g : Nat) (ys : List Int) (e : Int) (key val : ByteArray) (ver : Int) (fs : List Nat) (w : World) (h : WS w g ys e fs) (hk : key.size ≤ 1125899906842) (hv : val.size ≤ 1125899906842) (hn : ver ≤ 9223372036854775807)
    (hb : ys.length + key.size + val.size + 40 ≤ 140737488355328) :
    Calls Tryd.prog 40 #[.pointer (some ⟨g, 0, none⟩), .agg #[.string key, .string val, .int .i64 ver]] w fun r w' => r = .returned (.tuple #[]) ∧ WGoes w g fs w' (wadd (ferr e (wre key val ver)) ys (rowB key val ver)) (ferr e (wre key val ver)) := by
  have HW : Hid (WS w g ys e fs) := h
  have HR : Hid (∀ w, w.cell? ⟨g, 0, none⟩ = some (.int .i64 e) → Calls Tryd.prog 71 #[.pointer (some ⟨g, 0, none⟩)] w fun r w' => r = .returned (.bool (e == 0)) ∧ w' = w) := fun w h => wready_c g e w h
  obtain ⟨N, hN⟩ : ∃ N, N = w.heap.size := ⟨_, rfl⟩
  by_cases he : e = 0
  · subst he
    obtain ⟨CS, hCS⟩ : ∃ CS : Array Value, CS = #[.string key, .string val, .int .i64 ver] := ⟨_, rfl⟩
    have HM1 : Hid (∀ (w1 : World) (x : Int) (b : Bool), WBeside w g fs N CS w1 ys 0 → (x == 0) = false → b = false → Calls Tryd.prog 72 #[.pointer (some ⟨g, 0, none⟩), .bool b, .int .i64 x] w1 fun r w' => r = .returned (.bool false) ∧ WBeside w g fs N CS w' ys x) := by
      intro w1 x b h hx hb
      obtain ⟨f1, h1, nx⟩ := h.next
      refine (wmust_no g ys f1 w1 h1 x b hx hb).mono ?_
      rintro r w' ⟨rfl, h2, h3⟩
      exact ⟨rfl, nx _ _ _ h3⟩
    have HM2 : Hid (∀ (w1 : World) (x : Int) (b : Bool), WBeside w g fs N CS w1 ys 0 → b = true → Calls Tryd.prog 72 #[.pointer (some ⟨g, 0, none⟩), .bool b, .int .i64 x] w1 fun r w' => r = .returned (.bool true) ∧ w' = w1) := by
      intro w1 x b h hb
      obtain ⟨f1, h1, nx⟩ := h.next
      exact wmust_so g ys f1 w1 h1 x b hb
    have HM3 : Hid (∀ (w1 : World) (b : Bool), WBeside w g fs N CS w1 ys 32 → Calls Tryd.prog 72 #[.pointer (some ⟨g, 0, none⟩), .bool b, .int .i64 31] w1 fun r w' => r = .returned (.bool false) ∧ w' = w1) := by
      intro w1 b h
      obtain ⟨f1, h1, nx⟩ := h.next
      exact wmust_late g w1 32 31 b (by decide) h1.c0
    have hek : (enc key.size).length ≤ 10 := by rw [enc_length _ (by omega)]; exact (sz_bd _).2
    have hev : (enc val.size).length ≤ 10 := by rw [enc_length _ (by omega)]; exact (sz_bd _).2
    have hsk := sb_length key
    have hsv := sb_length val
    have HT1 : Hid (key.size ≤ 1024 → ∀ w1, WBeside w g fs N CS w1 ys 0 → Calls Tryd.prog 75 #[.pointer (some ⟨g, 0, none⟩), .string key, .int .i64 1024] w1 fun r w' => r = .returned (.tuple #[]) ∧ WBeside w g fs N CS w' (ys ++ (enc key.size ++ sb key)) 0) := by
      intro h0 w1 h
      obtain ⟨f1, h1, nx⟩ := h.next
      have := wtext_c g ys 0 key 1024 f1 w1 h1 hk (by omega)
      rw [show ferr 0 (wte key.size 1024) = 0 from by rw [ferr, if_pos rfl, wte, if_neg (by omega), if_neg (by omega)]] at this
      exact this.mono (fun _ _ ⟨a, b⟩ => ⟨a, nx _ _ _ b⟩)
    have HT2 : Hid (val.size ≤ 65536 → ∀ w1, WBeside w g fs N CS w1 (ys ++ (enc key.size ++ sb key)) 0 → Calls Tryd.prog 75 #[.pointer (some ⟨g, 0, none⟩), .string val, .int .i64 65536] w1 fun r w' => r = .returned (.tuple #[]) ∧ WBeside w g fs N CS w' (ys ++ (enc key.size ++ sb key) ++ (enc val.size ++ sb val)) 0) := by
      intro h0 w1 h
      obtain ⟨f1, h1, nx⟩ := h.next
      have := wtext_c g _ 0 val 65536 f1 w1 h1 hv (by simp only [List.length_append]; omega)
      rw [show ferr 0 (wte val.size 65536) = 0 from by rw [ferr, if_pos rfl, wte, if_neg (by omega), if_neg (by omega)]] at this
      exact this.mono (fun _ _ ⟨a, b⟩ => ⟨a, nx _ _ _ b⟩)
    have HT3 : Hid (1 ≤ ver → ver ≤ 1152921504606846976 → ∀ w1, WBeside w g fs N CS w1 (ys ++ (enc key.size ++ sb key) ++ (enc val.size ++ sb val)) 0 → Calls Tryd.prog 38 #[.pointer (some ⟨g, 0, none⟩), .int .i64 ver, .int .i64 1152921504606846976] w1 fun r w' => r = .returned (.tuple #[]) ∧ WBeside w g fs N CS w' (ys ++ rowB key val ver) 0) := by
      intro h0 h00 w1 h
      obtain ⟨f1, h1, nx⟩ := h.next
      have := wint_c g _ 0 ver 1152921504606846976 f1 w1 h1 hn (by simp only [List.length_append]; omega)
      rw [show ferr 0 (wie ver 1152921504606846976) = 0 from by rw [ferr, if_pos rfl, wie, if_neg (by omega), if_neg (by omega)]] at this
      refine this.mono (fun _ _ ⟨a, b⟩ => ⟨a, ?_⟩)
      have := nx _ _ _ b
      rw [show wadd 0 (ys ++ (enc key.size ++ sb key) ++ (enc val.size ++ sb val)) (enc ver.toNat) = ys ++ rowB key val ver from by simp [wadd, rowB]] at this
      exact this
    have HE : Hid (wre key val ver = if key.size = 0 ∨ ver < 1 then 32 else if 1024 < key.size ∨ 65536 < val.size ∨ 1152921504606846976 < ver then 31 else 0) := rfl
    have HY0 : Hid (wadd 0 ys (rowB key val ver) = ys ++ rowB key val ver) := rfl
    have HYE : Hid (∀ E : Int, E ≠ 0 → wadd E ys (rowB key val ver) = ys) := fun E hE => wadd_err hE ys _
    obtain ⟨E, hE⟩ : ∃ E, E = wre key val ver := ⟨_, rfl⟩
    rw [← hE] at HE ⊢
    rw [show ferr 0 E = E from by rw [ferr, if_pos rfl]]
    obtain ⟨Y1, hY1⟩ : ∃ Y1, Y1 = ys ++ (enc key.size ++ sb key) := ⟨_, rfl⟩
    rw [← hY1] at HT1 HT2 HT3
    obtain ⟨Y2, hY2⟩ : ∃ Y2, Y2 = Y1 ++ (enc val.size ++ sb val) := ⟨_, rfl⟩
    rw [← hY2] at HT2 HT3
    obtain ⟨RB, hRB⟩ : ∃ RB, RB = rowB key val ver := ⟨_, rfl⟩
    rw [← hRB] at HT3 HY0 HYE ⊢
    have hem := key_empty key
    obtain ⟨KZ, hKZ⟩ : ∃ KZ, KZ = key.size := ⟨_, rfl⟩
    obtain ⟨VZ, hVZ⟩ : ∃ VZ, VZ = val.size := ⟨_, rfl⟩
    have hks : key.size = KZ := hKZ.symm
    have hvs : val.size = VZ := hVZ.symm
    rw [hks] at hem HE HT1 hk
    rw [hvs] at HE HT2 hv
    have HS : Hid (WBeside w g fs N CS (w.alloc (.cells CS 48)) ys 0) := by rw [hN]; exact WBeside.start h CS
    clear h hb hE hY1 hY2 hRB hek hev hsk hsv hKZ hVZ
    by_cases hA : KZ = 0
    · obtain rfl : E = 32 := by rw [HE.out, if_pos (.inl hA)]
      rw [decide_eq_true hA] at hem
      rw [HYE.out 32 (by decide)]
      clear HE HT1 HT2 HT3

      go_enter Tryd.func40, Tryd.ntmps40
      go_wp2_with fail
      rw [← hN, ← hCS]
      generalize hW1 : World.alloc w _ = W1
      have H1 : Hid (WBeside w g fs N CS W1 ys 0) := by rw [← hW1]; exact HS.out
      obtain ⟨a0, a1, a2, a3⟩ := H1.out.cells hCS
      replace hCS : Hid _ := hCS
      clear hW1 hN HW HS
      refine (HR.out W1 a3).mono ?_
      rintro r w1 ⟨rfl, rfl⟩
      go_wp2_with fail
      have H1d : Hid (WBeside w g fs N CS w1.drew ys 0) := H1.out.drew

      first | go_region_with (go_at_call 72; refine (HM1.out _ 32 _ H1d.out (by decide) ?_).mono ?_; (first | rfl | (simp; omega)); rintro _ w2 ⟨rfl, h2⟩; have H2 : Hid (WBeside w g fs N CS w2 ys 32) := h2; clear h2) | fail
      obtain ⟨b0, b1, b2, b3⟩ := WBeside.cells H2.out hCS.out
      clear a0 a1 a2 a3 H1 H1d
      have H2d : Hid (WBeside w g fs N CS w2.drew ys 32) := H2.out.drew
      go_wp2_with fail
      try (generalize decide ((VZ : Int) ≤ 65536) = sv; cases sv)
      all_goals
        first | go_region_with (go_at_call 72; refine (HM3.out _ _ H2d.out).mono ?_; rintro _ w3 ⟨rfl, rfl⟩) | fail
        go_wp2
        go_end0
        exact ⟨rfl, H2d.out.goes⟩
    · rw [decide_eq_false hA] at hem
      by_cases hB : ver < 1
      · obtain rfl : E = 32 := by rw [HE.out, if_pos (.inr hB)]
        by_cases hK : KZ ≤ 1024
        · skip
          rw [HYE.out 32 (by decide)]
          clear HE HT1 HT2 HT3

          go_enter Tryd.func40, Tryd.ntmps40
          go_wp2_with fail
          rw [← hN, ← hCS]
          generalize hW1 : World.alloc w _ = W1
          have H1 : Hid (WBeside w g fs N CS W1 ys 0) := by rw [← hW1]; exact HS.out
          obtain ⟨a0, a1, a2, a3⟩ := H1.out.cells hCS
          replace hCS : Hid _ := hCS
          clear hW1 hN HW HS
          refine (HR.out W1 a3).mono ?_
          rintro r w1 ⟨rfl, rfl⟩
          go_wp2_with fail
          have H1d : Hid (WBeside w g fs N CS w1.drew ys 0) := H1.out.drew

          first | go_region_with (go_at_call 72; refine (HM1.out _ 32 _ H1d.out (by decide) ?_).mono ?_; (first | rfl | (simp; omega)); rintro _ w2 ⟨rfl, h2⟩; have H2 : Hid (WBeside w g fs N CS w2 ys 32) := h2; clear h2) | fail
          obtain ⟨b0, b1, b2, b3⟩ := WBeside.cells H2.out hCS.out
          clear a0 a1 a2 a3 H1 H1d
          have H2d : Hid (WBeside w g fs N CS w2.drew ys 32) := H2.out.drew
          go_wp2_with fail
          try (generalize decide ((VZ : Int) ≤ 65536) = sv; cases sv)
          all_goals
            first | go_region_with (go_at_call 72; refine (HM3.out _ _ H2d.out).mono ?_; rintro _ w3 ⟨rfl, rfl⟩) | fail
            go_wp2
            go_end0
            exact ⟨rfl, H2d.out.goes⟩
        · skip
          rw [HYE.out 32 (by decide)]
          clear HE HT1 HT2 HT3

          go_enter Tryd.func40, Tryd.ntmps40
          go_wp2_with fail
          rw [← hN, ← hCS]
          generalize hW1 : World.alloc w _ = W1
          have H1 : Hid (WBeside w g fs N CS W1 ys 0) := by rw [← hW1]; exact HS.out
          obtain ⟨a0, a1, a2, a3⟩ := H1.out.cells hCS
          replace hCS : Hid _ := hCS
          clear hW1 hN HW HS
          refine (HR.out W1 a3).mono ?_
          rintro r w1 ⟨rfl, rfl⟩
          go_wp2_with fail
          have H1d : Hid (WBeside w g fs N CS w1.drew ys 0) := H1.out.drew

          first | go_region_with (go_at_call 72; refine (HM1.out _ 32 _ H1d.out (by decide) ?_).mono ?_; (first | rfl | (simp; omega)); rintro _ w2 ⟨rfl, h2⟩; have H2 : Hid (WBeside w g fs N CS w2 ys 32) := h2; clear h2) | fail
          obtain ⟨b0, b1, b2, b3⟩ := WBeside.cells H2.out hCS.out
          clear a0 a1 a2 a3 H1 H1d
          have H2d : Hid (WBeside w g fs N CS w2.drew ys 32) := H2.out.drew
          go_wp2_with fail
          try (generalize decide ((VZ : Int) ≤ 65536) = sv; cases sv)
          all_goals
            first | go_region_with (go_at_call 72; refine (HM3.out _ _ H2d.out).mono ?_; rintro _ w3 ⟨rfl, rfl⟩) | fail
            go_wp2
            go_end0
            exact ⟨rfl, H2d.out.goes⟩
      · have hB1 : 1 ≤ ver := by omega
        by_cases hK : KZ ≤ 1024
        · by_cases hV : VZ ≤ 65536
          · by_cases hS : ver ≤ 1152921504606846976
            · obtain rfl : E = 0 := by rw [HE.out, if_neg (by omega), if_neg (by omega)]
              rw [HY0.out]
              clear HE
              replace HT1 := HT1.out hK
              replace HT2 := HT2.out hV
              replace HT3 := HT3.out (by omega) hS
              replace HT1 : Hid _ := HT1
              replace HT2 : Hid _ := HT2
              replace HT3 : Hid _ := HT3

              go_enter Tryd.func40, Tryd.ntmps40
              go_wp2_with fail
              rw [← hN, ← hCS]
              generalize hW1 : World.alloc w _ = W1
              have H1 : Hid (WBeside w g fs N CS W1 ys 0) := by rw [← hW1]; exact HS.out
              obtain ⟨a0, a1, a2, a3⟩ := H1.out.cells hCS
              replace hCS : Hid _ := hCS
              clear hW1 hN HW HS
              refine (HR.out W1 a3).mono ?_
              rintro r w1 ⟨rfl, rfl⟩
              go_wp2_with fail
              have H1d : Hid (WBeside w g fs N CS w1.drew ys 0) := H1.out.drew

              first | go_region_with (go_at_call 72; refine (HM2.out _ 32 _ H1d.out ?_).mono ?_; (first | rfl | (simp; omega)); rintro _ w2 ⟨rfl, rfl⟩) | fail
              have H2d : Hid (WBeside w g fs N CS w1.drew.drew ys 0) := H1d.out.drew
              go_wp2_with fail

              first | go_region_with (go_at_call 72; refine (HM2.out _ 31 _ H2d.out ?_).mono ?_; (first | rfl | (simp; omega)); rintro _ w3 ⟨rfl, rfl⟩) | fail
              go_wp2_with fail
              refine (HT1.out _ (by first | exact H2d.out | exact H2d.out.drew)).mono ?_
              rintro _ w4 ⟨rfl, h4⟩
              have H4 : Hid (WBeside w g fs N CS w4 Y1 0) := h4
              obtain ⟨d0, d1, d2, d3⟩ := WBeside.cells H4.out hCS.out
              clear h4 a0 a1 a2 a3 H1 H1d H2d
              go_wp2_with fail
              refine (HT2.out _ (by first | exact H4.out | exact H4.out.drew)).mono ?_
              rintro _ w5 ⟨rfl, h5⟩
              have H5 : Hid (WBeside w g fs N CS w5 Y2 0) := h5
              obtain ⟨f0, f1, f2, f3⟩ := WBeside.cells H5.out hCS.out
              clear h5 d0 d1 d2 d3 H4
              go_wp2_with fail
              refine (HT3.out _ (by first | exact H5.out | exact H5.out.drew)).mono ?_
              rintro _ w6 ⟨rfl, h6⟩
              have H6 : Hid (WBeside w g fs N CS w6 (ys ++ RB) 0) := h6
              clear h6 f0 f1 f2 f3 H5
              go_wp2
              go_end0
              exact ⟨rfl, H6.out.goes⟩
            · obtain rfl : E = 31 := by rw [HE.out, if_neg (by omega), if_pos (by omega)]
              rw [HYE.out 31 (by decide)]
              clear HE HT1 HT2 HT3

              go_enter Tryd.func40, Tryd.ntmps40
              go_wp2_with fail
              rw [← hN, ← hCS]
              generalize hW1 : World.alloc w _ = W1
              have H1 : Hid (WBeside w g fs N CS W1 ys 0) := by rw [← hW1]; exact HS.out
              obtain ⟨a0, a1, a2, a3⟩ := H1.out.cells hCS
              replace hCS : Hid _ := hCS
              clear hW1 hN HW HS
              refine (HR.out W1 a3).mono ?_
              rintro r w1 ⟨rfl, rfl⟩
              go_wp2_with fail
              have H1d : Hid (WBeside w g fs N CS w1.drew ys 0) := H1.out.drew

              first | go_region_with (go_at_call 72; refine (HM2.out _ 32 _ H1d.out ?_).mono ?_; (first | rfl | (simp; omega)); rintro _ w2 ⟨rfl, rfl⟩) | fail
              have H2d : Hid (WBeside w g fs N CS w1.drew.drew ys 0) := H1d.out.drew
              go_wp2_with fail

              first | go_region_with (go_at_call 72; refine (HM1.out _ 31 _ H2d.out (by decide) ?_).mono ?_; (first | rfl | (simp; omega)); rintro _ w3 ⟨rfl, h3⟩; have H3 : Hid (WBeside w g fs N CS w3 ys 31) := h3; clear h3) | fail
              go_wp2
              go_end0
              exact ⟨rfl, H3.out.goes⟩
          · obtain rfl : E = 31 := by rw [HE.out, if_neg (by omega), if_pos (by omega)]
            rw [HYE.out 31 (by decide)]
            clear HE HT1 HT2 HT3

            go_enter Tryd.func40, Tryd.ntmps40
            go_wp2_with fail
            rw [← hN, ← hCS]
            generalize hW1 : World.alloc w _ = W1
            have H1 : Hid (WBeside w g fs N CS W1 ys 0) := by rw [← hW1]; exact HS.out
            obtain ⟨a0, a1, a2, a3⟩ := H1.out.cells hCS
            replace hCS : Hid _ := hCS
            clear hW1 hN HW HS
            refine (HR.out W1 a3).mono ?_
            rintro r w1 ⟨rfl, rfl⟩
            go_wp2_with fail
            have H1d : Hid (WBeside w g fs N CS w1.drew ys 0) := H1.out.drew

            first | go_region_with (go_at_call 72; refine (HM2.out _ 32 _ H1d.out ?_).mono ?_; (first | rfl | (simp; omega)); rintro _ w2 ⟨rfl, rfl⟩) | fail
            have H2d : Hid (WBeside w g fs N CS w1.drew.drew ys 0) := H1d.out.drew
            go_wp2_with fail

            first | go_region_with (go_at_call 72; refine (HM1.out _ 31 _ H2d.out (by decide) ?_).mono ?_; (first | rfl | (simp; omega)); rintro _ w3 ⟨rfl, h3⟩; have H3 : Hid (WBeside w g fs N CS w3 ys 31) := h3; clear h3) | fail
            go_wp2
            go_end0
            exact ⟨rfl, H3.out.goes⟩
        · obtain rfl : E = 31 := by rw [HE.out, if_neg (by omega), if_pos (by omega)]
          rw [HYE.out 31 (by decide)]
          clear HE HT1 HT2 HT3

          go_enter Tryd.func40, Tryd.ntmps40
          go_wp2_with fail
          rw [← hN, ← hCS]
          generalize hW1 : World.alloc w _ = W1
          have H1 : Hid (WBeside w g fs N CS W1 ys 0) := by rw [← hW1]; exact HS.out
          obtain ⟨a0, a1, a2, a3⟩ := H1.out.cells hCS
          replace hCS : Hid _ := hCS
          clear hW1 hN HW HS
          refine (HR.out W1 a3).mono ?_
          rintro r w1 ⟨rfl, rfl⟩
          go_wp2_with fail
          have H1d : Hid (WBeside w g fs N CS w1.drew ys 0) := H1.out.drew

          first | go_region_with (go_at_call 72; refine (HM2.out _ 32 _ H1d.out ?_).mono ?_; (first | rfl | (simp; omega)); rintro _ w2 ⟨rfl, rfl⟩) | fail
          have H2d : Hid (WBeside w g fs N CS w1.drew.drew ys 0) := H1d.out.drew
          go_wp2_with fail

          first | go_region_with (go_at_call 72; refine (HM1.out _ 31 _ H2d.out (by decide) ?_).mono ?_; (first | rfl | (simp; omega)); rintro _ w3 ⟨rfl, h3⟩; have H3 : Hid (WBeside w g fs N CS w3 ys 31) := h3; clear h3) | fail
          go_wp2
          go_end0
          exact ⟨rfl, H3.out.goes⟩
  · have hbq : (e == 0) = false := by simp [he]
    have HE : Hid (ferr e (wre key val ver) = e) := by show _ = _; rw [ferr, if_neg he]
    rw [HE.out, wadd_err he]
    rw [hbq] at HR
    have HS : Hid (WBeside w g fs N #[.string key, .string val, .int .i64 ver] (w.alloc (.cells #[.string key, .string val, .int .i64 ver] 48)) ys e) := by rw [hN]; exact WBeside.start h _
    clear he HE h hb
    go_enter Tryd.func40, Tryd.ntmps40
    go_wp2_with fail
    generalize hW1 : World.alloc w _ = W1
    have H1 : Hid (WBeside w g fs N #[.string key, .string val, .int .i64 ver] W1 ys e) := by rw [← hW1]; exact HS.out
    clear hW1 HS
    refine (HR.out W1 (H1.out.cells rfl).2.2.2).mono ?_
    rintro r w1 ⟨rfl, rfl⟩
    go_wp2
    first | go_end0 | (simp only [Exit.inBlock, Exit.then]; refine bodyPost_ret (results_none rfl _ _ _) rfl ?_) | refine bodyPost_ret (results_none rfl _ _ _) rfl ?_
    exact ⟨rfl, H1.out.goes⟩
end Go.Proofs.YtlmjgjimmbadeaaDoor
