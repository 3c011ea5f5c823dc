/-
  What the document's Stream answers: what a splitter comes to of a stream. Condition: the bytes can be read, and are at most 2^40.
-/
import Derived.Test.YtegbgmihcokblaaDoorFSa
import Derived.Test.YtegbgmihcokblaaDoorFa
import Derived.Test.YtegbgmihcokblaaDoorRLg
namespace Go.Proofs.YtegbgmihcokblaaDoor
set_option linter.unusedVariables false
open Go.RowKit

theorem Tryd.infoSeen : (Tryd.prog.info? 38).map (·.size) = some 4 := by kernel_rfl
theorem sti_new (w : World) : StI w ((w.alloc (.cells #[.slice none 0 0, .int .i64 0, .int .i64 0, .int .i64 0] 38)).alloc (.cells #[.slice none 0 0, .int .i64 0, .int .i64 0, .int .i64 0] 38)) w.heap.size (.slice none 0 0) [] 0 0 0 := by
  have b1 : Below w.heap.size w (w.alloc (.cells #[.slice none 0 0, .int .i64 0, .int .i64 0, .int .i64 0] 38)) := (Below.refl _ _).alloc (Nat.le_refl _) _
  have h2 := heap_new (w.alloc (.cells #[.slice none 0 0, .int .i64 0, .int .i64 0, .int .i64 0] 38)) (.cells #[.slice none 0 0, .int .i64 0, .int .i64 0, .int .i64 0] 38)
  rw [show (w.alloc (.cells #[.slice none 0 0, .int .i64 0, .int .i64 0, .int .i64 0] 38)).heap.size = w.heap.size + 1 from by simp] at h2
  exact ⟨h2, Bk.below (T := 38) (heap_new w _) ((Below.refl _ _).alloc (Nat.le_refl _) _) (by simp), grl_nil _ _, b1.alloc (by simp) _⟩
theorem seen_one (a : Option Addr) (n c : Nat) (p j l : Int) : #[Value.slice a n c, .int .i64 p, .int .i64 j, .int .i64 l].all (·.oneCell') = true := by simp [Value.oneCell']
/-- The result's cell is written. -/
theorem sti_ret {w wr w4 : World} {N : Nat} {fv : Value} {L : List FrM} {p j l : Nat} (h : StI w wr N fv L p j l) (hg : wr.grownBy w4 (some N)) : GrL (fun k => N + 2 ≤ k) w4 fv L ∧ Below N w w4 := by
  have g : Gr (fun k => k = N) wr w4 := Gr.of hg (fun k hk => by cases hk; exact .inl rfl)
  exact ⟨h.fr.gr g (fun k z e => by omega), Gr.below h.bel g (fun k z => by omega) (by have := h.sz; omega)⟩
theorem range_newG (w : World) (x y : Value) : (w.alloc (.cells #[x, y] 43)).rangeAt w.heap.size 0 [x, y] := fun i v hv => by
  rw [Nat.zero_add, Bk.cell (T := 43) (heap_new w _) i]
  simpa using hv
set_option maxRecDepth 20000 in
set_option maxHeartbeats 8000000 in
theorem gstream_c (most : Nat) (a : Option Addr) (len cap : Nat) (xs : List Int) (en : Bool) (w : World) (hlc : len ≤ cap) (hs : Seg .u8 w a len xs) (hx : Bytes xs) (hl : len ≤ 1099511627776) (hm : most ≤ 1048576) :
    Calls Tryd.prog 15 #[.int .i64 (most : Int), .slice a len cap, .bool en] w fun r w' => ∃ fa fc cn L p j l, r = .returned (.agg #[.slice fa cn fc, .int .i64 ((p : Nat) : Int), .int .i64 ((j : Nat) : Int), .int .i64 ((l : Nat) : Int)]) ∧ L.length = cn ∧ StA most en xs w w' (.slice fa cn fc) L p j l := by
  have HLN : Hid (xs.length = len) := hs.1
  have HX : Hid (Seg .u8 w a len xs ∧ Bytes xs) := ⟨hs, hx⟩
  have H0 : Hid _ := sti_new w
  obtain ⟨N, hN⟩ : ∃ N, N = w.heap.size := ⟨_, rfl⟩
  rw [← hN] at H0
  clear hs hx
  go_enter Tryd.func15, Tryd.ntmps15
  go_wp2_with fail
  rw [← hN]
  have HN : Hid (N = w.heap.size) := hN
  clear hN
  generalize (w.alloc (.cells #[.slice none 0 0, .int .i64 0, .int .i64 0, .int .i64 0] 38)).alloc (.cells #[.slice none 0 0, .int .i64 0, .int .i64 0, .int .i64 0] 38) = W0 at H0 ⊢
  go_loopw [8] (fun _ wr => ∃ (fa : Option Addr) (fc cn p j l : Nat) (L : List FrM), p ≤ len ∧ Hid (StI w wr N (.slice fa cn fc) L p j l ∧ SeI most en xs L p j l ∧ L.length = cn)) (fun _ wr => len - sAt wr (N + 1))
  case atStart => exact ⟨none, 0, 0, 0, 0, 0, [], Nat.zero_le _, H0.out, sei_start _ _ _, rfl⟩
  case round =>
    clear H0
    obtain ⟨fa, fc, cn, p, j, l, L, hp, HS⟩ := hrel
    obtain ⟨c0, c1, c2, c3⟩ := HS.out.1.sb.cells
    by_cases hlt : p < len
    · have hci : (p : Int) < (len : Int) := by omega
      have hpx : p < xs.length := by rw [HLN.out]; exact hlt
      have hjb : j ≤ 1099511627776 ∧ l ≤ 1099511627776 ∧ cn ≤ 1099511627776 := by have := HS.out.2.1.lt; have := HS.out.2.2; omega
      obtain ⟨hjb, hlb, hcb⟩ := hjb
      obtain ⟨ys, hys⟩ : ∃ ys, ys = xs.drop p := ⟨_, rfl⟩
      obtain ⟨m, hm'⟩ : ∃ m, m = len - p := ⟨_, rfl⟩
      obtain ⟨ra, hra⟩ : ∃ ra, ra = cutB a cap p := ⟨_, rfl⟩
      obtain ⟨rc, hrc⟩ : ∃ rc, rc = cap - p := ⟨_, rfl⟩
      have hsl := slice_bl a len cap p hp
      rw [← hm', ← hra, ← hrc] at hsl
      have HBY : Hid (Bytes ys ∧ ys.length = m) := ⟨by rw [hys]; exact HX.out.2.drop _, by rw [hys, List.length_drop, HLN.out, hm']⟩
      have HSG : Hid (∀ W, Below N w W → Seg .u8 W ra m ys) := fun W hb => by
        rw [HN.out] at hb
        have := seg_cutB (HX.out.1.below hb) p len hp (Nat.le_refl _) hlc
        rw [List.take_of_length_le (by rw [HLN.out]; exact Nat.le_refl _), ← hys, ← hra, ← hm'] at this
        exact this
      have hm1 : 1 ≤ m := by omega
      have hmr : m ≤ rc := by omega
      have hml : m ≤ 1099511627776 := by omega
      have HYS : Hid (ys = xs.drop p) := hys
      have HPM : Hid (p + m = len ∧ p < xs.length) := ⟨by omega, hpx⟩
      have HJ : Hid (fmeet most ys ≠ 0 → ¬ (fmeet most ys = 40 ∧ en = false) → fmeet most ys ≠ 44 → SeI most en xs L (p + 1) (j + 1) l) := fun z1 z2 z3 => by
        rw [hys] at z1 z2 z3
        exact HS.out.2.1.junk hpx z1 z2 z3
      have hrcp : p + m ≤ 1099511627776 := by omega
      clear hys hm' hra hrc hpx
      cases q1 : fmagic ys with
      | false =>
        have HF : Hid (fmeet most ys = 41) := fmeet_beg (by unfold fbeg; rw [q1]; rfl) (by decide)
        have HJ2 : Hid (SeI most en xs L (p + 1) (j + 1) l) := HJ.out (by rw [HF.out]; decide) (fun z => by rw [HF.out] at z; exact absurd z.1 (by decide)) (by rw [HF.out]; decide)
        have z1 := HS.out.1.sb.free 1
        have z2 := HS.out.1.sb.free 2
        go_wp2_with (first
          | (go_at_call 38; go_must (refine (Calls.mono (front_c ra m rc ys wr (HSG.out wr HS.out.1.bel)) ?_)); rintro e w0 ⟨rfl, hw0⟩; obtain rfl := hw0.symm; clear hw0; rw [q1]))
        go_roundw
        case rel => exact ⟨fa, fc, cn, p + 1, j + 1, l, L, by omega, HS.out.1.junk, HJ2.out, HS.out.2.2⟩
        case measure => rw [sAt_is HS.out.1.junk.sb, sAt_is HS.out.1.sb]; omega
      | true =>
        by_cases l10 : m < 10
        · have HF : Hid (fmeet most ys = 40) := fmeet_beg (by unfold fbeg; rw [q1, HBY.out.2, if_neg (by decide), if_pos l10]) (by decide)
          have l10' : (m : Int) < 10 := by omega
          cases en with
          | false =>
            go_wp2_with (first
              | (go_at_call 38; go_must (refine (Calls.mono (front_c ra m rc ys wr (HSG.out wr HS.out.1.bel)) ?_)); rintro e w0 ⟨rfl, hw0⟩; obtain rfl := hw0.symm; clear hw0; rw [q1])
              | (refine wpList_load_bk 38 rfl (.tmp 7) rfl Tryd.underlying38 rfl Tryd.infoSeen (N + 1) _ rfl HS.out.1.sb rfl ?_)
              | (refine wpList_store_bk 38 rfl (.tmp 6) (.tmp 44) rfl Tryd.infoSeen N _ _ rfl rfl HS.out.1.rs rfl rfl (seen_one _ _ _ _ _ _) ?_; intro w4 h4 h4g; have H4 : Hid (Bk 38 w4 N #[.slice fa cn fc, .int .i64 (p : Int), .int .i64 (j : Int), .int .i64 (l : Int)] ∧ wr.grownBy w4 (some N)) := ⟨h4, h4g⟩; clear h4 h4g))
            refine bodyPost_ret (results_cell1 Tryd.results15 _ _ _ ⟨N, 0, none⟩ _ rfl (bk_load Tryd.underlying38 rfl Tryd.infoSeen H4.out.1 rfl)) rfl ?_
            exact ⟨fa, fc, cn, L, p, j, l, rfl, HS.out.2.2, sta_wait HS.out.2.1 HPM.out.2 (by rw [← HYS.out]; exact HF.out) (by rw [← HN.out]; exact (sti_ret HS.out.1 H4.out.2).1) (by rw [← HN.out]; exact (sti_ret HS.out.1 H4.out.2).2)⟩
          | true =>
            have HJ2 : Hid (SeI most true xs L (p + 1) (j + 1) l) := HJ.out (by rw [HF.out]; decide) (fun z => by cases z.2) (by rw [HF.out]; decide)
            have z1 := HS.out.1.sb.free 1
            have z2 := HS.out.1.sb.free 2
            go_wp2_with (first
              | (go_at_call 38; go_must (refine (Calls.mono (front_c ra m rc ys wr (HSG.out wr HS.out.1.bel)) ?_)); rintro e w0 ⟨rfl, hw0⟩; obtain rfl := hw0.symm; clear hw0; rw [q1]))
            go_roundw
            case rel => exact ⟨fa, fc, cn, p + 1, j + 1, l, L, by omega, HS.out.1.junk, HJ2.out, HS.out.2.2⟩
            case measure => rw [sAt_is HS.out.1.junk.sb, sAt_is HS.out.1.sb]; omega
        · have l10' : ¬ ((m : Int) < 10) := by omega
          cases q3 : fhead ys with
          | false =>
            have HG : Hid (glen ys = -1) := by show _ = _; unfold glen; rw [q3]; rfl
            have HF : Hid (fmeet most ys = 42) := fmeet_beg (by unfold fbeg; rw [q1, HBY.out.2, q3, if_neg (by decide), if_neg l10, if_pos rfl]) (by decide)
            have HJ2 : Hid (SeI most en xs L (p + 1) (j + 1) l) := HJ.out (by rw [HF.out]; decide) (fun z => by rw [HF.out] at z; exact absurd z.1 (by decide)) (by rw [HF.out]; decide)
            have z1 := HS.out.1.sb.free 1
            have z2 := HS.out.1.sb.free 2
            go_wp2_with (first
              | (go_at_call 38; go_must (refine (Calls.mono (front_c ra m rc ys wr (HSG.out wr HS.out.1.bel)) ?_)); rintro e w0 ⟨rfl, hw0⟩; obtain rfl := hw0.symm; clear hw0; rw [q1])
              | (go_at_call 39; go_must (refine (Calls.mono (glength_c ra m rc ys wr hmr (HSG.out wr HS.out.1.bel) HBY.out.1 (by omega) (by omega)) ?_)); rintro e w1 ⟨rfl, hb1⟩; rw [HG.out]; have H1 : Hid (StI w w1 N (.slice fa cn fc) L p j l) := HS.out.1.below hb1; obtain ⟨d0, d1, d2, d3⟩ := H1.out.sb.cells; have g1 := H1.out.sb.free 1; have g2 := H1.out.sb.free 2; have g3 := H1.out.sb.free 3; clear hb1))
            go_roundw
            case rel => exact ⟨fa, fc, cn, p + 1, j + 1, l, L, by omega, H1.out.junk, HJ2.out, HS.out.2.2⟩
            case measure => rw [sAt_is H1.out.junk.sb, sAt_is HS.out.1.sb]; omega
          | true =>
            obtain ⟨n, hn⟩ : ∃ n, n = flen ys := ⟨_, rfl⟩
            have HG : Hid (glen ys = (n : Int)) := by show _ = _; unfold glen; rw [q3, hn]; rfl
            have HFL : Hid (flen ys = n ∧ n < 16777216) := ⟨hn.symm, by rw [hn]; exact (flen_nn HBY.out.1).2⟩
            have hfl := HFL.out.2
            clear hn
            by_cases q4 : most < n
            · have HF : Hid (fmeet most ys = 43) := fmeet_beg (by unfold fbeg; rw [q1, HBY.out.2, q3, HFL.out.1, if_neg (by decide), if_neg l10, if_neg (by decide), if_pos q4]) (by decide)
              have q4' : (most : Int) < (n : Int) := by omega
              have HJ2 : Hid (SeI most en xs L (p + 1) (j + 1) l) := HJ.out (by rw [HF.out]; decide) (fun z => by rw [HF.out] at z; exact absurd z.1 (by decide)) (by rw [HF.out]; decide)
              have z1 := HS.out.1.sb.free 1
              have z2 := HS.out.1.sb.free 2
              go_wp2_with (first
                | (go_at_call 38; go_must (refine (Calls.mono (front_c ra m rc ys wr (HSG.out wr HS.out.1.bel)) ?_)); rintro e w0 ⟨rfl, hw0⟩; obtain rfl := hw0.symm; clear hw0; rw [q1])
                | (go_at_call 39; go_must (refine (Calls.mono (glength_c ra m rc ys wr hmr (HSG.out wr HS.out.1.bel) HBY.out.1 (by omega) (by omega)) ?_)); rintro e w1 ⟨rfl, hb1⟩; rw [HG.out]; have H1 : Hid (StI w w1 N (.slice fa cn fc) L p j l) := HS.out.1.below hb1; obtain ⟨d0, d1, d2, d3⟩ := H1.out.sb.cells; have g1 := H1.out.sb.free 1; have g2 := H1.out.sb.free 2; have g3 := H1.out.sb.free 3; clear hb1))
              go_roundw
              case rel => exact ⟨fa, fc, cn, p + 1, j + 1, l, L, by omega, H1.out.junk, HJ2.out, HS.out.2.2⟩
              case measure => rw [sAt_is H1.out.junk.sb, sAt_is HS.out.1.sb]; omega
            · have q4' : ¬ ((most : Int) < (n : Int)) := by omega
              by_cases q5 : m < n + 14
              · have HF : Hid (fmeet most ys = 40) := fmeet_beg (by unfold fbeg; rw [q1, HBY.out.2, q3, HFL.out.1, if_neg (by decide), if_neg l10, if_neg (by decide), if_neg q4, if_pos q5]) (by decide)
                have q5' : (m : Int) < (n : Int) + 14 := by omega
                cases en with
                | false =>
                  go_wp2_with (first
                    | (go_at_call 38; go_must (refine (Calls.mono (front_c ra m rc ys wr (HSG.out wr HS.out.1.bel)) ?_)); rintro e w0 ⟨rfl, hw0⟩; obtain rfl := hw0.symm; clear hw0; rw [q1])
                    | (go_at_call 39; go_must (refine (Calls.mono (glength_c ra m rc ys wr hmr (HSG.out wr HS.out.1.bel) HBY.out.1 (by omega) (by omega)) ?_)); rintro e w1 ⟨rfl, hb1⟩; rw [HG.out]; have H1 : Hid (StI w w1 N (.slice fa cn fc) L p j l) := HS.out.1.below hb1; obtain ⟨d0, d1, d2, d3⟩ := H1.out.sb.cells; have g1 := H1.out.sb.free 1; have g2 := H1.out.sb.free 2; have g3 := H1.out.sb.free 3; clear hb1)
                    | (refine wpList_load_bk 38 rfl (.tmp 7) rfl Tryd.underlying38 rfl Tryd.infoSeen (N + 1) _ rfl H1.out.sb rfl ?_)
                    | (refine wpList_store_bk 38 rfl (.tmp 6) (.tmp 44) rfl Tryd.infoSeen N _ _ rfl rfl H1.out.rs rfl rfl (seen_one _ _ _ _ _ _) ?_; intro w4 h4 h4g; have H4 : Hid (Bk 38 w4 N #[.slice fa cn fc, .int .i64 (p : Int), .int .i64 (j : Int), .int .i64 (l : Int)] ∧ w1.grownBy w4 (some N)) := ⟨h4, h4g⟩; clear h4 h4g))
                  refine bodyPost_ret (results_cell1 Tryd.results15 _ _ _ ⟨N, 0, none⟩ _ rfl (bk_load Tryd.underlying38 rfl Tryd.infoSeen H4.out.1 rfl)) rfl ?_
                  exact ⟨fa, fc, cn, L, p, j, l, rfl, HS.out.2.2, sta_wait HS.out.2.1 HPM.out.2 (by rw [← HYS.out]; exact HF.out) (by rw [← HN.out]; exact (sti_ret H1.out H4.out.2).1) (by rw [← HN.out]; exact (sti_ret H1.out H4.out.2).2)⟩
                | true =>
                  have HJ2 : Hid (SeI most true xs L (p + 1) (j + 1) l) := HJ.out (by rw [HF.out]; decide) (fun z => by cases z.2) (by rw [HF.out]; decide)
                  have z1 := HS.out.1.sb.free 1
                  have z2 := HS.out.1.sb.free 2
                  go_wp2_with (first
                    | (go_at_call 38; go_must (refine (Calls.mono (front_c ra m rc ys wr (HSG.out wr HS.out.1.bel)) ?_)); rintro e w0 ⟨rfl, hw0⟩; obtain rfl := hw0.symm; clear hw0; rw [q1])
                    | (go_at_call 39; go_must (refine (Calls.mono (glength_c ra m rc ys wr hmr (HSG.out wr HS.out.1.bel) HBY.out.1 (by omega) (by omega)) ?_)); rintro e w1 ⟨rfl, hb1⟩; rw [HG.out]; have H1 : Hid (StI w w1 N (.slice fa cn fc) L p j l) := HS.out.1.below hb1; obtain ⟨d0, d1, d2, d3⟩ := H1.out.sb.cells; have g1 := H1.out.sb.free 1; have g2 := H1.out.sb.free 2; have g3 := H1.out.sb.free 3; clear hb1))
                  go_roundw
                  case rel => exact ⟨fa, fc, cn, p + 1, j + 1, l, L, by omega, H1.out.junk, HJ2.out, HS.out.2.2⟩
                  case measure => rw [sAt_is H1.out.junk.sb, sAt_is HS.out.1.sb]; omega
              · have q5' : ¬ ((m : Int) < (n : Int) + 14) := by omega
                have hslc := slice_bh ra m rc (n + 14) (by omega)
                rw [show ((n + 14 : Nat) : Int) = (n : Int) + 14 from by omega] at hslc
                have HFB : Hid (fbeg most ys = 0) := by show _ = _; unfold fbeg; rw [q1, HBY.out.2, q3, HFL.out.1, if_neg (by decide), if_neg l10, if_neg (by decide), if_neg q4, if_neg q5]
                cases q6 : holds (ys.take (n + 14)) with
                | false =>
                  have HF : Hid (fmeet most ys = 44) := by show _ = _; unfold fmeet; rw [HFB.out, if_pos rfl, HFL.out.1, q6]; rfl
                  have HJ2 : Hid (SeI most en xs L (p + 1) (j + 1) (l + 1)) := HS.out.2.1.lost HPM.out.2 (by rw [← HYS.out]; exact HF.out)
                  go_wp2_with (first
                    | (go_at_call 38; go_must (refine (Calls.mono (front_c ra m rc ys wr (HSG.out wr HS.out.1.bel)) ?_)); rintro e w0 ⟨rfl, hw0⟩; obtain rfl := hw0.symm; clear hw0; rw [q1])
                    | (go_at_call 39; go_must (refine (Calls.mono (glength_c ra m rc ys wr hmr (HSG.out wr HS.out.1.bel) HBY.out.1 (by omega) (by omega)) ?_)); rintro e w1 ⟨rfl, hb1⟩; rw [HG.out]; have H1 : Hid (StI w w1 N (.slice fa cn fc) L p j l) := HS.out.1.below hb1; obtain ⟨d0, d1, d2, d3⟩ := H1.out.sb.cells; have g1 := H1.out.sb.free 1; have g2 := H1.out.sb.free 2; have g3 := H1.out.sb.free 3; clear hb1)
                    | (go_at_call 40; go_must (refine (Calls.mono (rholds_c ra (n + 14) rc (ys.take (n + 14)) w1 (by omega) (seg_headB (HSG.out w1 H1.out.bel) (by omega)) (HBY.out.1.take _) (by omega)) ?_)); rintro e w2 ⟨rfl, hb2⟩; rw [q6]; have H2 : Hid (StI w w2 N (.slice fa cn fc) L p j l) := H1.out.below hb2; obtain ⟨e0, e1, e2, e3⟩ := H2.out.sb.cells; have g1 := H2.out.sb.free 1; have g2 := H2.out.sb.free 2; have g3 := H2.out.sb.free 3; clear hb2))
                  go_roundw
                  case rel => exact ⟨fa, fc, cn, p + 1, j + 1, l + 1, L, by omega, H2.out.lost.junk, HJ2.out, HS.out.2.2⟩
                  case measure => rw [sAt_is H2.out.lost.junk.sb, sAt_is HS.out.1.sb]; omega
                | true =>
                  have HF : Hid (fmeet most ys = 0) := by show _ = _; unfold fmeet; rw [HFB.out, if_pos rfl, HFL.out.1, q6]; rfl
                  obtain ⟨b, o, hrab, hbw, hcl⟩ := (HSG.out wr HS.out.1.bel).cells (by omega)
                  obtain ⟨X2, hX2⟩ : ∃ X, X = ys[2]?.getD (0 : Int) := ⟨_, rfl⟩
                  have hbX : 0 ≤ X2 ∧ X2 < 256 := by rw [hX2]; exact HBY.out.1 2 (by have := HBY.out.2; omega)
                  have hbd : ((ys.take (10 + n)).drop 10) = fbody ys := by unfold fbody; rw [HFL.out.1, List.drop_take]; congr 1; omega
                  have hbl : (fbody ys).length = n := by have := HBY.out.2; rw [← hbd, List.length_drop, List.length_take]; omega
                  have HBD : Hid (∀ W, Below N w W → Seg .u8 W (cutB ra rc 10) n (fbody ys)) := fun W hb => by
                    have := seg_cutB (HSG.out W hb) 10 (10 + n) (by omega) (by omega) hmr
                    rw [hbd, show 10 + n - 10 = n from by omega] at this
                    exact this
                  have HCB : Hid (cutB ra rc 10 = some ⟨b, o + 10, none⟩) := by show _ = _; unfold cutB; rw [if_neg (by omega), hrab]; rfl
                  have HC2 : Hid (∀ W, Below N w W → W.cell? ⟨b, o + 2, none⟩ = some (.int .u8 X2)) := fun W hb => by
                    obtain ⟨b', o', e, _, hc'⟩ := (HSG.out W hb).cells (by omega)
                    rw [hrab] at e
                    cases e
                    rw [hX2]; exact hc' 2 (by omega)
                  have hsl2 := slice_blh ra m rc 10 (10 + n) (by omega) (by omega)
                  rw [HCB.out, show 10 + n - 10 = n from by omega, show ((10 + n : Nat) : Int) = 10 + (n : Int) from by omega, show ((10 : Nat) : Int) = 10 from rfl] at hsl2
                  replace hsl2 : Hid _ := hsl2
                  have HSF : Hid (∀ f : FrM, f.fr = (X2, fbody ys) → SeI most en xs (L ++ [f]) (p + (n + 14)) j l) := fun f hf => HS.out.2.1.found HPM.out.2 (by rw [← HYS.out]; exact HF.out) (by rw [← HYS.out]; exact HFL.out.1) (by rw [← HYS.out, ← hX2]; exact hf)
                  have HBL : Hid ((fbody ys).length = n) := hbl
                  have HRA : Hid (ra = some ⟨b, o, none⟩) := hrab
                  clear hrab hbw hcl hX2 hbd hbl
                  go_wp2_with (first
                    | (go_at_call 38; go_must (refine (Calls.mono (front_c ra m rc ys wr (HSG.out wr HS.out.1.bel)) ?_)); rintro e w0 ⟨rfl, hw0⟩; obtain rfl := hw0.symm; clear hw0; rw [q1])
                    | (go_at_call 39; go_must (refine (Calls.mono (glength_c ra m rc ys wr hmr (HSG.out wr HS.out.1.bel) HBY.out.1 (by omega) (by omega)) ?_)); rintro e w1 ⟨rfl, hb1⟩; rw [HG.out]; have H1 : Hid (StI w w1 N (.slice fa cn fc) L p j l) := HS.out.1.below hb1; obtain ⟨d0, d1, d2, d3⟩ := H1.out.sb.cells; have g1 := H1.out.sb.free 1; have g2 := H1.out.sb.free 2; have g3 := H1.out.sb.free 3; clear hb1)
                    | (go_at_call 40; go_must (refine (Calls.mono (rholds_c ra (n + 14) rc (ys.take (n + 14)) w1 (by omega) (seg_headB (HSG.out w1 H1.out.bel) (by omega)) (HBY.out.1.take _) (by omega)) ?_)); rintro e w2 ⟨rfl, hb2⟩; rw [q6]; have H2 : Hid (StI w w2 N (.slice fa cn fc) L p j l) := H1.out.below hb2; obtain ⟨e0, e1, e2, e3⟩ := H2.out.sb.cells; have g1 := H2.out.sb.free 1; have g2 := H2.out.sb.free 2; have g3 := H2.out.sb.free 3; clear hb2))
                  have HUB : Hid (∀ k, (Value.slice fa cn fc).ownBlock = some k → N + 2 ≤ k ∧ k < w2.heap.size) := fun k hk => ⟨H2.out.fr.fv k hk, (own_lt H2.out.fr.own k hk).2⟩
                  have HK : Hid (∀ W, w2.grownBy W (Value.slice fa cn fc).ownBlock → Sb W (N + 1) (.slice fa cn fc) p j l ∧ Sb W N (.slice none 0 0) 0 0 0 ∧ Below N w W) := fun W hg => by
                    have g : Gr (fun k => (Value.slice fa cn fc).ownBlock = some k) w2 W := Gr.of hg (fun k hk => .inl hk)
                    exact ⟨Bk.gr H2.out.sb g (fun z => by have := (HUB.out _ z).1; omega), Bk.gr H2.out.rs g (fun z => by have := (HUB.out _ z).1; omega), Gr.below H2.out.bel g (fun k z => by have := (HUB.out k z).1; omega) (by have := H2.out.sz; omega)⟩
                  have HR : Hid (∀ W, w2.grownBy W none → W.ownsRow 0 43 2 (.slice fa cn fc) cn (flF L)) := fun W hg => by
                    have := own_gr H2.out.fr.own (Gr.of (G := fun _ => False) hg (by simp)) (fun _ _ z => z)
                    rw [HS.out.2.2] at this
                    exact this
                  have HE : Hid (∀ W1 W2 W3 G C ua uc, w2.grownBy W1 none → Own w2.heap.size W1 (.slice ua n uc) n (fbody ys) → W1.grownBy W2 (Value.slice fa cn fc).ownBlock → W2.ownsRow 0 43 2 (.slice (some ⟨G, 0, none⟩) (cn + 1) C) (cn + 1) (flF L ++ [.int .i64 X2, .slice ua n uc]) → ((Value.slice fa cn fc).ownBlock = some G ∨ W1.heap.size ≤ G) → Sb W3 (N + 1) (.slice (some ⟨G, 0, none⟩) (cn + 1) C) ((p + (n + 14) : Nat) : Int) j l → Gr (fun k => k = N + 1) W2 W3 → ∃ L', StI w W3 N (.slice (some ⟨G, 0, none⟩) (cn + 1) C) L' (p + (n + 14)) j l ∧ SeI most en xs L' (p + (n + 14)) j l ∧ L'.length = cn + 1) := by
                    intro W1 W2 W3 G C ua uc k1 k2 k3 k4 k5 k6 k7
                    have hk := HK.out W2 (gb_trans (gb_wide k1 _) k3)
                    have hlc2 := HS.out.2.2
                    have hfr := grl_app (f := ⟨X2, fbody ys, .slice ua n uc⟩) H2.out.fr H2.out.sz k1 (by show Own w2.heap.size W1 (.slice ua n uc) (fbody ys).length (fbody ys); rw [HBL.out]; exact k2) k3 (by rw [hlc2]; exact k4) (fun k hk => by cases hk; exact k5)
                    refine ⟨L ++ [⟨X2, fbody ys, .slice ua n uc⟩], ⟨k6, Bk.gr hk.2.1 k7 (fun z => by omega), hfr.gr k7 (fun k z e => by omega), Gr.below hk.2.2 k7 (fun k z => by omega) ?_⟩, HSF.out _ rfl, by rw [List.length_append, hlc2]; rfl⟩
                    have := k1.size; have := k3.size; have := H2.out.sz; omega
                  have HPN : Hid (p + (n + 14) ≤ len) := by have := HPM.out.1; show _ ≤ _; omega
                  have HM0 : Hid (∀ W, w2.grownBy W none → Below N w W) := fun W hg => (HK.out W (gb_wide hg _)).2.2
                  have HCB2 : Hid (cutB (some ⟨b, o, none⟩) rc 10 = some ⟨b, o + 10, none⟩) := by rw [← HRA.out]; exact HCB.out
                  have hrab := HRA.out
                  subst hrab
                  clear HSG HBY HJ HX H1 HFB hsl hslc HSF HCB
                  refine wp_region_lastB (fun a b => World.grownBy a b (Value.slice fa cn fc).ownBlock) (fun a b => World.grownBy a b none) (fun a b => World.grownBy a b (Value.slice fa cn fc).ownBlock) (fun _ _ _ h k => gb_trans h k) (fun _ _ h => gb_wide h _) (fun _ _ h => h) ⟨rfl, rfl, rfl, Nat.le_refl _, fun _ _ _ => rfl⟩ (fun _ _ _ h k => gb_trans h k) ⟨rfl, rfl, rfl, Nat.le_refl _, fun _ _ _ => rfl⟩ 15 13 rfl (by kernel_rfl) [56, 57, 58, 59, 60, 61, 62, 63, 64, 65, 66, 67, 68, 69, 70, 100015] [[], [0], [], [2], [3], [4], [], [], [7], [6, 8], [9], [5, 10], [11], [1, 12], [], [14, 13]] (by kernel_rfl) (by kernel_rfl) [0, 1, 2, 3, 4, 5, 6, 7, 8, 9, 10, 11, 12] (by kernel_rfl) [fun u W => u = .pointer (some ⟨N + 1, 0, none⟩), fun u W => u = .slice fa cn fc, fun u W => u = .slice (some ⟨b, o, none⟩) m rc, fun u W => u = .pointer (some ⟨b, o + 2, none⟩), fun u W => u = .int .u8 X2, fun u W => u = .int .i64 X2, fun u W => u = .slice (some ⟨b, o, none⟩) m rc, fun u W => u = .int .i64 (n : Int), fun u W => u = .int .i64 (10 + (n : Int)), fun u W => u = .slice (some ⟨b, o + 10, none⟩) n (rc - 10), fun u Wo => ∃ ua uc, u = .slice ua n uc ∧ Own w2.heap.size Wo (.slice ua n uc) n (fbody ys), fun u Wo => ∃ ua uc, u = .agg #[.int .i64 X2, .slice ua n uc] ∧ Own w2.heap.size Wo (.slice ua n uc) n (fbody ys), fun u Wo => ∃ B ua uc, u = .slice (some ⟨B, 0, none⟩) 1 1 ∧ Wo.rangeAt B 0 [.int .i64 X2, .slice ua n uc] ∧ w2.heap.size ≤ B ∧ B < Wo.heap.size ∧ Own w2.heap.size Wo (.slice ua n uc) n (fbody ys), fun u Wo => ∃ G C ua uc W1, u = .slice (some ⟨G, 0, none⟩) (cn + 1) C ∧ Wo.ownsRow 0 43 2 (.slice (some ⟨G, 0, none⟩) (cn + 1) C) (cn + 1) (flF L ++ [.int .i64 X2, .slice ua n uc]) ∧ w2.grownBy W1 none ∧ Own w2.heap.size W1 (.slice ua n uc) n (fbody ys) ∧ W1.grownBy Wo (Value.slice fa cn fc).ownBlock ∧ ((Value.slice fa cn fc).ownBlock = some G ∨ W1.heap.size ≤ G), fun u W => u = .pointer (some ⟨N + 1, 0, none⟩)] ?stable ?stableA ?step ?last
                  case stable =>
                    intro i v W W' h hg
                    match i, h with
                    | 0, h => exact h
                    | 1, h => exact h
                    | 2, h => exact h
                    | 3, h => exact h
                    | 4, h => exact h
                    | 5, h => exact h
                    | 6, h => exact h
                    | 7, h => exact h
                    | 8, h => exact h
                    | 9, h => exact h
                    | 10, h => obtain ⟨ua, uc, h1, h2⟩ := h; exact ⟨ua, uc, h1, own_gr h2 (Gr.of (G := fun _ => False) hg (by simp)) (fun _ _ z => z)⟩
                    | 11, h => obtain ⟨ua, uc, h1, h2⟩ := h; exact ⟨ua, uc, h1, own_gr h2 (Gr.of (G := fun _ => False) hg (by simp)) (fun _ _ z => z)⟩
                    | 12, h => obtain ⟨B, ua, uc, h1, h2, h3, h4, h5⟩ := h; exact ⟨B, ua, uc, h1, range_gb h2 hg (by simp) h4, h3, Nat.lt_of_lt_of_le h4 hg.size, own_gr h5 (Gr.of (G := fun _ => False) hg (by simp)) (fun _ _ z => z)⟩
                    | 13, h => obtain ⟨G, C, ua, uc, W1, h1, h2, h3, h4, h5, h6⟩ := h; exact ⟨G, C, ua, uc, W1, h1, own_gr h2 (Gr.of (G := fun _ => False) hg (by simp)) (fun _ _ z => z), h3, h4, gb_trans h5 (gb_wide hg _), h6⟩
                    | 14, h => exact h
                    | i + 15, h => exact trivial
                  case stableA =>
                    intro i v W W' hne hnu h hg
                    have hgG : Gr (fun k => (Value.slice fa cn fc).ownBlock = some k) W W' := Gr.of hg (fun k hk => .inl hk)
                    match i, hne, h with
                    | 0, _, h => exact h
                    | 1, _, h => exact h
                    | 2, _, h => exact h
                    | 3, _, h => exact h
                    | 4, _, h => exact h
                    | 5, _, h => exact h
                    | 6, _, h => exact h
                    | 7, _, h => exact h
                    | 8, _, h => exact h
                    | 9, _, h => exact h
                    | 10, _, h => obtain ⟨ua, uc, h1, h2⟩ := h; exact ⟨ua, uc, h1, own_gr h2 hgG (fun k hk e => by have h7 := (own_lt h2 k hk).1; have h8 := (HUB.out k e).2; omega)⟩
                    | 11, _, h => obtain ⟨ua, uc, h1, h2⟩ := h; exact ⟨ua, uc, h1, own_gr h2 hgG (fun k hk e => by have h7 := (own_lt h2 k hk).1; have h8 := (HUB.out k e).2; omega)⟩
                    | 12, _, h => obtain ⟨B, ua, uc, h1, h2, h3, h4, h5⟩ := h; exact ⟨B, ua, uc, h1, range_gb h2 hg (fun e => by have h8 := (HUB.out B e).2; omega) h4, h3, Nat.lt_of_lt_of_le h4 hg.size, own_gr h5 hgG (fun k hk e => by have h7 := (own_lt h5 k hk).1; have h8 := (HUB.out k e).2; omega)⟩
                    | 13, hne, _ => exact absurd rfl hne
                    | 14, _, h => exact h
                    | i + 15, _, h => exact trivial
                  case step =>
                    intro f W A hA hg i o hin ho hu K hK
                    match i, hin, ho, hu, hK with
                    | 0, hin, ho, hu, hK =>
                      cases ho
                      have e7 : A.eval (.tmp 7) = .pointer (some ⟨N + 1, 0, none⟩) := ev_out hA 7 rfl
                      exact ph_field _ _ _ rfl rfl _ (.pointer (some ⟨N + 1, 0, none⟩)) e7 (by kernel_rfl) (hK _ _ (gb_rr W _) rfl)
                    | 1, hin, ho, hu, hK =>
                      cases ho
                      have e56 : A.eval (.tmp 56) = .pointer (some ⟨N + 1, 0, none⟩) := (ev_in hA 56 0 rfl rfl rfl).trans (show f 0 = .pointer (some ⟨N + 1, 0, none⟩) from hu 0 (by decide))
                      have hc : W.cell? ⟨N + 1, 0, none⟩ = some (.slice fa cn fc) := (HK.out W hg).1.cells.1
                      refine ph_sem rfl rfl (r := .ok (.value (.slice fa cn fc)) W) ?_ (hK _ _ (gb_rr W _) rfl)
                      have eC : ∀ c, A.eval (.const c) = c := fun _ => rfl; have eF : ∀ g, A.eval (.func g) = .func (.func g) #[] #[] := fun _ => rfl; generalize A.eval = ρ at *
                      clear hA hu hg
                      go_simp
                    | 2, hin, ho, hu, hK =>
                      cases ho
                      have e8 : A.eval (.tmp 8) = .slice (some ⟨b, o, none⟩) m rc := ev_out hA 8 rfl
                      exact ph_move _ rfl rfl (.slice (some ⟨b, o, none⟩) m rc) e8 (hK _ _ (gb_rr W _) rfl)
                    | 3, hin, ho, hu, hK =>
                      cases ho
                      have e58 : A.eval (.tmp 58) = .slice (some ⟨b, o, none⟩) m rc := (ev_in hA 58 2 rfl rfl rfl).trans (show f 2 = .slice (some ⟨b, o, none⟩) m rc from hu 2 (by decide))
                      have q8 : (2 : Int) < (m : Int) := by omega
                      have q9 : ¬ ((m : Int) ≤ 2) := by omega
                      refine ph_sem rfl rfl (r := .ok (.value (.pointer (some ⟨b, o + 2, none⟩))) W) ?_ (hK _ _ (gb_rr W _) rfl)
                      have eC : ∀ c, A.eval (.const c) = c := fun _ => rfl; have eF : ∀ g, A.eval (.func g) = .func (.func g) #[] #[] := fun _ => rfl; generalize A.eval = ρ at *
                      clear hA hu hg hK hin
                      go_simp
                    | 4, hin, ho, hu, hK =>
                      cases ho
                      have e59 : A.eval (.tmp 59) = .pointer (some ⟨b, o + 2, none⟩) := (ev_in hA 59 3 rfl rfl rfl).trans (show f 3 = .pointer (some ⟨b, o + 2, none⟩) from hu 3 (by decide))
                      have hc : W.cell? ⟨b, o + 2, none⟩ = some (.int .u8 X2) := HC2.out W (HM0.out W (hin.2 (.inr (by decide))))
                      refine ph_sem rfl rfl (r := .ok (.value (.int .u8 X2)) W) ?_ (hK _ _ (gb_rr W _) rfl)
                      have eC : ∀ c, A.eval (.const c) = c := fun _ => rfl; have eF : ∀ g, A.eval (.func g) = .func (.func g) #[] #[] := fun _ => rfl; generalize A.eval = ρ at *
                      clear hA hu hg hK hin
                      go_simp
                    | 5, hin, ho, hu, hK =>
                      cases ho
                      have e60 : A.eval (.tmp 60) = .int .u8 X2 := (ev_in hA 60 4 rfl rfl rfl).trans (show f 4 = .int .u8 X2 from hu 4 (by decide))
                      have z3 : IntKind.i64.wrap X2 = X2 := IntWalk.i64_in _ ⟨by omega, by omega⟩
                      have z4 : wrap64 X2 = X2 := IntWalk.wrap64_in _ ⟨by omega, by omega⟩
                      refine ph_sem rfl rfl (r := .ok (.value (.int .i64 X2)) W) ?_ (hK _ _ (gb_rr W _) rfl)
                      have eC : ∀ c, A.eval (.const c) = c := fun _ => rfl; have eF : ∀ g, A.eval (.func g) = .func (.func g) #[] #[] := fun _ => rfl; generalize A.eval = ρ at *
                      clear hA hu hg hK hin
                      go_simp
                    | 6, hin, ho, hu, hK =>
                      cases ho
                      have e8 : A.eval (.tmp 8) = .slice (some ⟨b, o, none⟩) m rc := ev_out hA 8 rfl
                      exact ph_move _ rfl rfl (.slice (some ⟨b, o, none⟩) m rc) e8 (hK _ _ (gb_rr W _) rfl)
                    | 7, hin, ho, hu, hK =>
                      cases ho
                      have e9 : A.eval (.tmp 9) = .int .i64 (n : Int) := ev_out hA 9 rfl
                      exact ph_move _ rfl rfl (.int .i64 (n : Int)) e9 (hK _ _ (gb_rr W _) rfl)
                    | 8, hin, ho, hu, hK =>
                      cases ho
                      have e63 : A.eval (.tmp 63) = .int .i64 (n : Int) := (ev_in hA 63 7 rfl rfl rfl).trans (show f 7 = .int .i64 (n : Int) from hu 7 (by decide))
                      have z3 : IntKind.i64.wrap (10 + (n : Int)) = 10 + (n : Int) := IntWalk.i64_in _ ⟨by omega, by omega⟩
                      have z4 : wrap64 (10 + (n : Int)) = 10 + (n : Int) := IntWalk.wrap64_in _ ⟨by omega, by omega⟩
                      refine ph_sem rfl rfl (r := .ok (.value (.int .i64 (10 + (n : Int)))) W) ?_ (hK _ _ (gb_rr W _) rfl)
                      have eC : ∀ c, A.eval (.const c) = c := fun _ => rfl; have eF : ∀ g, A.eval (.func g) = .func (.func g) #[] #[] := fun _ => rfl; generalize A.eval = ρ at *
                      clear hA hu hg hK hin
                      go_simp
                    | 9, hin, ho, hu, hK =>
                      cases ho
                      have e62 : A.eval (.tmp 62) = .slice (some ⟨b, o, none⟩) m rc := (ev_in hA 62 6 rfl rfl rfl).trans (show f 6 = .slice (some ⟨b, o, none⟩) m rc from hu 6 (by decide))
                      have e64 : A.eval (.tmp 64) = .int .i64 (10 + (n : Int)) := (ev_in hA 64 8 rfl rfl rfl).trans (show f 8 = .int .i64 (10 + (n : Int)) from hu 8 (by decide))
                      have hsl := hsl2.out W
                      refine ph_sem rfl rfl (r := .ok (.value (.slice (some ⟨b, o + 10, none⟩) n (rc - 10))) W) ?_ (hK _ _ (gb_rr W _) rfl)
                      have eC : ∀ c, A.eval (.const c) = c := fun _ => rfl; have eF : ∀ g, A.eval (.func g) = .func (.func g) #[] #[] := fun _ => rfl; generalize A.eval = ρ at *
                      clear hA hu hg hK hin
                      go_simp
                    | 10, hin, ho, hu, hK =>
                      cases ho
                      have e65 : A.eval (.tmp 65) = .slice (some ⟨b, o + 10, none⟩) n (rc - 10) := (ev_in hA 65 9 rfl rfl rfl).trans (show f 9 = .slice (some ⟨b, o + 10, none⟩) n (rc - 10) from hu 9 (by decide))
                      refine step_append_body rfl (.const (.slice none 0 0)) (.tmp 65) rfl ⟨b, o + 10, none⟩ n (rc - 10) (fbody ys) rfl e65 (by have := HBD.out W (HM0.out W (hin.2 (.inr (by decide)))); rw [HCB2.out] at this; exact this) (by omega) ?_
                      intro ua uc W' k1 hq
                      exact hK _ _ hq ⟨ua, uc, rfl, k1.base (hin.2 (.inr (by decide))).size⟩
                    | 11, hin, ho, hu, hK =>
                      cases ho
                      have e61 : A.eval (.tmp 61) = .int .i64 X2 := (ev_in hA 61 5 rfl rfl rfl).trans (show f 5 = .int .i64 X2 from hu 5 (by decide))
                      obtain ⟨ua, uc, hv10, ho10⟩ := hu 10 (by decide)
                      have e66 : A.eval (.tmp 66) = .slice ua n uc := (ev_in hA 66 10 rfl rfl rfl).trans hv10
                      refine ph_sem rfl rfl (r := .ok (.value (.agg #[.int .i64 X2, .slice ua n uc])) W) ?_ (hK _ _ (gb_rr W _) ⟨ua, uc, rfl, ho10⟩)
                      have eC : ∀ c, A.eval (.const c) = c := fun _ => rfl; have eF : ∀ g, A.eval (.func g) = .func (.func g) #[] #[] := fun _ => rfl; generalize A.eval = ρ at *
                      clear hA hu hg hK hin
                      go_simp
                    | 12, hin, ho, hu, hK =>
                      cases ho
                      obtain ⟨ua, uc, hv11, ho11⟩ := hu 11 (by decide)
                      have e67 : A.eval (.tmp 67) = .agg #[.int .i64 X2, .slice ua n uc] := (ev_in hA 67 11 rfl rfl rfl).trans hv11
                      refine ph_sem rfl rfl (r := .ok (.value (.slice (some ⟨W.heap.size, 0, none⟩) 1 1)) (W.alloc (.cells #[.int .i64 X2, .slice ua n uc] 43))) ?_ (hK _ _ (World.grownBy_alloc _ _ _) ⟨_, ua, uc, rfl, range_newG _ _ _, hg.size, by simp, own_gr ho11 ((Gr.refl (fun _ => False) W).alloc _) (fun _ _ z => z)⟩)
                      have eC : ∀ c, A.eval (.const c) = c := fun _ => rfl; have eF : ∀ g, A.eval (.func g) = .func (.func g) #[] #[] := fun _ => rfl; generalize A.eval = ρ at *
                      clear hA hu hg hK hin
                      go_simp
                    | 13, hin, ho, hu, hK =>
                      cases ho
                      have e57 : A.eval (.tmp 57) = .slice fa cn fc := (ev_in hA 57 1 rfl rfl rfl).trans (show f 1 = .slice fa cn fc from hu 1 (by decide))
                      obtain ⟨B, ua, uc, hv12, hr12, hm12, hl12, ho12⟩ := hu 12 (by decide)
                      have e68 : A.eval (.tmp 68) = .slice (some ⟨B, 0, none⟩) 1 1 := (ev_in hA 68 12 rfl rfl rfl).trans hv12
                      obtain ⟨i3, hi3, hz3, hs3, hb3⟩ := info_parts' Tryd.infoGFrm
                      refine step_append_lies _ rfl (.tmp 57) (.tmp 68) 36 rfl 0 43 i3 (.agg #[.int .i64 0, .slice none 0 0]) 2 32 Tryd.underlying36 hi3 hz3 hs3 hb3 rfl (by decide) (.slice fa cn fc) cn (flF L) e57 (HR.out W (hin.2 (.inl rfl))) ⟨B, 0, none⟩ 1 1 [.int .i64 X2, .slice ua n uc] e68 rfl (fun j u hj => by rw [Go.WideShapes.add_plain]; exact hr12 j u hj) (by intro u hu; simp at hu; rcases hu with rfl | rfl <;> rfl) (by decide) (by unfold maxLen; omega) (by omega) (Nat.zero_le _) _ rfl ?_
                      intro G C W2 k1 k2 k3 k4
                      exact hK _ _ k2 ⟨G, C, ua, uc, W, rfl, k1, hin.2 (.inl rfl), ho12, k2, k3.imp id (fun e => by rw [e]; exact Nat.le_refl _)⟩
                    | 14, hin, ho, hu, hK =>
                      cases ho
                      have e7 : A.eval (.tmp 7) = .pointer (some ⟨N + 1, 0, none⟩) := ev_out hA 7 rfl
                      exact ph_field _ _ _ rfl rfl _ (.pointer (some ⟨N + 1, 0, none⟩)) e7 (by kernel_rfl) (hK _ _ (gb_rr W _) rfl)
                    | i + 15, hin, ho, hu, hK => omega
                  case last =>
                    intro f W A hA hg hu o ho K hK
                    cases ho
                    obtain ⟨G, C, ua, uc, W1, hv13, ho13, hw13, hb13, hx13, hG13⟩ := hu 13 (by decide)
                    obtain ⟨B, _, _, hv12, _, _, _, _⟩ := hu 12 (by decide)
                    obtain ⟨ua11, uc11, hv11, _⟩ := hu 11 (by decide)
                    obtain ⟨ua10, uc10, hv10, _⟩ := hu 10 (by decide)
                    have e69 : A.eval (.tmp 69) = .slice (some ⟨G, 0, none⟩) (cn + 1) C := (ev_in hA 69 13 rfl rfl rfl).trans hv13
                    have e70 : A.eval (.tmp 70) = .pointer (some ⟨N + 1, 0, none⟩) := (ev_in hA 70 14 rfl rfl rfl).trans (show f 14 = .pointer (some ⟨N + 1, 0, none⟩) from hu 14 (by decide))
                    have hSP : Sb W (N + 1) (.slice fa cn fc) p j l := (HK.out W hg).1
                    have hcc : W.cell? ⟨N + 1, 0, none⟩ = some (.slice fa cn fc) := hSP.cells.1
                    have hff : W.frozen? ⟨N + 1, 0, none⟩ = false := hSP.free 0
                    refine ph_sem rfl rfl (r := .ok .skip (W.setCell ⟨N + 1, 0, none⟩ (.slice (some ⟨G, 0, none⟩) (cn + 1) C))) ?_ (hK _ _ ?_)
                    · have eC : ∀ c, A.eval (.const c) = c := fun _ => rfl
                      generalize A.eval = ρ at *
                      clear hA hu hg hK
                      go_simp
                    have HSP : Hid (Sb (W.setCell ⟨N + 1, 0, none⟩ (.slice (some ⟨G, 0, none⟩) (cn + 1) C)) (N + 1) (.slice (some ⟨G, 0, none⟩) (cn + 1) C) p j l) := hSP.set0 _
                    have HFE : Hid (∀ W3, Sb W3 (N + 1) (.slice (some ⟨G, 0, none⟩) (cn + 1) C) ((p + (n + 14) : Nat) : Int) j l → Gr (fun k => k = N + 1) W W3 → ∃ L', StI w W3 N (.slice (some ⟨G, 0, none⟩) (cn + 1) C) L' (p + (n + 14)) j l ∧ SeI most en xs L' (p + (n + 14)) j l ∧ L'.length = cn + 1) := fun W3 z1 z2 => HE.out W1 W W3 G C ua uc hw13 hb13 hx13 ho13 hG13 z1 z2
                    have hA2 := hA.trans (putAll_lit [(.pointer (some ⟨N + 1, 0, none⟩)), (.slice fa cn fc), (.slice (some ⟨b, o, none⟩) m rc), (.pointer (some ⟨b, o + 2, none⟩)), (.int .u8 X2), (.int .i64 X2), (.slice (some ⟨b, o, none⟩) m rc), (.int .i64 (n : Int)), (.int .i64 (10 + (n : Int))), (.slice (some ⟨b, o + 10, none⟩) n (rc - 10)), (.slice ua10 n uc10), (.agg #[.int .i64 X2, .slice ua11 n uc11]), (.slice (some ⟨B, 0, none⟩) 1 1), (.slice (some ⟨G, 0, none⟩) (cn + 1) C), (.pointer (some ⟨N + 1, 0, none⟩)), (f 15)] (by
                      intro j hj
                      match j, hj with
                      | 0, _ => exact hu 0 (by decide)
                      | 1, _ => exact hu 1 (by decide)
                      | 2, _ => exact hu 2 (by decide)
                      | 3, _ => exact hu 3 (by decide)
                      | 4, _ => exact hu 4 (by decide)
                      | 5, _ => exact hu 5 (by decide)
                      | 6, _ => exact hu 6 (by decide)
                      | 7, _ => exact hu 7 (by decide)
                      | 8, _ => exact hu 8 (by decide)
                      | 9, _ => exact hu 9 (by decide)
                      | 10, _ => exact hv10
                      | 11, _ => exact hv11
                      | 12, _ => exact hv12
                      | 13, _ => exact hv13
                      | 14, _ => exact hu 14 (by decide)
                      | 15, _ => rfl
                      | j + 16, hj => exact absurd hj (by simp)))
                    clear hu hA
                    subst hA2
                    simp only [putAll, putL, List.mem_cons, List.not_mem_nil, List.idxOf_cons, Nat.reduceEqDiff, Nat.reduceBEq, Nat.reduceAdd, or_false, or_true, reduceIte, cond_true, cond_false, List.getD_cons_zero, List.getD_cons_succ, BEq.rfl]
                    clear e69 e70 hSP hcc hff hg ho13 hw13 hb13 hx13 hG13 hv13 hv12 hv11 hv10 HE HK HR HBD HC2 hsl2
                    have HG9 : Hid (Gr (fun k => k = N + 1) W (W.setCell ⟨N + 1, 0, none⟩ (.slice (some ⟨G, 0, none⟩) (cn + 1) C))) := (Gr.refl (fun k => k = N + 1) W).set (N + 1) 0 rfl _
                    generalize W.setCell ⟨N + 1, 0, none⟩ (.slice (some ⟨G, 0, none⟩) (cn + 1) C) = W9 at HSP HG9 ⊢
                    have k1 := HSP.out.cells.2.1
                    have f1 := HSP.out.free 1
                    have HPI : Hid (((p + (n + 14) : Nat) : Int) = (p : Int) + (n : Int) + 14) := by show _ = _; omega
                    go_wp2_with fail
                    have HFI : Hid (∃ L', StI w (W9.setCell ⟨N + 1, 1, none⟩ (.int .i64 ((p : Int) + (n : Int) + 14))) N (.slice (some ⟨G, 0, none⟩) (cn + 1) C) L' (p + (n + 14)) j l ∧ SeI most en xs L' (p + (n + 14)) j l ∧ L'.length = cn + 1) := HFE.out _ (by rw [HPI.out]; exact HSP.out.set1 _) (HG9.out.set (N + 1) 1 rfl _)
                    go_roundw
                    case rel =>
                      obtain ⟨L', z1, z2, z3⟩ := HFI.out
                      exact ⟨some ⟨G, 0, none⟩, C, cn + 1, p + (n + 14), j, l, L', HPN.out, z1, z2, z3⟩
                    case measure =>
                      obtain ⟨L', z1, _, _⟩ := HFI.out
                      rw [sAt_is z1.sb, sAt_is HS.out.1.sb]; omega
    · have hci : ¬ ((p : Int) < (len : Int)) := by omega
      go_wp2_with (first
        | (refine wpList_load_bk 38 rfl (.tmp 7) rfl Tryd.underlying38 rfl Tryd.infoSeen (N + 1) _ rfl HS.out.1.sb rfl ?_)
        | (refine wpList_store_bk 38 rfl (.tmp 6) (.tmp 89) rfl Tryd.infoSeen N _ _ rfl rfl HS.out.1.rs rfl rfl (seen_one _ _ _ _ _ _) ?_; intro w4 h4 h4g; have H4 : Hid (Bk 38 w4 N #[.slice fa cn fc, .int .i64 (p : Int), .int .i64 (j : Int), .int .i64 (l : Int)] ∧ wr.grownBy w4 (some N)) := ⟨h4, h4g⟩; clear h4 h4g))
      refine bodyPost_ret (results_cell1 Tryd.results15 _ _ _ ⟨N, 0, none⟩ _ rfl (bk_load Tryd.underlying38 rfl Tryd.infoSeen H4.out.1 rfl)) rfl ?_
      exact ⟨fa, fc, cn, L, p, j, l, rfl, HS.out.2.2, sta_end HS.out.2.1 (by rw [HLN.out]; omega) (by rw [← HN.out]; exact (sti_ret HS.out.1 H4.out.2).1) (by rw [← HN.out]; exact (sti_ret HS.out.1 H4.out.2).2)⟩
end Go.Proofs.YtegbgmihcokblaaDoor
