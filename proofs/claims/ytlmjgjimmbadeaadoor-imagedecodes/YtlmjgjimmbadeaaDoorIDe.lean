/-
  The law's walk of ImageDecodes. Condition: the bytes can be read, and are at most 2^47 - 4096; the table of package crc lies in memory.
-/
import Derived.Test.YtlmjgjimmbadeaaDoorIDd
import Derived.Test.YtlmjgjimmbadeaaDoorIGs
namespace Go.Proofs.YtlmjgjimmbadeaaDoor
open Go.RowKit
set_option linter.unusedVariables false

theorem there_olds {w : World} {b m : Nat} (h : w.there b 0 m) : ∃ olds : List Value, olds.length = m ∧ ∀ j u, olds[j]? = some u → w.cell? ⟨b, j, none⟩ = some u := by
  refine ⟨(List.range m).map fun j => (w.cell? ⟨b, j, none⟩).getD undef, by simp, fun j u hu => ?_⟩
  rw [List.getElem?_map] at hu
  rcases Nat.lt_or_ge j m with q | q
  · rw [List.getElem?_range q] at hu
    simp only [Option.map_some, Option.some.injEq] at hu
    have := (h j q).1
    rw [Nat.zero_add] at this
    cases e : w.cell? ⟨b, j, none⟩ with
    | none => rw [e] at this; cases this
    | some x => rw [e] at hu; simp at hu; rw [hu]
  · rw [List.getElem?_eq_none (by simpa using q)] at hu; cases hu
theorem thr_lt {w : World} {a : Option Addr} {n : Nat} (h : Thr w a n) {b o : Nat} {s} (z : a = some ⟨b, o, s⟩) : b < w.heap.size := by
  rcases h with ⟨y, _⟩ | ⟨b', y, hb', _⟩
  · rw [y] at z; cases z
  · rw [y] at z; cases z; exact hb'
theorem ends_d {w W7 wr w9 z : World} {P1 P2 P3 n tc : Nat} {seq : Int} {sa ta ua : Option Addr} {X : List Rwi}
    (h7 : w.grownBy W7 none ∧ Thr W7 sa n ∧ Bk 24 W7 P1 #[.int .i64 seq, .slice sa n n] ∧ Rws W7 ta n X ∧ Bk 24 W7 P2 #[.int .i64 seq, .slice ta n tc] ∧ Rws W7 ua n X ∧ Bk 24 W7 P3 #[.int .i64 seq, .slice ua n n])
    (ha : P1 < P2 ∧ P2 < P3 ∧ (∀ b o s, sa = some ⟨b, o, s⟩ → b < P1 ∧ w.heap.size ≤ b) ∧ (∀ b o s, ta = some ⟨b, o, s⟩ → P1 < b) ∧ (∀ b o s, ua = some ⟨b, o, s⟩ → P2 < b) ∧ w.heap.size ≤ P1)
    (ho : ∀ b, ob sa = some b → b < P1 ∧ w.heap.size ≤ b) (h1 : W7.grownBy wr (ob sa)) (h2 : wr.grownBy w9 none) (h3 : w9.grownBy z (some P1)) :
    Bk 24 z P2 #[.int .i64 seq, .slice ta n tc] ∧ Bk 24 z P3 #[.int .i64 seq, .slice ua n n] ∧ Rws z ta n X ∧ Rws z ua n X ∧ Below w.heap.size w z := by
  obtain ⟨p1, p2, p3, p4, p5, p6⟩ := ha
  have b2 := ((h7.2.2.2.2.1.grew h1 (fun e => by have := (ho _ e).1; omega)).grew h2 (by simp)).grew h3 (fun e => by have := Option.some.inj e; omega)
  have b3 := ((h7.2.2.2.2.2.2.grew h1 (fun e => by have := (ho _ e).1; omega)).grew h2 (by simp)).grew h3 (fun e => by have := Option.some.inj e; omega)
  have r1 := ((h7.2.2.2.1.grewO h1 (fun b o s q e => by have := (ho _ e).1; have := p4 b o s q; omega)).grewO h2 (by simp)).grewO h3 (fun b o s q e => by have := Option.some.inj e; have := p4 b o s q; omega)
  have r2 := ((h7.2.2.2.2.2.1.grewO h1 (fun b o s q e => by have := (ho _ e).1; have := p5 b o s q; omega)).grewO h2 (by simp)).grewO h3 (fun b o s q e => by have := Option.some.inj e; have := p5 b o s q; omega)
  refine ⟨b2, b3, r1, r2, ?_⟩
  have c1 : Below w.heap.size w wr := (gbb h7.1).grown h1 h7.1.size (fun k hk => (ho k hk).2)
  have c2 : Below w.heap.size w w9 := c1.grown h2 c1.size (fun k hk => by cases hk)
  exact c2.grown h3 c2.size (fun k hk => by cases hk; exact p6)
set_option maxRecDepth 20000 in
set_option maxHeartbeats 4000000 in
theorem decodes_w (a : Option Addr) (len cap : Nat) (xs : List Int) (w : World) (hs : Seg .u8 w a len xs) (hx : Bytes xs) (hl : len ≤ 140737488351232) (hlc : len ≤ cap) (hcm : cap ≤ 9223372036854775807) (ht : Cr.Tab w) :
    Calls Tryd.prog 4 #[.slice a len cap] w fun e w' => e = .returned (.bool true) ∧ Below w.heap.size w w' := by
  obtain ⟨seq, n, E, X, hn, hI, hJ⟩ := dec_both xs hx
  have HLN : Hid (Calls Tryd.prog 18 #[.slice a len cap] w fun e w' => ∃ g, e = .returned (.tuple #[.slice (some ⟨g, 0, none⟩) (len + 9) (len + 9), .slice (some ⟨g, 0, none⟩) len (len + 9)]) ∧ IN w w' g a len xs) := by
    refine (lend_c a len cap xs w hs hx (by omega)).mono ?_
    rintro e w1 ⟨g, rfl, hg, hr, hb⟩
    refine ⟨g, rfl, hr, ?_, hs.below hb, grownBy_below hb none⟩
    have := hr.seg len (by rw [lent_length, hs.1]; omega)
    rw [← hs.1, lent_take] at this
    rw [← hs.1]; exact this
  have HDE : Hid (∀ g W, IN w W g a len xs → Calls Tryd.prog 19 #[.slice (some ⟨g, 0, none⟩) len (len + 9)] W fun r w' => ∃ sa, r = .returned (.tuple #[.agg #[.int .i64 seq, .slice sa n n], .int .i64 E]) ∧ Rws w' sa n X ∧ Thr w' sa n ∧ Frs W.heap.size sa ∧ W.grownBy w' none) := fun g W h => hI _ _ _ W h.2.1 (by omega) (by omega) (fun e => by cases e) (ht.below (gbb h.2.2.2))
  have HDJ : Hid (∀ g W, IN w W g a len xs → Calls Tryd.prog 20 #[.slice a len cap] W fun r w' => ∃ ta tc, r = .returned (.tuple #[.agg #[.int .i64 seq, .slice ta n tc], .int .i64 E]) ∧ Rws w' ta n X ∧ Frs W.heap.size ta ∧ W.grownBy w' none) := fun g W h => hJ _ _ _ W h.2.2.1 (by omega) hlc hcm
  have HKE : Hid (∀ g W, IN w W g a len xs → Calls Tryd.prog 22 #[.slice (some ⟨g, 0, none⟩) (len + 9) (len + 9), .slice a len cap] W fun e w' => e = .returned (.bool true) ∧ W.grownBy w' none) := fun g W h => by
    refine (kept_c g (len + 9) a len cap xs W h.1 h.2.2.1 hx (by omega)).mono ?_
    rintro e w' ⟨rfl, m, rfl⟩
    exact ⟨rfl, gb_dr (grf W) m⟩
  have HLV : Hid (∀ W, Cr.Tab W → Calls Tryd.prog 17 #[] W fun r w' => r = .returned (.bool true) ∧ W.grownBy w' none) := fun W h => lives_c W h
  have HT : Hid (Cr.Tab w) := ht
  have hEE : (E != E) = false := by simp
  clear hs hx ht hI hJ
  go_enter Tryd.func4, Tryd.ntmps4
  go_wp2_with (first
    | ((fail_if_success (have z := H1)); go_at_call 18; go_must (refine (Calls.mono HLN.out ?_)); rintro r w1 ⟨g, rfl, q⟩; have H1 : Hid (IN w w1 g a len xs) := q; clear q)
    | ((fail_if_success (have z := H2)); have z := H1; clear z; go_at_call 19; go_must (refine (Calls.mono (HDE.out g _ H1.out) ?_)); rintro r w2 ⟨sa, rfl, q1, q2, q3, q4⟩; have HSA : Hid (∀ b o s, sa = some ⟨b, o, s⟩ → b < w2.heap.size ∧ w.heap.size ≤ b) := (fun b o s z => ⟨thr_lt q2 z, Nat.le_trans H1.out.2.2.2.size (q3 b o s z)⟩); have hb := blk_new w2 24 #[.int .i64 seq, .slice sa n n]; have HW2 : Hid (w1.heap.size ≤ w2.heap.size) := q4.size; have H2 : Hid (∀ W, W = w2.alloc (.cells #[.int .i64 seq, .slice sa n n] 24) → IN w W g a len xs ∧ Rws W sa n X ∧ Thr W sa n ∧ Bk 24 W w2.heap.size #[.int .i64 seq, .slice sa n n] ∧ W.heap.size = w2.heap.size + 1 ∧ (∀ b o s, sa = some ⟨b, o, s⟩ → w.heap.size ≤ b)) := (fun W e => by subst e; exact ⟨(H1.out.new q4).new hb.2, q1.below (gbb hb.2), q2.grew hb.2, hb.1, World.size_alloc _ _, fun b o s z => Nat.le_trans H1.out.2.2.2.size (q3 b o s z)⟩); clear q1 q2 q3 q4 hb)
    | ((fail_if_success (have z := H3)); have z := H2; clear z; go_at_call 20; go_must (refine (Calls.mono (HDJ.out g _ (H2.out _ rfl).1) ?_)); rintro r w3 ⟨ta, tc, rfl, q1, q3, q4⟩; have hb := blk_new w3 24 #[.int .i64 seq, .slice ta n tc]; have H3 : Hid (∀ W, W = w3.alloc (.cells #[.int .i64 seq, .slice ta n tc] 24) → IN w W g a len xs ∧ Rws W sa n X ∧ Thr W sa n ∧ Bk 24 W w2.heap.size #[.int .i64 seq, .slice sa n n] ∧ Rws W ta n X ∧ Bk 24 W w3.heap.size #[.int .i64 seq, .slice ta n tc] ∧ w2.heap.size < w3.heap.size ∧ Frs (w2.heap.size + 1) ta) := (fun W e => by subst e; have z := (H2.out _ rfl); exact ⟨(z.1.new q4).new hb.2, (z.2.1.below (gbb q4)).below (gbb hb.2), (z.2.2.1.grew q4).grew hb.2, (z.2.2.2.1.grew q4 (by simp)).grew hb.2 (by simp), q1.below (gbb hb.2), hb.1, by have := q4.size; have := z.2.2.2.2.1; omega, fun b o s y => by have := q3 b o s y; have := z.2.2.2.2.1; omega⟩); clear q1 q3 q4 hb)
    | ((fail_if_success (have z := H4)); have z := H3; clear z; refine wpList_load_bkG 24 rfl (.tmp 5) rfl Tryd.underlying24 rfl infoState w2.heap.size _ rfl (H3.out _ rfl).2.2.2.1 rfl ?_)
    | ((fail_if_success (have z := H4)); have z := H3; clear z; refine wpList_load_bkG 24 rfl (.tmp 7) rfl Tryd.underlying24 rfl infoState w3.heap.size _ rfl (H3.out _ rfl).2.2.2.2.2.1 rfl ?_)
    | ((fail_if_success (have z := H4)); have z := H3; clear z; go_at_call 21; go_must (refine (Calls.mono (lsame_c seq sa ta n tc n X _ (H3.out _ rfl).2.1 (H3.out _ rfl).2.2.2.2.1 (by omega)) ?_)); rintro r w4 ⟨rfl, q⟩; have H4 : Hid (IN w w4 g a len xs ∧ Thr w4 sa n ∧ Bk 24 w4 w2.heap.size #[.int .i64 seq, .slice sa n n] ∧ Rws w4 ta n X ∧ Bk 24 w4 w3.heap.size #[.int .i64 seq, .slice ta n tc] ∧ w2.heap.size < w3.heap.size ∧ Frs (w2.heap.size + 1) ta) := (by have z := H3.out _ rfl; exact ⟨z.1.new q, z.2.2.1.grew q, z.2.2.2.1.grew q (by simp), z.2.2.2.2.1.below (gbb q), z.2.2.2.2.2.1.grew q (by simp), z.2.2.2.2.2.2⟩); clear q)
    | ((fail_if_success (have z := H5)); have z := H4; clear z; go_at_call 22; go_must (refine (Calls.mono (HKE.out g _ H4.out.1) ?_)); rintro r w5 ⟨rfl, q⟩; have H5 : Hid (IN w w5 g a len xs ∧ Thr w5 sa n ∧ Bk 24 w5 w2.heap.size #[.int .i64 seq, .slice sa n n] ∧ Rws w5 ta n X ∧ Bk 24 w5 w3.heap.size #[.int .i64 seq, .slice ta n tc]) := (by have z := H4.out; exact ⟨z.1.new q, z.2.1.grew q, z.2.2.1.grew q (by simp), z.2.2.2.1.below (gbb q), z.2.2.2.2.1.grew q (by simp)⟩); clear q)
    | ((fail_if_success (have z := H6)); have z := H5; clear z; go_at_call 19; go_must (refine (Calls.mono (HDE.out g _ H5.out.1) ?_)); rintro r w6 ⟨ua, rfl, q1, q2, q3, q4⟩; have hb := blk_new w6 24 #[.int .i64 seq, .slice ua n n]; have H6 : Hid (∀ W, W = w6.alloc (.cells #[.int .i64 seq, .slice ua n n] 24) → w.grownBy W none ∧ Thr W sa n ∧ Bk 24 W w2.heap.size #[.int .i64 seq, .slice sa n n] ∧ Rws W ta n X ∧ Bk 24 W w3.heap.size #[.int .i64 seq, .slice ta n tc] ∧ Rws W ua n X ∧ Bk 24 W w6.heap.size #[.int .i64 seq, .slice ua n n] ∧ w3.heap.size < w6.heap.size ∧ Frs (w3.heap.size + 1) ua) := (fun W e => by subst e; have z := H5.out; have y := lt_of_block z.2.2.2.2; exact ⟨gb_trans (gb_trans z.1.2.2.2 q4) hb.2, (z.2.1.grew q4).grew hb.2, (z.2.2.1.grew q4 (by simp)).grew hb.2 (by simp), (z.2.2.2.1.below (gbb q4)).below (gbb hb.2), (z.2.2.2.2.grew q4 (by simp)).grew hb.2 (by simp), q1.below (gbb hb.2), hb.1, by have := q4.size; omega, fun b o s x => by have := q3 b o s x; omega⟩); have d1 : (w6.alloc (.cells #[.int .i64 seq, .slice ua n n] 24)).cell? ⟨w2.heap.size, 1, none⟩ = some (.slice sa n n) := (H6.out _ rfl).2.2.1.cell 1; clear q1 q2 q3 q4 hb))
  obtain ⟨P1, hP1⟩ : ∃ P, P = w2.heap.size := ⟨_, rfl⟩
  obtain ⟨P2, hP2⟩ : ∃ P, P = w3.heap.size := ⟨_, rfl⟩
  obtain ⟨P3, hP3⟩ : ∃ P, P = w6.heap.size := ⟨_, rfl⟩
  obtain ⟨W7, hW7⟩ : ∃ W, W = w6.alloc (.cells #[.int .i64 seq, .slice ua n n] 24) := ⟨_, rfl⟩
  have H7 : Hid (w.grownBy W7 none ∧ Thr W7 sa n ∧ Bk 24 W7 P1 #[.int .i64 seq, .slice sa n n] ∧ Rws W7 ta n X ∧ Bk 24 W7 P2 #[.int .i64 seq, .slice ta n tc] ∧ Rws W7 ua n X ∧ Bk 24 W7 P3 #[.int .i64 seq, .slice ua n n]) := by
    have z := H6.out _ hW7
    rw [hP1, hP2, hP3]
    exact ⟨z.1, z.2.1, z.2.2.1, z.2.2.2.1, z.2.2.2.2.1, z.2.2.2.2.2.1, z.2.2.2.2.2.2.1⟩
  have HAP : Hid (P1 < P2 ∧ P2 < P3 ∧ (∀ b o s, sa = some ⟨b, o, s⟩ → b < P1 ∧ w.heap.size ≤ b) ∧ (∀ b o s, ta = some ⟨b, o, s⟩ → P1 < b) ∧ (∀ b o s, ua = some ⟨b, o, s⟩ → P2 < b) ∧ w.heap.size ≤ P1) := by
    have z := H6.out _ hW7
    have y := H4.out
    rw [hP1, hP2, hP3]
    exact ⟨y.2.2.2.2.2.1, z.2.2.2.2.2.2.2.1, HSA.out, fun b o s q => by have := y.2.2.2.2.2.2 b o s q; omega, fun b o s q => by have := z.2.2.2.2.2.2.2.2 b o s q; omega, Nat.le_trans H1.out.2.2.2.size HW2.out⟩
  rw [← hP1, ← hP2, ← hP3, ← hW7]
  clear d1 H6 H5 H4 H3 H2 H1 HSA HW2 hP1 hP2 hP3 hW7
  have HOB : Hid (∀ b, ob sa = some b → b < P1 ∧ w.heap.size ≤ b) := fun b hb => by
    cases sa with
    | none => cases hb
    | some ad =>
      obtain ⟨b', o, s⟩ := ad
      cases hb
      exact HAP.out.2.2.1 _ _ _ rfl
  go_loopw [50] (fun i wr => ∃ k : Nat, k ≤ n ∧ i = .int .i64 k ∧ Hid (W7.grownBy wr (ob sa) ∧ Thr wr sa n)) (fun i _ => n - (intOf i).toNat)
  case atStart => exact ⟨0, Nat.zero_le _, rfl, World.grownBy.refl _ _, H7.out.2.1⟩
  case round =>
    obtain ⟨k, hk, rfl, hr⟩ := hrel
    have HB1 : Hid (Bk 24 wr P1 #[.int .i64 seq, .slice sa n n]) := H7.out.2.2.1.grew hr.out.1 (fun e => by have := (HOB.out _ e).1; omega)
    have d1 : wr.cell? ⟨P1, 1, none⟩ = some (.slice sa n n) := HB1.out.cell 1
    by_cases hlt : k < n
    · have hi1 : (k : Int) < n := by omega
      have hi0 : (0 : Int) ≤ k := by omega
      rcases hr.out.2 with ⟨_, z⟩ | ⟨b, rfl, hb, hth⟩
      · omega
      have t1 := hth (k * 3) (by omega)
      rw [Nat.zero_add] at t1
      obtain ⟨x, hx⟩ : ∃ x, wr.cell? ⟨b, k * 3, none⟩ = some x := by
        cases e : wr.cell? ⟨b, k * 3, none⟩ with
        | none => rw [e] at t1; cases t1.1
        | some x => exact ⟨x, rfl⟩
      have hf := t1.2
      have H8 : Hid (∀ W, W = wr.setCell ⟨b, k * 3, none⟩ (.string { data := #[115, 112, 111, 105, 108, 116] }) → W7.grownBy W (ob (some ⟨b, 0, none⟩)) ∧ Thr W (some ⟨b, 0, none⟩) n) := fun W e => by
        subst e
        have hg := grownBy_cell wr b (k * 3) (.string { data := #[115, 112, 111, 105, 108, 116] })
        refine ⟨gb_trans hr.out.1 hg, .inr ⟨b, rfl, Nat.lt_of_lt_of_le hb hg.size, fun j hj => ?_⟩⟩
        have q := hth j hj
        rw [Nat.zero_add] at q ⊢
        refine ⟨?_, by rw [World.frozen?_setCell]; exact q.2⟩
        by_cases ej : j = k * 3
        · rw [ej, World.cell?_setCell_same _ _ _ hx]; rfl
        · rw [World.cell?_setCell_other _ _ _ _ (fun z => ej (by injection z with _ z2 _; exact z2.symm))]; exact q.1
      clear t1 hth
      go_wp2_with fail
      go_roundw
      case rel => exact ⟨k + 1, by omega, by go_num, show Hid _ from H8.out _ rfl⟩
      case measure => simp [intOf]; omega
    · obtain rfl : k = n := by omega
      have hge : ¬ (k : Int) < k := by omega
      obtain ⟨olds, ho1, ho2⟩ : ∃ olds : List Value, olds.length = k * 3 ∧ ∀ b, sa = some b → ∀ j u, olds[j]? = some u → (wr.alloc (.cells #[.string { data := #[109, 111, 114, 101] }, .string { data := #[] }, .int .i64 0, .string { data := #[97, 110, 100, 32, 109, 111, 114, 101] }, .string { data := #[] }, .int .i64 0] 48)).cell? (b.add j) = some u := by
        rcases hr.out.2 with ⟨z1, z2⟩ | ⟨b, rfl, hb, hth⟩
        · exact ⟨[], by rw [z2]; rfl, fun b e => by rw [z1] at e; cases e⟩
        · obtain ⟨olds, q1, q2⟩ := there_olds hth
          refine ⟨olds, q1, fun b' e j u hu => ?_⟩
          cases e
          rw [Go.WideShapes.add_plain, Nat.zero_add]
          exact ((gbb (gal wr _)).cell hb).trans (q2 j u hu)
      have HO : Hid (olds.length = k * 3 ∧ ∀ b, sa = some b → ∀ j u, olds[j]? = some u → (wr.alloc (.cells #[.string { data := #[109, 111, 114, 101] }, .string { data := #[] }, .int .i64 0, .string { data := #[97, 110, 100, 32, 109, 111, 114, 101] }, .string { data := #[] }, .int .i64 0] 48)).cell? (b.add j) = some u) := ⟨ho1, ho2⟩
      have HSN : Hid (sa = none → k = 0 ∧ k = 0) := fun e => by
        rcases hr.out.2 with ⟨_, z2⟩ | ⟨b, z, _⟩
        · exact ⟨z2, z2⟩
        · rw [e] at z; cases z
      clear ho1 ho2
      obtain ⟨i3, hi3, hz3, hs3, hb3⟩ := infoRow40
      have HI3 : Hid (Tryd.prog.info? 48 = some i3 ∧ i3.zero = some (.agg #[.string { data := #[] }, .string { data := #[] }, .int .i64 0]) ∧ i3.size = 3 ∧ i3.bytes = 40) := ⟨hi3, hz3, hs3, hb3⟩
      clear hi3 hz3 hs3 hb3
      have hk20 := hn
      go_wp2_with (first
        | ((fail_if_success (have z := B1)); at_builtin; go_must (refine wpList_append_grows _ rfl (.tmp 60) (.tmp 63) 22 rfl 48 i3 (.agg #[.string { data := #[] }, .string { data := #[] }, .int .i64 0]) 3 40 Tryd.underlying22 HI3.out.1 HI3.out.2.1 HI3.out.2.2.1 HI3.out.2.2.2 rfl (by decide) sa k k olds rfl HSN.out HO.out.1 HO.out.2 ⟨wr.heap.size, 0, none⟩ 2 2 [.string { data := #[109, 111, 114, 101] }, .string { data := #[] }, .int .i64 0, .string { data := #[97, 110, 100, 32, 109, 111, 114, 101] }, .string { data := #[] }, .int .i64 0] rfl rfl (World.news_of_block (heap_new wr _)) (by intro u hu; simp at hu; rcases hu with rfl | rfl | rfl | rfl | rfl | rfl <;> rfl) (by omega) (by unfold maxLen; omega) (by omega) ?_); intro v9 w9 k1 k2; obtain ⟨g9, cp9, rfl, kx, ky⟩ := World.ownsRow.form k1 (by omega); clear kx ky; have hg9 := gb_trans (gal wr _) k2; have B1 : Hid (wr.grownBy w9 none ∧ Bk 24 w9 P1 #[.int .i64 seq, .slice sa k k]) := ⟨hg9, HB1.out.grew hg9 (by simp)⟩; have e1 : w9.cell? ⟨P1, 1, none⟩ = some (.slice sa k k) := B1.out.2.cell 1; have f1 : w9.frozen? ⟨P1, 1, none⟩ = false := frozen_of_row w9 _ 1 _ _ B1.out.2; have hgs := grownBy_cell w9 P1 1 (.slice (some ⟨g9, 0, none⟩) (k + 2) cp9); have B2 : Hid (∀ W, W = w9.setCell ⟨P1, 1, none⟩ (.slice (some ⟨g9, 0, none⟩) (k + 2) cp9) → Bk 24 W P2 #[.int .i64 seq, .slice ta k tc] ∧ Bk 24 W P3 #[.int .i64 seq, .slice ua k k] ∧ Rws W ta k X ∧ Rws W ua k X ∧ Below w.heap.size w W) := (fun W e => by subst e; exact ends_d H7.out HAP.out HOB.out hr.out.1 hg9 hgs); clear k1 k2 hg9 hgs)
        | ((fail_if_success (have z := B3)); have z := B2; clear z; refine wpList_load_bk 24 rfl (.tmp 9) rfl Tryd.underlying24 rfl infoState P3 _ rfl (B2.out _ rfl).2.1 rfl ?_)
        | ((fail_if_success (have z := B3)); have z := B2; clear z; refine wpList_load_bk 24 rfl (.tmp 7) rfl Tryd.underlying24 rfl infoState P2 _ rfl (B2.out _ rfl).1 rfl ?_)
        | ((fail_if_success (have z := B3)); have z := B2; clear z; go_at_call 21; go_must (refine (Calls.mono (lsame_c seq ua ta k tc k X _ (B2.out _ rfl).2.2.2.1 (B2.out _ rfl).2.2.1 (by omega)) ?_)); rintro r y3 ⟨rfl, q⟩; have B3 : Hid (Below w.heap.size w y3) := (B2.out _ rfl).2.2.2.2.trans ((gbb q).mono (B2.out _ rfl).2.2.2.2.size); clear q)
        | (have z := B3; clear z; go_at_call 17; go_must (refine (Calls.mono (HLV.out _ (HT.out.below B3.out)) ?_)); rintro r y4 ⟨rfl, q⟩; have B4 : Hid (Below w.heap.size w y4) := B3.out.trans ((gbb q).mono B3.out.size); clear q))
      go_ret
      exact ⟨rfl, B4.out⟩
end Go.Proofs.YtlmjgjimmbadeaaDoor
