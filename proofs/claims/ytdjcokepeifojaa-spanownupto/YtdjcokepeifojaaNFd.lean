/-
  That the law's apart answers true of rows of lists that share no block. Conditions: fewer than 100 lists of each kind, of at most 2^30 elements.
-/
import Derived.Test.YtdjcokepeifojaaNFc
import Derived.Deep.RegionHeld3
namespace Go.Proofs.Ytdjcokepeifojaa
set_option linter.unusedVariables false
open Go.RowKit

abbrev nilV : Value := .slice none 0 0
theorem infoRgs : (Try.prog.info? 24).map (fun i => (i.zero, i.size, i.bytes)) = some (some (.slice none 0 0), 1, 24) := by kernel_rfl
theorem infoInts : (Try.prog.info? 22).map (fun i => (i.zero, i.size, i.bytes)) = some (some (.slice none 0 0), 1, 24) := by kernel_rfl
theorem Ap.vH {F B w wr hv nv gv mv nh nn i j V U l m X Z} (h : Ap F B w wr hv nv gv mv nh nn i j V U l m X Z) {q : Nat} (hq : q < nh) : wr.ownsRow B 39 2 (V q) (l q) (X q) := by
  have := h.fam.v q (by omega)
  rwa [show tyE nh q = 39 from if_pos hq, show tyS nh q = 2 from if_pos hq] at this
theorem Ap.uH {F B w wr hv nv gv mv nh nn i j V U l m X Z} (h : Ap F B w wr hv nv gv mv nh nn i j V U l m X Z) {q : Nat} (hq : q < nh) : wr.ownsRow B 39 2 (U q) (m q) (Z q) := by
  have := h.fam.u q (by omega)
  rwa [show tyE nh q = 39 from if_pos hq, show tyS nh q = 2 from if_pos hq] at this
theorem Ap.vN {F B w wr hv nv gv mv nh nn i j V U l m X Z} (h : Ap F B w wr hv nv gv mv nh nn i j V U l m X Z) {q : Nat} (hq : q < nn) : wr.ownsRow B 3 1 (V (nh + q)) (l (nh + q)) (X (nh + q)) := by
  have := h.fam.v (nh + q) (by omega)
  rwa [show tyE nh (nh + q) = 3 from if_neg (by omega), show tyS nh (nh + q) = 1 from if_neg (by omega)] at this
theorem Ap.uN {F B w wr hv nv gv mv nh nn i j V U l m X Z} (h : Ap F B w wr hv nv gv mv nh nn i j V U l m X Z) {q : Nat} (hq : q < nn) : wr.ownsRow B 3 1 (U (nh + q)) (m (nh + q)) (Z (nh + q)) := by
  have := h.fam.u (nh + q) (by omega)
  rwa [show tyE nh (nh + q) = 3 from if_neg (by omega), show tyS nh (nh + q) = 1 from if_neg (by omega)] at this
theorem row_cell {w : World} {B : Nat} {T : TypeId} {b c n : Nat} {F : Nat → Value} (h : w.ownsRow B T 1 (.slice (some ⟨b, 0, none⟩) n c) n ((List.range n).map F)) (k : Nat) (hk : k < n) : w.cell? ⟨b, k, none⟩ = some (F k) := by
  rw [World.ownsRow.cellAt h k (by omega)]
  simp [hk]
theorem own_free {w : World} {B : Nat} {T : TypeId} {g c n sz : Nat} {xs : List Value} (h : w.ownsRow B T sz (.slice (some ⟨g, 0, none⟩) n c) n xs) (k : Nat) : w.frozen? ⟨g, k, none⟩ = false := by
  rcases h.2 with ⟨h', _⟩ | ⟨g', cap', cur, h', hB, hg, _⟩
  · simp at h'
  · simp only [Value.slice.injEq, Option.some.injEq, Addr.mk.injEq, and_true, true_and] at h'
    obtain ⟨rfl, rfl⟩ := h'
    exact frozen_of_row _ _ k _ _ hg
theorem own_some {w : World} {B : Nat} {T : TypeId} {g c n sz : Nat} {xs : List Value} (h : w.ownsRow B T sz (.slice (some ⟨g, 0, none⟩) n c) n xs) (k : Nat) (hk : k < n * sz) : ∃ u, w.cell? ⟨g, k, none⟩ = some u := by
  have hl : xs.length = n * sz := h.1
  exact ⟨_, by rw [World.ownsRow.cellAt h k hk, List.getElem?_eq_getElem (by omega)]⟩
theorem cell_set_far {w : World} {a b : Addr} {x v : Value} (h : w.cell? a = some x) (hn : b.block ≠ a.block) : (w.setCell b v).cell? a = some x := by
  rw [World.cell?_setCell_far _ _ _ _ hn]; exact h
theorem Ap.setH {F B w wr hv nv nh nn V l X q g c} (h : Ap F B w wr hv nv nilV nilV nh nn 0 0 V V l l X X) (hq : q < nh) (hV : V q = .slice (some ⟨g, 0, none⟩) (l q) c) (k : Nat) (a b : Value) :
    Ap F B w ((wr.setCell ⟨g, k * 2, none⟩ a).setCell ⟨g, k * 2 + 1, none⟩ b) hv nv nilV nilV nh nn 0 0 V V l l (upd X q (((X q).set (k * 2) a).set (k * 2 + 1) b)) (upd X q (((X q).set (k * 2) a).set (k * 2 + 1) b)) := by
  have ho := h.vH hq
  rw [hV] at ho
  refine h.set (by omega) hV (gb_trans (gb_set _ _ _ _) (gb_set _ _ _ _)) ?_
  rw [show tyE nh q = 39 from if_pos hq, show tyS nh q = 2 from if_pos hq, hV]
  exact own_setT ho k a b
theorem Ap.setN {F B w wr hv nv nh nn V l X q g c} (h : Ap F B w wr hv nv nilV nilV nh nn 0 0 V V l l X X) (hq : q < nn) (hV : V (nh + q) = .slice (some ⟨g, 0, none⟩) (l (nh + q)) c) (k : Nat) (a : Value) :
    Ap F B w (wr.setCell ⟨g, k, none⟩ a) hv nv nilV nilV nh nn 0 0 V V l l (upd X (nh + q) ((X (nh + q)).set k a)) (upd X (nh + q) ((X (nh + q)).set k a)) := by
  have ho := h.vN hq
  rw [hV] at ho
  refine h.set (by omega) hV (gb_set _ _ _ _) ?_
  rw [show tyE nh (nh + q) = 3 from if_neg (by omega), show tyS nh (nh + q) = 1 from if_neg (by omega), hV]
  exact own_set1 ho k a
theorem mkH_is {q M : Nat} {xs : List Value} {t : ByteArray} (h : xs.take (M * 2) = mkH t q M) (hl : xs.length = M * 2) : xs = mkH t q M := by
  rwa [List.take_of_length_le (by omega)] at h
theorem mkN_is {q M : Nat} {xs : List Value} (h : xs.take M = mkN q M) (hl : xs.length = M) : xs = mkN q M := by
  rwa [List.take_of_length_le (by omega)] at h
set_option maxRecDepth 20000 in
set_option maxHeartbeats 4000000 in
theorem apart_c (F : Nat → Prop) (w : World) (B nh nn : Nat) (ha na : Option Addr) (hc nc : Nat) (V : Nat → Value) (l : Nat → Nat) (X : Nat → List Value) (h : Ap F B w w (.slice ha nh hc) (.slice na nn nc) nilV nilV nh nn 0 0 V V l l X X) (hn : nh < 100) (hn2 : nn < 100) (hl : ∀ q, q < nh + nn → l q ≤ 1073741823) :
    Calls Try.prog 15 #[.slice ha nh hc, .slice na nn nc] w fun r w' => r = .returned (.bool true) ∧ Below B w w' ∧ ∀ k, F k → w'.heap[k]? = w.heap[k]? := by
  have HL : Hid (∀ q, q < nh + nn → l q ≤ 1073741823) := hl
  have H0 : Hid (Ap F B w w (.slice ha nh hc) (.slice na nn nc) nilV nilV nh nn 0 0 V V l l X X) := h
  clear h hl
  go_enter Try.func15, Try.ntmps15
  go_wp2
  go_loopw [8] (fun i wr => ∃ (k : Nat) (Y : Nat → List Value), k ≤ nh ∧ i = .int .i64 (k : Int) ∧ Hid (Ap F B w wr (.slice ha nh hc) (.slice na nn nc) nilV nilV nh nn 0 0 V V l l Y Y ∧ ∀ q, q < k → Y q = mkH oldT q (l q))) (fun i _ => nh - (intOf i).toNat)
  case atStart => exact ⟨0, X, Nat.zero_le _, rfl, H0.out, fun j hj => absurd hj (by omega)⟩
  case round =>
    clear H0
    obtain ⟨k, Y, hk, rfl, HA⟩ := hrel
    by_cases hlt : k < nh
    · have hci : (k : Int) < (nh : Int) := by omega
      obtain ⟨b, c, e⟩ := (own_shape HA.out.1.rh).2 (by omega)
      cases e
      obtain ⟨M, hM⟩ : ∃ M, M = l k := ⟨_, rfl⟩
      have hMb : M ≤ 1073741823 := by rw [hM]; exact HL.out k (by omega)
      obtain ⟨va, vc, hV⟩ := (own_shape (HA.out.1.vH hlt)).1
      have HYL : Hid ((Y k).length = M * 2) := by show _ = _; rw [hM]; exact (HA.out.1.vH hlt).1
      rw [← hM] at hV
      have HV : Hid (V k = .slice va M vc ∧ M = l k) := ⟨hV, hM⟩
      have HLT : Hid (k < nh) := hlt
      have HB : Hid (Below B w wr ∧ B ≤ wr.heap.size) := ⟨HA.out.1.bel, HA.out.1.sz⟩
      clear hV hM
      go_wp2
      go_loopw [9] (fun i2 wr2 => ∃ (j : Nat) (Yk : List Value), j ≤ M ∧ i2 = .int .i64 (j : Int) ∧ Hid (Ap F B w wr2 (.slice (some ⟨b, 0, none⟩) nh hc) (.slice na nn nc) nilV nilV nh nn 0 0 V V l l (upd Y k Yk) (upd Y k Yk) ∧ Yk.length = M * 2 ∧ Yk.take (j * 2) = mkH oldT k j)) (fun i2 _ => M - (intOf i2).toNat)
      case atStart => exact ⟨0, Y k, Nat.zero_le _, rfl, by rw [upd_self]; exact HA.out.1, HYL.out, rfl⟩
      case round =>
        obtain ⟨j, Yk, hj, rfl, HB2⟩ := hrel
        have hcell : wr.cell? ⟨b, k, none⟩ = some (.slice va M vc) := by rw [← HV.out.1]; exact row_cell HB2.out.1.rh k hlt
        by_cases hjl : j < M
        · have hcj : (j : Int) < (M : Int) := by omega
          have hO := HB2.out.1.vH hlt
          rw [HV.out.1, ← HV.out.2, upd_at] at hO
          obtain ⟨g, cap, e, _, _⟩ := World.ownsRow.form hO (by omega)
          cases e
          have HO : Hid (wr.ownsRow B 39 2 (.slice (some ⟨g, 0, none⟩) M vc) M Yk) := hO
          have HGB : Hid (g ≠ b) := fun e => by
            have := HB2.out.1.fam.off k g (by have := HLT.out; omega) (.inl (by rw [HV.out.1]; rfl))
            exact this (.inl (by rw [e]; rfl))
          have HNM : Hid _ := fun w => name_c k j (by omega) (by omega) w
          obtain ⟨S, hS⟩ : ∃ S, S = nmS k j := ⟨_, rfl⟩
          rw [← hS] at HNM
          have HS : Hid (S = nmS k j) := hS
          clear hO hS
          go_wp2
          obtain ⟨x0, c0⟩ := own_some HO.out (j * 2) (by omega)
          obtain ⟨x1, c1⟩ := own_some HO.out (j * 2 + 1) (by omega)
          have hSd : wr.drew.cell? ⟨b, k, none⟩ = some (.slice (some ⟨g, 0, none⟩) M vc) := hcell
          go_region_held3 (fun w' => w'.cell? ⟨b, k, none⟩ = some (.slice (some ⟨g, 0, none⟩) M vc)) (first | assumption | exact cell_set_far (cell_set_far (by assumption) hgb) hgb) (first
            | (go_at_call 27; go_must (refine (HNM.out _).mono ?_); rintro r w1 ⟨rfl, h0⟩; have h1 := gb_trans (gb_drew1 wr) h0; have hS1 : w1.cell? ⟨b, k, none⟩ = some (.slice (some ⟨g, 0, none⟩) M vc) := cell_kept h0 (by assumption); have H1 : Hid (wr.grownBy w1 none) := h1; have d0 : w1.cell? ⟨g, j * 2, none⟩ = some x0 := cell_kept h1 c0; have d1 : w1.cell? ⟨g, j * 2 + 1, none⟩ = some x1 := cell_kept h1 c1; have f0 : w1.frozen? ⟨g, j * 2, none⟩ = false := own_free (own_gb HO.out h1) _; have f1 : w1.frozen? ⟨g, j * 2 + 1, none⟩ = false := own_free (own_gb HO.out h1) _; have hgb := HGB.out; clear h1 h0))
          all_goals
            go_wp2
            have HN : Hid (Ap F B w ((w1.setCell ⟨g, j * 2, none⟩ (.string S)).setCell ⟨g, j * 2 + 1, none⟩ (.string oldT)) (.slice (some ⟨b, 0, none⟩) nh hc) (.slice na nn nc) nilV nilV nh nn 0 0 V V l l (upd Y k ((Yk.set (j * 2) (.string S)).set (j * 2 + 1) (.string oldT))) (upd Y k ((Yk.set (j * 2) (.string S)).set (j * 2 + 1) (.string oldT)))) := by
              have := (HB2.out.1.gb H1.out).setH HLT.out (by rw [HV.out.1, ← HV.out.2]) j (.string S) (.string oldT)
              rwa [upd_at, upd_upd] at this
            exact ⟨⟨j + 1, (Yk.set (j * 2) (.string S)).set (j * 2 + 1) (.string oldT), by omega, by simp, HN.out, by rw [List.length_set, List.length_set]; exact HB2.out.2.1, by rw [HS.out]; exact take_set2 HB2.out.2.2 (by have := HB2.out.2.1; omega)⟩, by simp [intOf]; omega⟩
        · obtain rfl : j = M := by omega
          have HE : Hid (Yk = mkH oldT k j) := mkH_is HB2.out.2.2 HB2.out.2.1
          go_wp2
          exact ⟨⟨k + 1, upd Y k Yk, by have := HLT.out; omega, by simp, HB2.out.1, fun q hq => by
            by_cases e : q = k
            · subst e; rw [upd_at, HE.out, HV.out.2]
            · rw [upd_ne _ _ _ e]; exact HA.out.2 q (by omega)⟩, by have := HLT.out; simp [intOf]; omega⟩
    · obtain rfl : k = nh := by omega
      have HA2 : Hid (Ap F B w wr (.slice ha k hc) (.slice na nn nc) nilV nilV k nn 0 0 V V l l Y Y ∧ ∀ q, q < k → Y q = mkH oldT q (l q)) := HA.out
      clear HA hk
      go_wp2
      go_loopw [10] (fun i wr => ∃ (p : Nat) (Y : Nat → List Value), p ≤ nn ∧ i = .int .i64 (p : Int) ∧ Hid (Ap F B w wr (.slice ha k hc) (.slice na nn nc) nilV nilV k nn 0 0 V V l l Y Y ∧ (∀ q, q < k → Y q = mkH oldT q (l q)) ∧ ∀ q, q < p → Y (k + q) = mkN q (l (k + q)))) (fun i _ => nn - (intOf i).toNat)
      case atStart => exact ⟨0, Y, Nat.zero_le _, rfl, HA2.out.1, HA2.out.2, fun j hj => absurd hj (by omega)⟩
      case round =>
        clear HA2
        obtain ⟨p, Y, hp, rfl, HA⟩ := hrel
        by_cases hlt : p < nn
        · have hci : (p : Int) < (nn : Int) := by omega
          obtain ⟨b, c, e⟩ := (own_shape HA.out.1.rn).2 (by omega)
          cases e
          obtain ⟨M, hM⟩ : ∃ M, M = l (k + p) := ⟨_, rfl⟩
          have hMb : M ≤ 1073741823 := by rw [hM]; exact HL.out (k + p) (by omega)
          obtain ⟨va, vc, hV⟩ := (own_shape (HA.out.1.vN hlt)).1
          have HYL : Hid ((Y (k + p)).length = M) := by show _ = _; rw [hM]; have := (HA.out.1.vN hlt).1; omega
          rw [← hM] at hV
          have HV : Hid (V (k + p) = .slice va M vc ∧ M = l (k + p)) := ⟨hV, hM⟩
          have HLT : Hid (p < nn) := hlt
          clear hV hM
          go_wp2
          go_loopw [11] (fun i2 wr2 => ∃ (j : Nat) (Yk : List Value), j ≤ M ∧ i2 = .int .i64 (j : Int) ∧ Hid (Ap F B w wr2 (.slice ha k hc) (.slice (some ⟨b, 0, none⟩) nn nc) nilV nilV k nn 0 0 V V l l (upd Y (k + p) Yk) (upd Y (k + p) Yk) ∧ Yk.length = M ∧ Yk.take j = mkN p j)) (fun i2 _ => M - (intOf i2).toNat)
          case atStart => exact ⟨0, Y (k + p), Nat.zero_le _, rfl, by rw [upd_self]; exact HA.out.1, HYL.out, rfl⟩
          case round =>
            obtain ⟨j, Yk, hj, rfl, HB2⟩ := hrel
            have hcell : wr.cell? ⟨b, p, none⟩ = some (.slice va M vc) := by rw [← HV.out.1]; exact row_cell HB2.out.1.rn p hlt
            by_cases hjl : j < M
            · have hcj : (j : Int) < (M : Int) := by omega
              have hO := HB2.out.1.vN hlt
              rw [HV.out.1, ← HV.out.2, upd_at] at hO
              obtain ⟨g, cap, e, _, _⟩ := World.ownsRow.form hO (by omega)
              cases e
              have HO : Hid (wr.ownsRow B 3 1 (.slice (some ⟨g, 0, none⟩) M vc) M Yk) := hO
              obtain ⟨x0, c0⟩ := own_some HO.out j (by omega)
              have f0 := own_free HO.out j
              have e0 : wrap64 (-1000 * (p : Int)) = -1000 * (p : Int) := IntWalk.wrap64_in _ ⟨by omega, by omega⟩
              have e1 : wrap64 (-1000 * (p : Int) - (j : Int)) = -1000 * (p : Int) - (j : Int) := IntWalk.wrap64_in _ ⟨by omega, by omega⟩
              have e2 : wrap64 (-1000 * (p : Int) - (j : Int) - 1) = -1000 * (p : Int) - (j : Int) - 1 := IntWalk.wrap64_in _ ⟨by omega, by omega⟩
              have HN : Hid (Ap F B w (wr.setCell ⟨g, j, none⟩ (.int .i64 (-1000 * (p : Int) - (j : Int) - 1))) (.slice ha k hc) (.slice (some ⟨b, 0, none⟩) nn nc) nilV nilV k nn 0 0 V V l l (upd Y (k + p) (Yk.set j (.int .i64 (-1000 * (p : Int) - (j : Int) - 1)))) (upd Y (k + p) (Yk.set j (.int .i64 (-1000 * (p : Int) - (j : Int) - 1))))) := by
                have := HB2.out.1.setN HLT.out (by rw [HV.out.1, ← HV.out.2]) j (.int .i64 (-1000 * (p : Int) - (j : Int) - 1))
                rwa [upd_at, upd_upd] at this
              clear hO
              go_wp2
              exact ⟨⟨j + 1, _, by omega, by simp, HN.out, by rw [List.length_set]; exact HB2.out.2.1, take_set1 HB2.out.2.2 (by have := HB2.out.2.1; omega)⟩, by simp [intOf]; omega⟩
            · obtain rfl : j = M := by omega
              have HE : Hid (Yk = mkN p j) := mkN_is HB2.out.2.2 HB2.out.2.1
              go_wp2
              exact ⟨⟨p + 1, upd Y (k + p) Yk, by have := HLT.out; omega, by simp, HB2.out.1, fun q hq => by rw [upd_ne _ _ _ (by omega)]; exact HA.out.2.1 q hq, fun q hq => by
                by_cases e : q = p
                · subst e; rw [upd_at, HE.out, HV.out.2]
                · rw [upd_ne _ _ _ (by omega)]; exact HA.out.2.2 q (by omega)⟩, by have := HLT.out; simp [intOf]; omega⟩
        · obtain rfl : p = nn := by omega
          have HA3 : Hid (Ap F B w wr (.slice ha k hc) (.slice na p nc) nilV nilV k p 0 0 V V l l Y Y ∧ (∀ q, q < k → Y q = mkH oldT q (l q)) ∧ ∀ q, q < p → Y (k + q) = mkN q (l (k + q))) := HA.out
          have HY : Hid ((∀ q, q < k → Y q = mkH oldT q (l q)) ∧ ∀ q, q < p → Y (k + q) = mkN q (l (k + q))) := HA.out.2
          clear HA hp
          go_wp2
          go_loopw [5, 12] (fun gv i wr => ∃ (i1 : Nat) (U : Nat → Value) (m : Nat → Nat) (Z : Nat → List Value), i1 ≤ k ∧ i = .int .i64 (i1 : Int) ∧ Hid (Ap F B w wr (.slice ha k hc) (.slice na p nc) gv nilV k p i1 0 V U l m Y Z ∧ (∀ q, i1 ≤ q → U q = V q ∧ m q = l q ∧ Z q = Y q) ∧ (∀ q, q < i1 → m q = l q + 30 ∧ Z q = Y q ++ mkH newT q 30))) (fun _ i _ => k - (intOf i).toNat)
          case atStart => exact ⟨0, V, l, Y, Nat.zero_le _, rfl, HA3.out.1, fun q _ => ⟨rfl, rfl, rfl⟩, fun q hq => absurd hq (by omega)⟩
          case round =>
            clear HA3
            obtain ⟨i1, U, m, Z, hi1, rfl, HA⟩ := hrel
            by_cases hlt : i1 < k
            · have hci : (i1 : Int) < (k : Int) := by omega
              obtain ⟨b, c, e⟩ := (own_shape HA.out.1.rh).2 (by omega)
              cases e
              obtain ⟨M, hM⟩ : ∃ M, M = l i1 := ⟨_, rfl⟩
              have hMb : M ≤ 1073741823 := by rw [hM]; exact HL.out i1 (by omega)
              obtain ⟨va, vc, hV⟩ := (own_shape (HA.out.1.vH hlt)).1
              rw [← hM] at hV
              have hcell : wr.cell? ⟨b, i1, none⟩ = some (.slice va M vc) := by rw [← hV]; exact row_cell HA.out.1.rh i1 hlt
              have HV : Hid (V i1 = .slice va M vc ∧ M = l i1) := ⟨hV, hM⟩
              have HLT : Hid (i1 < k) := hlt
              have HYL : Hid ((Y i1).length = M * 2) := by show _ = _; rw [hM]; exact (HA.out.1.vH hlt).1
              have HST : Hid (Ap F B w wr (.slice (some ⟨b, 0, none⟩) k hc) (.slice na p nc) u5 nilV k p i1 0 V (upd U i1 (.slice va (M + 0) vc)) l (upd m i1 (M + 0)) Y (upd Z i1 (Y i1 ++ mkH newT i1 0)) ∧ Arel (V i1) (.slice va (M + 0) vc) (l i1) (M + 0)) := by
                obtain ⟨q1, q2, q3⟩ := HA.out.2.1 i1 (Nat.le_refl _)
                have e1 : upd U i1 (.slice va (M + 0) vc) = U := by rw [show (Value.slice va (M + 0) vc) = U i1 from by rw [q1, hV]; rfl, upd_self]
                have e2 : upd m i1 (M + 0) = m := by rw [show M + 0 = m i1 from by rw [q2, hM]; rfl, upd_self]
                have e3 : upd Z i1 (Y i1 ++ mkH newT i1 0) = Z := by rw [show Y i1 ++ mkH newT i1 0 = Z i1 from by rw [q3]; simp [mkH, flR], upd_self]
                rw [e1, e2, e3]
                refine ⟨HA.out.1, ?_⟩
                have := arel_self (HA.out.1.vH hlt)
                rw [hV, ← hM] at this ⊢
                exact this
              clear hV hM
              go_wp2
              go_loopw [13, 14] (fun lv i2 wr2 => ∃ (j N : Nat) (ua : Option Addr) (uc : Nat), j ≤ 30 ∧ i2 = .int .i64 (j : Int) ∧ lv = .slice ua N uc ∧ Hid (N = M + j) ∧ Hid (Ap F B w wr2 (.slice (some ⟨b, 0, none⟩) k hc) (.slice na p nc) u5 nilV k p i1 0 V (upd U i1 (.slice ua N uc)) l (upd m i1 N) Y (upd Z i1 (Y i1 ++ mkH newT i1 j)) ∧ Arel (V i1) (.slice ua N uc) (l i1) N)) (fun _ i2 _ => 30 - (intOf i2).toNat)
              case atStart => exact ⟨0, M, va, vc, Nat.zero_le _, rfl, rfl, rfl, HST.out⟩
              case round =>
                clear HST
                obtain ⟨j, N, ua, uc, hj, rfl, rfl, hN, HB2⟩ := hrel
                by_cases hjl : j < 30
                · have hcj : (j : Int) < 30 := by omega
                  have HNM : Hid _ := fun w => name_c i1 j (by omega) (by omega) w
                  have HMS : Hid _ := mkH_succ newT i1 j
                  obtain ⟨S, hS⟩ : ∃ S, S = nmS i1 j := ⟨_, rfl⟩
                  rw [← hS] at HNM HMS
                  have HU : Hid (wr.ownsRow B 39 2 (.slice ua N uc) N (Y i1 ++ mkH newT i1 j)) := by
                    have := HB2.out.1.uH HLT.out
                    rwa [upd_at, upd_at, upd_at] at this
                  have hNb : N ≤ 1073741853 := by have := hN.out; omega
                  have HTY : Hid (tyE k i1 = 39 ∧ tyS k i1 = 2) := ⟨if_pos HLT.out, if_pos HLT.out⟩
                  clear hS
                  go_wp2_with (first
                    | (go_at_call 27; go_must (refine (HNM.out _).mono ?_); rintro r w1 ⟨rfl, h1⟩; have H1 : Hid (wr.grownBy w1 none) := h1; clear h1)
                    | (at_builtin; go_must (refine wpList_app1 rfl _ _ 24 rfl B 39 _ 2 32 Try.underlying24 infoRange rfl (by decide) (by decide) w1 (rC (S, newT)).toArray rfl (.slice ua N uc) N (Y i1 ++ mkH newT i1 j) rfl (own_gb HU.out H1.out) rfl rfl (range_one _) (by unfold maxLen; omega) (by omega) (Nat.le_trans HB2.out.1.sz H1.out.size) ?_); intro v' w2 y1 y2 y3 y4; have H2 : Hid (Ap F B w w2 (.slice (some ⟨b, 0, none⟩) k hc) (.slice na p nc) u5 nilV k p i1 0 V (upd U i1 v') l (upd m i1 (N + 1)) Y (upd Z i1 (Y i1 ++ mkH newT i1 (j + 1))) ∧ Arel (V i1) v' (l i1) (N + 1)) := (by have z := (HB2.out.1.gb H1.out).app (v' := v') (cs := (rC (S, newT)).toArray.toList) (w2 := w2) (by have := HLT.out; omega) HB2.out.2 (by have := hN.out; have := HV.out.2; omega) (by rw [HTY.out.2, ← HV.out.2, List.take_append_of_le_length (by have := HYL.out; omega), List.take_of_length_le (by have := HYL.out; omega)]) (by rw [HTY.out.1, HTY.out.2]; exact y1) (by rw [HTY.out.1, HTY.out.2]; exact y2) y3 y4 ⟨fun _ => Nat.le_refl _, fun h => by have := HLT.out; omega⟩; rw [HMS.out, ← List.append_assoc]; exact z); obtain ⟨va', vc', e', -⟩ := own_cells y1; subst e'; clear y1 y2 y3 y4))
                  exact ⟨⟨j + 1, N + 1, va', vc', by omega, by simp, rfl, (by have := hN.out; show _ = _; omega), H2.out⟩, by simp [intOf]; omega⟩
                · obtain rfl : j = 30 := by omega
                  have HG : Hid (Ap F B w wr (.slice (some ⟨b, 0, none⟩) k hc) (.slice na p nc) u5 nilV k p i1 0 V (upd U i1 (.slice ua N uc)) l (upd m i1 N) Y (upd Z i1 (Y i1 ++ mkH newT i1 30))) := HB2.out.1
                  go_wp2_with (first
                    | (at_builtin; go_loud (refine wpList_lit rfl _ _ 36 rfl B 24 (.slice none 0 0) 1 24 Try.underlying36 infoRgs rfl (by decide) wr #[.slice ua N uc] rfl _ i1 ((List.range i1).map (upd U i1 (.slice ua N uc))) rfl HG.out.rg rfl rfl (by simp [Value.oneCell']) (by unfold maxLen; omega) (by omega) HG.out.sz ?_; intro g6 cap6 w6 ho6 _ hg6 hgn6 _; have H6 : Hid (Ap F B w w6 (.slice (some ⟨b, 0, none⟩) k hc) (.slice na p nc) (.slice (some ⟨g6, 0, none⟩) (i1 + 1) cap6) nilV k p (i1 + 1) 0 V (upd U i1 (.slice ua N uc)) l (upd m i1 N) Y (upd Z i1 (Y i1 ++ mkH newT i1 30))) := HG.out.pushG hg6 (by rw [upd_at]; exact ho6) (hgn6.imp (fun e => e.symm) (fun e => ⟨g6, rfl, e⟩)) HLT.out; clear ho6 hg6 hgn6)))
                  exact ⟨⟨i1 + 1, _, _, _, by have := HLT.out; omega, by simp, H6.out, fun q hq => by rw [upd_ne _ _ _ (by omega), upd_ne _ _ _ (by omega), upd_ne _ _ _ (by omega)]; exact HA.out.2.1 q (by omega), fun q hq => by
                    by_cases e : q = i1
                    · subst e; rw [upd_at, upd_at]; exact ⟨by rw [hN.out, HV.out.2], rfl⟩
                    · rw [upd_ne _ _ _ e, upd_ne _ _ _ e]; exact HA.out.2.2 q (by omega)⟩, by have := HLT.out; simp [intOf]; omega⟩
            · obtain rfl : i1 = k := by omega
              have HA4 : Hid (Ap F B w wr (.slice ha i1 hc) (.slice na p nc) u5 nilV i1 p i1 0 V U l m Y Z ∧ (∀ q, i1 ≤ q → U q = V q ∧ m q = l q ∧ Z q = Y q) ∧ (∀ q, q < i1 → m q = l q + 30 ∧ Z q = Y q ++ mkH newT q 30)) := HA.out
              clear HA hi1
              go_wp2
              go_loopw [6, 15] (fun mv i wr => ∃ (i2 : Nat) (U : Nat → Value) (m : Nat → Nat) (Z : Nat → List Value), i2 ≤ p ∧ i = .int .i64 (i2 : Int) ∧ Hid (Ap F B w wr (.slice ha i1 hc) (.slice na p nc) u5 mv i1 p i1 i2 V U l m Y Z ∧ (∀ q, i1 + i2 ≤ q → U q = V q ∧ m q = l q ∧ Z q = Y q) ∧ (∀ q, q < i1 → m q = l q + 30 ∧ Z q = Y q ++ mkH newT q 30) ∧ (∀ q, q < i2 → m (i1 + q) = l (i1 + q) + 300 ∧ Z (i1 + q) = Y (i1 + q) ++ grN q 300))) (fun _ i _ => p - (intOf i).toNat)
              case atStart => exact ⟨0, U, m, Z, Nat.zero_le _, rfl, HA4.out.1, HA4.out.2.1, HA4.out.2.2, fun q hq => absurd hq (by omega)⟩
              case round =>
                clear HA4
                obtain ⟨i2, U, m, Z, hi2, rfl, HA⟩ := hrel
                by_cases hlt : i2 < p
                · have hci : (i2 : Int) < (p : Int) := by omega
                  obtain ⟨b, c, e⟩ := (own_shape HA.out.1.rn).2 (by omega)
                  cases e
                  obtain ⟨M, hM⟩ : ∃ M, M = l (i1 + i2) := ⟨_, rfl⟩
                  have hMb : M ≤ 1073741823 := by rw [hM]; exact HL.out (i1 + i2) (by omega)
                  obtain ⟨va, vc, hV⟩ := (own_shape (HA.out.1.vN hlt)).1
                  rw [← hM] at hV
                  have hcell : wr.cell? ⟨b, i2, none⟩ = some (.slice va M vc) := by rw [← hV]; exact row_cell HA.out.1.rn i2 hlt
                  have HV : Hid (V (i1 + i2) = .slice va M vc ∧ M = l (i1 + i2)) := ⟨hV, hM⟩
                  have HLT : Hid (i2 < p) := hlt
                  have HYL : Hid ((Y (i1 + i2)).length = M) := by show _ = _; rw [hM]; have := (HA.out.1.vN hlt).1; omega
                  obtain ⟨y, hy⟩ : ∃ y, y = i1 + i2 := ⟨_, rfl⟩
                  rw [← hy] at HV HYL
                  have HYY : Hid (y = i1 + i2) := hy
                  have HST : Hid (Ap F B w wr (.slice ha i1 hc) (.slice (some ⟨b, 0, none⟩) p nc) u5 u6 i1 p i1 i2 V (upd U y (.slice va (M + 0) vc)) l (upd m y (M + 0)) Y (upd Z y (Y y ++ grN i2 0)) ∧ Arel (V y) (.slice va (M + 0) vc) (l y) (M + 0)) := by
                    obtain ⟨q1, q2, q3⟩ := HA.out.2.1 y (by omega)
                    have e1 : upd U y (.slice va (M + 0) vc) = U := by rw [show (Value.slice va (M + 0) vc) = U y from by rw [q1, HV.out.1]; rfl, upd_self]
                    have e2 : upd m y (M + 0) = m := by rw [show M + 0 = m y from by rw [q2, HV.out.2]; rfl, upd_self]
                    have e3 : upd Z y (Y y ++ grN i2 0) = Z := by rw [show Y y ++ grN i2 0 = Z y from by rw [q3]; simp [grN, i64s], upd_self]
                    rw [e1, e2, e3]
                    refine ⟨HA.out.1, ?_⟩
                    have := arel_self (HA.out.1.vN hlt)
                    rw [← hy, HV.out.1, ← HV.out.2] at this
                    rw [HV.out.1, ← HV.out.2]
                    exact this
                  have HTY : Hid (tyE i1 y = 3 ∧ tyS i1 y = 1) := ⟨if_neg (by omega), if_neg (by omega)⟩
                  clear hV hM hy
                  go_wp2
                  go_loopw [16, 17] (fun lv i3 wr2 => ∃ (j N : Nat) (ua : Option Addr) (uc : Nat), j ≤ 300 ∧ i3 = .int .i64 (j : Int) ∧ lv = .slice ua N uc ∧ Hid (N = M + j) ∧ Hid (Ap F B w wr2 (.slice ha i1 hc) (.slice (some ⟨b, 0, none⟩) p nc) u5 u6 i1 p i1 i2 V (upd U y (.slice ua N uc)) l (upd m y N) Y (upd Z y (Y y ++ grN i2 j)) ∧ Arel (V y) (.slice ua N uc) (l y) N)) (fun _ i3 _ => 300 - (intOf i3).toNat)
                  case atStart => exact ⟨0, M, va, vc, Nat.zero_le _, rfl, rfl, rfl, HST.out⟩
                  case round =>
                    clear HST
                    obtain ⟨j, N, ua, uc, hj, rfl, rfl, hN, HB2⟩ := hrel
                    by_cases hjl : j < 300
                    · have hcj : (j : Int) < 300 := by omega
                      have HMS : Hid _ := grN_succ i2 j
                      have HU : Hid (wr.ownsRow B 3 1 (.slice ua N uc) N (Y y ++ grN i2 j)) := by
                        have := HB2.out.1.fam.u y (by have := HYY.out; have := HLT.out; omega)
                        rwa [upd_at, upd_at, upd_at, HTY.out.1, HTY.out.2] at this
                      have hNb : N ≤ 1073742123 := by have := hN.out; omega
                      have e0 : wrap64 (1000 * (i2 : Int)) = 1000 * (i2 : Int) := IntWalk.wrap64_in _ ⟨by omega, by omega⟩
                      have e1 : wrap64 (1000 * (i2 : Int) + (j : Int)) = 1000 * (i2 : Int) + (j : Int) := IntWalk.wrap64_in _ ⟨by omega, by omega⟩
                      have e2 : wrap64 (1000 * (i2 : Int) + (j : Int) + 1) = 1000 * (i2 : Int) + (j : Int) + 1 := IntWalk.wrap64_in _ ⟨by omega, by omega⟩
                      go_wp2_with (first
                        | (at_builtin; go_must (refine wpList_app1 rfl _ _ 22 rfl B 3 _ 1 8 Try.underlying22 infoInt rfl (by decide) (by decide) wr #[.int .i64 (1000 * (i2 : Int) + (j : Int) + 1)] rfl (.slice ua N uc) N (Y y ++ grN i2 j) rfl HU.out rfl rfl (by simp [Value.oneCell']) (by unfold maxLen; omega) (by omega) HB2.out.1.sz ?_); intro v' w2 y1 y2 y3 y4; have H2 : Hid (Ap F B w w2 (.slice ha i1 hc) (.slice (some ⟨b, 0, none⟩) p nc) u5 u6 i1 p i1 i2 V (upd U y v') l (upd m y (N + 1)) Y (upd Z y (Y y ++ grN i2 (j + 1))) ∧ Arel (V y) v' (l y) (N + 1)) := (by have z := HB2.out.1.app (v' := v') (cs := [.int .i64 (1000 * (i2 : Int) + (j : Int) + 1)]) (w2 := w2) (by have := HYY.out; have := HLT.out; omega) HB2.out.2 (by have := hN.out; have := HV.out.2; omega) (by rw [HTY.out.2, Nat.mul_one, ← HV.out.2, List.take_append_of_le_length (by have := HYL.out; omega), List.take_of_length_le (by have := HYL.out; omega)]) (by rw [HTY.out.1, HTY.out.2]; exact y1) (by rw [HTY.out.1, HTY.out.2]; exact y2) y3 y4 ⟨fun h => by have := HYY.out; omega, fun _ => by have := HYY.out; omega⟩; rw [HMS.out, ← List.append_assoc]; exact z); obtain ⟨va', vc', e', -⟩ := own_cells y1; subst e'; clear y1 y2 y3 y4))
                      exact ⟨⟨j + 1, N + 1, va', vc', by omega, by simp, rfl, (by have := hN.out; show _ = _; omega), H2.out⟩, by simp [intOf]; omega⟩
                    · obtain rfl : j = 300 := by omega
                      have HG : Hid (Ap F B w wr (.slice ha i1 hc) (.slice (some ⟨b, 0, none⟩) p nc) u5 u6 i1 p i1 i2 V (upd U y (.slice ua N uc)) l (upd m y N) Y (upd Z y (Y y ++ grN i2 300))) := HB2.out.1
                      go_wp2_with (first
                        | (at_builtin; go_must (refine wpList_lit rfl _ _ 37 rfl B 22 (.slice none 0 0) 1 24 Try.underlying37 infoInts rfl (by decide) wr #[.slice ua N uc] rfl _ i2 ((List.range i2).map fun q => (upd U y (.slice ua N uc)) (i1 + q)) rfl HG.out.rm rfl rfl (by simp [Value.oneCell']) (by unfold maxLen; omega) (by omega) HG.out.sz ?_); intro g6 cap6 w6 ho6 _ hg6 hgn6 _; have H6 : Hid (Ap F B w w6 (.slice ha i1 hc) (.slice (some ⟨b, 0, none⟩) p nc) u5 (.slice (some ⟨g6, 0, none⟩) (i2 + 1) cap6) i1 p i1 (i2 + 1) V (upd U y (.slice ua N uc)) l (upd m y N) Y (upd Z y (Y y ++ grN i2 300))) := HG.out.pushM hg6 (by rw [← HYY.out, upd_at]; exact ho6) (hgn6.imp (fun e => e.symm) (fun e => ⟨g6, rfl, e⟩)); clear ho6 hg6 hgn6))
                      exact ⟨⟨i2 + 1, _, _, _, by have := HLT.out; omega, by simp, H6.out, fun q hq => by rw [upd_ne _ _ _ (by have := HYY.out; omega), upd_ne _ _ _ (by have := HYY.out; omega), upd_ne _ _ _ (by have := HYY.out; omega)]; exact HA.out.2.1 q (by omega), fun q hq => by rw [upd_ne _ _ _ (by have := HYY.out; omega), upd_ne _ _ _ (by have := HYY.out; omega)]; exact HA.out.2.2.1 q hq, fun q hq => by
                        by_cases e : q = i2
                        · subst e; rw [← HYY.out, upd_at, upd_at]; exact ⟨by rw [hN.out, HV.out.2], rfl⟩
                        · rw [upd_ne _ _ _ (by have := HYY.out; omega), upd_ne _ _ _ (by have := HYY.out; omega)]; exact HA.out.2.2.2 q (by omega)⟩, by have := HLT.out; simp [intOf]; omega⟩
                · obtain rfl : i2 = p := by omega
                  have HF : Hid (Ap F B w wr (.slice ha i1 hc) (.slice na i2 nc) u5 u6 i1 i2 i1 i2 V U l m Y Z) := HA.out.1
                  have HFH : Hid (∀ q, q < i1 → m q = l q + 30 ∧ Z q = mkH oldT q (l q) ++ mkH newT q 30 ∧ Y q = mkH oldT q (l q)) := fun q hq => ⟨(HA.out.2.2.1 q hq).1, by rw [(HA.out.2.2.1 q hq).2, HY.out.1 q hq], HY.out.1 q hq⟩
                  have HFN : Hid (∀ q, q < i2 → m (i1 + q) = l (i1 + q) + 300 ∧ Z (i1 + q) = mkN q (l (i1 + q)) ++ grN q 300 ∧ Y (i1 + q) = mkN q (l (i1 + q))) := fun q hq => ⟨(HA.out.2.2.2 q hq).1, by rw [(HA.out.2.2.2 q hq).2, HY.out.2 q hq], HY.out.2 q hq⟩
                  clear HA HY hi2
                  obtain ⟨Wz, rfl⟩ : ∃ Wz, Wz = wr := ⟨_, rfl⟩
                  go_wp2
                  go_loopw [18] (fun i wr => ∃ q : Nat, q ≤ i1 ∧ i = .int .i64 (q : Int) ∧ Hid (Wz.grownBy wr none)) (fun i _ => i1 - (intOf i).toNat)
                  case atStart => exact ⟨0, Nat.zero_le _, rfl, gb_refl _⟩
                  case round =>
                    obtain ⟨q, hq, rfl, hr⟩ := hrel
                    by_cases hlt : q < i1
                    · have hci : (q : Int) < (i1 : Int) := by omega
                      obtain ⟨b, c, e⟩ := (own_shape HF.out.rh).2 (by omega)
                      cases e
                      obtain ⟨bg, cg, e⟩ := (own_shape HF.out.rg).2 (by omega)
                      subst e
                      obtain ⟨M, hM⟩ : ∃ M, M = l q := ⟨_, rfl⟩
                      have hMb : M ≤ 1073741823 := by rw [hM]; exact HL.out q (by omega)
                      obtain ⟨va, vc, hV⟩ := (own_shape (HF.out.vH hlt)).1
                      obtain ⟨f1, f2, f3⟩ := HFH.out q hlt
                      obtain ⟨ug, uc, hU⟩ := (own_shape (HF.out.uH hlt)).2 (by omega)
                      rw [f1, ← hM] at hU
                      rw [← hM] at hV f2 f3
                      have HVU : Hid (V q = .slice va M vc ∧ U q = .slice (some ⟨ug, 0, none⟩) (M + 30) uc) := ⟨hV, hU⟩
                      have HCV : Hid (∀ w', Wz.grownBy w' none → w'.cell? ⟨b, q, none⟩ = some (.slice va M vc)) := fun w' hg => by rw [← HVU.out.1]; exact cell_kept hg (row_cell HF.out.rh q hlt)
                      have HCU : Hid (∀ w', Wz.grownBy w' none → w'.cell? ⟨bg, q, none⟩ = some (.slice (some ⟨ug, 0, none⟩) (M + 30) uc)) := fun w' hg => by rw [← HVU.out.2]; exact cell_kept hg (row_cell HF.out.rg q hlt)
                      have HOV : Hid (Wz.ownsRow B 39 2 (.slice va M vc) M (mkH oldT q M)) := by
                        have := HF.out.vH hlt
                        rwa [hV, f3, ← hM] at this
                      have HOU : Hid (Wz.ownsRow B 39 2 (.slice (some ⟨ug, 0, none⟩) (M + 30) uc) (M + 30) (mkH oldT q M ++ mkH newT q 30)) := by
                        have := HF.out.uH hlt
                        rwa [hU, f2, f1, ← hM] at this
                      have HLT : Hid (q < i1) := hlt
                      have hcell := HCV.out wr hr.out
                      clear hV hU f1 f2 f3 hM
                      go_wp2
                      go_loopw [20] (fun i wr => ∃ j : Nat, j ≤ M ∧ i = .int .i64 (j : Int) ∧ Hid (Wz.grownBy wr none)) (fun i _ => M - (intOf i).toNat)
                      case atStart => exact ⟨0, Nat.zero_le _, rfl, hr.out⟩
                      case round =>
                        clear hr
                        obtain ⟨j, hj, rfl, hr⟩ := hrel
                        by_cases hjl : j < M
                        · have hcj : (j : Int) < (M : Int) := by omega
                          obtain ⟨g, cap, e, _, _⟩ := World.ownsRow.form HOV.out (by omega)
                          cases e
                          have HNM : Hid _ := fun w => name_c q j (by omega) (by omega) w
                          obtain ⟨m1, m2⟩ := mkH_at oldT q M j hjl
                          have k0 : wr.cell? ⟨g, j * 2, none⟩ = some (.string (nmS q j)) := by rw [World.ownsRow.cellAt (own_gb HOV.out hr.out) (j * 2) (by omega)]; exact m1
                          have k1 : wr.cell? ⟨g, j * 2 + 1, none⟩ = some (.string oldT) := by rw [World.ownsRow.cellAt (own_gb HOV.out hr.out) (j * 2 + 1) (by omega)]; exact m2
                          generalize nmS q j = S at *
                          have q0 : ∀ p, (gw wr p).cell? ⟨b, q, none⟩ = some (.slice (some ⟨g, 0, none⟩) M vc) := fun p => cell_gw (HCV.out wr hr.out) p
                          have l1 : ∀ p, (loadVar 39 ⟨g, j * 2, none⟩).run Try.prog (gw wr p) = .ok (.agg #[.string S, .string { data := #[111, 108, 100] }]) (gw wr p) := fun p => load_rg (cell_gw k0 p) (cell_gw k1 p)
                          clear m1 m2 k0 k1
                          go_wp2
                          refine wp_region_gb (by kernel_rfl) (by kernel_rfl) ?_
                          repeat (first
                            | (refine wpQuiet_loadv rfl 39 _ rfl ⟨g, j * 2, none⟩ _ rfl (fun w hw => by obtain ⟨p, rfl⟩ := hw; exact l1 p) ?_)
                            | quiet_step (first
                              | (go_at_call 27; exact calls_gb (HNM.out _))))
                          refine wpQuiet_nil ?_
                          intro _ hw'
                          obtain ⟨pq, rfl⟩ := hw'
                          have HW : Hid (Wz.grownBy (gw wr pq) none) := gb_trans hr.out (gw_gb _ _)
                          go_wp2
                          exact ⟨⟨j + 1, by omega, by simp, HW⟩, by simp [intOf]; omega⟩
                        · obtain rfl : j = M := by omega
                          go_wp2
                          go_loopw [21] (fun i wr => ∃ x : Nat, x ≤ 30 ∧ i = .int .i64 (x : Int) ∧ Hid (Wz.grownBy wr none)) (fun i _ => 30 - (intOf i).toNat)
                          case atStart => exact ⟨0, Nat.zero_le _, rfl, hr.out⟩
                          case round =>
                            clear hr
                            obtain ⟨x, hx, rfl, hr⟩ := hrel
                            by_cases hxl : x < 30
                            · have hcx : (x : Int) < 30 := by omega
                              have HNM : Hid _ := fun w => name_c q x (by omega) (by omega) w
                              obtain ⟨m1, m2⟩ := mkH_at newT q 30 x hxl
                              obtain ⟨s, hs⟩ : ∃ s, s = j + x := ⟨_, rfl⟩
                              have k0 : wr.cell? ⟨ug, s * 2, none⟩ = some (.string (nmS q x)) := by
                                rw [World.ownsRow.cellAt (own_gb HOU.out hr.out) (s * 2) (by omega), List.getElem?_append_right (by rw [mkH_len]; omega), mkH_len, show s * 2 - j * 2 = x * 2 by omega]; exact m1
                              have k1 : wr.cell? ⟨ug, s * 2 + 1, none⟩ = some (.string newT) := by
                                rw [World.ownsRow.cellAt (own_gb HOU.out hr.out) (s * 2 + 1) (by omega), List.getElem?_append_right (by rw [mkH_len]; omega), mkH_len, show s * 2 + 1 - j * 2 = x * 2 + 1 by omega]; exact m2
                              generalize nmS q x = S at *
                              have q0 : ∀ p, (gw wr p).cell? ⟨bg, q, none⟩ = some (.slice (some ⟨ug, 0, none⟩) (j + 30) uc) := fun p => cell_gw (HCU.out wr hr.out) p
                              have l1 : ∀ p, (loadVar 39 ⟨ug, s * 2, none⟩).run Try.prog (gw wr p) = .ok (.agg #[.string S, .string { data := #[110, 101, 119] }]) (gw wr p) := fun p => load_rg (cell_gw k0 p) (cell_gw k1 p)
                              have e1 : IntKind.i64.wrap ((j : Int) + (x : Int)) = (s : Int) := (IntWalk.i64_in _ ⟨by omega, by omega⟩).trans (by omega)
                              have e2 : wrap64 ((j : Int) + (x : Int)) = (s : Int) := (IntWalk.wrap64_in _ ⟨by omega, by omega⟩).trans (by omega)
                              have e3 : (0 : Int) ≤ (s : Int) := by omega
                              have e4 : (s : Int) < (j : Int) + 30 := by omega
                              have e5 : s < j + 30 := by omega
                              clear m1 m2 k0 k1 hs
                              go_wp2
                              refine wp_region_gb (by kernel_rfl) (by kernel_rfl) ?_
                              repeat (first
                                | (refine wpQuiet_loadv rfl 39 _ rfl ⟨ug, s * 2, none⟩ _ rfl (fun w hw => by obtain ⟨p, rfl⟩ := hw; exact l1 p) ?_)
                                | quiet_step (first
                                  | (go_at_call 27; exact calls_gb (HNM.out _))))
                              refine wpQuiet_nil ?_
                              intro _ hw'
                              obtain ⟨pq, rfl⟩ := hw'
                              have HW : Hid (Wz.grownBy (gw wr pq) none) := gb_trans hr.out (gw_gb _ _)
                              go_wp2
                              exact ⟨⟨x + 1, by omega, by simp, HW⟩, by simp [intOf]; omega⟩
                            · obtain rfl : x = 30 := by omega
                              go_wp2
                              exact ⟨⟨q + 1, by have := HLT.out; omega, by simp, hr⟩, by have := HLT.out; simp [intOf]; omega⟩
                    · obtain rfl : q = i1 := by omega
                      go_wp2
                      go_loopw [22] (fun i wr => ∃ q2 : Nat, q2 ≤ i2 ∧ i = .int .i64 (q2 : Int) ∧ Hid (Wz.grownBy wr none)) (fun i _ => i2 - (intOf i).toNat)
                      case atStart => exact ⟨0, Nat.zero_le _, rfl, hr.out⟩
                      case round =>
                        clear hr
                        obtain ⟨y, hy, rfl, hr⟩ := hrel
                        by_cases hlt : y < i2
                        · have hci : (y : Int) < (i2 : Int) := by omega
                          obtain ⟨b, c, e⟩ := (own_shape HF.out.rn).2 (by omega)
                          cases e
                          obtain ⟨bg, cg, e⟩ := (own_shape HF.out.rm).2 (by omega)
                          subst e
                          obtain ⟨M, hM⟩ : ∃ M, M = l (q + y) := ⟨_, rfl⟩
                          have hMb : M ≤ 1073741823 := by rw [hM]; exact HL.out (q + y) (by omega)
                          obtain ⟨va, vc, hV⟩ := (own_shape (HF.out.vN hlt)).1
                          obtain ⟨f1, f2, f3⟩ := HFN.out y hlt
                          obtain ⟨ug, uc, hU⟩ := (own_shape (HF.out.uN hlt)).2 (by omega)
                          rw [f1, ← hM] at hU
                          rw [← hM] at hV f2 f3
                          have HVU : Hid (V (q + y) = .slice va M vc ∧ U (q + y) = .slice (some ⟨ug, 0, none⟩) (M + 300) uc) := ⟨hV, hU⟩
                          have HCV : Hid (∀ w', Wz.grownBy w' none → w'.cell? ⟨b, y, none⟩ = some (.slice va M vc)) := fun w' hg => by rw [← HVU.out.1]; exact cell_kept hg (row_cell HF.out.rn y hlt)
                          have HCU : Hid (∀ w', Wz.grownBy w' none → w'.cell? ⟨bg, y, none⟩ = some (.slice (some ⟨ug, 0, none⟩) (M + 300) uc)) := fun w' hg => by rw [← HVU.out.2]; exact cell_kept hg (row_cell HF.out.rm y hlt)
                          have HOV : Hid (Wz.ownsRow B 3 1 (.slice va M vc) M (mkN y M)) := by
                            have := HF.out.vN hlt
                            rwa [hV, f3, ← hM] at this
                          have HOU : Hid (Wz.ownsRow B 3 1 (.slice (some ⟨ug, 0, none⟩) (M + 300) uc) (M + 300) (mkN y M ++ grN y 300)) := by
                            have := HF.out.uN hlt
                            rwa [hU, f2, f1, ← hM] at this
                          have HLT : Hid (y < i2) := hlt
                          have hcell := HCV.out wr hr.out
                          clear hV hU f1 f2 f3 hM
                          go_wp2
                          go_loopw [24] (fun i wr => ∃ j : Nat, j ≤ M ∧ i = .int .i64 (j : Int) ∧ Hid (Wz.grownBy wr none)) (fun i _ => M - (intOf i).toNat)
                          case atStart => exact ⟨0, Nat.zero_le _, rfl, hr.out⟩
                          case round =>
                            clear hr hcell
                            obtain ⟨j, hj, rfl, hr⟩ := hrel
                            by_cases hjl : j < M
                            · have hcj : (j : Int) < (M : Int) := by omega
                              obtain ⟨g, cap, e, _, _⟩ := World.ownsRow.form HOV.out (by omega)
                              cases e
                              have hcell := HCV.out wr hr.out
                              have k0 : wr.cell? ⟨g, j, none⟩ = some (.int .i64 (-1000 * (y : Int) - (j : Int) - 1)) := by rw [World.ownsRow.cellAt (own_gb HOV.out hr.out) j (by omega)]; exact mkN_at y M j hjl
                              have HFI : Hid (j + 1 ≤ M ∧ M - (j + 1) < M - j) := ⟨by omega, by omega⟩
                              have hbn1 : (-9223372036854775808 : Int) ≤ -1000 * (y : Int) ∧ -1000 * (y : Int) ≤ 9223372036854775807 := ⟨by omega, by omega⟩
                              have hbn2 : (-9223372036854775808 : Int) ≤ -1000 * (y : Int) - (j : Int) ∧ -1000 * (y : Int) - (j : Int) ≤ 9223372036854775807 := ⟨by omega, by omega⟩
                              have hbn3 : (-9223372036854775808 : Int) ≤ -1000 * (y : Int) - (j : Int) - 1 ∧ -1000 * (y : Int) - (j : Int) - 1 ≤ 9223372036854775807 := ⟨by omega, by omega⟩
                              have e0 := IntWalk.wrap64_in _ hbn1
                              have e1 := IntWalk.wrap64_in _ hbn2
                              have e2 := IntWalk.wrap64_in _ hbn3
                              clear hbn1 hbn2 hbn3
                              go_wp2
                              clear e0 e1 e2
                              exact ⟨⟨j + 1, HFI.out.1, by simp, hr⟩, by simp only [intOf]; exact HFI.out.2⟩
                            · obtain rfl : j = M := by omega
                              go_wp2
                              go_loopw [25] (fun i wr => ∃ x : Nat, x ≤ 300 ∧ i = .int .i64 (x : Int) ∧ Hid (Wz.grownBy wr none)) (fun i _ => 300 - (intOf i).toNat)
                              case atStart => exact ⟨0, Nat.zero_le _, rfl, hr.out⟩
                              case round =>
                                clear hr
                                obtain ⟨x, hx, rfl, hr⟩ := hrel
                                by_cases hxl : x < 300
                                · have hcx : (x : Int) < 300 := by omega
                                  have hcell := HCU.out wr hr.out
                                  obtain ⟨s, hs⟩ : ∃ s, s = j + x := ⟨_, rfl⟩
                                  have k0 : wr.cell? ⟨ug, s, none⟩ = some (.int .i64 (1000 * (y : Int) + (x : Int) + 1)) := by
                                    rw [World.ownsRow.cellAt (own_gb HOU.out hr.out) s (by omega), List.getElem?_append_right (by rw [mkN_len]; omega), mkN_len, show s - j = x by omega]; exact grN_at y 300 x hxl
                                  have HFI : Hid (x + 1 ≤ 300 ∧ 300 - (x + 1) < 300 - x) := ⟨by omega, by omega⟩
                                  have hsj : (j : Int) + (x : Int) = (s : Int) := by omega
                                  have hb0 : (-9223372036854775808 : Int) ≤ (j : Int) + (x : Int) ∧ (j : Int) + (x : Int) ≤ 9223372036854775807 := ⟨by omega, by omega⟩
                                  have hb1 : (-9223372036854775808 : Int) ≤ 1000 * (y : Int) ∧ 1000 * (y : Int) ≤ 9223372036854775807 := ⟨by omega, by omega⟩
                                  have hb2 : (-9223372036854775808 : Int) ≤ 1000 * (y : Int) + (x : Int) ∧ 1000 * (y : Int) + (x : Int) ≤ 9223372036854775807 := ⟨by omega, by omega⟩
                                  have hb3 : (-9223372036854775808 : Int) ≤ 1000 * (y : Int) + (x : Int) + 1 ∧ 1000 * (y : Int) + (x : Int) + 1 ≤ 9223372036854775807 := ⟨by omega, by omega⟩
                                  have e3 : (0 : Int) ≤ (s : Int) := by omega
                                  have e4 : (s : Int) < (j : Int) + 300 := by omega
                                  have e5 : s < j + 300 := by omega
                                  have e1 := (IntWalk.i64_in _ hb0).trans hsj
                                  have e2 := (IntWalk.wrap64_in _ hb0).trans hsj
                                  obtain ⟨A3, hA3⟩ : ∃ A3, A3 = 1000 * (y : Int) + (x : Int) + 1 := ⟨_, rfl⟩
                                  have hne : (A3 != 1000 * (y : Int) + (x : Int) + 1) = false := by rw [hA3]; simp
                                  rw [← hA3] at k0
                                  clear hs hsj hb0 hb1 hb2 hb3 hA3
                                  go_wp2
                                  clear e1 e2
                                  exact ⟨⟨x + 1, HFI.out.1, by simp, hr⟩, by simp only [intOf]; exact HFI.out.2⟩
                                · obtain rfl : x = 300 := by omega
                                  go_wp2
                                  exact ⟨⟨y + 1, by have := HLT.out; omega, by simp, hr⟩, by have := HLT.out; simp [intOf]; omega⟩
                        · obtain rfl : y = i2 := by omega
                          go_wp2
                          go_ret
                          exact ⟨rfl, HF.out.bel.grown hr.out HF.out.sz (fun k e => by cases e), fun k hk => (HF.out.kpt hr.out (fun _ e => by cases e) k hk).1⟩
end Go.Proofs.Ytdjcokepeifojaa
