/-
  What the law's apart answers of lists that lie apart: yes. Condition: fewer than 2^30 lists, each shorter than 2^30.
-/
import Derived.Test.YtegbgmihcokblaaDoorFOb
import Derived.Sort.AtCall
namespace Go.Proofs.YtegbgmihcokblaaDoor
set_option linter.unusedVariables false
open Go.RowKit

theorem seg_new1 (w : World) (z : Int) : Seg .u8 (w.alloc (.cells #[.int .u8 z] 5)) (some ⟨w.heap.size, 0, none⟩) 1 [z] :=
  ⟨rfl, .inr ⟨w.heap.size, 0, rfl, by simp, fun i hi => by
    obtain rfl : i = 0 := by omega
    exact Bk.cell (T := 5) (heap_new w _) 0⟩⟩
theorem ApA.start {B : Nat} {w wr : World} {hv : Value} {n : Nat} {V : Nat → Value} {l : Nat → Nat} {X : Nat → List Int} (h : ApA B w wr hv n V l X) : ApB B w wr hv (.slice none 0 0) n 0 V V l l X X :=
  ⟨h.fam.dom (fun k z => z.elim .inl (fun e => by cases e)), h.row, World.ownsRow_nil _ _ _ _, (fun k _ e => by cases e), h.bel, h.sz⟩
/-- What became of the k-th list, and the list itself. -/
def Arel (v u : Value) (l m : Nat) : Prop := u.ownBlock = v.ownBlock → u = .slice none 0 0 ∨ ∃ g c, v = .slice (some ⟨g, 0, none⟩) l c ∧ u = .slice (some ⟨g, 0, none⟩) m c
theorem arel_self {B : Nat} {w : World} {v : Value} {n : Nat} {xs : List Int} (h : Own B w v n xs) : Arel v v n n := fun _ => by
  rcases h.2 with ⟨e, _⟩ | ⟨g, cap, cur, e, _⟩
  · exact .inl e
  · exact .inr ⟨g, cap, e, e⟩
theorem take_set_succ (xs : List Int) (k : Nat) (y : Int) (h : k < xs.length) : (xs.set k y).take (k + 1) = xs.take k ++ [y] := by
  rw [List.take_add_one, List.take_set_of_le (Nat.le_refl _)]
  simp [h]
theorem cells_new (w : World) (cs : List Value) (T : TypeId) : ∀ j u, cs[j]? = some u → (w.alloc (.cells cs.toArray T)).cell? ⟨w.heap.size, j, none⟩ = some u := fun j u hu => by
  rw [Bk.cell (T := T) (heap_new w _) j]
  simpa using hu
theorem one_sl (a : Option Addr) (l c : Nat) : ∀ u ∈ [Value.slice a l c], u.oneCell' = true := fun u hu => by
  have e : u = .slice a l c := by simpa using hu
  rw [e]; rfl
theorem apb_push {B : Nat} {w wr W1 w2 : World} {hv gv gv' u : Value} {n k : Nat} {V U : Nat → Value} {l m : Nat → Nat} {Y Z : Nat → List Int} (h : ApB B w wr hv gv n k V (upd U k u) l m Y Z) (hW : wr.grownBy W1 none) (y1 : w2.ownsRow B 28 1 gv' (k + 1) ((List.range k).map (upd U k u) ++ [u])) (y2 : W1.grownBy w2 gv.ownBlock) (y3 : gv'.ownBlock = gv.ownBlock ∨ gv'.ownBlock = some W1.heap.size) : ApB B w w2 hv gv' n (k + 1) V (upd U k u) l m Y Z := by
  refine (h.gb hW).push y2 ?_ y3
  unfold RowH
  rw [List.range_succ, List.map_append, List.map_singleton, upd_at]
  exact y1
/-- One byte more behind what became of the k-th list. -/
theorem apb_byte {B : Nat} {w wr W1 w2 : World} {hv gv u v' : Value} {n k M1 : Nat} {V U : Nat → Value} {l m : Nat → Nat} {Y Z : Nat → List Int} {zs : List Int} {y : Int} (h : ApB B w wr hv gv n k V (upd U k u) l (upd m k M1) Y (upd Z k zs)) (hk : k < n) (hr : Arel (V k) u (l k) M1) (hlm : l k ≤ M1) (hX : zs.take (l k) = Y k) (hW : wr.grownBy W1 none)
    (y1 : Own B w2 v' (M1 + 1) (zs ++ [y])) (y2 : Own B w2 u M1 zs) (y3 : W1.grownBy w2 u.ownBlock) (y4 : (∃ g cap, u = .slice (some ⟨g, 0, none⟩) M1 cap ∧ v' = .slice (some ⟨g, 0, none⟩) (M1 + 1) cap) ∨ (∃ g cap, v' = .slice (some ⟨g, 0, none⟩) (M1 + 1) cap ∧ W1.heap.size ≤ g)) :
    ∃ ua uc, v' = .slice ua (M1 + 1) uc ∧ ApB B w w2 hv gv n k V (upd U k (.slice ua (M1 + 1) uc)) l (upd m k (M1 + 1)) Y (upd Z k (zs ++ [y])) ∧ Arel (V k) (.slice ua (M1 + 1) uc) (l k) (M1 + 1) := by
  have h1 := h.gb hW
  obtain ⟨b1, b2, b3⟩ := both_app (h1.fam.v k hk) y2 hr hlm hX y3 y4
  have := h1.app hk (u' := v') (m' := M1 + 1) (Z' := zs ++ [y]) (w2 := w2) (by rw [upd_at]; exact y3) b1 y1 (fun g e => by rw [upd_at]; exact b3 g e)
  rw [upd_upd, upd_upd, upd_upd] at this
  obtain ⟨ua, uc, rfl, _⟩ := y1.seg
  exact ⟨ua, uc, rfl, this, b2⟩
set_option maxRecDepth 20000 in
set_option maxHeartbeats 4000000 in
theorem apart_c (w : World) (B n : Nat) (ha : Option Addr) (hc : Nat) (V : Nat → Value) (l : Nat → Nat) (X : Nat → List Int) (h : ApA B w w (.slice ha n hc) n V l X) (hn : n ≤ 1073741824) (hl : ∀ i, i < n → l i ≤ 1073741824) :
    Calls Tryd.prog 29 #[.slice ha n hc] w fun r w' => r = .returned (.bool true) ∧ Below B w w' := by
  have HL : Hid (∀ i, i < n → l i ≤ 1073741824) := hl
  have H0 : Hid (ApA B w w (.slice ha n hc) n V l X) := h
  clear h hl
  go_enter Tryd.func29, Tryd.ntmps29
  go_wp2_with fail
  go_loopw [4] (fun i wr => ∃ (k : Nat) (Y : Nat → List Int), k ≤ n ∧ i = .int .i64 (k : Int) ∧ Hid (ApA B w wr (.slice ha n hc) n V l Y ∧ ∀ j, j < k → Y j = ams j (l j))) (fun i _ => n - (intOf i).toNat)
  case atStart => exact ⟨0, X, Nat.zero_le _, rfl, H0.out, fun j hj => absurd hj (by omega)⟩
  case round =>
    clear H0
    obtain ⟨k, Y, hk, rfl, HA⟩ := hrel
    by_cases hlt : k < n
    · have hci : (k : Int) < (n : Int) := by omega
      obtain ⟨b, c, e⟩ := (own_shape HA.out.1.row).2 (by omega)
      cases e
      obtain ⟨M, hM⟩ : ∃ M, M = l k := ⟨_, rfl⟩
      have hMb : M ≤ 1073741824 := by rw [hM]; exact HL.out k hlt
      obtain ⟨va, vc, hV, hsg, hnz, hle⟩ := (HA.out.1.fam.v k hlt).seg
      have HYL : Hid ((Y k).length = M) := by show _ = _; rw [hM]; exact hsg.1
      rw [← hM] at hV
      have HV : Hid (V k = .slice va M vc ∧ M = l k) := ⟨hV, hM⟩
      have HLT : Hid (k + 1 ≤ n) := hlt
      clear hsg hnz hle hV hM
      go_wp2_with fail
      go_loopw [5] (fun i2 wr2 => ∃ (j : Nat) (Yk : List Int), j ≤ M ∧ i2 = .int .i64 (j : Int) ∧ Hid (ApA B w wr2 (.slice (some ⟨b, 0, none⟩) n hc) n V l (upd Y k Yk) ∧ Yk.length = M ∧ Yk.take j = ams k j)) (fun i2 _ => M - (intOf i2).toNat)
      case atStart => exact ⟨0, Y k, Nat.zero_le _, rfl, by rw [upd_self]; exact HA.out.1, HYL.out, rfl⟩
      case round =>
        obtain ⟨j, Yk, hj, rfl, HB2⟩ := hrel
        have hcell : wr.cell? ⟨b, k, none⟩ = some (.slice va M vc) := by rw [← HV.out.1]; exact HB2.out.1.row.cell k hlt
        by_cases hjl : j < M
        · have hcj : (j : Int) < (M : Int) := by omega
          have hO := HB2.out.1.fam.v k hlt
          rw [upd_at, HV.out.1, ← HV.out.2] at hO
          obtain ⟨g, cap, e, _, _⟩ := hO.form (by omega)
          cases e
          obtain ⟨hc1, hc2⟩ := hO.cell j hjl
          have HST : Hid (ApA B w (wr.setCell ⟨g, j, none⟩ (.int .u8 (amk k j))) (.slice (some ⟨b, 0, none⟩) n hc) n V l (upd Y k (Yk.set j (amk k j))) ∧ (Yk.set j (amk k j)).length = M ∧ (Yk.set j (amk k j)).take (j + 1) = ams k (j + 1)) := by
            have := HB2.out.1.set (amk k j) hlt (by rw [HV.out.1, ← HV.out.2]) (by rw [← HV.out.2]; exact hjl)
            rw [upd_at, upd_upd] at this
            refine ⟨this, by rw [List.length_set]; exact HB2.out.2.1, ?_⟩
            have hjy : j < Yk.length := by have := HB2.out.2.1; omega
            rw [take_set_succ Yk j _ hjy, HB2.out.2.2, ams_succ]
          obtain ⟨Zc, hZc⟩ : ∃ Zc, Zc = Yk[j]?.getD 0 := ⟨_, rfl⟩
          rw [← hZc] at hc1
          clear hO hZc
          go_wp2_with fail
          go_roundw
          case rel => exact ⟨j + 1, Yk.set j (amk k j), hjl, by go_num, HST.out⟩
          case measure => simp [intOf]; omega
        · have hcj : ¬ ((j : Int) < (M : Int)) := by omega
          have HE : Hid (Yk = ams k M) := by
            have q := HB2.out.2.2
            rw [List.take_of_length_le (by have := HB2.out.2.1; omega), show j = M from by omega] at q
            exact q
          go_wp2_with fail
          go_roundw
          case rel => exact ⟨k + 1, upd Y k Yk, HLT.out, by go_num, HB2.out.1, fun q hq => by
            by_cases e : q = k
            · subst e; rw [upd_at, HE.out, HV.out.2]
            · rw [upd_ne _ _ _ e]; exact HA.out.2 q (by omega)⟩
          case measure => have := HLT.out; simp [intOf]; omega
    · have hci : ¬ ((k : Int) < (n : Int)) := by omega
      have HY : Hid (∀ j, j < n → Y j = ams j (l j)) := fun j hj => HA.out.2 j (by omega)
      have HA2 : Hid (ApA B w wr (.slice ha n hc) n V l Y) := HA.out.1
      clear HA hk
      go_wp2_with fail
      go_loopw [3, 6] (fun gv i wr => ∃ (k : Nat) (U : Nat → Value) (m : Nat → Nat) (Z : Nat → List Int), k ≤ n ∧ i = .int .i64 (k : Int) ∧ Hid (ApB B w wr (.slice ha n hc) gv n k V U l m Y Z ∧ (∀ j, k ≤ j → j < n → U j = V j ∧ m j = l j ∧ Z j = Y j) ∧ (∀ j, j < k → m j = l j + 40 ∧ Z j = Y j ++ ags j 40))) (fun _ i _ => n - (intOf i).toNat)
      case atStart => exact ⟨0, V, l, Y, Nat.zero_le _, rfl, HA2.out.start, fun j _ _ => ⟨rfl, rfl, rfl⟩, fun j hj => absurd hj (by omega)⟩
      case round =>
        clear HA2
        obtain ⟨k, U, m, Z, hk, rfl, HA⟩ := hrel
        by_cases hlt : k < n
        · have hci : (k : Int) < (n : Int) := by omega
          obtain ⟨b, c, e⟩ := (own_shape HA.out.1.row).2 (by omega)
          cases e
          obtain ⟨M, hM⟩ : ∃ M, M = l k := ⟨_, rfl⟩
          have hMb : M ≤ 1073741824 := by rw [hM]; exact HL.out k hlt
          obtain ⟨va, vc, hV, hsg, hnz, hle⟩ := (HA.out.1.fam.v k hlt).seg
          have HYL : Hid ((Y k).length = M) := by show _ = _; rw [hM]; exact hsg.1
          rw [← hM] at hV
          have hcell : wr.cell? ⟨b, k, none⟩ = some (.slice va M vc) := by rw [← hV]; exact HA.out.1.row.cell k hlt
          have HV : Hid (V k = .slice va M vc ∧ M = l k) := ⟨hV, hM⟩
          have HLT : Hid (k + 1 ≤ n) := hlt
          have HST : Hid (ApB B w wr (.slice (some ⟨b, 0, none⟩) n hc) u3 n k V (upd U k (.slice va (M + 0) vc)) l (upd m k (M + 0)) Y (upd Z k (Y k ++ ags k 0)) ∧ Arel (V k) (.slice va (M + 0) vc) (l k) (M + 0)) := by
            obtain ⟨q1, q2, q3⟩ := HA.out.2.1 k (Nat.le_refl _) hlt
            have e1 : upd U k (.slice va (M + 0) vc) = U := by rw [show (Value.slice va (M + 0) vc) = U k from by rw [q1, hV]; rfl, upd_self]
            have e2 : upd m k (M + 0) = m := by rw [show M + 0 = m k from by rw [q2, hM]; rfl, upd_self]
            have e3 : upd Z k (Y k ++ ags k 0) = Z := by rw [show Y k ++ ags k 0 = Z k from by rw [q3]; simp [ags], upd_self]
            rw [e1, e2, e3]
            refine ⟨HA.out.1, ?_⟩
            have := arel_self (HA.out.1.fam.v k hlt)
            rw [hV, ← hM] at this ⊢
            exact this
          clear hsg hnz hle hV hM
          go_wp2_with fail
          go_loopw [7, 8] (fun u i2 wr => ∃ (j : Nat) (ua : Option Addr) (uc : Nat), j ≤ 40 ∧ i2 = .int .i64 (j : Int) ∧ u = .slice ua (M + j) uc ∧ Hid (ApB B w wr (.slice (some ⟨b, 0, none⟩) n hc) u3 n k V (upd U k (.slice ua (M + j) uc)) l (upd m k (M + j)) Y (upd Z k (Y k ++ ags k j)) ∧ Arel (V k) (.slice ua (M + j) uc) (l k) (M + j))) (fun _ i2 _ => 40 - (intOf i2).toNat)
          case atStart => exact ⟨0, va, vc, by omega, rfl, rfl, HST.out⟩
          case round =>
            clear HST hcell
            obtain ⟨j, ua, uc, hj, rfl, rfl, HB⟩ := hrel
            by_cases hjl : j < 40
            · have hcj : (j : Int) < 40 := by omega
              have HU : Hid (Own B wr (.slice ua (M + j) uc) (M + j) (Y k ++ ags k j)) := by
                have := HB.out.1.fam.u k hlt
                rw [upd_at, upd_at, upd_at] at this
                exact this
              have HX : Hid ((Y k ++ ags k j).take (l k) = Y k ∧ l k ≤ M + j) := ⟨by rw [← HV.out.2, ← HYL.out, List.take_left], by have := HV.out.2; omega⟩
              go_wp2_with (at_builtin; go_must (refine wpList_app1 rfl (.tmp 53) (.tmp 60) rfl _ B (M + j) _ (Y k ++ ags k j) (agk k j) rfl (HU.out.below ((Below.refl _ _).alloc (Nat.le_refl _) _)) wr.heap.size rfl (seg_new1 wr _) (by omega) (by have := HB.out.1.sz; simp; omega) ?_); intro v' w2 y1 y2 y3 y4; obtain ⟨ua', uc', ev, hN⟩ := apb_byte HB.out.1 hlt HB.out.2 HX.out.2 HX.out.1 (World.grownBy_alloc _ _ _) y1 y2 y3 y4; have HN : Hid _ := hN; subst ev; clear y1 y2 y3 y4 hN)
              go_roundw
              case rel => exact ⟨j + 1, ua', uc', hjl, by go_num, rfl, by rw [← Nat.add_assoc, ags_succ, ← List.append_assoc]; exact HN.out⟩
              case measure => simp [intOf]; omega
            · have hcj : ¬ ((j : Int) < 40) := by omega
              obtain rfl : j = 40 := by omega
              go_wp2_with (at_builtin; go_must (refine wpList_pushH rfl (.tmp 62) (.tmp 64) rfl _ B _ k ((List.range k).map (upd U k (.slice ua (M + 40) uc))) wr.heap.size 1 [.slice ua (M + 40) uc] rfl rfl (own_gr HB.out.1.gro (Gr.of (G := fun _ => False) (World.grownBy_alloc _ _ none) (by simp)) (fun _ _ z => z)) rfl (cells_new wr [.slice ua (M + 40) uc] 28) (one_sl _ _ _) (by omega) (by have := HB.out.1.sz; simp; omega) ?_); intro v' w2 y1 y2 y3; have HP : Hid _ := apb_push HB.out.1 (World.grownBy_alloc _ _ _) y1 y2 y3; clear y1 y2 y3)
              go_roundw
              case rel => exact ⟨k + 1, _, _, _, HLT.out, by go_num, HP.out, fun q hq hqn => by
                rw [upd_ne _ _ _ (by omega), upd_ne _ _ _ (by omega), upd_ne _ _ _ (by omega)]
                exact HA.out.2.1 q (by omega) hqn, fun q hq => by
                by_cases e : q = k
                · subst e; rw [upd_at, upd_at]; exact ⟨by rw [HV.out.2], rfl⟩
                · rw [upd_ne _ _ _ e, upd_ne _ _ _ e]; exact HA.out.2.2 q (by omega)⟩
              case measure => have := HLT.out; simp [intOf]; omega
        · have hci : ¬ ((k : Int) < (n : Int)) := by omega
          obtain rfl : k = n := by omega
          have HR : Hid (ApB B w wr (.slice ha k hc) u3 k k V U l m Y Z ∧ (∀ j, j < k → m j = l j + 40 ∧ Z j = Y j ++ ags j 40)) := ⟨HA.out.1, HA.out.2.2⟩
          clear HA
          go_wp2_with fail
          go_loop [9] (fun i => ∃ q : Nat, q ≤ k ∧ i = .int .i64 (q : Int)) (fun i => k - (intOf i).toNat)
          case atStart => exact ⟨0, Nat.zero_le _, rfl⟩
          case round =>
            obtain ⟨q, hq, rfl⟩ := hrel
            by_cases hlq : q < k
            · have hcq : (q : Int) < (k : Int) := by omega
              obtain ⟨b, c, e⟩ := (own_shape HR.out.1.row).2 (by omega)
              cases e
              obtain ⟨b2, c2, rfl⟩ := (own_shape HR.out.1.gro).2 (by omega)
              obtain ⟨M, hM⟩ : ∃ M, M = l q := ⟨_, rfl⟩
              have hMb : M ≤ 1073741824 := by rw [hM]; exact HL.out q hlq
              obtain ⟨va, vc, hV, hsg, hnz, hle⟩ := (HR.out.1.fam.v q hlq).seg
              obtain ⟨ua, uc, hU, hsu, hnzu, hleu⟩ := (HR.out.1.fam.u q hlq).seg
              have hYM : (Y q).length = M := by rw [hM]; exact hsg.1
              rw [(HR.out.2 q hlq).1, ← hM] at hU hsu hleu
              rw [(HR.out.2 q hlq).2] at hsu
              rw [← hM] at hV hsg hle
              have hYq := HY.out q hlq
              rw [← hM] at hYq
              have hcell : wr.cell? ⟨b, q, none⟩ = some (.slice va M vc) := by rw [← hV]; exact HR.out.1.row.cell q hlq
              have hcell2 : wr.cell? ⟨b2, q, none⟩ = some (.slice ua (M + 40) uc) := by rw [← hU]; exact HR.out.1.gro.cell q hlq
              have HSV : Hid (Seg .u8 wr va M (Y q) ∧ Seg .u8 wr ua (M + 40) (Y q ++ ags q 40) ∧ Y q = ams q M ∧ (Y q).length = M) := ⟨hsg, hsu, hYq, hYM⟩
              have HLQ : Hid (q + 1 ≤ k) := hlq
              clear hsg hsu hYq hYM hM hV hU hnz hle hnzu hleu
              go_wp2_with fail
              go_loop [11] (fun i => ∃ j : Nat, j ≤ M ∧ i = .int .i64 (j : Int)) (fun i => M - (intOf i).toNat)
              case atStart => exact ⟨0, Nat.zero_le _, rfl⟩
              case round =>
                obtain ⟨j, hj, rfl⟩ := hrel
                by_cases hjl : j < M
                · have hcj : (j : Int) < (M : Int) := by omega
                  obtain ⟨g, go, rfl, hgw, hgc⟩ := HSV.out.1.2.resolve_left (by omega)
                  have hc1 : wr.cell? ⟨g, go + j, none⟩ = some (.int .u8 (((q : Int) + 7 * (j : Int)) % 256)) := by
                    have := hgc j hjl
                    rw [HSV.out.2.2.1, ams_at q M j hjl] at this
                    exact this
                  clear hgc
                  go_wp2_with fail
                  go_round
                  case rel => exact ⟨j + 1, hjl, by go_num⟩
                  case measure => simp [intOf]; omega
                · have hcj : ¬ ((j : Int) < (M : Int)) := by omega
                  go_wp2_with fail
                  go_loop [12] (fun i => ∃ p : Nat, p ≤ 40 ∧ i = .int .i64 (p : Int)) (fun i => 40 - (intOf i).toNat)
                  case atStart => exact ⟨0, Nat.zero_le _, rfl⟩
                  case round =>
                    obtain ⟨p, hp, rfl⟩ := hrel
                    by_cases hpl : p < 40
                    · have hcp : (p : Int) < 40 := by omega
                      obtain ⟨g, go, rfl, hgw, hgc⟩ := HSV.out.2.1.2.resolve_left (by omega)
                      have hc1 : wr.cell? ⟨g, go + (M + p), none⟩ = some (.int .u8 (((q : Int) + 101 + 3 * (p : Int)) % 256)) := by
                        have := hgc (M + p) (by omega)
                        have e2 := ags_at (Y q) q 40 p hpl
                        rw [HSV.out.2.2.2] at e2
                        rw [e2] at this
                        exact this
                      clear hgc
                      go_wp2_with fail
                      go_round
                      case rel => exact ⟨p + 1, hpl, by go_num⟩
                      case measure => simp [intOf]; omega
                    · have hcp : ¬ ((p : Int) < 40) := by omega
                      go_wp2_with fail
                      go_round
                      case rel => exact ⟨q + 1, HLQ.out, by go_num⟩
                      case measure => have := HLQ.out; simp [intOf]; omega
            · have hcq : ¬ ((q : Int) < (k : Int)) := by omega
              go_wp2
              go_ret
              exact ⟨rfl, HR.out.1.bel⟩
end Go.Proofs.YtegbgmihcokblaaDoor
