/-
  Proved: for every list of calls and every key, hawserlaw07.TableMap answers true: what was put last under a key is got, until it is deleted. No condition.
-/
import Derived.Test.YtdmchcdkfbijlabRows
import Derived.Test.YtdmchcdkfbijlabTMk
import Derived.WalkKit
import Derived.ProofKit
import Derived.OpenShut
import Derived.ShutString
import Derived.ChangeOld
import Derived.Below
import Derived.Lib.SmallJoins
import Derived.JoinedCond
namespace Go.Proofs.Ytdmchcdkfbijlab.tableMap
open Go.ChangeShapes Go.WideShapes Go.ChangeAt Go.RowKit
set_option linter.unusedVariables false

theorem own : ownKnob Try.prog.godebug = none := by kernel_rfl
theorem laidOut : laidOutB Try.prog = true := by kernel_rfl

theorem row_k9 : rowE ({ data := #[107] }, .empty, 9) = 0 ∧ putE ({ data := #[107] }, .empty, 9) [] = 0 := by decide +kernel
theorem map_start : delR { data := #[107] } (putS ({ data := #[107] }, .empty, 9) []) = [] ∧ (getR { data := #[107] } (putS ({ data := #[107] }, .empty, 9) [])).isSome = true := by
  unfold putS
  rw [if_pos row_k9.2]
  simp [putR, delR, getR]
set_option maxRecDepth 20000 in
set_option maxHeartbeats 40000000 in
theorem walk (a : Option Addr) (n cap : Nat) (X : List OpT) (key : ByteArray) (w : World) (hO : TOps w a n X) (lc : n ≤ cap) (cm : cap ≤ maxLen) (nz : a = none → cap = 0) (hky : key.size ≤ maxLen) : Calls Try.prog 4 #[.slice a n cap, .string key] w fun e w' => e = .returned (.bool true) ∧ Below w.heap.size w w' := by
  have HO : Hid (TOps w a n X) := hO
  have hzr : ∀ w : World, (zeroValue 28).run Try.prog w = .ok (.agg #[.string .empty, .string .empty, .int .i64 0]) w := zR
  have hzo := zO
  have heq := eq_rows
  clear hO nz hky
  have hn : n ≤ 9223372036854775807 := by unfold maxLen at cm; omega
  clear cm
  have HNW : Hid _ := new_c w
  go_enter Try.func4, Try.ntmps4
  go_wp2_with (first
    | (go_at_call 5; refine (Calls.mono HNW.out ?_); rintro e w1 ⟨rfl, hb1, hg1⟩; have H1 : Hid (Tbl (fun b => b ≠ w.heap.size) w1 w.heap.size [] ∧ w.grownBy w1 none) := ⟨tbl_none _ hb1, hg1⟩; clear hb1 hg1)
    | (go_at_call 6; go_must (refine (Calls.mono (tput_c _ ({ data := #[107] }, .empty, 9) _ [] w1 (fun b hb => by have := H1.out.1.lt; omega) (fun h => h rfl) H1.out.1) ?_)); rw [row_k9.2]; rintro e w2 ⟨rfl, ht2, hg2⟩; have H2 : Hid (Tbl (fun b => b ≠ w.heap.size) w2 w.heap.size (putS ({ data := #[107] }, .empty, 9) []) ∧ w.grownBy w2 none) := ⟨ht2, gb_newer H1.out.2 hg2 (Nat.le_refl _)⟩; clear ht2 hg2)
    | (go_at_call 17; go_must (refine (Calls.mono (delete_c _ { data := #[107] } _ _ w2 (fun b hb => by have := H2.out.1.lt; omega) (fun h => h rfl) H2.out.1) ?_)); rw [map_start.1, map_start.2]; rintro e w3 ⟨rfl, ht3, hg3⟩; have H3 : Hid (Tbl (fun b => b ≠ w.heap.size) w3 w.heap.size [] ∧ w.grownBy w3 none) := ⟨ht3, gb_newer H2.out.2 hg3 (Nat.le_refl _)⟩; clear ht3 hg3))
  have H4 : Hid (MK w w.heap.size w3.heap.size [] (getR key []) (w3.alloc (.cells #[.string .empty, .string .empty, .int .i64 0] 28))) := ⟨(H3.out.1.weak (fun b hb h => ⟨h, by omega⟩)).gb0 (gb_alloc _ _), (blk_new w3 _ _).1, gb_trans H3.out.2 (gb_alloc _ _), Nat.le_refl _, H3.out.1.lt⟩
  generalize hW4 : World.alloc w3 _ = w4 at H4 ⊢
  clear hW4 H1 H2 H3 HNW
  obtain ⟨g, hg⟩ : ∃ g, g = w.heap.size := ⟨_, rfl⟩
  obtain ⟨V, hV⟩ : ∃ V, V = w3.heap.size := ⟨_, rfl⟩
  rw [← hV, ← hg] at H4 ⊢
  clear hV hg
  go_loopw [7, 25] (fun th i wr => ∃ (k : Nat) (xs : List Rw), k ≤ n ∧ i = .int .i64 k ∧ th = .bool (getR key xs).isSome ∧ Hid (MK w g V xs (getR key xs) wr)) (fun _ i _ => n - (intOf i).toNat)
  case atStart => exact ⟨0, [], Nat.zero_le _, rfl, rfl, H4.out⟩
  case round =>
    obtain ⟨k, xs, hk, rfl, rfl, hm⟩ := hrel
    clear H4
    by_cases hlt : k < n
    · obtain ⟨b, off, q, rfl, hbw, hxq, hrg⟩ := HO.out.at_ k hlt
      have hi1 : (k : Int) < n := by omega
      have HRG : Hid (wr.rangeAt b (off + k * 11) q.cells) := fun j v hv => ((gb_below hm.out.gb).cell (p := ⟨b, off + k * 11 + j, none⟩) hbw).trans (hrg j v hv)
      have HL1 : Hid (k + 1 ≤ n) := hlt
      clear hxq hrg hbw
      obtain ⟨N, hN⟩ : ∃ N, N = wr.heap.size := ⟨_, rfl⟩
      have HNS : Hid (N = wr.heap.size ∧ g < N ∧ V < N) := ⟨hN, by have := hm.out.tbl.lt; omega, by have := hm.out.lt; omega⟩
      have HNE : Hid (N = wr.heap.size) := hN
      clear hN
      have HGB0 : Hid (wr.grownBy (wr.alloc (.cells zOp 34)) none ∧ Bk 34 (wr.alloc (.cells zOp 34)) wr.heap.size zOp) := ⟨gb_alloc _ _, (blk_new wr _ _).1⟩
      generalize hG : getR key xs = G at *
      have HG : Hid (getR key xs = G) := hG
      clear hG
      by_cases hc0 : q.call = 0
      · have HRI : Hid (Rises xs) := hm.out.rises
        by_cases he : q.row.1 = key
        · have hs : (q.row.1.toList == key.toList) = true := by rw [te_iff]; exact decide_eq_true he
          by_cases hE : putE q.row xs = 0
          · have HGN : Hid (getR key (putS q.row xs) = some q.row) := by show _ = _; rw [getR_putS HRI.out, if_pos ⟨hE, he⟩]
            have HPU : Hid (∀ W, ∀ {G0 : Option Rw}, MK w g V xs G0 W → Calls Try.prog 6 #[.pointer (some ⟨g, 0, none⟩), .agg #[.string q.row.1, .string q.row.2.1, .int .i64 q.row.2.2]] W fun e w' => e = .returned (.int .i64 (0)) ∧ Tbl (fun b => b ≠ g ∧ b ≠ V) w' g (putS q.row xs) ∧ W.grownBy w' (some g)) := fun W _ h => by have := tput_c _ q.row g xs W h.ob (fun h => h.1 rfl) h.tbl; rw [hE] at this; exact this
            have HGE : Hid (∀ W, ∀ {G0 : Option Rw}, MK w g V (putS q.row xs) G0 W → Calls Try.prog 13 #[.pointer (some ⟨g, 0, none⟩), .string key] W fun e w' => e = .returned (.tuple #[.agg (rvR (some q.row)), .bool (some q.row).isSome]) ∧ W.grownBy w' none) := fun W _ h => by have := get_c _ key g (putS q.row xs) W h.tbl; rw [HGN.out] at this; exact this
            clear he hE
            go_wp2_with (first
              | (refine wpList_load_mid rfl 34 (.tmp 27) rfl b (off + k * 11) rfl q.cells _ HRG.out Try.underlying34 rfl (by kernel_rfl) ?_)
               | (refine wpList_store_bk 34 rfl (.tmp 9) (.tmp 28) rfl infoOp wr.heap.size zOp q.cells.toArray rfl rfl HGB0.out.2 rfl rfl (ops_one q) ?_; intro w1 s1 s2; rw [← HNE.out] at s1 s2 ⊢; have H1 : Hid (Bk 34 w1 N q.cells.toArray ∧ MK w g V xs (G) w1) := ⟨s1, hm.out.grow (gb_newer HGB0.out.1 s2 (by rw [HNE.out]; exact Nat.le_refl _))⟩; clear s1 s2; have c0 : w1.cell? ⟨N, 0, none⟩ = some (.int .i64 q.call) := H1.out.1.cell 0; have c3 : w1.cell? ⟨N, 3, none⟩ = some (.string q.row.1) := H1.out.1.cell 3; have c4 : w1.cell? ⟨N, 4, none⟩ = some (.string q.row.2.1) := H1.out.1.cell 4; have c5 : w1.cell? ⟨N, 5, none⟩ = some (.int .i64 q.row.2.2) := H1.out.1.cell 5; have c6 : w1.cell? ⟨N, 6, none⟩ = some (.string q.key) := H1.out.1.cell 6)
              | (go_at_call 6; go_must (refine (Calls.mono (HPU.out w1 H1.out.2) ?_)); rintro e w2 ⟨rfl, ht2, hg2⟩; have H2 : Hid (Bk 34 w2 N q.cells.toArray ∧ MK w g V (putS q.row xs) (G) w2) := ⟨H1.out.1.grew hg2 (fun e => by have := Option.some.inj e; have := HNS.out; omega), H1.out.2.did ht2 hg2⟩; clear ht2 hg2; replace c0 : w2.cell? ⟨N, 0, none⟩ = some (.int .i64 q.call) := H2.out.1.cell 0; replace c3 : w2.cell? ⟨N, 3, none⟩ = some (.string q.row.1) := H2.out.1.cell 3; replace c4 : w2.cell? ⟨N, 4, none⟩ = some (.string q.row.2.1) := H2.out.1.cell 4; replace c5 : w2.cell? ⟨N, 5, none⟩ = some (.int .i64 q.row.2.2) := H2.out.1.cell 5; replace c6 : w2.cell? ⟨N, 6, none⟩ = some (.string q.key) := H2.out.1.cell 6)
              | ((fail_if_success (have z := H3)); have z := H2; clear z; refine wpList_store_bk 28 rfl (.tmp 6) (.tmp 46) rfl infoRow V (rvR (G)) (ivs q.row) rfl rfl H2.out.2.want (rvR_size _) rfl (rvR_one (some q.row)) ?_; intro w3 s1 s2; have H3 : Hid (Bk 34 w3 N q.cells.toArray ∧ MK w g V (putS q.row xs) (some q.row) w3) := ⟨H2.out.1.grew s2 (fun e => by have := Option.some.inj e; have := HNS.out; omega), H2.out.2.put s1 s2⟩; clear s1 s2)
              | (go_at_call 13; go_must (refine (Calls.mono (HGE.out w3 H3.out.2) ?_)); rintro e w4 ⟨rfl, hg4⟩; have H4 : Hid (MK w g V (putS q.row xs) (some q.row) w4) := H3.out.2.grow hg4; clear hg4; have H5 : Hid (Bk 28 (w4.alloc (.cells #[.string .empty, .string .empty, .int .i64 0] 28)) w4.heap.size zRow ∧ w4.grownBy (w4.alloc (.cells #[.string .empty, .string .empty, .int .i64 0] 28)) none) := blk_new w4 _ _)
              | (have z := H5; clear z; refine wpList_store_bk 28 rfl (.tmp 11) (.tmp 81) rfl infoRow w4.heap.size zRow (rvR (some q.row)) rfl rfl H5.out.1 rfl (rvR_size _) (rvR_one _) ?_; intro w5 s1 s2; have H6 : Hid (Bk 28 w5 w4.heap.size (rvR (some q.row)) ∧ MK w g V (putS q.row xs) (some q.row) w5) := ⟨s1, H4.out.grow (gb_newer H5.out.2 s2 (Nat.le_refl _))⟩; clear s1 s2)
              | (have z := H6; clear z; refine wpList_load_bk 28 rfl (.tmp 11) rfl Try.underlying28 rfl infoRow w4.heap.size (rvR (some q.row)) rfl H6.out.1 (rvR_size _) ?_)
              | (have z := H6; clear z; refine wpList_load_bk 28 rfl (.tmp 6) rfl Try.underlying28 rfl infoRow V (rvR (some q.row)) rfl H6.out.2.want (rvR_size _) ?_))
            refine ⟨⟨k + 1, putS q.row xs, HL1.out, by simp, by rw [HGN.out]; rfl, by rw [HGN.out]; exact H6.out.2⟩, ?_⟩
            have := HL1.out
            simp [intOf]; omega
          · have hE0 : (putE q.row xs == 0) = false := by simpa using hE
            have HPU : Hid (∀ W, ∀ {G0 : Option Rw}, MK w g V xs G0 W → Calls Try.prog 6 #[.pointer (some ⟨g, 0, none⟩), .agg #[.string q.row.1, .string q.row.2.1, .int .i64 q.row.2.2]] W fun e w' => e = .returned (.int .i64 (putE q.row xs)) ∧ Tbl (fun b => b ≠ g ∧ b ≠ V) w' g (putS q.row xs) ∧ W.grownBy w' (some g)) := fun W _ h => tput_c _ q.row g xs W h.ob (fun h => h.1 rfl) h.tbl
            by_cases hr : rowE q.row = 0
            · have HCH : Hid (∀ W, Calls Try.prog 18 #[.agg #[.string q.row.1, .string q.row.2.1, .int .i64 q.row.2.2]] W fun r w' => r = .returned (.int .i64 0) ∧ W.grownBy w' none) := fun W => by have := gcheck_c q.row W; rw [hr] at this; exact this
              have HLE : Hid (∀ W, ∀ {G0 : Option Rw}, MK w g V (putS q.row xs) G0 W → Calls Try.prog 7 #[.pointer (some ⟨g, 0, none⟩)] W fun e w' => e = .returned (.int .i64 (1048576 : Nat)) ∧ w' = W) := fun W _ h => by have := len_c _ g (putS q.row xs) W h.tbl; rw [putE_full hE hr] at this; exact this
              clear hr
              cases G with
              | none =>
                have HGN : Hid (getR key (putS q.row xs) = none) := by show _ = _; rw [getR_putS HRI.out, if_neg (fun h => hE h.1)]; exact HG.out
                have HGE : Hid (∀ W, ∀ {G0 : Option Rw}, MK w g V (putS q.row xs) G0 W → Calls Try.prog 13 #[.pointer (some ⟨g, 0, none⟩), .string key] W fun e w' => e = .returned (.tuple #[.agg (rvR (none)), .bool (none).isSome]) ∧ W.grownBy w' none) := fun W _ h => by have := get_c _ key g (putS q.row xs) W h.tbl; rw [HGN.out] at this; exact this
                clear he HRI
                go_wp2_with (first
                  | (refine wpList_load_mid rfl 34 (.tmp 27) rfl b (off + k * 11) rfl q.cells _ HRG.out Try.underlying34 rfl (by kernel_rfl) ?_)
                   | (refine wpList_store_bk 34 rfl (.tmp 9) (.tmp 28) rfl infoOp wr.heap.size zOp q.cells.toArray rfl rfl HGB0.out.2 rfl rfl (ops_one q) ?_; intro w1 s1 s2; rw [← HNE.out] at s1 s2 ⊢; have H1 : Hid (Bk 34 w1 N q.cells.toArray ∧ MK w g V xs (none) w1) := ⟨s1, hm.out.grow (gb_newer HGB0.out.1 s2 (by rw [HNE.out]; exact Nat.le_refl _))⟩; clear s1 s2; have c0 : w1.cell? ⟨N, 0, none⟩ = some (.int .i64 q.call) := H1.out.1.cell 0; have c3 : w1.cell? ⟨N, 3, none⟩ = some (.string q.row.1) := H1.out.1.cell 3; have c4 : w1.cell? ⟨N, 4, none⟩ = some (.string q.row.2.1) := H1.out.1.cell 4; have c5 : w1.cell? ⟨N, 5, none⟩ = some (.int .i64 q.row.2.2) := H1.out.1.cell 5; have c6 : w1.cell? ⟨N, 6, none⟩ = some (.string q.key) := H1.out.1.cell 6)
                  | (go_at_call 6; go_must (refine (Calls.mono (HPU.out w1 H1.out.2) ?_)); rintro e w2 ⟨rfl, ht2, hg2⟩; have H2 : Hid (Bk 34 w2 N q.cells.toArray ∧ MK w g V (putS q.row xs) (none) w2) := ⟨H1.out.1.grew hg2 (fun e => by have := Option.some.inj e; have := HNS.out; omega), H1.out.2.did ht2 hg2⟩; clear ht2 hg2; replace c0 : w2.cell? ⟨N, 0, none⟩ = some (.int .i64 q.call) := H2.out.1.cell 0; replace c3 : w2.cell? ⟨N, 3, none⟩ = some (.string q.row.1) := H2.out.1.cell 3; replace c4 : w2.cell? ⟨N, 4, none⟩ = some (.string q.row.2.1) := H2.out.1.cell 4; replace c5 : w2.cell? ⟨N, 5, none⟩ = some (.int .i64 q.row.2.2) := H2.out.1.cell 5; replace c6 : w2.cell? ⟨N, 6, none⟩ = some (.string q.key) := H2.out.1.cell 6)
                  | (go_at_call 18; go_must (refine (Calls.mono (HCH.out w2) ?_)); rintro e w21 ⟨rfl, hg21⟩; have H21 : Hid (Bk 34 w21 N q.cells.toArray ∧ MK w g V (putS q.row xs) (none) w21) := ⟨H2.out.1.grew hg21 (by simp), H2.out.2.grow hg21⟩; clear hg21; replace c0 : w21.cell? ⟨N, 0, none⟩ = some (.int .i64 q.call) := H21.out.1.cell 0; replace c3 : w21.cell? ⟨N, 3, none⟩ = some (.string q.row.1) := H21.out.1.cell 3; replace c4 : w21.cell? ⟨N, 4, none⟩ = some (.string q.row.2.1) := H21.out.1.cell 4; replace c5 : w21.cell? ⟨N, 5, none⟩ = some (.int .i64 q.row.2.2) := H21.out.1.cell 5; replace c6 : w21.cell? ⟨N, 6, none⟩ = some (.string q.key) := H21.out.1.cell 6)
                  | (go_at_call 7; go_must (refine (Calls.mono (HLE.out w21 H21.out.2) ?_)); rintro e w22 ⟨rfl, rfl⟩)
                  | (go_at_call 13; go_must (refine (Calls.mono (HGE.out w22 H21.out.2) ?_)); rintro e w4 ⟨rfl, hg4⟩; have H4 : Hid (MK w g V (putS q.row xs) (none) w4) := H21.out.2.grow hg4; clear hg4; have H5 : Hid (Bk 28 (w4.alloc (.cells #[.string .empty, .string .empty, .int .i64 0] 28)) w4.heap.size zRow ∧ w4.grownBy (w4.alloc (.cells #[.string .empty, .string .empty, .int .i64 0] 28)) none) := blk_new w4 _ _)
                  | (have z := H5; clear z; refine wpList_store_bk 28 rfl (.tmp 11) (.tmp 81) rfl infoRow w4.heap.size zRow (rvR (none)) rfl rfl H5.out.1 rfl (rvR_size _) (rvR_one _) ?_; intro w5 s1 s2; have H6 : Hid (Bk 28 w5 w4.heap.size (rvR (none)) ∧ MK w g V (putS q.row xs) (none) w5) := ⟨s1, H4.out.grow (gb_newer H5.out.2 s2 (Nat.le_refl _))⟩; clear s1 s2)
                  | (have z := H6; clear z; refine wpList_load_bk 28 rfl (.tmp 11) rfl Try.underlying28 rfl infoRow w4.heap.size (rvR (none)) rfl H6.out.1 (rvR_size _) ?_)
                  | (have z := H6; clear z; refine wpList_load_bk 28 rfl (.tmp 6) rfl Try.underlying28 rfl infoRow V (rvR (none)) rfl H6.out.2.want (rvR_size _) ?_))
                refine ⟨⟨k + 1, putS q.row xs, HL1.out, by simp, by rw [HGN.out]; rfl, by rw [HGN.out]; exact H6.out.2⟩, ?_⟩
                have := HL1.out
                simp [intOf]; omega
              | some y =>
                have HGN : Hid (getR key (putS q.row xs) = some y) := by show _ = _; rw [getR_putS HRI.out, if_neg (fun h => hE h.1)]; exact HG.out
                have HGE : Hid (∀ W, ∀ {G0 : Option Rw}, MK w g V (putS q.row xs) G0 W → Calls Try.prog 13 #[.pointer (some ⟨g, 0, none⟩), .string key] W fun e w' => e = .returned (.tuple #[.agg (rvR (some y)), .bool (some y).isSome]) ∧ W.grownBy w' none) := fun W _ h => by have := get_c _ key g (putS q.row xs) W h.tbl; rw [HGN.out] at this; exact this
                clear he HRI
                go_wp2_with (first
                  | (refine wpList_load_mid rfl 34 (.tmp 27) rfl b (off + k * 11) rfl q.cells _ HRG.out Try.underlying34 rfl (by kernel_rfl) ?_)
                   | (refine wpList_store_bk 34 rfl (.tmp 9) (.tmp 28) rfl infoOp wr.heap.size zOp q.cells.toArray rfl rfl HGB0.out.2 rfl rfl (ops_one q) ?_; intro w1 s1 s2; rw [← HNE.out] at s1 s2 ⊢; have H1 : Hid (Bk 34 w1 N q.cells.toArray ∧ MK w g V xs (some y) w1) := ⟨s1, hm.out.grow (gb_newer HGB0.out.1 s2 (by rw [HNE.out]; exact Nat.le_refl _))⟩; clear s1 s2; have c0 : w1.cell? ⟨N, 0, none⟩ = some (.int .i64 q.call) := H1.out.1.cell 0; have c3 : w1.cell? ⟨N, 3, none⟩ = some (.string q.row.1) := H1.out.1.cell 3; have c4 : w1.cell? ⟨N, 4, none⟩ = some (.string q.row.2.1) := H1.out.1.cell 4; have c5 : w1.cell? ⟨N, 5, none⟩ = some (.int .i64 q.row.2.2) := H1.out.1.cell 5; have c6 : w1.cell? ⟨N, 6, none⟩ = some (.string q.key) := H1.out.1.cell 6)
                  | (go_at_call 6; go_must (refine (Calls.mono (HPU.out w1 H1.out.2) ?_)); rintro e w2 ⟨rfl, ht2, hg2⟩; have H2 : Hid (Bk 34 w2 N q.cells.toArray ∧ MK w g V (putS q.row xs) (some y) w2) := ⟨H1.out.1.grew hg2 (fun e => by have := Option.some.inj e; have := HNS.out; omega), H1.out.2.did ht2 hg2⟩; clear ht2 hg2; replace c0 : w2.cell? ⟨N, 0, none⟩ = some (.int .i64 q.call) := H2.out.1.cell 0; replace c3 : w2.cell? ⟨N, 3, none⟩ = some (.string q.row.1) := H2.out.1.cell 3; replace c4 : w2.cell? ⟨N, 4, none⟩ = some (.string q.row.2.1) := H2.out.1.cell 4; replace c5 : w2.cell? ⟨N, 5, none⟩ = some (.int .i64 q.row.2.2) := H2.out.1.cell 5; replace c6 : w2.cell? ⟨N, 6, none⟩ = some (.string q.key) := H2.out.1.cell 6)
                  | (go_at_call 18; go_must (refine (Calls.mono (HCH.out w2) ?_)); rintro e w21 ⟨rfl, hg21⟩; have H21 : Hid (Bk 34 w21 N q.cells.toArray ∧ MK w g V (putS q.row xs) (some y) w21) := ⟨H2.out.1.grew hg21 (by simp), H2.out.2.grow hg21⟩; clear hg21; replace c0 : w21.cell? ⟨N, 0, none⟩ = some (.int .i64 q.call) := H21.out.1.cell 0; replace c3 : w21.cell? ⟨N, 3, none⟩ = some (.string q.row.1) := H21.out.1.cell 3; replace c4 : w21.cell? ⟨N, 4, none⟩ = some (.string q.row.2.1) := H21.out.1.cell 4; replace c5 : w21.cell? ⟨N, 5, none⟩ = some (.int .i64 q.row.2.2) := H21.out.1.cell 5; replace c6 : w21.cell? ⟨N, 6, none⟩ = some (.string q.key) := H21.out.1.cell 6)
                  | (go_at_call 7; go_must (refine (Calls.mono (HLE.out w21 H21.out.2) ?_)); rintro e w22 ⟨rfl, rfl⟩)
                  | (go_at_call 13; go_must (refine (Calls.mono (HGE.out w22 H21.out.2) ?_)); rintro e w4 ⟨rfl, hg4⟩; have H4 : Hid (MK w g V (putS q.row xs) (some y) w4) := H21.out.2.grow hg4; clear hg4; have H5 : Hid (Bk 28 (w4.alloc (.cells #[.string .empty, .string .empty, .int .i64 0] 28)) w4.heap.size zRow ∧ w4.grownBy (w4.alloc (.cells #[.string .empty, .string .empty, .int .i64 0] 28)) none) := blk_new w4 _ _)
                  | (have z := H5; clear z; refine wpList_store_bk 28 rfl (.tmp 11) (.tmp 81) rfl infoRow w4.heap.size zRow (rvR (some y)) rfl rfl H5.out.1 rfl (rvR_size _) (rvR_one _) ?_; intro w5 s1 s2; have H6 : Hid (Bk 28 w5 w4.heap.size (rvR (some y)) ∧ MK w g V (putS q.row xs) (some y) w5) := ⟨s1, H4.out.grow (gb_newer H5.out.2 s2 (Nat.le_refl _))⟩; clear s1 s2)
                  | (have z := H6; clear z; refine wpList_load_bk 28 rfl (.tmp 11) rfl Try.underlying28 rfl infoRow w4.heap.size (rvR (some y)) rfl H6.out.1 (rvR_size _) ?_)
                  | (have z := H6; clear z; refine wpList_load_bk 28 rfl (.tmp 6) rfl Try.underlying28 rfl infoRow V (rvR (some y)) rfl H6.out.2.want (rvR_size _) ?_))
                refine ⟨⟨k + 1, putS q.row xs, HL1.out, by simp, by rw [HGN.out]; rfl, by rw [HGN.out]; exact H6.out.2⟩, ?_⟩
                have := HL1.out
                simp [intOf]; omega
            · have HCH : Hid (∀ W, Calls Try.prog 18 #[.agg #[.string q.row.1, .string q.row.2.1, .int .i64 q.row.2.2]] W fun r w' => r = .returned (.int .i64 (rowE q.row)) ∧ W.grownBy w' none) := fun W => gcheck_c q.row W
              have hr0 : (rowE q.row == 0) = false := by simpa using hr
              cases G with
              | none =>
                have HGN : Hid (getR key (putS q.row xs) = none) := by show _ = _; rw [getR_putS HRI.out, if_neg (fun h => hE h.1)]; exact HG.out
                have HGE : Hid (∀ W, ∀ {G0 : Option Rw}, MK w g V (putS q.row xs) G0 W → Calls Try.prog 13 #[.pointer (some ⟨g, 0, none⟩), .string key] W fun e w' => e = .returned (.tuple #[.agg (rvR (none)), .bool (none).isSome]) ∧ W.grownBy w' none) := fun W _ h => by have := get_c _ key g (putS q.row xs) W h.tbl; rw [HGN.out] at this; exact this
                clear he HRI
                go_wp2_with (first
                  | (refine wpList_load_mid rfl 34 (.tmp 27) rfl b (off + k * 11) rfl q.cells _ HRG.out Try.underlying34 rfl (by kernel_rfl) ?_)
                   | (refine wpList_store_bk 34 rfl (.tmp 9) (.tmp 28) rfl infoOp wr.heap.size zOp q.cells.toArray rfl rfl HGB0.out.2 rfl rfl (ops_one q) ?_; intro w1 s1 s2; rw [← HNE.out] at s1 s2 ⊢; have H1 : Hid (Bk 34 w1 N q.cells.toArray ∧ MK w g V xs (none) w1) := ⟨s1, hm.out.grow (gb_newer HGB0.out.1 s2 (by rw [HNE.out]; exact Nat.le_refl _))⟩; clear s1 s2; have c0 : w1.cell? ⟨N, 0, none⟩ = some (.int .i64 q.call) := H1.out.1.cell 0; have c3 : w1.cell? ⟨N, 3, none⟩ = some (.string q.row.1) := H1.out.1.cell 3; have c4 : w1.cell? ⟨N, 4, none⟩ = some (.string q.row.2.1) := H1.out.1.cell 4; have c5 : w1.cell? ⟨N, 5, none⟩ = some (.int .i64 q.row.2.2) := H1.out.1.cell 5; have c6 : w1.cell? ⟨N, 6, none⟩ = some (.string q.key) := H1.out.1.cell 6)
                  | (go_at_call 6; go_must (refine (Calls.mono (HPU.out w1 H1.out.2) ?_)); rintro e w2 ⟨rfl, ht2, hg2⟩; have H2 : Hid (Bk 34 w2 N q.cells.toArray ∧ MK w g V (putS q.row xs) (none) w2) := ⟨H1.out.1.grew hg2 (fun e => by have := Option.some.inj e; have := HNS.out; omega), H1.out.2.did ht2 hg2⟩; clear ht2 hg2; replace c0 : w2.cell? ⟨N, 0, none⟩ = some (.int .i64 q.call) := H2.out.1.cell 0; replace c3 : w2.cell? ⟨N, 3, none⟩ = some (.string q.row.1) := H2.out.1.cell 3; replace c4 : w2.cell? ⟨N, 4, none⟩ = some (.string q.row.2.1) := H2.out.1.cell 4; replace c5 : w2.cell? ⟨N, 5, none⟩ = some (.int .i64 q.row.2.2) := H2.out.1.cell 5; replace c6 : w2.cell? ⟨N, 6, none⟩ = some (.string q.key) := H2.out.1.cell 6)
                  | (go_at_call 18; go_must (refine (Calls.mono (HCH.out w2) ?_)); rintro e w21 ⟨rfl, hg21⟩; have H21 : Hid (Bk 34 w21 N q.cells.toArray ∧ MK w g V (putS q.row xs) (none) w21) := ⟨H2.out.1.grew hg21 (by simp), H2.out.2.grow hg21⟩; clear hg21; replace c0 : w21.cell? ⟨N, 0, none⟩ = some (.int .i64 q.call) := H21.out.1.cell 0; replace c3 : w21.cell? ⟨N, 3, none⟩ = some (.string q.row.1) := H21.out.1.cell 3; replace c4 : w21.cell? ⟨N, 4, none⟩ = some (.string q.row.2.1) := H21.out.1.cell 4; replace c5 : w21.cell? ⟨N, 5, none⟩ = some (.int .i64 q.row.2.2) := H21.out.1.cell 5; replace c6 : w21.cell? ⟨N, 6, none⟩ = some (.string q.key) := H21.out.1.cell 6)
                  | (go_at_call 13; go_must (refine (Calls.mono (HGE.out w21 H21.out.2) ?_)); rintro e w4 ⟨rfl, hg4⟩; have H4 : Hid (MK w g V (putS q.row xs) (none) w4) := H21.out.2.grow hg4; clear hg4; have H5 : Hid (Bk 28 (w4.alloc (.cells #[.string .empty, .string .empty, .int .i64 0] 28)) w4.heap.size zRow ∧ w4.grownBy (w4.alloc (.cells #[.string .empty, .string .empty, .int .i64 0] 28)) none) := blk_new w4 _ _)
                  | (have z := H5; clear z; refine wpList_store_bk 28 rfl (.tmp 11) (.tmp 81) rfl infoRow w4.heap.size zRow (rvR (none)) rfl rfl H5.out.1 rfl (rvR_size _) (rvR_one _) ?_; intro w5 s1 s2; have H6 : Hid (Bk 28 w5 w4.heap.size (rvR (none)) ∧ MK w g V (putS q.row xs) (none) w5) := ⟨s1, H4.out.grow (gb_newer H5.out.2 s2 (Nat.le_refl _))⟩; clear s1 s2)
                  | (have z := H6; clear z; refine wpList_load_bk 28 rfl (.tmp 11) rfl Try.underlying28 rfl infoRow w4.heap.size (rvR (none)) rfl H6.out.1 (rvR_size _) ?_)
                  | (have z := H6; clear z; refine wpList_load_bk 28 rfl (.tmp 6) rfl Try.underlying28 rfl infoRow V (rvR (none)) rfl H6.out.2.want (rvR_size _) ?_))
                refine ⟨⟨k + 1, putS q.row xs, HL1.out, by simp, by rw [HGN.out]; rfl, by rw [HGN.out]; exact H6.out.2⟩, ?_⟩
                have := HL1.out
                simp [intOf]; omega
              | some y =>
                have HGN : Hid (getR key (putS q.row xs) = some y) := by show _ = _; rw [getR_putS HRI.out, if_neg (fun h => hE h.1)]; exact HG.out
                have HGE : Hid (∀ W, ∀ {G0 : Option Rw}, MK w g V (putS q.row xs) G0 W → Calls Try.prog 13 #[.pointer (some ⟨g, 0, none⟩), .string key] W fun e w' => e = .returned (.tuple #[.agg (rvR (some y)), .bool (some y).isSome]) ∧ W.grownBy w' none) := fun W _ h => by have := get_c _ key g (putS q.row xs) W h.tbl; rw [HGN.out] at this; exact this
                clear he HRI
                go_wp2_with (first
                  | (refine wpList_load_mid rfl 34 (.tmp 27) rfl b (off + k * 11) rfl q.cells _ HRG.out Try.underlying34 rfl (by kernel_rfl) ?_)
                   | (refine wpList_store_bk 34 rfl (.tmp 9) (.tmp 28) rfl infoOp wr.heap.size zOp q.cells.toArray rfl rfl HGB0.out.2 rfl rfl (ops_one q) ?_; intro w1 s1 s2; rw [← HNE.out] at s1 s2 ⊢; have H1 : Hid (Bk 34 w1 N q.cells.toArray ∧ MK w g V xs (some y) w1) := ⟨s1, hm.out.grow (gb_newer HGB0.out.1 s2 (by rw [HNE.out]; exact Nat.le_refl _))⟩; clear s1 s2; have c0 : w1.cell? ⟨N, 0, none⟩ = some (.int .i64 q.call) := H1.out.1.cell 0; have c3 : w1.cell? ⟨N, 3, none⟩ = some (.string q.row.1) := H1.out.1.cell 3; have c4 : w1.cell? ⟨N, 4, none⟩ = some (.string q.row.2.1) := H1.out.1.cell 4; have c5 : w1.cell? ⟨N, 5, none⟩ = some (.int .i64 q.row.2.2) := H1.out.1.cell 5; have c6 : w1.cell? ⟨N, 6, none⟩ = some (.string q.key) := H1.out.1.cell 6)
                  | (go_at_call 6; go_must (refine (Calls.mono (HPU.out w1 H1.out.2) ?_)); rintro e w2 ⟨rfl, ht2, hg2⟩; have H2 : Hid (Bk 34 w2 N q.cells.toArray ∧ MK w g V (putS q.row xs) (some y) w2) := ⟨H1.out.1.grew hg2 (fun e => by have := Option.some.inj e; have := HNS.out; omega), H1.out.2.did ht2 hg2⟩; clear ht2 hg2; replace c0 : w2.cell? ⟨N, 0, none⟩ = some (.int .i64 q.call) := H2.out.1.cell 0; replace c3 : w2.cell? ⟨N, 3, none⟩ = some (.string q.row.1) := H2.out.1.cell 3; replace c4 : w2.cell? ⟨N, 4, none⟩ = some (.string q.row.2.1) := H2.out.1.cell 4; replace c5 : w2.cell? ⟨N, 5, none⟩ = some (.int .i64 q.row.2.2) := H2.out.1.cell 5; replace c6 : w2.cell? ⟨N, 6, none⟩ = some (.string q.key) := H2.out.1.cell 6)
                  | (go_at_call 18; go_must (refine (Calls.mono (HCH.out w2) ?_)); rintro e w21 ⟨rfl, hg21⟩; have H21 : Hid (Bk 34 w21 N q.cells.toArray ∧ MK w g V (putS q.row xs) (some y) w21) := ⟨H2.out.1.grew hg21 (by simp), H2.out.2.grow hg21⟩; clear hg21; replace c0 : w21.cell? ⟨N, 0, none⟩ = some (.int .i64 q.call) := H21.out.1.cell 0; replace c3 : w21.cell? ⟨N, 3, none⟩ = some (.string q.row.1) := H21.out.1.cell 3; replace c4 : w21.cell? ⟨N, 4, none⟩ = some (.string q.row.2.1) := H21.out.1.cell 4; replace c5 : w21.cell? ⟨N, 5, none⟩ = some (.int .i64 q.row.2.2) := H21.out.1.cell 5; replace c6 : w21.cell? ⟨N, 6, none⟩ = some (.string q.key) := H21.out.1.cell 6)
                  | (go_at_call 13; go_must (refine (Calls.mono (HGE.out w21 H21.out.2) ?_)); rintro e w4 ⟨rfl, hg4⟩; have H4 : Hid (MK w g V (putS q.row xs) (some y) w4) := H21.out.2.grow hg4; clear hg4; have H5 : Hid (Bk 28 (w4.alloc (.cells #[.string .empty, .string .empty, .int .i64 0] 28)) w4.heap.size zRow ∧ w4.grownBy (w4.alloc (.cells #[.string .empty, .string .empty, .int .i64 0] 28)) none) := blk_new w4 _ _)
                  | (have z := H5; clear z; refine wpList_store_bk 28 rfl (.tmp 11) (.tmp 81) rfl infoRow w4.heap.size zRow (rvR (some y)) rfl rfl H5.out.1 rfl (rvR_size _) (rvR_one _) ?_; intro w5 s1 s2; have H6 : Hid (Bk 28 w5 w4.heap.size (rvR (some y)) ∧ MK w g V (putS q.row xs) (some y) w5) := ⟨s1, H4.out.grow (gb_newer H5.out.2 s2 (Nat.le_refl _))⟩; clear s1 s2)
                  | (have z := H6; clear z; refine wpList_load_bk 28 rfl (.tmp 11) rfl Try.underlying28 rfl infoRow w4.heap.size (rvR (some y)) rfl H6.out.1 (rvR_size _) ?_)
                  | (have z := H6; clear z; refine wpList_load_bk 28 rfl (.tmp 6) rfl Try.underlying28 rfl infoRow V (rvR (some y)) rfl H6.out.2.want (rvR_size _) ?_))
                refine ⟨⟨k + 1, putS q.row xs, HL1.out, by simp, by rw [HGN.out]; rfl, by rw [HGN.out]; exact H6.out.2⟩, ?_⟩
                have := HL1.out
                simp [intOf]; omega
        · have hs : (q.row.1.toList == key.toList) = false := by rw [te_iff]; exact decide_eq_false he
          by_cases hE : putE q.row xs = 0
          · have HPU : Hid (∀ W, ∀ {G0 : Option Rw}, MK w g V xs G0 W → Calls Try.prog 6 #[.pointer (some ⟨g, 0, none⟩), .agg #[.string q.row.1, .string q.row.2.1, .int .i64 q.row.2.2]] W fun e w' => e = .returned (.int .i64 (0)) ∧ Tbl (fun b => b ≠ g ∧ b ≠ V) w' g (putS q.row xs) ∧ W.grownBy w' (some g)) := fun W _ h => by have := tput_c _ q.row g xs W h.ob (fun h => h.1 rfl) h.tbl; rw [hE] at this; exact this
            clear hE
            cases G with
            | none =>
              have HGN : Hid (getR key (putS q.row xs) = none) := by show _ = _; rw [getR_putS HRI.out, if_neg (fun h => he h.2)]; exact HG.out
              have HGE : Hid (∀ W, ∀ {G0 : Option Rw}, MK w g V (putS q.row xs) G0 W → Calls Try.prog 13 #[.pointer (some ⟨g, 0, none⟩), .string key] W fun e w' => e = .returned (.tuple #[.agg (rvR (none)), .bool (none).isSome]) ∧ W.grownBy w' none) := fun W _ h => by have := get_c _ key g (putS q.row xs) W h.tbl; rw [HGN.out] at this; exact this
              clear he HRI
              go_wp2_with (first
                | (refine wpList_load_mid rfl 34 (.tmp 27) rfl b (off + k * 11) rfl q.cells _ HRG.out Try.underlying34 rfl (by kernel_rfl) ?_)
                 | (refine wpList_store_bk 34 rfl (.tmp 9) (.tmp 28) rfl infoOp wr.heap.size zOp q.cells.toArray rfl rfl HGB0.out.2 rfl rfl (ops_one q) ?_; intro w1 s1 s2; rw [← HNE.out] at s1 s2 ⊢; have H1 : Hid (Bk 34 w1 N q.cells.toArray ∧ MK w g V xs (none) w1) := ⟨s1, hm.out.grow (gb_newer HGB0.out.1 s2 (by rw [HNE.out]; exact Nat.le_refl _))⟩; clear s1 s2; have c0 : w1.cell? ⟨N, 0, none⟩ = some (.int .i64 q.call) := H1.out.1.cell 0; have c3 : w1.cell? ⟨N, 3, none⟩ = some (.string q.row.1) := H1.out.1.cell 3; have c4 : w1.cell? ⟨N, 4, none⟩ = some (.string q.row.2.1) := H1.out.1.cell 4; have c5 : w1.cell? ⟨N, 5, none⟩ = some (.int .i64 q.row.2.2) := H1.out.1.cell 5; have c6 : w1.cell? ⟨N, 6, none⟩ = some (.string q.key) := H1.out.1.cell 6)
                | (go_at_call 6; go_must (refine (Calls.mono (HPU.out w1 H1.out.2) ?_)); rintro e w2 ⟨rfl, ht2, hg2⟩; have H2 : Hid (Bk 34 w2 N q.cells.toArray ∧ MK w g V (putS q.row xs) (none) w2) := ⟨H1.out.1.grew hg2 (fun e => by have := Option.some.inj e; have := HNS.out; omega), H1.out.2.did ht2 hg2⟩; clear ht2 hg2; replace c0 : w2.cell? ⟨N, 0, none⟩ = some (.int .i64 q.call) := H2.out.1.cell 0; replace c3 : w2.cell? ⟨N, 3, none⟩ = some (.string q.row.1) := H2.out.1.cell 3; replace c4 : w2.cell? ⟨N, 4, none⟩ = some (.string q.row.2.1) := H2.out.1.cell 4; replace c5 : w2.cell? ⟨N, 5, none⟩ = some (.int .i64 q.row.2.2) := H2.out.1.cell 5; replace c6 : w2.cell? ⟨N, 6, none⟩ = some (.string q.key) := H2.out.1.cell 6)
                | (go_at_call 13; go_must (refine (Calls.mono (HGE.out w2 H2.out.2) ?_)); rintro e w4 ⟨rfl, hg4⟩; have H4 : Hid (MK w g V (putS q.row xs) (none) w4) := H2.out.2.grow hg4; clear hg4; have H5 : Hid (Bk 28 (w4.alloc (.cells #[.string .empty, .string .empty, .int .i64 0] 28)) w4.heap.size zRow ∧ w4.grownBy (w4.alloc (.cells #[.string .empty, .string .empty, .int .i64 0] 28)) none) := blk_new w4 _ _)
                | (have z := H5; clear z; refine wpList_store_bk 28 rfl (.tmp 11) (.tmp 81) rfl infoRow w4.heap.size zRow (rvR (none)) rfl rfl H5.out.1 rfl (rvR_size _) (rvR_one _) ?_; intro w5 s1 s2; have H6 : Hid (Bk 28 w5 w4.heap.size (rvR (none)) ∧ MK w g V (putS q.row xs) (none) w5) := ⟨s1, H4.out.grow (gb_newer H5.out.2 s2 (Nat.le_refl _))⟩; clear s1 s2)
                | (have z := H6; clear z; refine wpList_load_bk 28 rfl (.tmp 11) rfl Try.underlying28 rfl infoRow w4.heap.size (rvR (none)) rfl H6.out.1 (rvR_size _) ?_)
                | (have z := H6; clear z; refine wpList_load_bk 28 rfl (.tmp 6) rfl Try.underlying28 rfl infoRow V (rvR (none)) rfl H6.out.2.want (rvR_size _) ?_))
              refine ⟨⟨k + 1, putS q.row xs, HL1.out, by simp, by rw [HGN.out]; rfl, by rw [HGN.out]; exact H6.out.2⟩, ?_⟩
              have := HL1.out
              simp [intOf]; omega
            | some y =>
              have HGN : Hid (getR key (putS q.row xs) = some y) := by show _ = _; rw [getR_putS HRI.out, if_neg (fun h => he h.2)]; exact HG.out
              have HGE : Hid (∀ W, ∀ {G0 : Option Rw}, MK w g V (putS q.row xs) G0 W → Calls Try.prog 13 #[.pointer (some ⟨g, 0, none⟩), .string key] W fun e w' => e = .returned (.tuple #[.agg (rvR (some y)), .bool (some y).isSome]) ∧ W.grownBy w' none) := fun W _ h => by have := get_c _ key g (putS q.row xs) W h.tbl; rw [HGN.out] at this; exact this
              clear he HRI
              go_wp2_with (first
                | (refine wpList_load_mid rfl 34 (.tmp 27) rfl b (off + k * 11) rfl q.cells _ HRG.out Try.underlying34 rfl (by kernel_rfl) ?_)
                 | (refine wpList_store_bk 34 rfl (.tmp 9) (.tmp 28) rfl infoOp wr.heap.size zOp q.cells.toArray rfl rfl HGB0.out.2 rfl rfl (ops_one q) ?_; intro w1 s1 s2; rw [← HNE.out] at s1 s2 ⊢; have H1 : Hid (Bk 34 w1 N q.cells.toArray ∧ MK w g V xs (some y) w1) := ⟨s1, hm.out.grow (gb_newer HGB0.out.1 s2 (by rw [HNE.out]; exact Nat.le_refl _))⟩; clear s1 s2; have c0 : w1.cell? ⟨N, 0, none⟩ = some (.int .i64 q.call) := H1.out.1.cell 0; have c3 : w1.cell? ⟨N, 3, none⟩ = some (.string q.row.1) := H1.out.1.cell 3; have c4 : w1.cell? ⟨N, 4, none⟩ = some (.string q.row.2.1) := H1.out.1.cell 4; have c5 : w1.cell? ⟨N, 5, none⟩ = some (.int .i64 q.row.2.2) := H1.out.1.cell 5; have c6 : w1.cell? ⟨N, 6, none⟩ = some (.string q.key) := H1.out.1.cell 6)
                | (go_at_call 6; go_must (refine (Calls.mono (HPU.out w1 H1.out.2) ?_)); rintro e w2 ⟨rfl, ht2, hg2⟩; have H2 : Hid (Bk 34 w2 N q.cells.toArray ∧ MK w g V (putS q.row xs) (some y) w2) := ⟨H1.out.1.grew hg2 (fun e => by have := Option.some.inj e; have := HNS.out; omega), H1.out.2.did ht2 hg2⟩; clear ht2 hg2; replace c0 : w2.cell? ⟨N, 0, none⟩ = some (.int .i64 q.call) := H2.out.1.cell 0; replace c3 : w2.cell? ⟨N, 3, none⟩ = some (.string q.row.1) := H2.out.1.cell 3; replace c4 : w2.cell? ⟨N, 4, none⟩ = some (.string q.row.2.1) := H2.out.1.cell 4; replace c5 : w2.cell? ⟨N, 5, none⟩ = some (.int .i64 q.row.2.2) := H2.out.1.cell 5; replace c6 : w2.cell? ⟨N, 6, none⟩ = some (.string q.key) := H2.out.1.cell 6)
                | (go_at_call 13; go_must (refine (Calls.mono (HGE.out w2 H2.out.2) ?_)); rintro e w4 ⟨rfl, hg4⟩; have H4 : Hid (MK w g V (putS q.row xs) (some y) w4) := H2.out.2.grow hg4; clear hg4; have H5 : Hid (Bk 28 (w4.alloc (.cells #[.string .empty, .string .empty, .int .i64 0] 28)) w4.heap.size zRow ∧ w4.grownBy (w4.alloc (.cells #[.string .empty, .string .empty, .int .i64 0] 28)) none) := blk_new w4 _ _)
                | (have z := H5; clear z; refine wpList_store_bk 28 rfl (.tmp 11) (.tmp 81) rfl infoRow w4.heap.size zRow (rvR (some y)) rfl rfl H5.out.1 rfl (rvR_size _) (rvR_one _) ?_; intro w5 s1 s2; have H6 : Hid (Bk 28 w5 w4.heap.size (rvR (some y)) ∧ MK w g V (putS q.row xs) (some y) w5) := ⟨s1, H4.out.grow (gb_newer H5.out.2 s2 (Nat.le_refl _))⟩; clear s1 s2)
                | (have z := H6; clear z; refine wpList_load_bk 28 rfl (.tmp 11) rfl Try.underlying28 rfl infoRow w4.heap.size (rvR (some y)) rfl H6.out.1 (rvR_size _) ?_)
                | (have z := H6; clear z; refine wpList_load_bk 28 rfl (.tmp 6) rfl Try.underlying28 rfl infoRow V (rvR (some y)) rfl H6.out.2.want (rvR_size _) ?_))
              refine ⟨⟨k + 1, putS q.row xs, HL1.out, by simp, by rw [HGN.out]; rfl, by rw [HGN.out]; exact H6.out.2⟩, ?_⟩
              have := HL1.out
              simp [intOf]; omega
          · have HPU : Hid (∀ W, ∀ {G0 : Option Rw}, MK w g V xs G0 W → Calls Try.prog 6 #[.pointer (some ⟨g, 0, none⟩), .agg #[.string q.row.1, .string q.row.2.1, .int .i64 q.row.2.2]] W fun e w' => e = .returned (.int .i64 (putE q.row xs)) ∧ Tbl (fun b => b ≠ g ∧ b ≠ V) w' g (putS q.row xs) ∧ W.grownBy w' (some g)) := fun W _ h => tput_c _ q.row g xs W h.ob (fun h => h.1 rfl) h.tbl
            have hE0 : (putE q.row xs == 0) = false := by simpa using hE
            cases G with
            | none =>
              have HGN : Hid (getR key (putS q.row xs) = none) := by show _ = _; rw [getR_putS HRI.out, if_neg (fun h => he h.2)]; exact HG.out
              have HGE : Hid (∀ W, ∀ {G0 : Option Rw}, MK w g V (putS q.row xs) G0 W → Calls Try.prog 13 #[.pointer (some ⟨g, 0, none⟩), .string key] W fun e w' => e = .returned (.tuple #[.agg (rvR (none)), .bool (none).isSome]) ∧ W.grownBy w' none) := fun W _ h => by have := get_c _ key g (putS q.row xs) W h.tbl; rw [HGN.out] at this; exact this
              clear he HRI
              go_wp2_with (first
                | (refine wpList_load_mid rfl 34 (.tmp 27) rfl b (off + k * 11) rfl q.cells _ HRG.out Try.underlying34 rfl (by kernel_rfl) ?_)
                 | (refine wpList_store_bk 34 rfl (.tmp 9) (.tmp 28) rfl infoOp wr.heap.size zOp q.cells.toArray rfl rfl HGB0.out.2 rfl rfl (ops_one q) ?_; intro w1 s1 s2; rw [← HNE.out] at s1 s2 ⊢; have H1 : Hid (Bk 34 w1 N q.cells.toArray ∧ MK w g V xs (none) w1) := ⟨s1, hm.out.grow (gb_newer HGB0.out.1 s2 (by rw [HNE.out]; exact Nat.le_refl _))⟩; clear s1 s2; have c0 : w1.cell? ⟨N, 0, none⟩ = some (.int .i64 q.call) := H1.out.1.cell 0; have c3 : w1.cell? ⟨N, 3, none⟩ = some (.string q.row.1) := H1.out.1.cell 3; have c4 : w1.cell? ⟨N, 4, none⟩ = some (.string q.row.2.1) := H1.out.1.cell 4; have c5 : w1.cell? ⟨N, 5, none⟩ = some (.int .i64 q.row.2.2) := H1.out.1.cell 5; have c6 : w1.cell? ⟨N, 6, none⟩ = some (.string q.key) := H1.out.1.cell 6)
                | (go_at_call 6; go_must (refine (Calls.mono (HPU.out w1 H1.out.2) ?_)); rintro e w2 ⟨rfl, ht2, hg2⟩; have H2 : Hid (Bk 34 w2 N q.cells.toArray ∧ MK w g V (putS q.row xs) (none) w2) := ⟨H1.out.1.grew hg2 (fun e => by have := Option.some.inj e; have := HNS.out; omega), H1.out.2.did ht2 hg2⟩; clear ht2 hg2; replace c0 : w2.cell? ⟨N, 0, none⟩ = some (.int .i64 q.call) := H2.out.1.cell 0; replace c3 : w2.cell? ⟨N, 3, none⟩ = some (.string q.row.1) := H2.out.1.cell 3; replace c4 : w2.cell? ⟨N, 4, none⟩ = some (.string q.row.2.1) := H2.out.1.cell 4; replace c5 : w2.cell? ⟨N, 5, none⟩ = some (.int .i64 q.row.2.2) := H2.out.1.cell 5; replace c6 : w2.cell? ⟨N, 6, none⟩ = some (.string q.key) := H2.out.1.cell 6)
                | (go_at_call 13; go_must (refine (Calls.mono (HGE.out w2 H2.out.2) ?_)); rintro e w4 ⟨rfl, hg4⟩; have H4 : Hid (MK w g V (putS q.row xs) (none) w4) := H2.out.2.grow hg4; clear hg4; have H5 : Hid (Bk 28 (w4.alloc (.cells #[.string .empty, .string .empty, .int .i64 0] 28)) w4.heap.size zRow ∧ w4.grownBy (w4.alloc (.cells #[.string .empty, .string .empty, .int .i64 0] 28)) none) := blk_new w4 _ _)
                | (have z := H5; clear z; refine wpList_store_bk 28 rfl (.tmp 11) (.tmp 81) rfl infoRow w4.heap.size zRow (rvR (none)) rfl rfl H5.out.1 rfl (rvR_size _) (rvR_one _) ?_; intro w5 s1 s2; have H6 : Hid (Bk 28 w5 w4.heap.size (rvR (none)) ∧ MK w g V (putS q.row xs) (none) w5) := ⟨s1, H4.out.grow (gb_newer H5.out.2 s2 (Nat.le_refl _))⟩; clear s1 s2)
                | (have z := H6; clear z; refine wpList_load_bk 28 rfl (.tmp 11) rfl Try.underlying28 rfl infoRow w4.heap.size (rvR (none)) rfl H6.out.1 (rvR_size _) ?_)
                | (have z := H6; clear z; refine wpList_load_bk 28 rfl (.tmp 6) rfl Try.underlying28 rfl infoRow V (rvR (none)) rfl H6.out.2.want (rvR_size _) ?_))
              refine ⟨⟨k + 1, putS q.row xs, HL1.out, by simp, by rw [HGN.out]; rfl, by rw [HGN.out]; exact H6.out.2⟩, ?_⟩
              have := HL1.out
              simp [intOf]; omega
            | some y =>
              have HGN : Hid (getR key (putS q.row xs) = some y) := by show _ = _; rw [getR_putS HRI.out, if_neg (fun h => he h.2)]; exact HG.out
              have HGE : Hid (∀ W, ∀ {G0 : Option Rw}, MK w g V (putS q.row xs) G0 W → Calls Try.prog 13 #[.pointer (some ⟨g, 0, none⟩), .string key] W fun e w' => e = .returned (.tuple #[.agg (rvR (some y)), .bool (some y).isSome]) ∧ W.grownBy w' none) := fun W _ h => by have := get_c _ key g (putS q.row xs) W h.tbl; rw [HGN.out] at this; exact this
              clear he HRI
              go_wp2_with (first
                | (refine wpList_load_mid rfl 34 (.tmp 27) rfl b (off + k * 11) rfl q.cells _ HRG.out Try.underlying34 rfl (by kernel_rfl) ?_)
                 | (refine wpList_store_bk 34 rfl (.tmp 9) (.tmp 28) rfl infoOp wr.heap.size zOp q.cells.toArray rfl rfl HGB0.out.2 rfl rfl (ops_one q) ?_; intro w1 s1 s2; rw [← HNE.out] at s1 s2 ⊢; have H1 : Hid (Bk 34 w1 N q.cells.toArray ∧ MK w g V xs (some y) w1) := ⟨s1, hm.out.grow (gb_newer HGB0.out.1 s2 (by rw [HNE.out]; exact Nat.le_refl _))⟩; clear s1 s2; have c0 : w1.cell? ⟨N, 0, none⟩ = some (.int .i64 q.call) := H1.out.1.cell 0; have c3 : w1.cell? ⟨N, 3, none⟩ = some (.string q.row.1) := H1.out.1.cell 3; have c4 : w1.cell? ⟨N, 4, none⟩ = some (.string q.row.2.1) := H1.out.1.cell 4; have c5 : w1.cell? ⟨N, 5, none⟩ = some (.int .i64 q.row.2.2) := H1.out.1.cell 5; have c6 : w1.cell? ⟨N, 6, none⟩ = some (.string q.key) := H1.out.1.cell 6)
                | (go_at_call 6; go_must (refine (Calls.mono (HPU.out w1 H1.out.2) ?_)); rintro e w2 ⟨rfl, ht2, hg2⟩; have H2 : Hid (Bk 34 w2 N q.cells.toArray ∧ MK w g V (putS q.row xs) (some y) w2) := ⟨H1.out.1.grew hg2 (fun e => by have := Option.some.inj e; have := HNS.out; omega), H1.out.2.did ht2 hg2⟩; clear ht2 hg2; replace c0 : w2.cell? ⟨N, 0, none⟩ = some (.int .i64 q.call) := H2.out.1.cell 0; replace c3 : w2.cell? ⟨N, 3, none⟩ = some (.string q.row.1) := H2.out.1.cell 3; replace c4 : w2.cell? ⟨N, 4, none⟩ = some (.string q.row.2.1) := H2.out.1.cell 4; replace c5 : w2.cell? ⟨N, 5, none⟩ = some (.int .i64 q.row.2.2) := H2.out.1.cell 5; replace c6 : w2.cell? ⟨N, 6, none⟩ = some (.string q.key) := H2.out.1.cell 6)
                | (go_at_call 13; go_must (refine (Calls.mono (HGE.out w2 H2.out.2) ?_)); rintro e w4 ⟨rfl, hg4⟩; have H4 : Hid (MK w g V (putS q.row xs) (some y) w4) := H2.out.2.grow hg4; clear hg4; have H5 : Hid (Bk 28 (w4.alloc (.cells #[.string .empty, .string .empty, .int .i64 0] 28)) w4.heap.size zRow ∧ w4.grownBy (w4.alloc (.cells #[.string .empty, .string .empty, .int .i64 0] 28)) none) := blk_new w4 _ _)
                | (have z := H5; clear z; refine wpList_store_bk 28 rfl (.tmp 11) (.tmp 81) rfl infoRow w4.heap.size zRow (rvR (some y)) rfl rfl H5.out.1 rfl (rvR_size _) (rvR_one _) ?_; intro w5 s1 s2; have H6 : Hid (Bk 28 w5 w4.heap.size (rvR (some y)) ∧ MK w g V (putS q.row xs) (some y) w5) := ⟨s1, H4.out.grow (gb_newer H5.out.2 s2 (Nat.le_refl _))⟩; clear s1 s2)
                | (have z := H6; clear z; refine wpList_load_bk 28 rfl (.tmp 11) rfl Try.underlying28 rfl infoRow w4.heap.size (rvR (some y)) rfl H6.out.1 (rvR_size _) ?_)
                | (have z := H6; clear z; refine wpList_load_bk 28 rfl (.tmp 6) rfl Try.underlying28 rfl infoRow V (rvR (some y)) rfl H6.out.2.want (rvR_size _) ?_))
              refine ⟨⟨k + 1, putS q.row xs, HL1.out, by simp, by rw [HGN.out]; rfl, by rw [HGN.out]; exact H6.out.2⟩, ?_⟩
              have := HL1.out
              simp [intOf]; omega
      · have hc0b : (q.call == 0) = false := by simpa using hc0
        by_cases hc1 : q.call = 1
        · by_cases he : q.key = key
          · have hs : (q.key.toList == key.toList) = true := by rw [te_iff]; exact decide_eq_true he
            have HGN : Hid (getR key (delR q.key xs) = none) := by show _ = _; rw [getR_del, if_pos he.symm]
            have HGE : Hid (∀ W, ∀ {G0 : Option Rw}, MK w g V (delR q.key xs) G0 W → Calls Try.prog 13 #[.pointer (some ⟨g, 0, none⟩), .string key] W fun e w' => e = .returned (.tuple #[.agg (rvR (none)), .bool (none).isSome]) ∧ W.grownBy w' none) := fun W _ h => by have := get_c _ key g (delR q.key xs) W h.tbl; rw [HGN.out] at this; exact this
            cases G with
            | none =>
              have HDE : Hid (∀ W, ∀ {G0 : Option Rw}, MK w g V xs G0 W → Calls Try.prog 17 #[.pointer (some ⟨g, 0, none⟩), .string q.key] W fun e w' => e = .returned (.bool ((none : Option Rw).isSome)) ∧ Tbl (fun b => b ≠ g ∧ b ≠ V) w' g (delR q.key xs) ∧ W.grownBy w' (some g)) := fun W _ h => by have := delete_c _ q.key g xs W h.ob (fun h => h.1 rfl) h.tbl; rw [he, HG.out] at this; rw [he]; exact this
              clear he
              go_wp2_with (first
                | (refine wpList_load_mid rfl 34 (.tmp 27) rfl b (off + k * 11) rfl q.cells _ HRG.out Try.underlying34 rfl (by kernel_rfl) ?_)
                 | (refine wpList_store_bk 34 rfl (.tmp 9) (.tmp 28) rfl infoOp wr.heap.size zOp q.cells.toArray rfl rfl HGB0.out.2 rfl rfl (ops_one q) ?_; intro w1 s1 s2; rw [← HNE.out] at s1 s2 ⊢; have H1 : Hid (Bk 34 w1 N q.cells.toArray ∧ MK w g V xs (none) w1) := ⟨s1, hm.out.grow (gb_newer HGB0.out.1 s2 (by rw [HNE.out]; exact Nat.le_refl _))⟩; clear s1 s2; have c0 : w1.cell? ⟨N, 0, none⟩ = some (.int .i64 q.call) := H1.out.1.cell 0; have c3 : w1.cell? ⟨N, 3, none⟩ = some (.string q.row.1) := H1.out.1.cell 3; have c4 : w1.cell? ⟨N, 4, none⟩ = some (.string q.row.2.1) := H1.out.1.cell 4; have c5 : w1.cell? ⟨N, 5, none⟩ = some (.int .i64 q.row.2.2) := H1.out.1.cell 5; have c6 : w1.cell? ⟨N, 6, none⟩ = some (.string q.key) := H1.out.1.cell 6)
                | (go_at_call 17; go_must (refine (Calls.mono (HDE.out w1 H1.out.2) ?_)); rintro e w2 ⟨rfl, ht2, hg2⟩; have H2 : Hid (Bk 34 w2 N q.cells.toArray ∧ MK w g V (delR q.key xs) (none) w2) := ⟨H1.out.1.grew hg2 (fun e => by have := Option.some.inj e; have := HNS.out; omega), H1.out.2.did ht2 hg2⟩; clear ht2 hg2; replace c0 : w2.cell? ⟨N, 0, none⟩ = some (.int .i64 q.call) := H2.out.1.cell 0; replace c3 : w2.cell? ⟨N, 3, none⟩ = some (.string q.row.1) := H2.out.1.cell 3; replace c4 : w2.cell? ⟨N, 4, none⟩ = some (.string q.row.2.1) := H2.out.1.cell 4; replace c5 : w2.cell? ⟨N, 5, none⟩ = some (.int .i64 q.row.2.2) := H2.out.1.cell 5; replace c6 : w2.cell? ⟨N, 6, none⟩ = some (.string q.key) := H2.out.1.cell 6)
                | ((fail_if_success (have z := H3)); have z := H2; clear z; refine wpList_store_bk 28 rfl (.tmp 6) (.tmp 76) rfl infoRow V (rvR (none)) zRow rfl rfl H2.out.2.want (rvR_size _) rfl (rvR_one (none)) ?_; intro w3 s1 s2; have H3 : Hid (Bk 34 w3 N q.cells.toArray ∧ MK w g V (delR q.key xs) (none) w3) := ⟨H2.out.1.grew s2 (fun e => by have := Option.some.inj e; have := HNS.out; omega), H2.out.2.put s1 s2⟩; clear s1 s2)
                | (go_at_call 13; go_must (refine (Calls.mono (HGE.out w3 H3.out.2) ?_)); rintro e w4 ⟨rfl, hg4⟩; have H4 : Hid (MK w g V (delR q.key xs) (none) w4) := H3.out.2.grow hg4; clear hg4; have H5 : Hid (Bk 28 (w4.alloc (.cells #[.string .empty, .string .empty, .int .i64 0] 28)) w4.heap.size zRow ∧ w4.grownBy (w4.alloc (.cells #[.string .empty, .string .empty, .int .i64 0] 28)) none) := blk_new w4 _ _)
                | (have z := H5; clear z; refine wpList_store_bk 28 rfl (.tmp 11) (.tmp 81) rfl infoRow w4.heap.size zRow (rvR (none)) rfl rfl H5.out.1 rfl (rvR_size _) (rvR_one _) ?_; intro w5 s1 s2; have H6 : Hid (Bk 28 w5 w4.heap.size (rvR (none)) ∧ MK w g V (delR q.key xs) (none) w5) := ⟨s1, H4.out.grow (gb_newer H5.out.2 s2 (Nat.le_refl _))⟩; clear s1 s2)
                | (have z := H6; clear z; refine wpList_load_bk 28 rfl (.tmp 11) rfl Try.underlying28 rfl infoRow w4.heap.size (rvR (none)) rfl H6.out.1 (rvR_size _) ?_)
                | (have z := H6; clear z; refine wpList_load_bk 28 rfl (.tmp 6) rfl Try.underlying28 rfl infoRow V (rvR (none)) rfl H6.out.2.want (rvR_size _) ?_))
              refine ⟨⟨k + 1, delR q.key xs, HL1.out, by simp, by rw [HGN.out]; rfl, by rw [HGN.out]; exact H6.out.2⟩, ?_⟩
              have := HL1.out
              simp [intOf]; omega
            | some y =>
              have HDE : Hid (∀ W, ∀ {G0 : Option Rw}, MK w g V xs G0 W → Calls Try.prog 17 #[.pointer (some ⟨g, 0, none⟩), .string q.key] W fun e w' => e = .returned (.bool ((some y : Option Rw).isSome)) ∧ Tbl (fun b => b ≠ g ∧ b ≠ V) w' g (delR q.key xs) ∧ W.grownBy w' (some g)) := fun W _ h => by have := delete_c _ q.key g xs W h.ob (fun h => h.1 rfl) h.tbl; rw [he, HG.out] at this; rw [he]; exact this
              clear he
              go_wp2_with (first
                | (refine wpList_load_mid rfl 34 (.tmp 27) rfl b (off + k * 11) rfl q.cells _ HRG.out Try.underlying34 rfl (by kernel_rfl) ?_)
                 | (refine wpList_store_bk 34 rfl (.tmp 9) (.tmp 28) rfl infoOp wr.heap.size zOp q.cells.toArray rfl rfl HGB0.out.2 rfl rfl (ops_one q) ?_; intro w1 s1 s2; rw [← HNE.out] at s1 s2 ⊢; have H1 : Hid (Bk 34 w1 N q.cells.toArray ∧ MK w g V xs (some y) w1) := ⟨s1, hm.out.grow (gb_newer HGB0.out.1 s2 (by rw [HNE.out]; exact Nat.le_refl _))⟩; clear s1 s2; have c0 : w1.cell? ⟨N, 0, none⟩ = some (.int .i64 q.call) := H1.out.1.cell 0; have c3 : w1.cell? ⟨N, 3, none⟩ = some (.string q.row.1) := H1.out.1.cell 3; have c4 : w1.cell? ⟨N, 4, none⟩ = some (.string q.row.2.1) := H1.out.1.cell 4; have c5 : w1.cell? ⟨N, 5, none⟩ = some (.int .i64 q.row.2.2) := H1.out.1.cell 5; have c6 : w1.cell? ⟨N, 6, none⟩ = some (.string q.key) := H1.out.1.cell 6)
                | (go_at_call 17; go_must (refine (Calls.mono (HDE.out w1 H1.out.2) ?_)); rintro e w2 ⟨rfl, ht2, hg2⟩; have H2 : Hid (Bk 34 w2 N q.cells.toArray ∧ MK w g V (delR q.key xs) (some y) w2) := ⟨H1.out.1.grew hg2 (fun e => by have := Option.some.inj e; have := HNS.out; omega), H1.out.2.did ht2 hg2⟩; clear ht2 hg2; replace c0 : w2.cell? ⟨N, 0, none⟩ = some (.int .i64 q.call) := H2.out.1.cell 0; replace c3 : w2.cell? ⟨N, 3, none⟩ = some (.string q.row.1) := H2.out.1.cell 3; replace c4 : w2.cell? ⟨N, 4, none⟩ = some (.string q.row.2.1) := H2.out.1.cell 4; replace c5 : w2.cell? ⟨N, 5, none⟩ = some (.int .i64 q.row.2.2) := H2.out.1.cell 5; replace c6 : w2.cell? ⟨N, 6, none⟩ = some (.string q.key) := H2.out.1.cell 6)
                | ((fail_if_success (have z := H3)); have z := H2; clear z; refine wpList_store_bk 28 rfl (.tmp 6) (.tmp 76) rfl infoRow V (rvR (some y)) zRow rfl rfl H2.out.2.want (rvR_size _) rfl (rvR_one (none)) ?_; intro w3 s1 s2; have H3 : Hid (Bk 34 w3 N q.cells.toArray ∧ MK w g V (delR q.key xs) (none) w3) := ⟨H2.out.1.grew s2 (fun e => by have := Option.some.inj e; have := HNS.out; omega), H2.out.2.put s1 s2⟩; clear s1 s2)
                | (go_at_call 13; go_must (refine (Calls.mono (HGE.out w3 H3.out.2) ?_)); rintro e w4 ⟨rfl, hg4⟩; have H4 : Hid (MK w g V (delR q.key xs) (none) w4) := H3.out.2.grow hg4; clear hg4; have H5 : Hid (Bk 28 (w4.alloc (.cells #[.string .empty, .string .empty, .int .i64 0] 28)) w4.heap.size zRow ∧ w4.grownBy (w4.alloc (.cells #[.string .empty, .string .empty, .int .i64 0] 28)) none) := blk_new w4 _ _)
                | (have z := H5; clear z; refine wpList_store_bk 28 rfl (.tmp 11) (.tmp 81) rfl infoRow w4.heap.size zRow (rvR (none)) rfl rfl H5.out.1 rfl (rvR_size _) (rvR_one _) ?_; intro w5 s1 s2; have H6 : Hid (Bk 28 w5 w4.heap.size (rvR (none)) ∧ MK w g V (delR q.key xs) (none) w5) := ⟨s1, H4.out.grow (gb_newer H5.out.2 s2 (Nat.le_refl _))⟩; clear s1 s2)
                | (have z := H6; clear z; refine wpList_load_bk 28 rfl (.tmp 11) rfl Try.underlying28 rfl infoRow w4.heap.size (rvR (none)) rfl H6.out.1 (rvR_size _) ?_)
                | (have z := H6; clear z; refine wpList_load_bk 28 rfl (.tmp 6) rfl Try.underlying28 rfl infoRow V (rvR (none)) rfl H6.out.2.want (rvR_size _) ?_))
              refine ⟨⟨k + 1, delR q.key xs, HL1.out, by simp, by rw [HGN.out]; rfl, by rw [HGN.out]; exact H6.out.2⟩, ?_⟩
              have := HL1.out
              simp [intOf]; omega
          · have hs : (q.key.toList == key.toList) = false := by rw [te_iff]; exact decide_eq_false he
            have HDE : Hid (∀ W, ∀ {G0 : Option Rw}, MK w g V xs G0 W → Calls Try.prog 17 #[.pointer (some ⟨g, 0, none⟩), .string q.key] W fun e w' => e = .returned (.bool ((getR q.key xs).isSome)) ∧ Tbl (fun b => b ≠ g ∧ b ≠ V) w' g (delR q.key xs) ∧ W.grownBy w' (some g)) := fun W _ h => delete_c _ q.key g xs W h.ob (fun h => h.1 rfl) h.tbl
            generalize (getR q.key xs).isSome = bq at *
            cases G with
            | none =>
              have HGN : Hid (getR key (delR q.key xs) = none) := by show _ = _; rw [getR_del, if_neg (fun h => he h.symm)]; exact HG.out
              have HGE : Hid (∀ W, ∀ {G0 : Option Rw}, MK w g V (delR q.key xs) G0 W → Calls Try.prog 13 #[.pointer (some ⟨g, 0, none⟩), .string key] W fun e w' => e = .returned (.tuple #[.agg (rvR (none)), .bool (none).isSome]) ∧ W.grownBy w' none) := fun W _ h => by have := get_c _ key g (delR q.key xs) W h.tbl; rw [HGN.out] at this; exact this
              clear he
              go_wp2_with (first
                | (refine wpList_load_mid rfl 34 (.tmp 27) rfl b (off + k * 11) rfl q.cells _ HRG.out Try.underlying34 rfl (by kernel_rfl) ?_)
                 | (refine wpList_store_bk 34 rfl (.tmp 9) (.tmp 28) rfl infoOp wr.heap.size zOp q.cells.toArray rfl rfl HGB0.out.2 rfl rfl (ops_one q) ?_; intro w1 s1 s2; rw [← HNE.out] at s1 s2 ⊢; have H1 : Hid (Bk 34 w1 N q.cells.toArray ∧ MK w g V xs (none) w1) := ⟨s1, hm.out.grow (gb_newer HGB0.out.1 s2 (by rw [HNE.out]; exact Nat.le_refl _))⟩; clear s1 s2; have c0 : w1.cell? ⟨N, 0, none⟩ = some (.int .i64 q.call) := H1.out.1.cell 0; have c3 : w1.cell? ⟨N, 3, none⟩ = some (.string q.row.1) := H1.out.1.cell 3; have c4 : w1.cell? ⟨N, 4, none⟩ = some (.string q.row.2.1) := H1.out.1.cell 4; have c5 : w1.cell? ⟨N, 5, none⟩ = some (.int .i64 q.row.2.2) := H1.out.1.cell 5; have c6 : w1.cell? ⟨N, 6, none⟩ = some (.string q.key) := H1.out.1.cell 6)
                | (go_at_call 17; go_must (refine (Calls.mono (HDE.out w1 H1.out.2) ?_)); rintro e w2 ⟨rfl, ht2, hg2⟩; have H2 : Hid (Bk 34 w2 N q.cells.toArray ∧ MK w g V (delR q.key xs) (none) w2) := ⟨H1.out.1.grew hg2 (fun e => by have := Option.some.inj e; have := HNS.out; omega), H1.out.2.did ht2 hg2⟩; clear ht2 hg2; replace c0 : w2.cell? ⟨N, 0, none⟩ = some (.int .i64 q.call) := H2.out.1.cell 0; replace c3 : w2.cell? ⟨N, 3, none⟩ = some (.string q.row.1) := H2.out.1.cell 3; replace c4 : w2.cell? ⟨N, 4, none⟩ = some (.string q.row.2.1) := H2.out.1.cell 4; replace c5 : w2.cell? ⟨N, 5, none⟩ = some (.int .i64 q.row.2.2) := H2.out.1.cell 5; replace c6 : w2.cell? ⟨N, 6, none⟩ = some (.string q.key) := H2.out.1.cell 6)
                | (go_at_call 13; go_must (refine (Calls.mono (HGE.out w2 H2.out.2) ?_)); rintro e w4 ⟨rfl, hg4⟩; have H4 : Hid (MK w g V (delR q.key xs) (none) w4) := H2.out.2.grow hg4; clear hg4; have H5 : Hid (Bk 28 (w4.alloc (.cells #[.string .empty, .string .empty, .int .i64 0] 28)) w4.heap.size zRow ∧ w4.grownBy (w4.alloc (.cells #[.string .empty, .string .empty, .int .i64 0] 28)) none) := blk_new w4 _ _)
                | (have z := H5; clear z; refine wpList_store_bk 28 rfl (.tmp 11) (.tmp 81) rfl infoRow w4.heap.size zRow (rvR (none)) rfl rfl H5.out.1 rfl (rvR_size _) (rvR_one _) ?_; intro w5 s1 s2; have H6 : Hid (Bk 28 w5 w4.heap.size (rvR (none)) ∧ MK w g V (delR q.key xs) (none) w5) := ⟨s1, H4.out.grow (gb_newer H5.out.2 s2 (Nat.le_refl _))⟩; clear s1 s2)
                | (have z := H6; clear z; refine wpList_load_bk 28 rfl (.tmp 11) rfl Try.underlying28 rfl infoRow w4.heap.size (rvR (none)) rfl H6.out.1 (rvR_size _) ?_)
                | (have z := H6; clear z; refine wpList_load_bk 28 rfl (.tmp 6) rfl Try.underlying28 rfl infoRow V (rvR (none)) rfl H6.out.2.want (rvR_size _) ?_))
              refine ⟨⟨k + 1, delR q.key xs, HL1.out, by simp, by rw [HGN.out]; rfl, by rw [HGN.out]; exact H6.out.2⟩, ?_⟩
              have := HL1.out
              simp [intOf]; omega
            | some y =>
              have HGN : Hid (getR key (delR q.key xs) = some y) := by show _ = _; rw [getR_del, if_neg (fun h => he h.symm)]; exact HG.out
              have HGE : Hid (∀ W, ∀ {G0 : Option Rw}, MK w g V (delR q.key xs) G0 W → Calls Try.prog 13 #[.pointer (some ⟨g, 0, none⟩), .string key] W fun e w' => e = .returned (.tuple #[.agg (rvR (some y)), .bool (some y).isSome]) ∧ W.grownBy w' none) := fun W _ h => by have := get_c _ key g (delR q.key xs) W h.tbl; rw [HGN.out] at this; exact this
              clear he
              go_wp2_with (first
                | (refine wpList_load_mid rfl 34 (.tmp 27) rfl b (off + k * 11) rfl q.cells _ HRG.out Try.underlying34 rfl (by kernel_rfl) ?_)
                 | (refine wpList_store_bk 34 rfl (.tmp 9) (.tmp 28) rfl infoOp wr.heap.size zOp q.cells.toArray rfl rfl HGB0.out.2 rfl rfl (ops_one q) ?_; intro w1 s1 s2; rw [← HNE.out] at s1 s2 ⊢; have H1 : Hid (Bk 34 w1 N q.cells.toArray ∧ MK w g V xs (some y) w1) := ⟨s1, hm.out.grow (gb_newer HGB0.out.1 s2 (by rw [HNE.out]; exact Nat.le_refl _))⟩; clear s1 s2; have c0 : w1.cell? ⟨N, 0, none⟩ = some (.int .i64 q.call) := H1.out.1.cell 0; have c3 : w1.cell? ⟨N, 3, none⟩ = some (.string q.row.1) := H1.out.1.cell 3; have c4 : w1.cell? ⟨N, 4, none⟩ = some (.string q.row.2.1) := H1.out.1.cell 4; have c5 : w1.cell? ⟨N, 5, none⟩ = some (.int .i64 q.row.2.2) := H1.out.1.cell 5; have c6 : w1.cell? ⟨N, 6, none⟩ = some (.string q.key) := H1.out.1.cell 6)
                | (go_at_call 17; go_must (refine (Calls.mono (HDE.out w1 H1.out.2) ?_)); rintro e w2 ⟨rfl, ht2, hg2⟩; have H2 : Hid (Bk 34 w2 N q.cells.toArray ∧ MK w g V (delR q.key xs) (some y) w2) := ⟨H1.out.1.grew hg2 (fun e => by have := Option.some.inj e; have := HNS.out; omega), H1.out.2.did ht2 hg2⟩; clear ht2 hg2; replace c0 : w2.cell? ⟨N, 0, none⟩ = some (.int .i64 q.call) := H2.out.1.cell 0; replace c3 : w2.cell? ⟨N, 3, none⟩ = some (.string q.row.1) := H2.out.1.cell 3; replace c4 : w2.cell? ⟨N, 4, none⟩ = some (.string q.row.2.1) := H2.out.1.cell 4; replace c5 : w2.cell? ⟨N, 5, none⟩ = some (.int .i64 q.row.2.2) := H2.out.1.cell 5; replace c6 : w2.cell? ⟨N, 6, none⟩ = some (.string q.key) := H2.out.1.cell 6)
                | (go_at_call 13; go_must (refine (Calls.mono (HGE.out w2 H2.out.2) ?_)); rintro e w4 ⟨rfl, hg4⟩; have H4 : Hid (MK w g V (delR q.key xs) (some y) w4) := H2.out.2.grow hg4; clear hg4; have H5 : Hid (Bk 28 (w4.alloc (.cells #[.string .empty, .string .empty, .int .i64 0] 28)) w4.heap.size zRow ∧ w4.grownBy (w4.alloc (.cells #[.string .empty, .string .empty, .int .i64 0] 28)) none) := blk_new w4 _ _)
                | (have z := H5; clear z; refine wpList_store_bk 28 rfl (.tmp 11) (.tmp 81) rfl infoRow w4.heap.size zRow (rvR (some y)) rfl rfl H5.out.1 rfl (rvR_size _) (rvR_one _) ?_; intro w5 s1 s2; have H6 : Hid (Bk 28 w5 w4.heap.size (rvR (some y)) ∧ MK w g V (delR q.key xs) (some y) w5) := ⟨s1, H4.out.grow (gb_newer H5.out.2 s2 (Nat.le_refl _))⟩; clear s1 s2)
                | (have z := H6; clear z; refine wpList_load_bk 28 rfl (.tmp 11) rfl Try.underlying28 rfl infoRow w4.heap.size (rvR (some y)) rfl H6.out.1 (rvR_size _) ?_)
                | (have z := H6; clear z; refine wpList_load_bk 28 rfl (.tmp 6) rfl Try.underlying28 rfl infoRow V (rvR (some y)) rfl H6.out.2.want (rvR_size _) ?_))
              refine ⟨⟨k + 1, delR q.key xs, HL1.out, by simp, by rw [HGN.out]; rfl, by rw [HGN.out]; exact H6.out.2⟩, ?_⟩
              have := HL1.out
              simp [intOf]; omega
        · have hc1b : (q.call == 1) = false := by simpa using hc1
          cases G with
          | none =>
            have HGN : Hid (getR key xs = none) := HG.out
            have HGE : Hid (∀ W, ∀ {G0 : Option Rw}, MK w g V (xs) G0 W → Calls Try.prog 13 #[.pointer (some ⟨g, 0, none⟩), .string key] W fun e w' => e = .returned (.tuple #[.agg (rvR (none)), .bool (none).isSome]) ∧ W.grownBy w' none) := fun W _ h => by have := get_c _ key g (xs) W h.tbl; rw [HGN.out] at this; exact this
            go_wp2_with (first
              | (refine wpList_load_mid rfl 34 (.tmp 27) rfl b (off + k * 11) rfl q.cells _ HRG.out Try.underlying34 rfl (by kernel_rfl) ?_)
               | (refine wpList_store_bk 34 rfl (.tmp 9) (.tmp 28) rfl infoOp wr.heap.size zOp q.cells.toArray rfl rfl HGB0.out.2 rfl rfl (ops_one q) ?_; intro w1 s1 s2; rw [← HNE.out] at s1 s2 ⊢; have H1 : Hid (Bk 34 w1 N q.cells.toArray ∧ MK w g V xs (none) w1) := ⟨s1, hm.out.grow (gb_newer HGB0.out.1 s2 (by rw [HNE.out]; exact Nat.le_refl _))⟩; clear s1 s2; have c0 : w1.cell? ⟨N, 0, none⟩ = some (.int .i64 q.call) := H1.out.1.cell 0; have c3 : w1.cell? ⟨N, 3, none⟩ = some (.string q.row.1) := H1.out.1.cell 3; have c4 : w1.cell? ⟨N, 4, none⟩ = some (.string q.row.2.1) := H1.out.1.cell 4; have c5 : w1.cell? ⟨N, 5, none⟩ = some (.int .i64 q.row.2.2) := H1.out.1.cell 5; have c6 : w1.cell? ⟨N, 6, none⟩ = some (.string q.key) := H1.out.1.cell 6)
              | (go_at_call 13; go_must (refine (Calls.mono (HGE.out w1 H1.out.2) ?_)); rintro e w4 ⟨rfl, hg4⟩; have H4 : Hid (MK w g V (xs) (none) w4) := H1.out.2.grow hg4; clear hg4; have H5 : Hid (Bk 28 (w4.alloc (.cells #[.string .empty, .string .empty, .int .i64 0] 28)) w4.heap.size zRow ∧ w4.grownBy (w4.alloc (.cells #[.string .empty, .string .empty, .int .i64 0] 28)) none) := blk_new w4 _ _)
              | (have z := H5; clear z; refine wpList_store_bk 28 rfl (.tmp 11) (.tmp 81) rfl infoRow w4.heap.size zRow (rvR (none)) rfl rfl H5.out.1 rfl (rvR_size _) (rvR_one _) ?_; intro w5 s1 s2; have H6 : Hid (Bk 28 w5 w4.heap.size (rvR (none)) ∧ MK w g V (xs) (none) w5) := ⟨s1, H4.out.grow (gb_newer H5.out.2 s2 (Nat.le_refl _))⟩; clear s1 s2)
              | (have z := H6; clear z; refine wpList_load_bk 28 rfl (.tmp 11) rfl Try.underlying28 rfl infoRow w4.heap.size (rvR (none)) rfl H6.out.1 (rvR_size _) ?_)
              | (have z := H6; clear z; refine wpList_load_bk 28 rfl (.tmp 6) rfl Try.underlying28 rfl infoRow V (rvR (none)) rfl H6.out.2.want (rvR_size _) ?_))
            refine ⟨⟨k + 1, xs, HL1.out, by simp, by rw [HGN.out]; rfl, by rw [HGN.out]; exact H6.out.2⟩, ?_⟩
            have := HL1.out
            simp [intOf]; omega
          | some y =>
            have HGN : Hid (getR key xs = some y) := HG.out
            have HGE : Hid (∀ W, ∀ {G0 : Option Rw}, MK w g V (xs) G0 W → Calls Try.prog 13 #[.pointer (some ⟨g, 0, none⟩), .string key] W fun e w' => e = .returned (.tuple #[.agg (rvR (some y)), .bool (some y).isSome]) ∧ W.grownBy w' none) := fun W _ h => by have := get_c _ key g (xs) W h.tbl; rw [HGN.out] at this; exact this
            go_wp2_with (first
              | (refine wpList_load_mid rfl 34 (.tmp 27) rfl b (off + k * 11) rfl q.cells _ HRG.out Try.underlying34 rfl (by kernel_rfl) ?_)
               | (refine wpList_store_bk 34 rfl (.tmp 9) (.tmp 28) rfl infoOp wr.heap.size zOp q.cells.toArray rfl rfl HGB0.out.2 rfl rfl (ops_one q) ?_; intro w1 s1 s2; rw [← HNE.out] at s1 s2 ⊢; have H1 : Hid (Bk 34 w1 N q.cells.toArray ∧ MK w g V xs (some y) w1) := ⟨s1, hm.out.grow (gb_newer HGB0.out.1 s2 (by rw [HNE.out]; exact Nat.le_refl _))⟩; clear s1 s2; have c0 : w1.cell? ⟨N, 0, none⟩ = some (.int .i64 q.call) := H1.out.1.cell 0; have c3 : w1.cell? ⟨N, 3, none⟩ = some (.string q.row.1) := H1.out.1.cell 3; have c4 : w1.cell? ⟨N, 4, none⟩ = some (.string q.row.2.1) := H1.out.1.cell 4; have c5 : w1.cell? ⟨N, 5, none⟩ = some (.int .i64 q.row.2.2) := H1.out.1.cell 5; have c6 : w1.cell? ⟨N, 6, none⟩ = some (.string q.key) := H1.out.1.cell 6)
              | (go_at_call 13; go_must (refine (Calls.mono (HGE.out w1 H1.out.2) ?_)); rintro e w4 ⟨rfl, hg4⟩; have H4 : Hid (MK w g V (xs) (some y) w4) := H1.out.2.grow hg4; clear hg4; have H5 : Hid (Bk 28 (w4.alloc (.cells #[.string .empty, .string .empty, .int .i64 0] 28)) w4.heap.size zRow ∧ w4.grownBy (w4.alloc (.cells #[.string .empty, .string .empty, .int .i64 0] 28)) none) := blk_new w4 _ _)
              | (have z := H5; clear z; refine wpList_store_bk 28 rfl (.tmp 11) (.tmp 81) rfl infoRow w4.heap.size zRow (rvR (some y)) rfl rfl H5.out.1 rfl (rvR_size _) (rvR_one _) ?_; intro w5 s1 s2; have H6 : Hid (Bk 28 w5 w4.heap.size (rvR (some y)) ∧ MK w g V (xs) (some y) w5) := ⟨s1, H4.out.grow (gb_newer H5.out.2 s2 (Nat.le_refl _))⟩; clear s1 s2)
              | (have z := H6; clear z; refine wpList_load_bk 28 rfl (.tmp 11) rfl Try.underlying28 rfl infoRow w4.heap.size (rvR (some y)) rfl H6.out.1 (rvR_size _) ?_)
              | (have z := H6; clear z; refine wpList_load_bk 28 rfl (.tmp 6) rfl Try.underlying28 rfl infoRow V (rvR (some y)) rfl H6.out.2.want (rvR_size _) ?_))
            refine ⟨⟨k + 1, xs, HL1.out, by simp, by rw [HGN.out]; rfl, by rw [HGN.out]; exact H6.out.2⟩, ?_⟩
            have := HL1.out
            simp [intOf]; omega
    · have hge : ¬ (k : Int) < n := by omega
      go_wp2
      go_ret
      exact ⟨rfl, gb_below hm.out.gb⟩

set_option maxRecDepth 100000 in
theorem lifted (os : Os) (started : os.Started) (H : Type) (enc : TypeId × Value → H) :
    ReturnsInHanded {} Try.checked os 4 .any (Rows.tableMapSpec.pre6 enc Try.prog Try.f4 Rows.tableMapRow.domain false) (Rows.tableMapSpec.post enc Try.prog Try.f4 false true false false) := by
  refine returnsInHanded_of_change (C := Try.checked) own started (by kernel_rfl) Try.func4
    (ChangeSpec.witness6 (enc := enc) (C := Try.checked) false ⟨#[], #[.slice none 0 0, .string .empty], []⟩ 8 (by kernel_rfl) (by kernel_rfl) (by kernel_rfl) (by kernel_rfl)) ?_
  intro W base args ds gs before hval0 hW hcnd _
  have hval : ∀ (j : Nat) t v, Try.f4.params[j]? = some t → args[j]? = some v → Value.okWide Try.prog W .any base t v := hval0
  have hW' := hW
  obtain ⟨p, q, hA0, hV, rfl, hfz, hnd⟩ := hW
  have hA : DataW.TrodAll enc Try.prog W 0 (fun _ => true) true Try.f4.params.toList args.toList ds p := hA0
  rw [Try.params4] at hA hval
  obtain ⟨v0, vs0, d0, ds0, p0, q0, hargs, rfl, rfl, h0, r0⟩ := trodAll_cons hA
  obtain ⟨v1, vs1, d1, ds1, p1, q1, rfl, rfl, rfl, h1, r1⟩ := trodAll_cons r0
  obtain ⟨rfl, rfl, rfl⟩ := trodAll_nil r1
  obtain rfl : args = #[v0, v1] := by cases args; simp_all
  obtain ⟨rfl, rfl⟩ := trodVars_none hV
  have k0 := h0
  have lt0 : ∀ x ∈ p0, x.block < W.heap.size := by obtain ⟨m, hm⟩ := k0; exact DataW.trod_lt m _ _ _ hm
  obtain ⟨a0, n0, cap0, X0, rfl, x0, lc0, cm0, nz0⟩ : ∃ a n cap X, v0 = .slice a n cap ∧ TOps W a n X ∧ n ≤ cap ∧ cap ≤ maxLen ∧ (a = none → cap = 0) := by
    obtain ⟨sa, sl, sc, hv⟩ := okWide_slice Try.underlying22 (hval 0 22 v0 rfl rfl)
    exact tops_open sa sl sc hv h0
  obtain ⟨s1, rfl, rfl, rfl, z1⟩ := Go.ChangeMaps.open_string Try.underlying9 (hval 1 9 v1 rfl rfl) h1
  clear hA0 hval0
  refine (walk a0 n0 cap0 X0 s1 W x0 lc0 cm0 nz0 z1).mono fun e W' ⟨he, bel⟩ => ?_
  subst he
  exact ⟨_, rfl, _, _, _, [], _, [], hW', trodAll_mk1 (shut_bool Try.underlying4 _), (trodAll_cons_mk (Below.trod laidOut (by kernel_rfl) (of_decide_eq_true (by kernel_rfl)) k0 bel lt0) (trodAll_cons_mk (Go.ChangeMaps.shut_string Try.underlying9 z1) trodAll_mk0)), rfl, bel.frame _, fun h => by cases h⟩

theorem over : Rows.tableMapRow.holds Try.pinned (OpenSpec.ofChange Rows.tableMapSpec) :=
  OpenClaim.holds_of_wide 4 Try.f4 rfl rfl rfl rfl rfl rfl rfl ⟨rfl, rfl, rfl, rfl, rfl⟩ rfl rfl rfl rfl rfl (by kernel_rfl) Try.func4 (by kernel_rfl)
    (of_decide_eq_true (by kernel_rfl)) (by unfold Func.isWrapper; first | (rw [if_pos (by decide +kernel)]; kernel_rfl) | (rw [if_neg (by decide +kernel)]; exact ⟨rfl, rfl⟩))
    (fun os started H enc _ => lifted os started H enc)

end Go.Proofs.Ytdmchcdkfbijlab.tableMap
namespace Go.Proofs.Ytdmchcdkfbijlab
theorem tableMap_holds : Rows.TableMapSaid := tableMap.over
#print axioms tableMap_holds
end Go.Proofs.Ytdmchcdkfbijlab
