/-
  What the law's sameUpdates answers of two lists that are the same: true. Condition: at most 2^30 updates.
-/
import Derived.Test.YtfbbaodhlniiiaaDPa
import Derived.Laws.StructEq
import Derived.Deep.MidRow
namespace Go.Proofs.Ytfbbaodhlniiiaa.Dl
open Go.RowKit
set_option linter.unusedVariables false
theorem zInt (d : Nat) (n : Int) (w : World) : (Op.equalIn (d + 1) 3 (.int .i64 n) (.int .i64 n)).run Try.prog w = .ok true w := by simp [Op.equalIn, run_underlying Try.underlying3]
theorem zStr (d : Nat) (s : ByteArray) (w : World) : (Op.equalIn (d + 1) 9 (.string s) (.string s)).run Try.prog w = .ok true w := by
  simp [Op.equalIn, run_underlying Try.underlying9]
  cases s
  rename_i dt
  show (dt == dt) = true
  exact beq_self_eq_true dt
theorem zOp (d : Nat) (k : Int) (key val : ByteArray) (ver : Int) (w : World) : (Op.equalIn (d + 2) 94 (.agg #[.int .i64 k, .string key, .string val, .int .i64 ver]) (.agg #[.int .i64 k, .string key, .string val, .int .i64 ver])).run Try.prog w = .ok true w := by
  have hs := fun s => zStr d s w
  have hi := fun n => zInt d n w
  rw [Op.equalIn]
  simp [run_underlying Try.underlying94, part, isAgg, run_underlying Try.underlying9, run_underlying Try.underlying3, hs, hi]
theorem zUpdE (q c n k : Int) (key val : ByteArray) (ver : Int) (w : World) : (Op.equalIn 10000 96 (.agg #[.int .i64 q, .int .i64 c, .int .i64 n, .int .i64 k, .string key, .string val, .int .i64 ver]) (.agg #[.int .i64 q, .int .i64 c, .int .i64 n, .int .i64 k, .string key, .string val, .int .i64 ver])).run Try.prog w = .ok true w := by
  have ho := zOp 9997 k key val ver w
  have hi := fun n => zInt 9998 n w
  rw [Op.equalIn]
  simp [run_underlying Try.underlying96, part, isAgg, run_underlying Try.underlying94, run_underlying Try.underlying3, hi, ho]
set_option maxRecDepth 20000 in
set_option maxHeartbeats 2000000 in
theorem sameU_c (a a' : Option Addr) (n cap cap' : Nat) (X : List Upd) (w : World) (h : Upds w a n X) (h' : Upds w a' n X) (hn : n ≤ 1073741824) :
    Calls Try.prog 12 #[.slice a n cap, .slice a' n cap'] w fun r w' => r = .returned (.bool true) ∧ w.grownBy w' none := by
  have HX : Hid (Upds w a n X) := h
  have HY : Hid (Upds w a' n X) := h'
  clear h h'
  go_enter Try.func12, Try.ntmps12
  go_wp2_with fail
  go_loopw [5] (fun i wr => ∃ (k : Nat), k ≤ n ∧ i = .int .i64 (k : Int) ∧ Hid (w.grownBy wr none)) (fun i _ => n - (intOf i).toNat)
  case atStart => exact ⟨0, Nat.zero_le _, rfl, gb_refl _⟩
  case round =>
    obtain ⟨k, hk, rfl, hr⟩ := hrel
    by_cases hlt : k < n
    · have hi1 : (k : Int) < n := by omega
      rcases HX.out.2 with z | ⟨b, off, rfl, hbl, hcl⟩
      · omega
      rcases HY.out.2 with z | ⟨b', off', rfl, hbl', hcl'⟩
      · omega
      obtain ⟨u, hu⟩ : ∃ u, u = upAt X k := ⟨_, rfl⟩
      have HRG : Hid (wr.rangeAt b (off + k * 7) u.cells ∧ wr.rangeAt b' (off' + k * 7) u.cells) := by
        rw [hu]
        exact ⟨fun j v hv => ((gb_below hr.out).cell (p := ⟨b, off + k * 7 + j, none⟩) hbl).trans (hcl k hlt j v hv), fun j v hv => ((gb_below hr.out).cell (p := ⟨b', off' + k * 7 + j, none⟩) hbl').trans (hcl' k hlt j v hv)⟩
      have hb1 : b < wr.heap.size := Nat.lt_of_lt_of_le hbl hr.out.size
      have hb2 : b' < wr.heap.size := Nat.lt_of_lt_of_le hbl' hr.out.size
      clear hu hcl hcl'
      obtain ⟨q, c, m, kd, key, val, ver⟩ := u
      have HL : Hid (∀ W, Calls Try.prog 37 #[.agg #[.int .i64 q, .int .i64 c, .int .i64 m, .int .i64 kd, .string key, .string val, .int .i64 ver]] W fun r w' => r = .returned (.agg #[.int .i64 q, .int .i64 c, .int .i64 m, .int .i64 kd, .string key, .string val, .int .i64 ver]) ∧ W.grownBy w' none) := plain_c q c m kd key val ver
      have r1 : ∀ p, (loadVar 27 ⟨b, off + k * 7, none⟩).run Try.prog (gw wr p) = .ok (.agg #[.int .i64 q, .int .i64 c, .int .i64 m, .int .i64 kd, .string key, .string val, .int .i64 ver]) (gw wr p) := fun p => run_loadVar_mid (gw wr p) b (off + k * 7) 27 _ _ (fun j v hv => ((gb_below (gw_gb wr p)).cell (p := ⟨b, off + k * 7 + j, none⟩) hb1).trans (HRG.out.1 j v hv)) Try.underlying27 rfl (by kernel_rfl)
      have r2 : ∀ p, (loadVar 96 ⟨b', off' + k * 7, none⟩).run Try.prog (gw wr p) = .ok (.agg #[.int .i64 q, .int .i64 c, .int .i64 m, .int .i64 kd, .string key, .string val, .int .i64 ver]) (gw wr p) := fun p => run_loadVar_mid (gw wr p) b' (off' + k * 7) 96 _ _ (fun j v hv => ((gb_below (gw_gb wr p)).cell (p := ⟨b', off' + k * 7 + j, none⟩) hb2).trans (HRG.out.2 j v hv)) Try.underlying96 rfl (by kernel_rfl)
      have heg : Try.prog.eqGuardType Try.prog.depth 96 = false := by kernel_rfl
      have heq := zUpdE q c m kd key val ver
      go_wp2_with fail
      refine wp_region_gb (by kernel_rfl) (by kernel_rfl) ?_
      repeat (first
        | (refine wpQuiet_loadv rfl 27 _ rfl ⟨b, off + k * 7, none⟩ _ (by first | rfl | simp) (fun w hw => by obtain ⟨p, rfl⟩ := hw; exact r1 p) ?_)
        | (refine wpQuiet_loadv rfl 96 _ rfl ⟨b', off' + k * 7, none⟩ _ (by first | rfl | simp) (fun w hw => by obtain ⟨p, rfl⟩ := hw; exact r2 p) ?_)
        | quiet_step (first
          | (go_at_call 37; exact calls_gb (HL.out _))))
      refine wpQuiet_nil ?_
      intro _ hw'
      obtain ⟨pq, rfl⟩ := hw'
      go_wp2_with fail
      go_roundw
      case rel => exact ⟨k + 1, by omega, by go_num, gb_trans hr.out (gw_gb _ _)⟩
      case measure => simp [intOf]; omega
    · obtain rfl : k = n := by omega
      have hge : ¬ (k : Int) < k := by omega
      go_wp2_with fail
      go_ret
      exact ⟨rfl, hr.out⟩
end Go.Proofs.Ytfbbaodhlniiiaa.Dl
