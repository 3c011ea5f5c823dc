/-
  What delta's CheckUpdate answers of an update. No condition.
-/
import Derived.Test.YtfbbaodhlniiiaaDCk
namespace Go.Proofs.Ytfbbaodhlniiiaa.Dl
open Go.RowKit
set_option linter.unusedVariables false

theorem blk_two (w : World) (T U : TypeId) (cs es : Array Value) : Bk T ((w.alloc (.cells cs T)).alloc (.cells es U)) w.heap.size cs ∧ Bk U ((w.alloc (.cells cs T)).alloc (.cells es U)) (w.heap.size + 1) es ∧ w.grownBy ((w.alloc (.cells cs T)).alloc (.cells es U)) none := by
  have e : (w.alloc (.cells cs T)).heap.size = w.heap.size + 1 := by
    show (w.heap.push _).size = _
    rw [Array.size_push]
  refine ⟨(blk_new w T cs).1.grew (gb_alloc _ _) (by simp), ?_, gb_trans (gb_alloc _ _) (gb_alloc _ _)⟩
  rw [← e]
  exact (blk_new _ U es).1
theorem infoUpd : (Try.prog.info? 27).map (·.size) = some 7 := by kernel_rfl
theorem infoAop : (Try.prog.info? 25).map (·.size) = some 4 := by kernel_rfl
theorem upd_one (q c n k : Int) (key val : ByteArray) (ver : Int) : (#[.int .i64 q, .int .i64 c, .int .i64 n, .int .i64 k, .string key, .string val, .int .i64 ver] : Array Value).all (·.oneCell') = true := by simp [Value.oneCell']
theorem aop_one (k : Int) (key val : ByteArray) (ver : Int) : (#[.int .i64 k, .string key, .string val, .int .i64 ver] : Array Value).all (·.oneCell') = true := by simp [Value.oneCell']
theorem upd_op {T : TypeId} {w : World} {b : Nat} {q c n k : Int} {key val : ByteArray} {ver : Int} (h : Bk T w b #[.int .i64 q, .int .i64 c, .int .i64 n, .int .i64 k, .string key, .string val, .int .i64 ver]) : w.rangeAt b 3 [.int .i64 k, .string key, .string val, .int .i64 ver] := by
  intro j v hv
  rw [h.cell]
  match j, hv with
  | 0, hv => simpa using hv
  | 1, hv => simpa using hv
  | 2, hv => simpa using hv
  | 3, hv => simpa using hv
  | j + 4, hv => simp at hv
set_option maxRecDepth 20000 in
set_option maxHeartbeats 1000000 in
theorem checku_c (q c n k : Int) (key val : ByteArray) (ver : Int) (w : World) : Calls Try.prog 46 #[.agg #[.int .i64 q, .int .i64 c, .int .i64 n, .int .i64 k, .string key, .string val, .int .i64 ver]] w fun r w' => r = .returned (.int .i64 (updE q c n k key val ver)) ∧ w.grownBy w' none := by
  have HK : Hid (∀ W, Calls Try.prog 73 #[.agg #[.int .i64 k, .string key, .string val, .int .i64 ver]] W fun r w' => r = .returned (.int .i64 (opE k key val ver)) ∧ W.grownBy w' none) := check_c k key val ver
  have HN : Hid (w.grownBy (w.alloc (.cells #[.int .i64 q, .int .i64 c, .int .i64 n, .int .i64 k, .string key, .string val, .int .i64 ver] 27)) none) := gb_alloc _ _
  have HR : Hid ((w.alloc (.cells #[.int .i64 q, .int .i64 c, .int .i64 n, .int .i64 k, .string key, .string val, .int .i64 ver] 27)).rangeAt w.heap.size 3 [.int .i64 k, .string key, .string val, .int .i64 ver]) := upd_op (blk_new w 27 _).1
  unfold updE
  have HQ : Hid (∀ W, Calls Try.prog 44 #[.int .i64 q, .int .i64 1, .int .i64 1152921504606846976] W fun r w' => r = .returned (.bool (decide (1 ≤ q) && decide (q ≤ 1152921504606846976))) ∧ w' = W) := within_c q _ _
  have HC : Hid (∀ W, Calls Try.prog 44 #[.int .i64 c, .int .i64 1, .int .i64 16] W fun r w' => r = .returned (.bool (decide (1 ≤ c) && decide (c ≤ 16))) ∧ w' = W) := within_c c _ _
  have HM : Hid (∀ W, Calls Try.prog 44 #[.int .i64 n, .int .i64 1, .int .i64 1152921504606846976] W fun r w' => r = .returned (.bool (decide (1 ≤ n) && decide (n ≤ 1152921504606846976))) ∧ w' = W) := within_c n _ _
  by_cases hq : q < 1
  · rw [if_pos (.inl hq)]
    rw [decide_eq_false (p := 1 ≤ q) (by omega)] at HQ
    go_enter Try.func46, Try.ntmps46
    go_wp2_with (first | (go_at_call 44; first | (refine (Calls.mono (HQ.out _) ?_); rintro e wq ⟨rfl, rfl⟩; clear HQ) | (refine (Calls.mono (HC.out _) ?_); rintro e wq ⟨rfl, rfl⟩; clear HC) | (refine (Calls.mono (HM.out _) ?_); rintro e wq ⟨rfl, rfl⟩)))
    go_ret
    exact ⟨rfl, HN.out⟩
  by_cases gq : 1152921504606846976 < q
  · rw [if_pos (.inr gq)]
    rw [decide_eq_true (p := 1 ≤ q) (by omega), decide_eq_false (p := q ≤ 1152921504606846976) (by omega)] at HQ
    go_enter Try.func46, Try.ntmps46
    go_wp2_with (first | (go_at_call 44; first | (refine (Calls.mono (HQ.out _) ?_); rintro e wq ⟨rfl, rfl⟩; clear HQ) | (refine (Calls.mono (HC.out _) ?_); rintro e wq ⟨rfl, rfl⟩; clear HC) | (refine (Calls.mono (HM.out _) ?_); rintro e wq ⟨rfl, rfl⟩)))
    go_ret
    exact ⟨rfl, HN.out⟩
  rw [if_neg (by omega)]
  rw [decide_eq_true (p := 1 ≤ q) (by omega), decide_eq_true (p := q ≤ 1152921504606846976) (by omega)] at HQ
  by_cases hc : c < 1
  · rw [if_pos (.inl hc)]
    rw [decide_eq_false (p := 1 ≤ c) (by omega)] at HC
    go_enter Try.func46, Try.ntmps46
    go_wp2_with (first | (go_at_call 44; first | (refine (Calls.mono (HQ.out _) ?_); rintro e wq ⟨rfl, rfl⟩; clear HQ) | (refine (Calls.mono (HC.out _) ?_); rintro e wq ⟨rfl, rfl⟩; clear HC) | (refine (Calls.mono (HM.out _) ?_); rintro e wq ⟨rfl, rfl⟩)))
    go_ret
    exact ⟨rfl, HN.out⟩
  by_cases gc : 16 < c
  · rw [if_pos (.inr gc)]
    rw [decide_eq_true (p := 1 ≤ c) (by omega), decide_eq_false (p := c ≤ 16) (by omega)] at HC
    go_enter Try.func46, Try.ntmps46
    go_wp2_with (first | (go_at_call 44; first | (refine (Calls.mono (HQ.out _) ?_); rintro e wq ⟨rfl, rfl⟩; clear HQ) | (refine (Calls.mono (HC.out _) ?_); rintro e wq ⟨rfl, rfl⟩; clear HC) | (refine (Calls.mono (HM.out _) ?_); rintro e wq ⟨rfl, rfl⟩)))
    go_ret
    exact ⟨rfl, HN.out⟩
  rw [if_neg (by omega)]
  rw [decide_eq_true (p := 1 ≤ c) (by omega), decide_eq_true (p := c ≤ 16) (by omega)] at HC
  by_cases hn : n < 1
  · rw [if_pos (.inl hn)]
    rw [decide_eq_false (p := 1 ≤ n) (by omega)] at HM
    go_enter Try.func46, Try.ntmps46
    go_wp2_with (first | (go_at_call 44; first | (refine (Calls.mono (HQ.out _) ?_); rintro e wq ⟨rfl, rfl⟩; clear HQ) | (refine (Calls.mono (HC.out _) ?_); rintro e wq ⟨rfl, rfl⟩; clear HC) | (refine (Calls.mono (HM.out _) ?_); rintro e wq ⟨rfl, rfl⟩)))
    go_ret
    exact ⟨rfl, HN.out⟩
  by_cases gn : 1152921504606846976 < n
  · rw [if_pos (.inr gn)]
    rw [decide_eq_true (p := 1 ≤ n) (by omega), decide_eq_false (p := n ≤ 1152921504606846976) (by omega)] at HM
    go_enter Try.func46, Try.ntmps46
    go_wp2_with (first | (go_at_call 44; first | (refine (Calls.mono (HQ.out _) ?_); rintro e wq ⟨rfl, rfl⟩; clear HQ) | (refine (Calls.mono (HC.out _) ?_); rintro e wq ⟨rfl, rfl⟩; clear HC) | (refine (Calls.mono (HM.out _) ?_); rintro e wq ⟨rfl, rfl⟩)))
    go_ret
    exact ⟨rfl, HN.out⟩
  rw [if_neg (by omega)]
  rw [decide_eq_true (p := 1 ≤ n) (by omega), decide_eq_true (p := n ≤ 1152921504606846976) (by omega)] at HM
  go_enter Try.func46, Try.ntmps46
  go_wp2_with (first | (go_at_call 44; first | (refine (Calls.mono (HQ.out _) ?_); rintro e wq ⟨rfl, rfl⟩; clear HQ) | (refine (Calls.mono (HC.out _) ?_); rintro e wq ⟨rfl, rfl⟩; clear HC) | (refine (Calls.mono (HM.out _) ?_); rintro e wq ⟨rfl, rfl⟩)) | (refine wpList_load_mid rfl 25 (.tmp 18) rfl w.heap.size 3 rfl _ _ HR.out Try.underlying25 rfl (by kernel_rfl) ?_) | (go_at_call 73; refine (Calls.mono (HK.out _) ?_); rintro e w2 ⟨rfl, h2⟩))
  go_ret
  exact ⟨rfl, gb_trans HN.out h2⟩
end Go.Proofs.Ytfbbaodhlniiiaa.Dl
