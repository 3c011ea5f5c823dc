/-
  What the document's follows and rowSize answer of a row. Condition: for rowSize, a row that may be.
-/
import Derived.Test.YtcdgfghcmeadgaaDoorFc
import Derived.BigQuiet
import Derived.Deep.RegionHeld3
namespace Go.Proofs.YtcdgfghcmeadgaaDoor
open Go.RowKit
set_option linter.unusedVariables false

theorem ycheck_c (k v : ByteArray) (n : Int) (w : World) : Calls Tryd.prog 96 #[.agg #[.string k, .string v, .int .i64 n]] w fun r w' => r = .returned (.int .i64 (Tb.rowE (k, v, n))) ∧ w.grownBy w' none := by
  have HN : Hid (w.grownBy (w.alloc (.cells #[.string k, .string v, .int .i64 n] 48)) none) := gal _ _
  unfold Tb.rowE
  simp only
  by_cases h0 : k.size < 1
  · rw [if_pos (.inl h0)]
    go_enter Tryd.func96, Tryd.ntmps96
    go_wp2
    go_ret
    exact ⟨rfl, HN.out⟩
  · by_cases h1 : 1024 < k.size
    · rw [if_pos (.inr h1)]
      go_enter Tryd.func96, Tryd.ntmps96
      go_wp2
      go_ret
      exact ⟨rfl, HN.out⟩
    · rw [if_neg (by omega)]
      by_cases h2 : 65536 < v.size
      · rw [if_pos h2]
        go_enter Tryd.func96, Tryd.ntmps96
        go_wp2
        go_ret
        exact ⟨rfl, HN.out⟩
      · rw [if_neg h2]
        by_cases h3 : n < 1
        · rw [if_pos (.inl h3)]
          go_enter Tryd.func96, Tryd.ntmps96
          go_wp2
          go_ret
          exact ⟨rfl, HN.out⟩
        · by_cases h4 : 1152921504606846976 < n
          · rw [if_pos (.inr h4)]
            go_enter Tryd.func96, Tryd.ntmps96
            go_wp2
            go_ret
            exact ⟨rfl, HN.out⟩
          · rw [if_neg (by omega)]
            go_enter Tryd.func96, Tryd.ntmps96
            go_wp2
            go_ret
            exact ⟨rfl, HN.out⟩
theorem gt_none (k : ByteArray) (h : 1 ≤ k.size) : gtI k .empty = true := by
  unfold gtI
  have e1 : Op.bytesLess k.toList (ByteArray.empty).toList = false := by
    have : (ByteArray.empty).toList = [] := by decide +kernel
    rw [this]
    cases k.toList <;> rfl
  have e2 : (k.toList == (ByteArray.empty).toList) = false := by
    rw [Tb.te_iff]
    simp only [decide_eq_false_iff_not]
    intro e
    rw [e] at h
    exact absurd h (by decide)
  rw [e1, e2]
  rfl
theorem fw_first (k v : ByteArray) (n seq : Int) : fwI ⟨k, v, n⟩ .empty seq = ((Tb.rowE (k, v, n) == 0) && decide (n ≤ seq)) := by
  unfold fwI Rwi.err
  simp only
  by_cases h : Tb.rowE (k, v, n) = 0
  · have hk : 1 ≤ k.size := by
      unfold Tb.rowE at h
      simp only at h
      split at h
      · omega
      · omega
    rw [gt_none k hk, Bool.and_true]
  · rw [show (Tb.rowE (k, v, n) == 0) = false from by simp [h]]
    rfl
set_option maxRecDepth 20000 in
set_option maxHeartbeats 1000000 in
theorem jfollows_c (k v : ByteArray) (n : Int) (first : Bool) (ahead : ByteArray) (seq : Int) (w : World) (hf : first = true → ahead = .empty) :
    Calls Tryd.prog 61 #[.agg #[.string k, .string v, .int .i64 n], .bool first, .string ahead, .int .i64 seq] w fun r w' => r = .returned (.bool (fwI ⟨k, v, n⟩ ahead seq)) ∧ w.grownBy w' none := by
  have H0 : Hid (Bk 48 (w.alloc (.cells #[.string k, .string v, .int .i64 n] 48)) w.heap.size #[.string k, .string v, .int .i64 n] ∧ w.grownBy (w.alloc (.cells #[.string k, .string v, .int .i64 n] 48)) none) := blk_new w _ _
  obtain ⟨E, hE⟩ : ∃ E, E = Tb.rowE (k, v, n) := ⟨_, rfl⟩
  have HC : Hid (∀ W, Calls Tryd.prog 96 #[.agg #[.string k, .string v, .int .i64 n]] W fun r w' => r = .returned (.int .i64 E) ∧ W.grownBy w' none) := fun W => by
    rw [hE]
    exact ycheck_c k v n W
  have hgt := run_gtI k ahead
  have hfw : fwI ⟨k, v, n⟩ ahead seq = ((E == 0) && (first || gtI k ahead) && decide (n ≤ seq)) := by
    cases first with
    | true => rw [hf rfl, fw_first, hE]; simp
    | false => rw [hE]; simp [fwI, Rwi.err]
  rw [hfw]
  generalize gtI k ahead = G at hgt ⊢
  clear hE hfw hf
  by_cases hE0 : E = 0
  · subst hE0
    obtain ⟨b, hb⟩ : ∃ b, b = decide (n ≤ seq) := ⟨_, rfl⟩
    have hdc : decide (n ≤ seq) = b := hb.symm
    rw [hdc]
    clear hb
    cases first with
    | false =>
      cases G with
      | false =>
        simp only [Bool.and_false, Bool.false_and, Bool.false_or]
        go_enter Tryd.func61, Tryd.ntmps61
        go_wp2_with (first
          | (refine wpList_load_bk 48 rfl (.tmp 4) rfl Tryd.underlying48 rfl infoRwI w.heap.size _ rfl H0.out.1 rfl ?_)
          | (go_at_call 96; go_must (refine (Calls.mono (HC.out _) ?_)); rintro r w1 ⟨rfl, h⟩; have H1 : Hid (w.grownBy w1 none) := gb_trans H0.out.2 h; have c0 : w1.cell? ⟨w.heap.size, 0, none⟩ = some (.string k) := (H0.out.1.grew h (by simp)).cell 0; have c2 : w1.cell? ⟨w.heap.size, 2, none⟩ = some (.int .i64 n) := (H0.out.1.grew h (by simp)).cell 2; clear h))
        go_ret
        exact ⟨rfl, H1.out⟩
      | true =>
        simp only [Bool.and_true, beq_self_eq_true, Bool.true_and, Bool.false_or]
        go_enter Tryd.func61, Tryd.ntmps61
        go_wp2_with (first
          | (refine wpList_load_bk 48 rfl (.tmp 4) rfl Tryd.underlying48 rfl infoRwI w.heap.size _ rfl H0.out.1 rfl ?_)
          | (go_at_call 96; go_must (refine (Calls.mono (HC.out _) ?_)); rintro r w1 ⟨rfl, h⟩; have H1 : Hid (w.grownBy w1 none) := gb_trans H0.out.2 h; have c0 : w1.cell? ⟨w.heap.size, 0, none⟩ = some (.string k) := (H0.out.1.grew h (by simp)).cell 0; have c2 : w1.cell? ⟨w.heap.size, 2, none⟩ = some (.int .i64 n) := (H0.out.1.grew h (by simp)).cell 2; clear h))
        go_ret
        exact ⟨rfl, H1.out⟩
    | true =>
      simp only [Bool.and_true, beq_self_eq_true, Bool.true_and, Bool.true_or]
      go_enter Tryd.func61, Tryd.ntmps61
      go_wp2_with (first
        | (refine wpList_load_bk 48 rfl (.tmp 4) rfl Tryd.underlying48 rfl infoRwI w.heap.size _ rfl H0.out.1 rfl ?_)
        | (go_at_call 96; go_must (refine (Calls.mono (HC.out _) ?_)); rintro r w1 ⟨rfl, h⟩; have H1 : Hid (w.grownBy w1 none) := gb_trans H0.out.2 h; have c0 : w1.cell? ⟨w.heap.size, 0, none⟩ = some (.string k) := (H0.out.1.grew h (by simp)).cell 0; have c2 : w1.cell? ⟨w.heap.size, 2, none⟩ = some (.int .i64 n) := (H0.out.1.grew h (by simp)).cell 2; clear h))
      go_ret
      exact ⟨rfl, H1.out⟩
  · have hEb : (E == 0) = false := by simp [hE0]
    rw [hEb]
    simp only [Bool.false_and]
    clear hE0
    go_enter Tryd.func61, Tryd.ntmps61
    go_wp2_with (first
      | (refine wpList_load_bk 48 rfl (.tmp 4) rfl Tryd.underlying48 rfl infoRwI w.heap.size _ rfl H0.out.1 rfl ?_)
      | (go_at_call 96; go_must (refine (Calls.mono (HC.out _) ?_)); rintro r w1 ⟨rfl, h⟩; have H1 : Hid (w.grownBy w1 none) := gb_trans H0.out.2 h; clear h))
    go_ret
    exact ⟨rfl, H1.out⟩
end Go.Proofs.YtcdgfghcmeadgaaDoor
