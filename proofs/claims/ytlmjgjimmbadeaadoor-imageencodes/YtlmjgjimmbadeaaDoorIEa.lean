/-
  What image's follows, laid and sumOf answer. Condition: lengths that a machine has.
-/
import Derived.Test.YtlmjgjimmbadeaaDoorIBs
namespace Go.Proofs.YtlmjgjimmbadeaaDoor
open Go.RowKit
set_option linter.unusedVariables false

theorem infoRwI : (Tryd.prog.info? 48).map (·.size) = some 3 := by kernel_rfl
set_option maxRecDepth 20000 in
set_option maxHeartbeats 1000000 in
theorem follows_c (k v : ByteArray) (n : Int) (ahead : ByteArray) (seq : Int) (w : World) :
    Calls Tryd.prog 44 #[.agg #[.string k, .string v, .int .i64 n], .string ahead, .int .i64 seq] w fun r w' => r = .returned (.bool (fwI ⟨k, v, n⟩ ahead seq)) ∧ w.grownBy w' none := by
  have H0 : Hid (Bk 48 (w.alloc (.cells #[.string k, .string v, .int .i64 n] 48)) w.heap.size #[.string k, .string v, .int .i64 n] ∧ w.grownBy (w.alloc (.cells #[.string k, .string v, .int .i64 n] 48)) none) := blk_new w _ _
  obtain ⟨E, hE⟩ : ∃ E, E = Tb.rowE (k, v, n) := ⟨_, rfl⟩
  have HC : Hid (∀ W, Calls Tryd.prog 78 #[.agg #[.string k, .string v, .int .i64 n]] W fun r w' => r = .returned (.int .i64 E) ∧ W.grownBy w' none) := fun W => by
    rw [hE]
    exact Tb.tcheck_c (k, v, n) W
  have hgt := run_gtI k ahead
  have hfw : fwI ⟨k, v, n⟩ ahead seq = ((E == 0) && gtI k ahead && decide (n ≤ seq)) := by rw [hE]; rfl
  rw [hfw]
  generalize gtI k ahead = G at hgt ⊢
  clear hE hfw
  by_cases hE0 : E = 0
  · subst hE0
    cases G with
    | false =>
      simp only [Bool.and_false, Bool.false_and]
      go_enter Tryd.func44, Tryd.ntmps44
      go_wp2_with (first
        | (refine wpList_load_bk 48 rfl (.tmp 3) rfl Tryd.underlying48 rfl infoRwI w.heap.size _ rfl H0.out.1 rfl ?_)
        | (go_at_call 78; go_must (refine (Calls.mono (HC.out _) ?_)); rintro r w1 ⟨rfl, h⟩; have H1 : Hid (w.grownBy w1 none) := gb_trans H0.out.2 h; have c0 : w1.cell? ⟨w.heap.size, 0, none⟩ = some (.string k) := (H0.out.1.grew h (by simp)).cell 0; have c2 : w1.cell? ⟨w.heap.size, 2, none⟩ = some (.int .i64 n) := (H0.out.1.grew h (by simp)).cell 2; clear h))
      go_ret
      exact ⟨rfl, H1.out⟩
    | true =>
      obtain ⟨b, hb⟩ : ∃ b, b = decide (n ≤ seq) := ⟨_, rfl⟩
      have hdc : decide (n ≤ seq) = b := hb.symm
      rw [hdc]
      simp only [Bool.and_true, beq_self_eq_true, Bool.true_and]
      clear hb
      go_enter Tryd.func44, Tryd.ntmps44
      go_wp2_with (first
        | (refine wpList_load_bk 48 rfl (.tmp 3) rfl Tryd.underlying48 rfl infoRwI w.heap.size _ rfl H0.out.1 rfl ?_)
        | (go_at_call 78; go_must (refine (Calls.mono (HC.out _) ?_)); rintro r w1 ⟨rfl, h⟩; have H1 : Hid (w.grownBy w1 none) := gb_trans H0.out.2 h; have c0 : w1.cell? ⟨w.heap.size, 0, none⟩ = some (.string k) := (H0.out.1.grew h (by simp)).cell 0; have c2 : w1.cell? ⟨w.heap.size, 2, none⟩ = some (.int .i64 n) := (H0.out.1.grew h (by simp)).cell 2; clear h))
      go_ret
      exact ⟨rfl, H1.out⟩
  · have hEb : (E == 0) = false := by simp [hE0]
    rw [hEb]
    simp only [Bool.false_and]
    clear hE0
    go_enter Tryd.func44, Tryd.ntmps44
    go_wp2_with (first
      | (refine wpList_load_bk 48 rfl (.tmp 3) rfl Tryd.underlying48 rfl infoRwI w.heap.size _ rfl H0.out.1 rfl ?_)
      | (go_at_call 78; go_must (refine (Calls.mono (HC.out _) ?_)); rintro r w1 ⟨rfl, h⟩; have H1 : Hid (w.grownBy w1 none) := gb_trans H0.out.2 h; clear h))
    go_ret
    exact ⟨rfl, H1.out⟩
/-- Bytes laid behind others. -/
theorem ilaid_c (v : Value) (n : Nat) (xs ys : List Int) (C g : Nat) (fs : List Nat) (w : World) (ho : Own C w v n xs) (hw : WS w g ys 0 fs) (hC : C ≤ w.heap.size) (hb : n + ys.length ≤ 70368744177664) :
    Calls Tryd.prog 39 #[v, .pointer (some ⟨g, 0, none⟩)] w fun r w' => ∃ v', r = .returned v' ∧ Own C w' v' (n + ys.length) (xs ++ ys) ∧ w.grownBy w' v.ownBlock := by
  have HO : Hid (Own C w v n xs ∧ C ≤ w.heap.size) := ⟨ho, hC⟩
  obtain ⟨m, hm⟩ : ∃ m, m = ys.length := ⟨_, rfl⟩
  have HB : Hid (Calls Tryd.prog 74 #[.pointer (some ⟨g, 0, none⟩)] w fun r w' => ∃ b, r = .returned (.tuple #[.slice (some ⟨b, 0, none⟩) m m, .int .i64 0]) ∧ Seg .u8 w' (some ⟨b, 0, none⟩) m ys ∧ w.grownBy w' none) := by
    rw [hm]
    refine (wbytes_ok g ys fs w hw (by omega)).mono ?_
    rintro r w' ⟨b, rfl, h1, h2, h3⟩
    exact ⟨b, rfl, h2.segAll _ rfl, bgb h3⟩
  obtain ⟨va, vc, rfl, _⟩ := ho.seg
  rw [← hm] at hb ⊢
  clear ho hw hC hm
  go_enter Tryd.func39, Tryd.ntmps39
  go_wp2_with (first
    | (go_at_call 74; go_must (refine (Calls.mono HB.out ?_)); rintro r w1 ⟨b, rfl, h1, h2⟩; have H1 : Hid (Own C w1 (.slice va n vc) n xs ∧ Seg .u8 w1 (some ⟨b, 0, none⟩) m ys ∧ w.grownBy w1 none ∧ C ≤ w1.heap.size) := ⟨HO.out.1.below (gbb h2), h1, h2, Nat.le_trans HO.out.2 h2.size⟩; clear h1 h2)
    | (at_builtin; go_must (refine wpList_append_apart _ rfl (.tmp 12) (.tmp 13) rfl C n (.slice va n vc) xs rfl H1.out.1 (some ⟨b, 0, none⟩) m m ys rfl (fun e => by cases e) H1.out.2.1 (by omega) H1.out.2.2.2 ?_); intro v2 w2 ho hg _; have H2 : Hid (Own C w2 v2 (n + m) (xs ++ ys) ∧ w.grownBy w2 (Value.slice va n vc).ownBlock) := ⟨ho, gb_trans (gb_wide H1.out.2.2.1 _) hg⟩; clear ho hg))
  go_ret
  exact ⟨v2, rfl, H2.out.1, H2.out.2⟩
theorem sumOf_c (t : Cr.Wd) (w : World) :
    Calls Tryd.prog 41 #[.int .u32 (Cr.W t)] w fun e w' => e = .returned (Cr.arr4 t) ∧ w.grownBy w' none := by
  obtain ⟨V, hV⟩ : ∃ V : Int, V = Cr.W t := ⟨_, rfl⟩
  have h0 := Cr.W_nn t
  have h1 := Cr.W_lt t
  rw [← hV] at h0 h1 ⊢
  have HV : Hid (V = Cr.W t) := hV
  clear hV
  go_enter Tryd.func41, Tryd.ntmps41
  go_wp2
  refine bodyPost_ret (v := .agg #[.int .u8 (V % 256), .int .u8 (V / 256 % 256), .int .u8 (V / 65536 % 256), .int .u8 (V / 16777216)]) (by simp [results, Tryd.results41, go_sem]) rfl ⟨?_, gal _ _⟩
  rw [Cr.arr4_is t V HV.out]
end Go.Proofs.YtlmjgjimmbadeaaDoor
