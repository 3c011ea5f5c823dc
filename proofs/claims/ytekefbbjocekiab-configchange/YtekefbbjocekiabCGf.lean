/-
  What config's First answers. Conditions: the chain can be read, and has at most 2^43 nodes.
-/
import Derived.Test.YtekefbbjocekiabCGk
namespace Go.Proofs.Ytekefbbjocekiab
open Go.RowKit
set_option linter.unusedVariables false

theorem cf_other {T : TypeId} {w : World} {N : Nat} {e0 : Int} {v0 : Value} (h : CfB T w N e0 v0) (b i : Nat) (hb : N ≠ b) (v : Value) : CfB T (w.setCell ⟨b, i, none⟩ v) N e0 v0 := (heap_setCell_other _ ⟨b, i, none⟩ N _ hb).trans h
theorem CfB.fz {T w N e v} (h : CfB T w N e v) (i : Nat) : w.frozen? ⟨N, i, none⟩ = false := frozen_of_row _ _ _ _ _ h
theorem OwI.other {B : Nat} {w : World} {v : Value} {n : Nat} {xs : List Int} (h : OwI B w v n xs) (b i : Nat) (hb : b < B) (u : Value) : OwI B (w.setCell ⟨b, i, none⟩ u) v n xs := by
  refine ⟨h.1, ?_⟩
  rcases h.2 with q | ⟨g', cap', cur, e1, hB, hgb, r⟩
  · exact .inl q
  · refine .inr ⟨g', cap', cur, e1, hB, ?_, r⟩
    rw [heap_setCell_other _ ⟨b, i, none⟩ g' _ (show g' ≠ b by omega)]
    exact hgb
set_option maxRecDepth 20000 in
set_option maxHeartbeats 4000000 in
theorem first_no (a : Option Addr) (n c : Nat) (xs : List Int) (w : World) (h : Seg .i64 w a n xs) (hk : chk 1 xs ≠ 0) :
    Calls Try.prog 15 #[.slice a n c] w fun r w' => r = .returned (.tuple #[.agg #[.int .i64 0, .slice none 0 0], .int .i64 (chk 1 xs)]) ∧ Below w.heap.size w w' := by
  have h0 := cf2_new 25 25 w 0 1 (.slice none 0 0) (.slice a n c)
  have H0 : Hid (Cf2 25 25 w ((w.alloc (.cells #[.int .i64 0, .slice none 0 0] 25)).alloc (.cells #[.int .i64 1, .slice a n c] 25)) w.heap.size 0 1 (.slice none 0 0) (.slice a n c)) := h0
  have HC : Hid _ := check_c 1 a n c xs _ (h.below h0.b)
  have hck : (chk 1 xs != 0) = true := by simpa using hk
  clear h h0 hk
  go_enter Try.func15, Try.ntmps15
  go_wp2_with (go_at_call 27; go_must (refine (Calls.mono HC.out ?_)); rintro r w1 ⟨rfl, hb1⟩; have H1 : Hid (Cf2 25 25 w w1 w.heap.size 0 1 (.slice none 0 0) (.slice a n c)) := H0.out.below hb1; have k0 := H1.out.l.c0; have k1 := H1.out.l.c1; have f0 := H1.out.l.fz 0; have f1 := H1.out.l.fz 1; clear hb1)
  have HR : Hid (CfB 25 ((w1.setCell ⟨w.heap.size, 0, none⟩ (.int .i64 0)).setCell ⟨w.heap.size, 1, none⟩ (.slice none 0 0)) w.heap.size 0 (.slice none 0 0)) := cf_set H1.out.l 0 _
  refine bodyPost_ret (results_cellO Try.results15 _ _ _ ⟨w.heap.size, 0, none⟩ _ _ rfl rfl (bk_load Try.underlying25 rfl infoCf HR.out rfl)) rfl ?_
  exact ⟨rfl, (H1.out.b.setCell (p := ⟨w.heap.size, 0, none⟩) (Nat.le_refl _) _).setCell (p := ⟨w.heap.size, 1, none⟩) (Nat.le_refl _) _⟩
set_option maxRecDepth 20000 in
set_option maxHeartbeats 4000000 in
theorem first_ok (a : Option Addr) (n c : Nat) (xs : List Int) (w : World) (h : Seg .i64 w a n xs) (hnz : a = none → c = 0) (hk : chk 1 xs = 0) :
    Calls Try.prog 15 #[.slice a n c] w fun r w' => ∃ a' c', r = .returned (.tuple #[.agg #[.int .i64 1, .slice a' n c'], .int .i64 0]) ∧ OwI w.heap.size w' (.slice a' n c') n xs ∧ Below w.heap.size w w' := by
  have h0 := cf2_new 25 25 w 0 1 (.slice none 0 0) (.slice a n c)
  have H0 : Hid (Cf2 25 25 w ((w.alloc (.cells #[.int .i64 0, .slice none 0 0] 25)).alloc (.cells #[.int .i64 1, .slice a n c] 25)) w.heap.size 0 1 (.slice none 0 0) (.slice a n c)) := h0
  have HC : Hid _ := check_c 1 a n c xs _ (h.below h0.b)
  have hn8 : n ≤ 8 := by have := (chk_ok.1 hk).2.1.2; have := h.1; omega
  have HCL : Hid (∀ W, Below w.heap.size w W → Calls Try.prog 39 #[.slice a n c] W fun r w' => ∃ a' c', r = .returned (.slice a' n c') ∧ OwI W.heap.size w' (.slice a' n c') n xs ∧ Below W.heap.size W w') := fun W hb => cloneI_c a n c xs W (h.below hb) (by omega) hnz
  have hck : (chk 1 xs != 0) = false := by rw [hk]; rfl
  rw [hk] at HC
  clear h h0 hk hck hnz
  go_enter Try.func15, Try.ntmps15
  go_wp2_with (first
    | (go_at_call 27; go_must (refine (Calls.mono HC.out ?_)); rintro r w1 ⟨rfl, hb1⟩; have H1 : Hid (Cf2 25 25 w w1 w.heap.size 0 1 (.slice none 0 0) (.slice a n c)) := H0.out.below hb1; clear hb1)
    | (go_at_call 39; go_must (refine (Calls.mono (HCL.out _ H1.out.b) ?_)); rintro r w2 ⟨a', c', rfl, ho, hb2⟩; have H2 : Hid (Cf2 25 25 w w2 w.heap.size 0 1 (.slice none 0 0) (.slice a n c) ∧ OwI w1.heap.size w2 (.slice a' n c') n xs) := ⟨H1.out.below hb2, ho⟩; have k0 := H2.out.1.l.c0; have k1 := H2.out.1.l.c1; have f0 := H2.out.1.l.fz 0; have f1 := H2.out.1.l.fz 1; have k2 := H2.out.1.r.c0; have k3 := H2.out.1.r.c1; have f3 := H2.out.1.r.fz 1; clear ho hb2))
  have HR : Hid (CfB 25 (((w2.setCell ⟨w.heap.size + 1, 1, none⟩ (.slice a' n c')).setCell ⟨w.heap.size, 0, none⟩ (.int .i64 1)).setCell ⟨w.heap.size, 1, none⟩ (.slice a' n c')) w.heap.size 1 (.slice a' n c')) := cf_set (cf_other H2.out.1.l _ _ (by omega) _) 1 _
  refine bodyPost_ret (results_cellO Try.results15 _ _ _ ⟨w.heap.size, 0, none⟩ _ _ rfl rfl (bk_load Try.underlying25 rfl infoCf HR.out rfl)) rfl ?_
  have hs1 := H1.out.r.lt
  refine ⟨a', c', rfl, ?_, ?_⟩
  · exact (((H2.out.2.other (w.heap.size + 1) 1 hs1 _).other w.heap.size 0 (by omega) _).other w.heap.size 1 (by omega) _).base (by omega)
  · exact ((H2.out.1.b.setCell (p := ⟨w.heap.size + 1, 1, none⟩) (Nat.le_succ _) _).setCell (p := ⟨w.heap.size, 0, none⟩) (Nat.le_refl _) _).setCell (p := ⟨w.heap.size, 1, none⟩) (Nat.le_refl _) _
end Go.Proofs.Ytekefbbjocekiab
