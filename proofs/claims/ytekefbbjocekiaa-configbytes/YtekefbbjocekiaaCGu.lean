/-
  What the law's own same, kept and twin answer, and config's First. Conditions: the lists can be read, and have at most 2^43 numbers.
-/
import Derived.Test.YtekefbbjocekiaaCGt
namespace Go.Proofs.Ytekefbbjocekiaa
open Go.RowKit
set_option linter.unusedVariables false

theorem Cf2.cells {T U : TypeId} {w W : World} {N : Nat} {e f : Int} {u v : Value} (h : Cf2 T U w W N e f u v) : W.cell? ⟨N, 0, none⟩ = some (.int .i64 e) ∧ W.cell? ⟨N, 1, none⟩ = some u ∧ W.cell? ⟨N + 1, 0, none⟩ = some (.int .i64 f) ∧ W.cell? ⟨N + 1, 1, none⟩ = some v := ⟨h.l.c0, h.l.c1, h.r.c0, h.r.c1⟩
set_option maxRecDepth 20000 in
set_option maxHeartbeats 4000000 in
theorem same_c (e f : Int) (a b : Option Addr) (n c m d : Nat) (xs ys : List Int) (w : World) (h1 : Seg .i64 w a n xs) (h2 : Seg .i64 w b m ys) (hl : n ≤ 1152921504606846976) (hl2 : m ≤ 1152921504606846976) : Calls Try.prog 16 #[.agg #[.int .i64 e, .slice a n c], .agg #[.int .i64 f, .slice b m d]] w fun r w' => r = .returned (.bool (sam e f xs ys)) ∧ Below w.heap.size w w' := by
  have h0 := cf2_new 27 33 w e f (.slice a n c) (.slice b m d)
  have H0 : Hid (Cf2 27 33 w ((w.alloc (.cells #[.int .i64 e, .slice a n c] 27)).alloc (.cells #[.int .i64 f, .slice b m d] 33)) w.heap.size e f (.slice a n c) (.slice b m d)) := h0
  have HP : Hid (∀ W, Calls Try.prog 15 #[.agg #[.int .i64 e, .slice a n c]] W fun r w' => r = .returned (.agg #[.int .i64 e, .slice a n c]) ∧ Below W.heap.size W w') := plain_c e a n c
  have HQ : Hid (∀ W, Below w.heap.size w W → Calls Try.prog 32 #[.agg #[.int .i64 e, .slice a n c], .agg #[.int .i64 f, .slice b m d]] W fun r w' => r = .returned (.bool (sam e f xs ys)) ∧ Below W.heap.size W w') := fun W hb => qalike_c e f a b n c m d xs ys W (h1.below hb) (h2.below hb) hl hl2
  clear h1 h2 h0 hl hl2
  go_enter Try.func16, Try.ntmps16
  go_wp2_with fail
  generalize hW : World.alloc (World.alloc w _) _ = W1 at H0 ⊢
  clear hW
  obtain ⟨N, hN⟩ : ∃ N, N = w.heap.size := ⟨_, rfl⟩
  rw [← hN] at H0 ⊢
  clear hN
  have HST : Hid (∀ W W5, Below W.heap.size W W5 → ((W.cell? ⟨N, 0, none⟩ = some (.int .i64 e) ∧ W.cell? ⟨N, 1, none⟩ = some (.slice a n c) ∧ W.cell? ⟨N + 1, 0, none⟩ = some (.int .i64 f) ∧ W.cell? ⟨N + 1, 1, none⟩ = some (.slice b m d)) ∧ Hid (Cf2 27 33 w W N e f (.slice a n c) (.slice b m d))) → ((W5.cell? ⟨N, 0, none⟩ = some (.int .i64 e) ∧ W5.cell? ⟨N, 1, none⟩ = some (.slice a n c) ∧ W5.cell? ⟨N + 1, 0, none⟩ = some (.int .i64 f) ∧ W5.cell? ⟨N + 1, 1, none⟩ = some (.slice b m d)) ∧ Hid (Cf2 27 33 w W5 N e f (.slice a n c) (.slice b m d)))) := fun W W5 hb h => ⟨(h.2.out.below hb).cells, h.2.out.below hb⟩
  have hS0 : (W1.cell? ⟨N, 0, none⟩ = some (.int .i64 e) ∧ W1.cell? ⟨N, 1, none⟩ = some (.slice a n c) ∧ W1.cell? ⟨N + 1, 0, none⟩ = some (.int .i64 f) ∧ W1.cell? ⟨N + 1, 1, none⟩ = some (.slice b m d)) ∧ Hid (Cf2 27 33 w W1 N e f (.slice a n c) (.slice b m d)) := ⟨H0.out.cells, H0⟩
  have hSd : (W1.drew.cell? ⟨N, 0, none⟩ = some (.int .i64 e) ∧ W1.drew.cell? ⟨N, 1, none⟩ = some (.slice a n c) ∧ W1.drew.cell? ⟨N + 1, 0, none⟩ = some (.int .i64 f) ∧ W1.drew.cell? ⟨N + 1, 1, none⟩ = some (.slice b m d)) ∧ Hid (Cf2 27 33 w W1.drew N e f (.slice a n c) (.slice b m d)) := ⟨H0.out.cells, H0.out.drewN 1⟩
  go_region_held3 (fun W => (W.cell? ⟨N, 0, none⟩ = some (.int .i64 e) ∧ W.cell? ⟨N, 1, none⟩ = some (.slice a n c) ∧ W.cell? ⟨N + 1, 0, none⟩ = some (.int .i64 f) ∧ W.cell? ⟨N + 1, 1, none⟩ = some (.slice b m d)) ∧ Hid (Cf2 27 33 w W N e f (.slice a n c) (.slice b m d))) (assumption) (first
    | (go_at_call 15; refine (Calls.mono (HP.out _) ?_); rintro r w5 ⟨rfl, hb5⟩; have hS5 := HST.out _ w5 hb5 (by assumption))
    | (go_at_call 32; refine (Calls.mono (HQ.out _ hS5.2.out.b) ?_); rintro r w6 ⟨rfl, hb6⟩; have hS6 := HST.out _ w6 hb6 (by assumption)))
  go_wp2
  go_ret
  exact ⟨rfl, hS6.2.out.b⟩
theorem results_cell1O {fn : Func} {p : Tmp} {ty : TypeId} (h : fn.results = #[.cell p ty]) (tmps : Array Value) (P : Program) (w : World) (ad : Addr) (v : Value)
    (hp : tmps.getD p undef = .pointer (some ad)) (hl : (loadVar ty ad).run P w = .ok v w) : (results fn tmps).run P w = .ok v w := by
  have hp' : tmps[p]?.getD undef = .pointer (some ad) := by simpa using hp
  simp only [results, h]
  simp [hp', asAddr, hl]
theorem infoCf : (Try.prog.info? 27).map (·.size) = some 2 := by kernel_rfl
theorem infoQf : (Try.prog.info? 33).map (·.size) = some 2 := by kernel_rfl
theorem cf_set {T : TypeId} {w : World} {N : Nat} {e0 : Int} {v0 : Value} (h : CfB T w N e0 v0) (e : Int) (v : Value) : CfB T ((w.setCell ⟨N, 0, none⟩ (.int .i64 e)).setCell ⟨N, 1, none⟩ v) N e v := by
  have h1 := heap_setCell_same w N 0 _ T (.int .i64 e) h
  exact heap_setCell_same _ N 1 _ T v h1
theorem marks_seg (w : World) : Seg .i64 (w.alloc (.cells #[.int .i64 (-71), .int .i64 (-72), .int .i64 (-73)] 3)) (some ⟨w.heap.size, 0, none⟩) 3 [-71, -72, -73] := seg_new w .i64 _ _ 3 [-71, -72, -73] rfl rfl
set_option maxRecDepth 20000 in
set_option maxHeartbeats 4000000 in
theorem twin_c (e : Int) (a : Option Addr) (n c : Nat) (xs : List Int) (w : World) (h : Seg .i64 w a n xs) (hnz : a = none → c = 0) (hl : n ≤ 17592186044000) : Calls Try.prog 11 #[.agg #[.int .i64 e, .slice a n c]] w fun r w' => ∃ g cap, r = .returned (.agg #[.int .i64 e, .slice (some ⟨g, 0, none⟩) n cap]) ∧ OwI w.heap.size w' (.slice (some ⟨g, 0, none⟩) (n + 3) cap) (n + 3) (xs ++ [-71, -72, -73]) ∧ n + 3 ≤ cap ∧ Below w.heap.size w w' := by
  have h0 := cf2_new 27 27 w e 0 (.slice a n c) (.slice none 0 0)
  have H0 : Hid (Cf2 27 27 w ((w.alloc (.cells #[.int .i64 e, .slice a n c] 27)).alloc (.cells #[.int .i64 0, .slice none 0 0] 27)) w.heap.size e 0 (.slice a n c) (.slice none 0 0) ∧ w.heap.size + 2 ≤ ((w.alloc (.cells #[.int .i64 e, .slice a n c] 27)).alloc (.cells #[.int .i64 0, .slice none 0 0] 27)).heap.size) := ⟨h0, by simp⟩
  have HS : Hid (Seg .i64 w a n xs) := h
  have HNZ : Hid (a = none → c = 0) := hnz
  clear h hnz h0
  go_enter Try.func11, Try.ntmps11
  go_wp2_with (first
    | (at_builtin; refine wpList_append_growI _ rfl (.const (.slice none 0 0)) (.tmp 5) rfl ((w.alloc (.cells #[.int .i64 e, .slice a n c] 27)).alloc (.cells #[.int .i64 0, .slice none 0 0] 27)).heap.size 0 _ [] rfl (owI_nil _ _) a n c xs rfl HNZ.out (HS.out.below H0.out.1.b) (by omega) (Nat.le_refl _) ?_; intro v2 w2 hm hb; rw [Nat.zero_add, List.nil_append] at hm; have H2 : Hid (OwI ((w.alloc (.cells #[.int .i64 e, .slice a n c] 27)).alloc (.cells #[.int .i64 0, .slice none 0 0] 27)).heap.size w2 v2 n xs ∧ Cf2 27 27 w w2 w.heap.size e 0 (.slice a n c) (.slice none 0 0) ∧ ((w.alloc (.cells #[.int .i64 e, .slice a n c] 27)).alloc (.cells #[.int .i64 0, .slice none 0 0] 27)).heap.size ≤ w2.heap.size) := ⟨hm, H0.out.1.below hb, hb.size⟩; clear hm hb)
    | (at_builtin; go_must (refine wpList_append_growI _ rfl (.tmp 6) (.tmp 7) rfl ((w.alloc (.cells #[.int .i64 e, .slice a n c] 27)).alloc (.cells #[.int .i64 0, .slice none 0 0] 27)).heap.size n _ xs rfl (H2.out.1.below ((Below.refl _ _).alloc (Nat.le_refl _) _)) (some ⟨w2.heap.size, 0, none⟩) 3 3 [-71, -72, -73] rfl (fun h => by cases h) (marks_seg w2) (by omega) (by have := H2.out.2.2; rw [World.size_alloc w2]; omega) ?_); intro v3 w3 hm hb; go_must (have H3 : Hid (OwI ((w.alloc (.cells #[.int .i64 e, .slice a n c] 27)).alloc (.cells #[.int .i64 0, .slice none 0 0] 27)).heap.size w3 v3 (n + 3) (xs ++ [-71, -72, -73]) ∧ Below ((w.alloc (.cells #[.int .i64 e, .slice a n c] 27)).alloc (.cells #[.int .i64 0, .slice none 0 0] 27)).heap.size w2 w3) := ⟨hm, ((Below.refl w2.heap.size w2).alloc (Nat.le_refl _) _ |>.mono H2.out.2.2).trans hb⟩); clear hm hb))
  obtain ⟨g, cap, rfl, hgB, hcap⟩ := H3.out.1.form (by omega)
  have HC : Hid (CfB 27 w3 w.heap.size e (.slice a n c) ∧ CfB 27 w3 (w.heap.size + 1) 0 (.slice none 0 0) ∧ Below w.heap.size w w3) := by
    have h2 := H0.out.2
    exact ⟨(H3.out.2.block w.heap.size (by omega)).trans H2.out.2.1.l, (H3.out.2.block (w.heap.size + 1) (by omega)).trans H2.out.2.1.r, H2.out.2.1.b.trans (H3.out.2.mono (by omega))⟩
  have k0 : w3.cell? ⟨w.heap.size + 1, 0, none⟩ = some (.int .i64 0) := HC.out.2.1.c0
  have k1 : w3.cell? ⟨w.heap.size + 1, 1, none⟩ = some (.slice none 0 0) := HC.out.2.1.c1
  have kf0 : w3.frozen? ⟨w.heap.size + 1, 0, none⟩ = false := frozen_of_row _ _ _ _ _ HC.out.2.1
  have kf1 : w3.frozen? ⟨w.heap.size + 1, 1, none⟩ = false := frozen_of_row _ _ _ _ _ HC.out.2.1
  have c0 := HC.out.1.c0
  have c1 := HC.out.1.c1
  have hnk : (n : Int) ≤ (cap : Int) := by omega
  have hnk2 : ¬ (cap : Int) < (n : Int) := by omega
  have HCAP : Hid (n + 3 ≤ cap) := hcap
  go_region
  go_wp2
  have HR : Hid (CfB 27 ((w3.setCell ⟨w.heap.size + 1, 0, none⟩ (.int .i64 e)).setCell ⟨w.heap.size + 1, 1, none⟩ (.slice (some ⟨g, 0, none⟩) n cap)).drew (w.heap.size + 1) e (.slice (some ⟨g, 0, none⟩) n cap)) := cf_set HC.out.2.1 e _
  refine bodyPost_ret (results_cell1O Try.results11 _ _ _ ⟨w.heap.size + 1, 0, none⟩ _ rfl (bk_load Try.underlying27 rfl infoCf HR.out rfl)) rfl ?_
  have h2 := H0.out.2
  refine ⟨g, cap, rfl, ?_, HCAP.out, ?_⟩
  · refine OwI.base ?_ (show w.heap.size ≤ _ from Nat.le_trans (by omega) h2)
    have hown := H3.out.1
    refine ⟨hown.1, ?_⟩
    rcases hown.2 with ⟨q, _⟩ | ⟨g', cap', cur, e1, hB, hgb, r⟩
    · cases q
    · refine .inr ⟨g', cap', cur, e1, hB, ?_, r⟩
      have hne : g' ≠ w.heap.size + 1 := by omega
      show ((w3.setCell _ _).setCell _ _).heap[g']? = _
      rw [heap_setCell_other _ ⟨w.heap.size + 1, 1, none⟩ g' _ hne, heap_setCell_other _ ⟨w.heap.size + 1, 0, none⟩ g' _ hne]
      exact hgb
  · exact ((HC.out.2.2.setCell (p := ⟨w.heap.size + 1, 0, none⟩) (Nat.le_succ _) _).setCell (p := ⟨w.heap.size + 1, 1, none⟩) (Nat.le_succ _) _).drew
end Go.Proofs.Ytekefbbjocekiaa
