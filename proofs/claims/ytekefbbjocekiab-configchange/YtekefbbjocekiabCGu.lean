/-
  What the law's own same, kept and twin answer, and config's First. Conditions: the lists can be read, and have at most 2^43 numbers.
-/
import Derived.Test.YtekefbbjocekiabCGt
namespace Go.Proofs.Ytekefbbjocekiab
open Go.RowKit
set_option linter.unusedVariables false

theorem Cf2.cells {T U : TypeId} {w W : World} {N : Nat} {e f : Int} {u v : Value} (h : Cf2 T U w W N e f u v) : W.cell? ⟨N, 0, none⟩ = some (.int .i64 e) ∧ W.cell? ⟨N, 1, none⟩ = some u ∧ W.cell? ⟨N + 1, 0, none⟩ = some (.int .i64 f) ∧ W.cell? ⟨N + 1, 1, none⟩ = some v := ⟨h.l.c0, h.l.c1, h.r.c0, h.r.c1⟩
set_option maxRecDepth 20000 in
set_option maxHeartbeats 4000000 in
theorem same_c (e f : Int) (a b : Option Addr) (n c m d : Nat) (xs ys : List Int) (w : World) (h1 : Seg .i64 w a n xs) (h2 : Seg .i64 w b m ys) (hl : n ≤ 1152921504606846976) (hl2 : m ≤ 1152921504606846976) : Calls Try.prog 10 #[.agg #[.int .i64 e, .slice a n c], .agg #[.int .i64 f, .slice b m d]] w fun r w' => r = .returned (.bool (sam e f xs ys)) ∧ Below w.heap.size w w' := by
  have h0 := cf2_new 25 29 w e f (.slice a n c) (.slice b m d)
  have H0 : Hid (Cf2 25 29 w ((w.alloc (.cells #[.int .i64 e, .slice a n c] 25)).alloc (.cells #[.int .i64 f, .slice b m d] 29)) w.heap.size e f (.slice a n c) (.slice b m d)) := h0
  have HP : Hid (∀ W, Calls Try.prog 35 #[.agg #[.int .i64 e, .slice a n c]] W fun r w' => r = .returned (.agg #[.int .i64 e, .slice a n c]) ∧ Below W.heap.size W w') := plain_c e a n c
  have HQ : Hid (∀ W, Below w.heap.size w W → Calls Try.prog 34 #[.agg #[.int .i64 e, .slice a n c], .agg #[.int .i64 f, .slice b m d]] W fun r w' => r = .returned (.bool (sam e f xs ys)) ∧ Below W.heap.size W w') := fun W hb => qalike_c e f a b n c m d xs ys W (h1.below hb) (h2.below hb) hl hl2
  clear h1 h2 h0 hl hl2
  go_enter Try.func10, Try.ntmps10
  go_wp2_with fail
  generalize hW : World.alloc (World.alloc w _) _ = W1 at H0 ⊢
  clear hW
  obtain ⟨N, hN⟩ : ∃ N, N = w.heap.size := ⟨_, rfl⟩
  rw [← hN] at H0 ⊢
  clear hN
  have HST : Hid (∀ W W5, Below W.heap.size W W5 → ((W.cell? ⟨N, 0, none⟩ = some (.int .i64 e) ∧ W.cell? ⟨N, 1, none⟩ = some (.slice a n c) ∧ W.cell? ⟨N + 1, 0, none⟩ = some (.int .i64 f) ∧ W.cell? ⟨N + 1, 1, none⟩ = some (.slice b m d)) ∧ Hid (Cf2 25 29 w W N e f (.slice a n c) (.slice b m d))) → ((W5.cell? ⟨N, 0, none⟩ = some (.int .i64 e) ∧ W5.cell? ⟨N, 1, none⟩ = some (.slice a n c) ∧ W5.cell? ⟨N + 1, 0, none⟩ = some (.int .i64 f) ∧ W5.cell? ⟨N + 1, 1, none⟩ = some (.slice b m d)) ∧ Hid (Cf2 25 29 w W5 N e f (.slice a n c) (.slice b m d)))) := fun W W5 hb h => ⟨(h.2.out.below hb).cells, h.2.out.below hb⟩
  have hS0 : (W1.cell? ⟨N, 0, none⟩ = some (.int .i64 e) ∧ W1.cell? ⟨N, 1, none⟩ = some (.slice a n c) ∧ W1.cell? ⟨N + 1, 0, none⟩ = some (.int .i64 f) ∧ W1.cell? ⟨N + 1, 1, none⟩ = some (.slice b m d)) ∧ Hid (Cf2 25 29 w W1 N e f (.slice a n c) (.slice b m d)) := ⟨H0.out.cells, H0⟩
  have hSd : (W1.drew.cell? ⟨N, 0, none⟩ = some (.int .i64 e) ∧ W1.drew.cell? ⟨N, 1, none⟩ = some (.slice a n c) ∧ W1.drew.cell? ⟨N + 1, 0, none⟩ = some (.int .i64 f) ∧ W1.drew.cell? ⟨N + 1, 1, none⟩ = some (.slice b m d)) ∧ Hid (Cf2 25 29 w W1.drew N e f (.slice a n c) (.slice b m d)) := ⟨H0.out.cells, H0.out.drewN 1⟩
  go_region_held3 (fun W => (W.cell? ⟨N, 0, none⟩ = some (.int .i64 e) ∧ W.cell? ⟨N, 1, none⟩ = some (.slice a n c) ∧ W.cell? ⟨N + 1, 0, none⟩ = some (.int .i64 f) ∧ W.cell? ⟨N + 1, 1, none⟩ = some (.slice b m d)) ∧ Hid (Cf2 25 29 w W N e f (.slice a n c) (.slice b m d))) (assumption) (first
    | (go_at_call 35; refine (Calls.mono (HP.out _) ?_); rintro r w5 ⟨rfl, hb5⟩; have hS5 := HST.out _ w5 hb5 (by assumption))
    | (go_at_call 34; refine (Calls.mono (HQ.out _ hS5.2.out.b) ?_); rintro r w6 ⟨rfl, hb6⟩; have hS6 := HST.out _ w6 hb6 (by assumption)))
  go_wp2
  go_ret
  exact ⟨rfl, hS6.2.out.b⟩
theorem results_cell1O {fn : Func} {p : Tmp} {ty : TypeId} (h : fn.results = #[.cell p ty]) (tmps : Array Value) (P : Program) (w : World) (ad : Addr) (v : Value)
    (hp : tmps.getD p undef = .pointer (some ad)) (hl : (loadVar ty ad).run P w = .ok v w) : (results fn tmps).run P w = .ok v w := by
  have hp' : tmps[p]?.getD undef = .pointer (some ad) := by simpa using hp
  simp only [results, h]
  simp [hp', asAddr, hl]
theorem infoCf : (Try.prog.info? 25).map (·.size) = some 2 := by kernel_rfl
theorem infoQf : (Try.prog.info? 29).map (·.size) = some 2 := by kernel_rfl
theorem cf_set {T : TypeId} {w : World} {N : Nat} {e0 : Int} {v0 : Value} (h : CfB T w N e0 v0) (e : Int) (v : Value) : CfB T ((w.setCell ⟨N, 0, none⟩ (.int .i64 e)).setCell ⟨N, 1, none⟩ v) N e v := by
  have h1 := heap_setCell_same w N 0 _ T (.int .i64 e) h
  exact heap_setCell_same _ N 1 _ T v h1
theorem marks_seg (w : World) : Seg .i64 (w.alloc (.cells #[.int .i64 (-71), .int .i64 (-72), .int .i64 (-73)] 3)) (some ⟨w.heap.size, 0, none⟩) 3 [-71, -72, -73] := seg_new w .i64 _ _ 3 [-71, -72, -73] rfl rfl
end Go.Proofs.Ytekefbbjocekiab
