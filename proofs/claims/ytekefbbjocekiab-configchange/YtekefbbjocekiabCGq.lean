/-
  The document's place of a node in a chain, and its Check of a configuration. Condition: the chain can be read, and has at most 2^60 nodes.
-/
import Derived.Test.YtekefbbjocekiabCGp
import Derived.BigQuiet
import Derived.Deep.QuietTactic
import Derived.Deep.RegionHeld3
import Derived.Lib.SmallJoins
namespace Go.Proofs.Ytekefbbjocekiab
open Go.RowKit
set_option linter.unusedVariables false

theorem seg_at1 {k : IntKind} {w : World} {a : Option Addr} {n : Nat} {xs : List Int} (h : Seg k w a n xs) {j : Nat} (hj : j < n) : ∃ b off x, a = some ⟨b, off, none⟩ ∧ xs[j]? = some x ∧ w.cell? ⟨b, off + j, none⟩ = some (.int k x) := by
  rcases h.2 with z | ⟨b, off, e, _, hc⟩
  · omega
  · have hl : j < xs.length := by rw [h.1]; exact hj
    refine ⟨b, off, xs[j], e, List.getElem?_eq_getElem hl, ?_⟩
    have := hc j hj
    rw [List.getElem?_eq_getElem hl] at this
    exact this
theorem seg_take {k : IntKind} {w : World} {a : Option Addr} {n : Nat} {xs : List Int} (h : Seg k w a n xs) (m : Nat) (hm : m ≤ n) : Seg k w a m (xs.take m) := by
  refine ⟨by rw [List.length_take, h.1]; omega, ?_⟩
  rcases h.2 with z | ⟨b, off, e, hb, hc⟩
  · exact .inl (by omega)
  · refine .inr ⟨b, off, e, hb, fun j hj => ?_⟩
    rw [hc j (by omega), List.getElem?_take_of_lt hj]
theorem pla_at {xs : List Int} {k : Nat} {x : Int} (h : xs[k]? = some x) (hn : x ∉ xs.take k) : pla xs x = k := by
  have hl := (List.getElem?_eq_some_iff.1 h).1
  have hx : xs[k] = x := (List.getElem?_eq_some_iff.1 h).2
  have e : xs = xs.take k ++ x :: xs.drop (k + 1) := by
    conv => lhs; rw [← List.take_append_drop k xs, List.drop_eq_getElem_cons hl, hx]
  rw [pla_yes (List.mem_of_getElem? h)]
  rw [e, List.idxOf_append, if_neg hn]
  simp [List.length_take]; omega
theorem nin_step {xs : List Int} {k : Nat} {x y : Int} (h : xs[k]? = some y) (hn : x ∉ xs.take k) (hne : y ≠ x) : x ∉ xs.take (k + 1) := by
  rw [List.take_add_one, h]
  simp only [Option.toList_some, List.mem_append, List.mem_singleton]
  rintro (q | q)
  · exact hn q
  · exact hne q.symm
set_option maxHeartbeats 1000000 in
theorem place_c (a : Option Addr) (n c : Nat) (xs : List Int) (x : Int) (w : World) (h : Seg .i64 w a n xs) (hl : n ≤ 1152921504606846976) : Calls Try.prog 63 #[.slice a n c, .int .i64 x] w fun r w' => r = .returned (.int .i64 (pla xs x)) ∧ w' = w := by
  have HS : Hid (Seg .i64 w a n xs ∧ xs.length = n) := ⟨h, h.1⟩
  clear h
  go_enter Try.func63, Try.ntmps63
  go_wp2
  go_loop [5] (fun i => ∃ k : Nat, k ≤ n ∧ i = .int .i64 (k : Int) ∧ Hid (x ∉ xs.take k)) (fun i => n - (intOf i).toNat)
  case atStart => exact ⟨0, Nat.zero_le _, rfl, (by simp : x ∉ xs.take 0)⟩
  case round =>
    obtain ⟨k, hk, rfl, hr⟩ := hrel
    by_cases hlt : k < n
    · have hi1 : (k : Int) < n := by omega
      obtain ⟨ba, oa, y, rfl, hy, ca⟩ := seg_at1 HS.out.1 hlt
      have HY : Hid (xs[k]? = some y) := hy
      clear hy
      by_cases hxy : y = x
      · subst hxy
        go_wp2
        go_ret
        exact ⟨by rw [pla_at HY.out hr.out]; rfl, rfl⟩
      · have hne : (y == x) = false := by simpa using hxy
        have HNE : Hid (y ≠ x) := hxy
        clear hxy
        go_wp2
        go_round
        case rel => exact ⟨k + 1, by omega, by go_num, nin_step HY.out hr.out HNE.out⟩
        case measure => simp [intOf]; omega
    · obtain rfl : k = n := by omega
      have hi1 : ¬ (k : Int) < k := by omega
      go_wp2
      go_ret
      exact ⟨by rw [pla_no (fun e => hr.out (by rw [List.take_of_length_le (Nat.le_of_eq HS.out.2)]; exact e))]; rfl, rfl⟩

theorem below_drewN {B : Nat} {w wr : World} (h : Below B w wr) (n : Nat) : Below B w (wr.drewN n) := ⟨h.os, h.tape, h.output, h.size, h.block⟩
theorem chk_e {e : Int} {xs : List Int} (h : ¬ (1 ≤ e ∧ e ≤ 1099511627776)) : chk e xs = 160 := if_neg h
theorem chk_n {e : Int} {xs : List Int} (h : 1 ≤ e ∧ e ≤ 1099511627776) (h2 : ¬ (1 ≤ xs.length ∧ xs.length ≤ 8)) : chk e xs = 162 := by unfold chk; rw [if_pos h, if_neg h2]
theorem chk_x {e : Int} {xs : List Int} (h : 1 ≤ e ∧ e ≤ 1099511627776) (h2 : 1 ≤ xs.length ∧ xs.length ≤ 8) (h3 : ¬ GoodN xs) : chk e xs = 161 := by unfold chk; rw [if_pos h, if_pos h2, if_neg h3]
theorem chk_bad {e : Int} {xs : List Int} {k : Nat} {x : Int} (h : 1 ≤ e ∧ e ≤ 1099511627776) (h2 : 1 ≤ xs.length ∧ xs.length ≤ 8) (hx : xs[k]? = some x) (h3 : ¬ ((1 ≤ x ∧ x ≤ 8) ∧ x ∉ xs.take k)) : chk e xs = 161 :=
  chk_x h h2 (fun g => h3 ((goodN_step hx).1 (goodN_take g (k + 1))).2)
/-- A configuration in a block of its own. -/
def CfB (T : TypeId) (w : World) (N : Nat) (e : Int) (v : Value) : Prop := Bk T w N #[.int .i64 e, v]
theorem CfB.c0 {T w N e v} (h : CfB T w N e v) : w.cell? ⟨N, 0, none⟩ = some (.int .i64 e) := Bk.cell h 0
theorem CfB.c1 {T w N e v} (h : CfB T w N e v) : w.cell? ⟨N, 1, none⟩ = some v := Bk.cell h 1
theorem CfB.lt {T w N e v} (h : CfB T w N e v) : N < w.heap.size := lt_of_block h
theorem CfB.below {T w w' N e v} (h : CfB T w N e v) (hb : Below w.heap.size w w') : CfB T w' N e v := (hb.block N (lt_of_block h)).trans h
theorem CfB.new (T : TypeId) (w : World) (e : Int) (v : Value) : CfB T (w.alloc (.cells #[.int .i64 e, v] T)) w.heap.size e v := heap_new w _
set_option maxRecDepth 20000 in
set_option maxHeartbeats 2000000 in
theorem qcheck_c (e : Int) (a : Option Addr) (n c : Nat) (xs : List Int) (w : World) (h : Seg .i64 w a n xs) (hnc : n ≤ c) : Calls Try.prog 54 #[.agg #[.int .i64 e, .slice a n c]] w fun r w' => r = .returned (.int .i64 (chk e xs)) ∧ Below w.heap.size w w' := by
  have hlen := h.1
  have HB0 : Hid (Below w.heap.size w (w.alloc (.cells #[.int .i64 e, .slice a n c] 29))) := (Below.refl _ _).alloc (Nat.le_refl _) _
  by_cases h1 : e < 1
  · rw [chk_e (by omega)]
    clear h hlen
    go_enter Try.func54, Try.ntmps54
    go_wp2
    go_ret
    exact ⟨rfl, HB0.out⟩
  by_cases h2 : 1099511627776 < e
  · rw [chk_e (by omega)]
    clear h hlen
    go_enter Try.func54, Try.ntmps54
    go_wp2
    go_ret
    exact ⟨rfl, HB0.out⟩
  by_cases h3 : n < 1
  · rw [chk_n (by omega) (by omega)]
    obtain rfl : n = 0 := by omega
    clear h hlen
    go_enter Try.func54, Try.ntmps54
    go_wp2
    go_ret
    exact ⟨rfl, HB0.out⟩
  by_cases h4 : 8 < n
  · rw [chk_n (by omega) (by omega)]
    have h5 : (8 : Int) < (n : Int) := by omega
    have h6 : ¬ (n : Int) < 1 := by omega
    clear h hlen
    go_enter Try.func54, Try.ntmps54
    go_wp2
    go_ret
    exact ⟨rfl, HB0.out⟩
  have h5 : ¬ (8 : Int) < (n : Int) := by omega
  have h6 : ¬ (n : Int) < 1 := by omega
  have HE : Hid ((1 ≤ e ∧ e ≤ 1099511627776) ∧ (1 ≤ xs.length ∧ xs.length ≤ 8)) := ⟨by omega, by omega⟩
  have HS : Hid (Seg .i64 w a n xs ∧ xs.length = n) := ⟨h, hlen⟩
  clear h hlen
  have HCB : Hid (CfB 29 (w.alloc (.cells #[.int .i64 e, .slice a n c] 29)) w.heap.size e (.slice a n c)) := CfB.new _ _ _ _
  go_enter Try.func54, Try.ntmps54
  go_wp2
  generalize hW1 : World.alloc w _ = W1 at HB0 HCB ⊢
  clear hW1
  obtain ⟨N, hN⟩ : ∃ N, N = w.heap.size := ⟨_, rfl⟩
  have HNW : Hid (N = w.heap.size) := hN
  rw [← hN] at HCB ⊢
  clear hN
  go_loopw [3] (fun i wr => ∃ k : Nat, k ≤ n ∧ i = .int .i64 (k : Int) ∧ Hid (GoodN (xs.take k) ∧ CfB 29 wr N e (.slice a n c) ∧ Below w.heap.size w wr)) (fun i _ => n - (intOf i).toNat)
  case atStart => exact ⟨0, Nat.zero_le _, rfl, ⟨goodN_nil, HCB.out, HB0.out⟩⟩
  case round =>
    obtain ⟨k, hk, rfl, hr⟩ := hrel
    have c0 := hr.out.2.1.c0
    have c1 := hr.out.2.1.c1
    by_cases hlt : k < n
    · have hi1 : (k : Int) < n := by omega
      obtain ⟨ba, oa, x, rfl, hx, ca⟩ := seg_at1 (HS.out.1.below hr.out.2.2) hlt
      have HX : Hid (xs[k]? = some x) := hx
      clear hx
      by_cases g1 : x < 1
      · have hb1 : decide (x < 1) = true := decide_eq_true g1
        have HR : Hid (chk e xs = 161) := chk_bad HE.out.1 HE.out.2 HX.out (by omega)
        go_wp2_with fail
        go_quiet (fail)
        go_wp2
        go_ret
        exact ⟨by rw [HR.out]; rfl, below_drewN hr.out.2.2 _⟩
      have hb1 : decide (x < 1) = false := decide_eq_false g1
      by_cases g2 : 8 < x
      · have hb2 : decide (8 < x) = true := decide_eq_true g2
        have HR : Hid (chk e xs = 161) := chk_bad HE.out.1 HE.out.2 HX.out (by omega)
        go_wp2_with fail
        go_quiet (fail)
        go_wp2
        go_ret
        exact ⟨by rw [HR.out]; rfl, below_drewN hr.out.2.2 _⟩
      have hkc : (k : Int) ≤ (c : Int) := by omega
      have hkc2 : ¬ (c : Int) < (k : Int) := by omega
      have hb2 : decide (8 < x) = false := decide_eq_false g2
      have HP : Hid (∀ W, Below w.heap.size w W → ∀ cc, Calls Try.prog 63 #[.slice (some ⟨ba, oa, none⟩) k cc, .int .i64 x] W fun r w' => r = .returned (.int .i64 (pla (xs.take k) x)) ∧ w' = W) := fun W hb cc => place_c _ k cc _ x W (seg_take (HS.out.1.below hb) k (Nat.le_of_lt hlt)) (by omega)
      have HG : Hid (∀ W, Below w.heap.size w W → CfB 29 W N e (.slice (some ⟨ba, oa, none⟩) n c) → W.cell? ⟨N, 0, none⟩ = some (.int .i64 e) ∧ W.cell? ⟨N, 1, none⟩ = some (.slice (some ⟨ba, oa, none⟩) n c) ∧ W.cell? ⟨ba, oa + k, none⟩ = some (.int .i64 x)) := by
        show ∀ W, _
        intro W hb hc
        refine ⟨hc.c0, hc.c1, ?_⟩
        obtain ⟨b2, o2, y, e2, hy, cy⟩ := seg_at1 (HS.out.1.below hb) hlt
        cases e2
        rw [cy]
        rw [HX.out] at hy
        cases hy
        rfl
      by_cases g3 : x ∈ xs.take k
      · have HR : Hid (chk e xs = 161) := chk_bad HE.out.1 HE.out.2 HX.out (fun z => z.2 g3)
        have hp0 : (0 : Int) ≤ pla (xs.take k) x := by have := mt (pla_neg (xs := xs.take k) (n := x)).1 (fun z => z g3); omega
        clear g3
        have hb3 : decide ((0 : Int) ≤ pla (xs.take k) x) = true := decide_eq_true hp0
        go_wp2_with fail
        have hS0 : (wr.drew.cell? ⟨N, 0, none⟩ = some (.int .i64 e) ∧ wr.drew.cell? ⟨N, 1, none⟩ = some (.slice (some ⟨ba, oa, none⟩) n c) ∧ wr.drew.cell? ⟨ba, oa + k, none⟩ = some (.int .i64 x)) ∧ Hid (Below w.heap.size w wr.drew ∧ CfB 29 wr.drew N e (.slice (some ⟨ba, oa, none⟩) n c)) := ⟨HG.out _ hr.out.2.2.drew hr.out.2.1, ⟨hr.out.2.2.drew, hr.out.2.1⟩⟩
        go_region_held3 (fun W => (W.cell? ⟨N, 0, none⟩ = some (.int .i64 e) ∧ W.cell? ⟨N, 1, none⟩ = some (.slice (some ⟨ba, oa, none⟩) n c) ∧ W.cell? ⟨ba, oa + k, none⟩ = some (.int .i64 x)) ∧ Hid (Below w.heap.size w W ∧ CfB 29 W N e (.slice (some ⟨ba, oa, none⟩) n c))) (assumption) (first
          | (go_at_call 63; refine (Calls.mono (HP.out _ hr.out.2.2.drew _) ?_); rintro r w5 ⟨rfl, h5⟩; obtain rfl := h5.symm))
        go_wp2
        go_ret
        exact ⟨by rw [HR.out]; rfl, below_drewN hr.out.2.2 _⟩
      · have HK : Hid (GoodN (xs.take (k + 1))) := (goodN_step HX.out).2 ⟨hr.out.1, by omega, g3⟩
        have hp0 : ¬ (0 : Int) ≤ pla (xs.take k) x := by have := (pla_neg (xs := xs.take k) (n := x)).2 g3; omega
        clear g3
        have hb3 : decide ((0 : Int) ≤ pla (xs.take k) x) = false := decide_eq_false hp0
        go_wp2_with fail
        have hS0 : (wr.drew.cell? ⟨N, 0, none⟩ = some (.int .i64 e) ∧ wr.drew.cell? ⟨N, 1, none⟩ = some (.slice (some ⟨ba, oa, none⟩) n c) ∧ wr.drew.cell? ⟨ba, oa + k, none⟩ = some (.int .i64 x)) ∧ Hid (Below w.heap.size w wr.drew ∧ CfB 29 wr.drew N e (.slice (some ⟨ba, oa, none⟩) n c)) := ⟨HG.out _ hr.out.2.2.drew hr.out.2.1, ⟨hr.out.2.2.drew, hr.out.2.1⟩⟩
        go_region_held3 (fun W => (W.cell? ⟨N, 0, none⟩ = some (.int .i64 e) ∧ W.cell? ⟨N, 1, none⟩ = some (.slice (some ⟨ba, oa, none⟩) n c) ∧ W.cell? ⟨ba, oa + k, none⟩ = some (.int .i64 x)) ∧ Hid (Below w.heap.size w W ∧ CfB 29 W N e (.slice (some ⟨ba, oa, none⟩) n c))) (assumption) (first
          | (go_at_call 63; refine (Calls.mono (HP.out _ hr.out.2.2.drew _) ?_); rintro r w5 ⟨rfl, h5⟩; obtain rfl := h5.symm))
        go_wp2
        go_roundw
        case rel => exact ⟨k + 1, by omega, by go_num, HK.out, hr.out.2.1, hr.out.2.2.drew⟩
        case measure => simp [intOf]; omega
    · obtain rfl : k = n := by omega
      have hi1 : ¬ (k : Int) < k := by omega
      have HR : Hid (chk e xs = 0) := chk_ok.2 ⟨HE.out.1, HE.out.2, by have := hr.out.1; rwa [List.take_of_length_le (Nat.le_of_eq HS.out.2)] at this⟩
      go_wp2
      go_ret
      exact ⟨by rw [HR.out]; rfl, hr.out.2.2⟩
end Go.Proofs.Ytekefbbjocekiab
