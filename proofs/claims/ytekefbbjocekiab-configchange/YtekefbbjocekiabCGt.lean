/-
  What slices.Clone and slices.Equal answer of whole numbers, config's and the document's Alike, and the law's own num, plain, same and twin. Conditions: the lists can be read, and have at most 2^43 numbers.
-/
import Derived.Test.YtekefbbjocekiabCGs
import Derived.Lib.Slices
import Derived.Maps.AppendAt
import Derived.Laws.OwnMore
import Derived.Lib.AppendZeros
namespace Go.Proofs.Ytekefbbjocekiab
open Go.RowKit
set_option linter.unusedVariables false

theorem owI_empty (w : World) : OwI w.heap.size (w.alloc (.cells #[] 3)) (.slice (some ⟨w.heap.size, 0, none⟩) 0 0) 0 [] :=
  ⟨rfl, .inr ⟨w.heap.size, 0, #[], rfl, Nat.le_refl _, heap_new w _, Nat.le_refl _, Nat.zero_le _, rfl, rfl⟩⟩
set_option maxHeartbeats 1000000 in
theorem cloneI_c (a : Option Addr) (len cap : Nat) (xs : List Int) (w : World) (h : Seg .i64 w a len xs) (hl : len ≤ 17592186044416) (hnz : a = none → cap = 0) :
    Calls Try.prog 39 #[.slice a len cap] w fun r w' => ∃ a' c', r = .returned (.slice a' len c') ∧ OwI w.heap.size w' (.slice a' len c') len xs ∧ Below w.heap.size w w' := by
  cases a with
  | none =>
    have hm0 : len = 0 := by
      rcases h.2 with h0 | ⟨_, _, h, _⟩
      · exact h0
      · cases h
    subst hm0
    obtain rfl := hnz rfl
    have HS : Hid (xs = []) := List.length_eq_zero_iff.1 h.1
    have hq := fun w => Lib.run_eql_slice_nil (P := Try.prog) w 23 3 none 0 0 0 0 Try.underlying23
    simp only [Option.isNone] at hq
    clear h
    go_enter Try.func39, Try.ntmps39
    go_wp2
    go_ret
    exact ⟨none, 0, rfl, by rw [HS.out]; exact owI_nil _ _, Below.refl _ _⟩
  | some ad =>
    have HS : Hid (Seg .i64 w (some ad) len xs) := h
    have hq := fun w => Lib.run_eql_slice_nil (P := Try.prog) w 23 3 (some ad) len cap 0 0 Try.underlying23
    simp only [Option.isNone] at hq
    clear h
    go_enter Try.func39, Try.ntmps39
    go_wp2_with (at_builtin; go_must (refine wpList_append_growI _ rfl (.tmp 5) (.tmp 6) rfl w.heap.size 0 _ [] rfl (owI_empty w) (some ad) len cap xs rfl (fun h => by cases h) (HS.out.below ((Below.refl _ _).alloc (Nat.le_refl _) _)) (by omega) (by simp) ?_); intro v' w1 hm hb; rw [Nat.zero_add, List.nil_append] at hm; have HM : Hid (OwI w.heap.size w1 v' len xs ∧ Below w.heap.size w w1) := ⟨hm, ((Below.refl _ _).alloc (Nat.le_refl _) _).trans hb⟩; clear hm hb)
    obtain ⟨a', c', rfl, _⟩ := HM.out.1.seg
    go_ret
    exact ⟨a', c', rfl, HM.out.1, HM.out.2⟩
theorem take_succ_eqG {α : Type} {xs ys : List α} {k : Nat} {x y : α} (hx : xs[k]? = some x) (hy : ys[k]? = some y) : xs.take (k + 1) = ys.take (k + 1) ↔ xs.take k = ys.take k ∧ x = y := by
  rw [List.take_add_one, List.take_add_one, hx, hy]
  constructor
  · intro h
    have h1 := List.append_inj' h rfl
    exact ⟨h1.1, by simpa using h1.2⟩
  · rintro ⟨h1, h2⟩
    rw [h1, h2]
set_option maxHeartbeats 1000000 in
theorem equalI_c (a b : Option Addr) (n c m d : Nat) (xs ys : List Int) (w : World) (h1 : Seg .i64 w a n xs) (h2 : Seg .i64 w b m ys) (hl : n ≤ 1152921504606846976) : Calls Try.prog 46 #[.slice a n c, .slice b m d] w fun r w' => r = .returned (.bool (decide (xs = ys))) ∧ Below w.heap.size w w' := by
  have e1 : xs.length = n := h1.1
  have e2 : ys.length = m := h2.1
  by_cases hn : n = m
  · subst hn
    have HS : Hid (Seg .i64 w a n xs ∧ Seg .i64 w b n ys ∧ xs.length = n ∧ ys.length = n) := ⟨h1, h2, e1, e2⟩
    clear h1 h2 e1 e2
    go_enter Try.func46, Try.ntmps46
    go_wp2
    go_loopw [13, 5] (fun i v wr => ∃ (k : Nat) (u : Value), k ≤ n ∧ i = .int .i64 (k : Int) ∧ v = u ∧ Hid (xs.take k = ys.take k ∧ Below w.heap.size w wr)) (fun i _ _ => n - (intOf i).toNat)
    case atStart => exact ⟨0, _, Nat.zero_le _, rfl, rfl, rfl, Below.refl _ _⟩
    case round =>
      obtain ⟨k, u, hk, rfl, rfl, hr⟩ := hrel
      by_cases hlt : k < n
      · have hi1 : (k : Int) < n := by omega
        have hi2 : ¬ ((n : Int) ≤ (k : Int)) := by omega
        obtain ⟨ba, oa, x, rfl, hx, ca⟩ := seg_at1 (HS.out.1.below hr.out.2) hlt
        obtain ⟨bb, ob, y, rfl, hy, cb⟩ := seg_at1 (HS.out.2.1.below hr.out.2) hlt
        have HXY : Hid (xs[k]? = some x ∧ ys[k]? = some y) := ⟨hx, hy⟩
        have HGD : Hid (∀ q, Below w.heap.size w (wr.drewN q)) := fun q => below_drewN hr.out.2 q
        have hw3 : wrap64 ((k : Int) + 1) = ((k + 1 : Nat) : Int) := by rw [IntWalk.wrap64_in _ ⟨by omega, by omega⟩]; omega
        clear hx hy
        by_cases hxy : x = y
        · subst hxy
          go_wp2_with fail
          go_quiet (fail)
          go_wp2
          exact ⟨⟨k + 1, _, hlt, by rw [show ((k : Int) + 1) = ((k + 1 : Nat) : Int) by omega], rfl, (take_succ_eqG HXY.out.1 HXY.out.2).2 ⟨hr.out.1, rfl⟩, HGD.out _⟩, by simp only [intOf]; omega⟩
        · have hne : (x != y) = true := by simpa using hxy
          have HNE : Hid (x ≠ y) := hxy
          clear hxy
          go_wp2_with fail
          go_quiet (fail)
          go_wp2
          go_ret
          exact ⟨by rw [decide_eq_false (fun e => HNE.out (Option.some.inj (HXY.out.1.symm.trans (by rw [e]; exact HXY.out.2))))]; rfl, HGD.out _⟩
      · obtain rfl : k = n := by omega
        have hi1 : ¬ (k : Int) < k := by omega
        have HE : Hid (xs = ys) := by
          have := hr.out.1
          rw [List.take_of_length_le (by rw [HS.out.2.2.1]; exact Nat.le_refl _), List.take_of_length_le (by rw [HS.out.2.2.2]; exact Nat.le_refl _)] at this
          exact this
        go_wp2
        go_ret
        exact ⟨by rw [decide_eq_true HE.out]; rfl, hr.out.2⟩
  · have hb : ((n : Int) != (m : Int)) = true := by simp; omega
    have HE : Hid (xs ≠ ys) := fun e => hn (by rw [← e1, ← e2, e])
    clear h1 h2 e1 e2
    go_enter Try.func46, Try.ntmps46
    go_wp2
    go_ret
    exact ⟨by rw [decide_eq_false HE.out]; rfl, Below.refl _ _⟩
/-- Two configurations, in blocks of their own. -/
structure Cf2 (T U : TypeId) (w wr : World) (N : Nat) (e f : Int) (u v : Value) : Prop where
  l : CfB T wr N e u
  r : CfB U wr (N + 1) f v
  b : Below w.heap.size w wr
theorem cf2_new (T U : TypeId) (w : World) (e f : Int) (u v : Value) : Cf2 T U w ((w.alloc (.cells #[.int .i64 e, u] T)).alloc (.cells #[.int .i64 f, v] U)) w.heap.size e f u v := by
  have b1 : Below w.heap.size w (w.alloc (.cells #[.int .i64 e, u] T)) := (Below.refl _ _).alloc (Nat.le_refl _) _
  have b2 := (Below.refl (w.alloc (.cells #[.int .i64 e, u] T)).heap.size (w.alloc (.cells #[.int .i64 e, u] T))).alloc (Nat.le_refl _) (.cells #[.int .i64 f, v] U)
  have h2 := CfB.new U (w.alloc (.cells #[.int .i64 e, u] T)) f v
  rw [World.size_alloc] at h2
  exact ⟨(CfB.new _ _ _ _).below b2, h2, b1.trans (b2.mono (by simp))⟩
theorem Cf2.below {T U w wr w' N e f u v} (h : Cf2 T U w wr N e f u v) (hb : Below wr.heap.size wr w') : Cf2 T U w w' N e f u v := ⟨h.l.below hb, h.r.below hb, h.b.trans (hb.mono h.b.size)⟩
theorem Cf2.drewN {T U w wr N e f u v} (h : Cf2 T U w wr N e f u v) (q : Nat) : Cf2 T U w (wr.drewN q) N e f u v := ⟨h.l, h.r, below_drewN h.b q⟩
/-- A condition that others' doing keeps, and the cells that it tells. -/
theorem s_step {R C : World → Prop} (hC : ∀ W, R W → C W) (hR : ∀ W W', R W → Below W.heap.size W W' → R W') {wr w5 : World} (hb : Below wr.heap.size wr w5) (h : C wr ∧ Hid (R wr)) : C w5 ∧ Hid (R w5) := ⟨hC _ (hR _ _ h.2.out hb), hR _ _ h.2.out hb⟩
/-- Are two configurations the same? -/
def sam (e f : Int) (xs ys : List Int) : Bool := decide (e = f ∧ xs = ys)
theorem sam_yes {e f : Int} {xs ys : List Int} : sam e f xs ys = true ↔ e = f ∧ xs = ys := by unfold sam; exact decide_eq_true_iff
set_option maxRecDepth 20000 in
set_option maxHeartbeats 2000000 in
theorem alike_c (e f : Int) (a b : Option Addr) (n c m d : Nat) (xs ys : List Int) (w : World) (h1 : Seg .i64 w a n xs) (h2 : Seg .i64 w b m ys) (hl : n ≤ 1152921504606846976) : Calls Try.prog 26 #[.agg #[.int .i64 e, .slice a n c], .agg #[.int .i64 f, .slice b m d]] w fun r w' => r = .returned (.bool (sam e f xs ys)) ∧ Below w.heap.size w w' := by
  have h0 := cf2_new 25 25 w e f (.slice a n c) (.slice b m d)
  have HQ : Hid _ := equalI_c a b n c m d xs ys _ (h1.below h0.b) (h2.below h0.b) hl
  have HB : Hid (Below w.heap.size w ((w.alloc (.cells #[.int .i64 e, .slice a n c] 25)).alloc (.cells #[.int .i64 f, .slice b m d] 25))) := h0.b
  clear h1 h2 h0 hl
  by_cases he : e = f
  · subst he
    have HD : Hid (sam e e xs ys = decide (xs = ys)) := by show _ = _; unfold sam; simp
    go_enter Try.func26, Try.ntmps26
    go_wp2_with (go_at_call 46; go_must (refine (Calls.mono HQ.out ?_)); rintro r w1 ⟨rfl, hb⟩; have H1 : Hid (Below w.heap.size w w1) := HB.out.trans (hb.mono HB.out.size); clear hb)
    go_ret
    exact ⟨by rw [HD.out]; rfl, H1.out⟩
  · have hb : (e == f) = false := by simpa using he
    have HD : Hid (sam e f xs ys = false) := decide_eq_false (fun h => he h.1)
    clear he
    go_enter Try.func26, Try.ntmps26
    go_wp2
    go_ret
    exact ⟨by rw [HD.out]; rfl, HB.out⟩
theorem num_c (e : Int) (w : World) : Calls Try.prog 11 #[.int .i64 e] w fun r w' => r = .returned (.int .i64 e) ∧ w' = w := by
  go_enter Try.func11, Try.ntmps11
  go_wp2
  go_ret
  exact ⟨rfl, rfl⟩
theorem plain_c (t : Int) (a : Option Addr) (len cap : Nat) (w : World) :
    Calls Try.prog 35 #[.agg #[.int .i64 t, .slice a len cap]] w fun r w' => r = .returned (.agg #[.int .i64 t, .slice a len cap]) ∧ Below w.heap.size w w' := by
  go_enter Try.func35, Try.ntmps35
  go_wp2
  refine bodyPost_ret (v := .agg #[.int .i64 t, .slice a len cap]) (by simp [results, Try.results35, go_sem]) rfl ⟨rfl, ?_⟩
  exact ((Below.refl _ _).alloc (Nat.le_refl _) _).alloc (by simp) _
theorem sam_take {e f : Int} {xs ys : List Int} {k : Nat} {x y : Int} (hx : xs[k]? = some x) (hy : ys[k]? = some y) (hne : x ≠ y) : sam e f xs ys = false := by
  refine decide_eq_false (fun h => hne (Option.some.inj (hx.symm.trans ?_)))
  rw [h.2]; exact hy
set_option maxRecDepth 20000 in
set_option maxHeartbeats 4000000 in
theorem qalike_c (e f : Int) (a b : Option Addr) (n c m d : Nat) (xs ys : List Int) (w : World) (h1 : Seg .i64 w a n xs) (h2 : Seg .i64 w b m ys) (hl : n ≤ 1152921504606846976) (hl2 : m ≤ 1152921504606846976) : Calls Try.prog 34 #[.agg #[.int .i64 e, .slice a n c], .agg #[.int .i64 f, .slice b m d]] w fun r w' => r = .returned (.bool (sam e f xs ys)) ∧ Below w.heap.size w w' := by
  have h0 := cf2_new 29 29 w e f (.slice a n c) (.slice b m d)
  have HS : Hid (Seg .i64 w a n xs ∧ Seg .i64 w b m ys ∧ xs.length = n ∧ ys.length = m) := ⟨h1, h2, h1.1, h2.1⟩
  have H0 : Hid (Cf2 29 29 w ((w.alloc (.cells #[.int .i64 e, .slice a n c] 29)).alloc (.cells #[.int .i64 f, .slice b m d] 29)) w.heap.size e f (.slice a n c) (.slice b m d)) := h0
  clear h1 h2 h0
  go_enter Try.func34, Try.ntmps34
  go_wp2
  generalize hW : World.alloc (World.alloc w _) _ = W1 at H0 ⊢
  clear hW
  obtain ⟨N, hN⟩ : ∃ N, N = w.heap.size := ⟨_, rfl⟩
  rw [← hN] at H0 ⊢
  clear hN
  go_loopw [5] (fun i wr => ∃ k : Nat, k ≤ n ∧ k ≤ m ∧ i = .int .i64 (k : Int) ∧ Hid (xs.take k = ys.take k ∧ Cf2 29 29 w wr N e f (.slice a n c) (.slice b m d))) (fun i _ => n - (intOf i).toNat)
  case atStart => exact ⟨0, Nat.zero_le _, Nat.zero_le _, rfl, rfl, H0.out⟩
  case round =>
    obtain ⟨k, hk, hkm, rfl, hr⟩ := hrel
    have c0 := hr.out.2.l.c0
    have c1 := hr.out.2.l.c1
    have c2 := hr.out.2.r.c0
    have c3 := hr.out.2.r.c1
    by_cases hlt : k < n
    · have hd1 : decide ((k : Int) < (n : Int)) = true := decide_eq_true (by omega)
      by_cases hltm : k < m
      · have hd2 : decide ((k : Int) < (m : Int)) = true := decide_eq_true (by omega)
        obtain ⟨ba, oa, x, rfl, hx, ca⟩ := seg_at1 (HS.out.1.below hr.out.2.b) hlt
        obtain ⟨bb, ob, y, rfl, hy, cb⟩ := seg_at1 (HS.out.2.1.below hr.out.2.b) hltm
        have HXY : Hid (xs[k]? = some x ∧ ys[k]? = some y) := ⟨hx, hy⟩
        have hi1 : (k : Int) < n := by omega
        have hi2 : (k : Int) < m := by omega
        clear hx hy
        by_cases hxy : x = y
        · subst hxy
          go_wp2_with fail
          go_quiet (fail)
          go_wp2
          go_roundw
          case rel => exact ⟨k + 1, by omega, by omega, by go_num, (take_succ_eqG HXY.out.1 HXY.out.2).2 ⟨hr.out.1, rfl⟩, hr.out.2.drewN _⟩
          case measure => simp [intOf]; omega
        · have hne : (x != y) = true := by simpa using hxy
          have HR : Hid (sam e f xs ys = false) := sam_take HXY.out.1 HXY.out.2 hxy
          clear hxy
          go_wp2_with fail
          go_quiet (fail)
          go_wp2
          go_ret
          exact ⟨by rw [HR.out]; rfl, below_drewN hr.out.2.b _⟩
      · have hd2 : decide ((k : Int) < (m : Int)) = false := decide_eq_false (by omega)
        have HR : Hid (sam e f xs ys = false) := decide_eq_false (fun h => by have h1 := congrArg List.length h.2; rw [HS.out.2.2.1, HS.out.2.2.2] at h1; omega)
        have hnm : ((n : Int) == (m : Int)) = false := by simp; omega
        by_cases he : e = f
        · subst he
          go_wp2
          go_ret
          exact ⟨by rw [HR.out]; rfl, hr.out.2.b⟩
        · have heb : (e == f) = false := by simpa using he
          clear he
          go_wp2
          go_ret
          exact ⟨by rw [HR.out]; rfl, hr.out.2.b⟩
    · obtain rfl : k = n := by omega
      have hd1 : decide ((k : Int) < (k : Int)) = false := decide_eq_false (by omega)
      by_cases he : e = f
      · subst he
        by_cases hnm : k = m
        · subst hnm
          have HR : Hid (sam e e xs ys = true) := sam_yes.2 ⟨rfl, by
            have := hr.out.1
            rwa [List.take_of_length_le (Nat.le_of_eq HS.out.2.2.1), List.take_of_length_le (Nat.le_of_eq HS.out.2.2.2)] at this⟩
          go_wp2
          go_ret
          exact ⟨by rw [HR.out]; rfl, hr.out.2.b⟩
        · have hb : ((k : Int) == (m : Int)) = false := by simp; omega
          have HR : Hid (sam e e xs ys = false) := decide_eq_false (fun h => by have h1 := congrArg List.length h.2; rw [HS.out.2.2.1, HS.out.2.2.2] at h1; omega)
          go_wp2
          go_ret
          exact ⟨by rw [HR.out]; rfl, hr.out.2.b⟩
      · have heb : (e == f) = false := by simpa using he
        have HR : Hid (sam e f xs ys = false) := decide_eq_false (fun h => he h.1)
        clear he
        go_wp2
        go_ret
        exact ⟨by rw [HR.out]; rfl, hr.out.2.b⟩
end Go.Proofs.Ytekefbbjocekiab
