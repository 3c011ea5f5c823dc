/-
  What the laws' num, plain, same, roomy and kept answer, and the document's Same of frames. Condition: the bytes can be read, and are at most 2^47 - 4096.
-/
import Derived.Test.YtegbgmihcokblaaDoorRows
import Derived.Test.YtegbgmihcokblaaDoorFCu
import Derived.Test.YtegbgmihcokblaaDoorApart
import Derived.Test.YtegbgmihcokblaaDoorFa
import Derived.Deep.RegionHeld3
namespace Go.Proofs.YtegbgmihcokblaaDoor
set_option linter.unusedVariables false
open Go.RowKit

/-- The marks behind lent bytes. -/
def marks : List Int := [211, 212, 213, 214, 215, 216, 217, 218, 219, 220, 221, 222, 223, 224, 225, 226]
theorem marks_bytes : Bytes marks := bytes_of_mem (by decide)
theorem Seg.front {w : World} {a : Option Addr} {len k : Nat} {xs ys : List Int} (h : Seg .u8 w a (len + k) (xs ++ ys)) (hl : xs.length = len) : Seg .u8 w a len xs := by
  have := h.take len (by omega)
  rw [← hl, List.take_left] at this
  rw [← hl]; exact this

set_option maxHeartbeats 1000000 in
theorem roomy_c (a : Option Addr) (len cap : Nat) (xs : List Int) (w : World) (hn : a = none → cap = 0) (hs : Seg .u8 w a len xs) (hl : len ≤ 140737488351232) :
    Calls Tryd.prog 12 #[.slice a len cap] w fun e w' => ∃ g k, e = .returned (.slice (some ⟨g, 0, none⟩) len k) ∧ Own w.heap.size w' (.slice (some ⟨g, 0, none⟩) (len + 16) k) (len + 16) (xs ++ marks) ∧ len + 16 ≤ k ∧ Below w.heap.size w w' := by
  have HN : Hid (a = none → cap = 0) := hn
  have HS : Hid (Seg .u8 w a len xs) := hs
  clear hn hs
  go_enter Tryd.func12, Tryd.ntmps12
  go_wp2_with (first
    | (at_builtin; refine wpList_append_grow _ rfl _ _ rfl w.heap.size len _ xs rfl (Own.below hown1.out ((Below.refl _ _).alloc (Nat.le_refl _) _)) (some ⟨w1.heap.size, 0, none⟩) 16 16 marks rfl (fun h => by cases h) (seg_new w1 .u8 _ 5 16 marks rfl rfl) (by omega) (by have := hb1.out.size; simp; omega) ?_; intro v2 w2 hown2 hb2; obtain ⟨gr, cr, rfl, hBr, hnr⟩ := hown2.form (by omega); replace hown2 : Hid _ := hown2; replace hb2 : Hid _ := hb2)
    | (at_builtin; refine wpList_append_grow _ rfl _ _ rfl w.heap.size 0 _ [] rfl (own_nil _ _) a len cap xs rfl HN.out HS.out (by omega) (Nat.le_refl _) ?_; intro v1 w1 hown1 hb1; rw [Nat.zero_add, List.nil_append] at hown1; replace hown1 : Hid _ := hown1; replace hb1 : Hid _ := hb1))
  go_ret
  exact ⟨gr, cr, rfl, hown2.out, hnr, (hb1.out.alloc hb1.out.size _).trans hb2.out⟩

set_option maxRecDepth 20000 in
set_option maxHeartbeats 1000000 in
theorem kept_c (g len k : Nat) (xs : List Int) (b : Option Addr) (cb : Nat) (w : World) (hs : Seg .u8 w (some ⟨g, 0, none⟩) (len + 16) (xs ++ marks)) (hk : len + 16 ≤ k) (hb : Seg .u8 w b len xs) (hx : Bytes xs) (hl : len ≤ 140737488351232) :
    Calls Tryd.prog 14 #[.slice (some ⟨g, 0, none⟩) len k, .slice b len cb] w fun e w' => e = .returned (.bool true) ∧ Below w.heap.size w w' := by
  have hlen := hb.1
  have r1 := seg_string (P := Tryd.prog) 28 9 5 k (hs.front hlen) Tryd.underlying28 Tryd.underlying5 Tryd.underlying9
  have r2 := seg_string (P := Tryd.prog) 28 9 5 cb hb Tryd.underlying28 Tryd.underlying5 Tryd.underlying9
  have HC : Hid (∀ i, i < 16 → w.cell? ⟨g, len + i, none⟩ = some (.int .u8 (211 + (i : Int)))) := by
    intro i hi
    obtain ⟨b', off', e1, _, hc⟩ := hs.cells (by omega)
    cases e1
    have := hc (len + i) (by omega)
    rw [Nat.zero_add] at this
    rw [this, List.getElem?_append_right (by omega), show len + i - xs.length = i from by omega]
    have hm : ∀ j : Nat, j < 16 → marks[j]?.getD 0 = (211 : Int) + (j : Int) := by decide
    rw [hm i hi]
  clear hs hb hx hlen
  go_enter Tryd.func14, Tryd.ntmps14
  go_wp2
  go_loop [6] (fun i => ∃ j : Nat, j ≤ 16 ∧ i = .int .i64 j) (fun i => 16 - (intOf i).toNat)
  case atStart => exact ⟨0, Nat.zero_le _, rfl⟩
  case round =>
    obtain ⟨j, hj, rfl⟩ := hrel
    by_cases hlt : j < 16
    · have hcell := HC.out j hlt
      have e1 : (len : Int) + (j : Int) < (len : Int) + 16 := by omega
      have e2 : ((211 : Int) + (j : Int)) % 256 = 211 + (j : Int) := by omega
      go_wp2
      go_round
      case rel => exact ⟨j + 1, by omega, by go_num⟩
      case measure => simp [intOf]; omega
    · obtain rfl : j = 16 := by omega
      go_wp2
      go_ret
      exact ⟨rfl, Below.refl _ _⟩

theorem num_c (e : Int) (w : World) : Calls Tryd.prog 10 #[.int .i64 e] w fun r w' => r = .returned (.int .i64 e) ∧ w' = w := by
  go_enter Tryd.func10, Tryd.ntmps10
  go_wp2
  go_ret
  exact ⟨rfl, rfl⟩

/-- A frame's value as the document's. -/
theorem plain_c (t : Int) (a : Option Addr) (len cap : Nat) (w : World) :
    Calls Tryd.prog 42 #[.agg #[.int .i64 t, .slice a len cap]] w fun r w' => r = .returned (.agg #[.int .i64 t, .slice a len cap]) ∧ Below w.heap.size w w' := by
  go_enter Tryd.func42, Tryd.ntmps42
  go_wp2
  refine bodyPost_ret (v := .agg #[.int .i64 t, .slice a len cap]) (by simp [results, Tryd.results42, go_sem]) rfl ⟨rfl, ?_⟩
  exact ((Below.refl _ _).alloc (Nat.le_refl _) _).alloc (by simp) _

set_option maxHeartbeats 1000000 in
theorem gSame_c (t s : Int) (a b : Option Addr) (la ca lb cb : Nat) (xs ys : List Int) (w : World) (h1 : Seg .u8 w a la xs) (h2 : Seg .u8 w b lb ys) (hx : Bytes xs) (hy : Bytes ys) :
    Calls Tryd.prog 41 #[.agg #[.int .i64 t, .slice a la ca], .agg #[.int .i64 s, .slice b lb cb]] w fun r w' => r = .returned (.bool (decide (t = s ∧ xs = ys))) ∧ Below w.heap.size w w' := by
  have HE : Hid (((strOfNums xs).toList == (strOfNums ys).toList) = decide (xs = ys)) := str_eq hx hy
  obtain ⟨W1, hW1⟩ : ∃ W1, W1 = (w.alloc (.cells #[.int .i64 t, .slice a la ca] 43)).alloc (.cells #[.int .i64 s, .slice b lb cb] 43) := ⟨_, rfl⟩
  have HB : Hid (Below w.heap.size w W1) := by rw [hW1]; exact ((Below.refl _ _).alloc (Nat.le_refl _) _).alloc (by simp) _
  have r1 := seg_string (P := Tryd.prog) 28 9 5 ca (h1.below HB.out) Tryd.underlying28 Tryd.underlying5 Tryd.underlying9
  have r2 := seg_string (P := Tryd.prog) 28 9 5 cb (h2.below HB.out) Tryd.underlying28 Tryd.underlying5 Tryd.underlying9
  rw [hW1] at r1 r2 HB
  clear h1 h2 hx hy hW1
  by_cases ht : t = s
  · subst ht
    have HD : Hid (decide (t = t ∧ xs = ys) = decide (xs = ys)) := by show _ = _; simp
    rw [HD.out]
    go_enter Tryd.func41, Tryd.ntmps41
    go_wp2
    go_ret
    exact ⟨by rw [← HE.out]; rfl, HB.out⟩
  · have HD : Hid (decide (t = s ∧ xs = ys) = false) := decide_eq_false (fun h => ht h.1)
    have q : (t == s) = false := by simp [ht]
    rw [HD.out]
    go_enter Tryd.func41, Tryd.ntmps41
    go_wp2
    go_ret
    exact ⟨rfl, HB.out⟩

theorem gSame_t (t : Int) (a b : Option Addr) (la ca lb cb : Nat) (xs : List Int) (w : World) (h1 : Seg .u8 w a la xs) (h2 : Seg .u8 w b lb xs) (hx : Bytes xs) :
    Calls Tryd.prog 41 #[.agg #[.int .i64 t, .slice a la ca], .agg #[.int .i64 t, .slice b lb cb]] w fun r w' => r = .returned (.bool true) ∧ Below w.heap.size w w' := by
  have := gSame_c t t a b la ca lb cb xs xs w h1 h2 hx hx
  rw [decide_eq_true (⟨rfl, rfl⟩ : t = t ∧ xs = xs)] at this
  exact this
/-- TwoF frames in blocks of their own. -/
def TwoF (w : World) (N : Nat) (t s : Int) (u v : Value) : Prop := Bk 42 w N #[.int .i64 t, u] ∧ Bk 43 w (N + 1) #[.int .i64 s, v]
theorem TwoF.below {w w' : World} {N : Nat} {t s : Int} {u v : Value} (h : TwoF w N t s u v) (hb : Below w.heap.size w w') : TwoF w' N t s u v := ⟨h.1.below hb (lt_of_block h.1), h.2.below hb (lt_of_block h.2)⟩
/-- What is held of both while a region draws. -/
theorem twof_step {w wr w5 : World} {N : Nat} {t s : Int} {u v : Value} (hb : Below wr.heap.size wr w5) (h : (wr.cell? ⟨N, 0, none⟩ = some (.int .i64 t) ∧ wr.cell? ⟨N, 1, none⟩ = some u ∧ wr.cell? ⟨N + 1, 0, none⟩ = some (.int .i64 s) ∧ wr.cell? ⟨N + 1, 1, none⟩ = some v) ∧ Hid (TwoF wr N t s u v ∧ Below N w wr)) :
    (w5.cell? ⟨N, 0, none⟩ = some (.int .i64 t) ∧ w5.cell? ⟨N, 1, none⟩ = some u ∧ w5.cell? ⟨N + 1, 0, none⟩ = some (.int .i64 s) ∧ w5.cell? ⟨N + 1, 1, none⟩ = some v) ∧ Hid (TwoF w5 N t s u v ∧ Below N w w5) := by
  have q := h.2.out.1.below hb
  exact ⟨⟨q.1.cell 0, q.1.cell 1, q.2.cell 0, q.2.cell 1⟩, ⟨q, h.2.out.2.trans (hb.mono (Nat.le_of_lt (lt_of_block h.2.out.1.1)))⟩⟩
theorem twof_b {w wr : World} {N : Nat} {t s : Int} {u v : Value} (hN : N = w.heap.size) (h : (wr.cell? ⟨N, 0, none⟩ = some (.int .i64 t) ∧ wr.cell? ⟨N, 1, none⟩ = some u ∧ wr.cell? ⟨N + 1, 0, none⟩ = some (.int .i64 s) ∧ wr.cell? ⟨N + 1, 1, none⟩ = some v) ∧ Hid (TwoF wr N t s u v ∧ Below N w wr)) : Below w.heap.size w wr := by
  rw [← hN]; exact h.2.out.2
theorem lsame_c (t : Int) (a b : Option Addr) (la ca lb cb : Nat) (xs : List Int) (w : World) (h1 : Seg .u8 w a la xs) (h2 : Seg .u8 w b lb xs) (hx : Bytes xs) :
    Calls Tryd.prog 16 #[.agg #[.int .i64 t, .slice a la ca], .agg #[.int .i64 t, .slice b lb cb]] w fun r w' => r = .returned (.bool true) ∧ Below w.heap.size w w' := by
  have H1 : Hid (Seg .u8 w a la xs) := h1
  have H2 : Hid (Seg .u8 w b lb xs) := h2
  have HX : Hid (Bytes xs) := hx
  clear h1 h2 hx
  go_enter Tryd.func16, Tryd.ntmps16
  go_wp2_with fail
  obtain ⟨N, hN⟩ : ∃ N, N = w.heap.size := ⟨_, rfl⟩
  rw [← hN]
  generalize hW0 : World.alloc (World.alloc w _) _ = W0
  have H0 : Hid (TwoF W0 N t t (.slice a la ca) (.slice b lb cb) ∧ Below N w W0) := by
    rw [← hW0, hN]
    have h2 := heap_new (w.alloc (.cells #[.int .i64 t, .slice a la ca] 42)) (.cells #[.int .i64 t, .slice b lb cb] 43)
    rw [World.size_alloc] at h2
    exact ⟨⟨Bk.below (T := 42) (heap_new w _) ((Below.refl _ _).alloc (Nat.le_refl _) _) (by simp), h2⟩, ((Below.refl _ _).alloc (Nat.le_refl _) _).alloc (by simp) _⟩
  have HNW : Hid (N = w.heap.size) := hN
  clear hW0 hN
  have k0 : ∀ wr, TwoF wr N t t (.slice a la ca) (.slice b lb cb) → wr.cell? ⟨N, 0, none⟩ = some (.int .i64 t) ∧ wr.cell? ⟨N, 1, none⟩ = some (.slice a la ca) ∧ wr.cell? ⟨N + 1, 0, none⟩ = some (.int .i64 t) ∧ wr.cell? ⟨N + 1, 1, none⟩ = some (.slice b lb cb) := fun wr h => ⟨h.1.cell 0, h.1.cell 1, h.2.cell 0, h.2.cell 1⟩
  replace k0 : Hid _ := k0
  have hS0 : (W0.cell? ⟨N, 0, none⟩ = some (.int .i64 t) ∧ W0.cell? ⟨N, 1, none⟩ = some (.slice a la ca) ∧ W0.cell? ⟨N + 1, 0, none⟩ = some (.int .i64 t) ∧ W0.cell? ⟨N + 1, 1, none⟩ = some (.slice b lb cb)) ∧ Hid (TwoF W0 N t t (.slice a la ca) (.slice b lb cb) ∧ Below N w W0) := ⟨k0.out _ H0.out.1, H0⟩
  have hSd : (W0.drew.cell? ⟨N, 0, none⟩ = some (.int .i64 t) ∧ W0.drew.cell? ⟨N, 1, none⟩ = some (.slice a la ca) ∧ W0.drew.cell? ⟨N + 1, 0, none⟩ = some (.int .i64 t) ∧ W0.drew.cell? ⟨N + 1, 1, none⟩ = some (.slice b lb cb)) ∧ Hid (TwoF W0.drew N t t (.slice a la ca) (.slice b lb cb) ∧ Below N w W0.drew) := ⟨k0.out _ H0.out.1, ⟨H0.out.1, H0.out.2.drew⟩⟩
  go_region_held3 (fun wr => (wr.cell? ⟨N, 0, none⟩ = some (.int .i64 t) ∧ wr.cell? ⟨N, 1, none⟩ = some (.slice a la ca) ∧ wr.cell? ⟨N + 1, 0, none⟩ = some (.int .i64 t) ∧ wr.cell? ⟨N + 1, 1, none⟩ = some (.slice b lb cb)) ∧ Hid (TwoF wr N t t (.slice a la ca) (.slice b lb cb) ∧ Below N w wr)) (assumption) (first
    | (go_at_call 42; refine (plain_c t a la ca _).mono ?_; rintro e w5 ⟨rfl, hb5⟩; have hS5 := twof_step (t := t) (s := t) (u := .slice a la ca) (v := .slice b lb cb) (w := w) (N := N) hb5 (by assumption))
    | (go_at_call 41; refine (gSame_t t a b la ca lb cb xs _ (H1.out.below (twof_b (t := t) (s := t) (u := .slice a la ca) (v := .slice b lb cb) HNW.out (by assumption))) (H2.out.below (twof_b (t := t) (s := t) (u := .slice a la ca) (v := .slice b lb cb) HNW.out (by assumption))) HX.out).mono ?_; rintro e w6 ⟨rfl, hb6⟩; have hS6 := twof_step (t := t) (s := t) (u := .slice a la ca) (v := .slice b lb cb) (w := w) (N := N) hb6 (by assumption)))
  go_wp2
  go_ret
  exact ⟨rfl, twof_b HNW.out hS6⟩

/-- A frame of the program's and one of the document's, in blocks of their own. -/
def FF (w : World) (N M : Nat) (t : Int) (u v : Value) : Prop := Bk 42 w N #[.int .i64 t, u] ∧ Bk 43 w M #[.int .i64 t, v]
theorem FF.cells {w N M t u v} (h : FF w N M t u v) : w.cell? ⟨N, 0, none⟩ = some (.int .i64 t) ∧ w.cell? ⟨N, 1, none⟩ = some u ∧ w.cell? ⟨M, 0, none⟩ = some (.int .i64 t) ∧ w.cell? ⟨M, 1, none⟩ = some v := ⟨h.1.cell 0, h.1.cell 1, h.2.cell 0, h.2.cell 1⟩
theorem FF.below {w w' N M t u v} (h : FF w N M t u v) (hb : Below w.heap.size w w') : FF w' N M t u v := ⟨h.1.below hb (lt_of_block h.1), h.2.below hb (lt_of_block h.2)⟩
theorem ff_step {w wr w5 : World} {N M : Nat} {t : Int} {u v : Value} (hb : Below wr.heap.size wr w5) (h : (wr.cell? ⟨N, 0, none⟩ = some (.int .i64 t) ∧ wr.cell? ⟨N, 1, none⟩ = some u ∧ wr.cell? ⟨M, 0, none⟩ = some (.int .i64 t) ∧ wr.cell? ⟨M, 1, none⟩ = some v) ∧ Hid (FF wr N M t u v ∧ Below w.heap.size w wr)) :
    (w5.cell? ⟨N, 0, none⟩ = some (.int .i64 t) ∧ w5.cell? ⟨N, 1, none⟩ = some u ∧ w5.cell? ⟨M, 0, none⟩ = some (.int .i64 t) ∧ w5.cell? ⟨M, 1, none⟩ = some v) ∧ Hid (FF w5 N M t u v ∧ Below w.heap.size w w5) := by
  have q := h.2.out.1.below hb
  exact ⟨q.cells, ⟨q, h.2.out.2.trans (hb.mono h.2.out.2.size)⟩⟩
theorem ff_b {w w0 wr : World} {N M : Nat} {t : Int} {u v : Value} (h0 : Below w.heap.size w w0) (h : (wr.cell? ⟨N, 0, none⟩ = some (.int .i64 t) ∧ wr.cell? ⟨N, 1, none⟩ = some u ∧ wr.cell? ⟨M, 0, none⟩ = some (.int .i64 t) ∧ wr.cell? ⟨M, 1, none⟩ = some v) ∧ Hid (FF wr N M t u v ∧ Below w0.heap.size w0 wr)) : Below w0.heap.size w0 wr := h.2.out.2
end Go.Proofs.YtegbgmihcokblaaDoor
