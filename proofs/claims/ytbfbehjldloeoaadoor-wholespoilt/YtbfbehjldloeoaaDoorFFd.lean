/-
  What Splitter.Feed answers. Condition: the table of package crc lies in memory; at most 2^38 bytes at once, which lie outside of the Splitter's own memory.
-/
import Derived.Test.YtbfbehjldloeoaaDoorFFe
namespace Go.Proofs.YtbfbehjldloeoaaDoor
set_option linter.unusedVariables false
open Go.RowKit Go.Shelf
attribute [local go_sem] Oper.semAt_some

set_option maxHeartbeats 1000000 in
theorem chunk_c (a : Option Addr) (len cap : Nat) (w : World) : Calls Tryd.prog 16 #[.slice a len cap, .int .i64 65536] w fun r w' => r = .returned (.func (.func 31) #[] #[.pointer (some ⟨w.heap.size, 0, none⟩), .pointer (some ⟨w.heap.size + 1, 0, none⟩)]) ∧
    w'.heap[w.heap.size]? = some (.cells #[.slice a len cap] 22 (0, 0)) ∧ w'.heap[w.heap.size + 1]? = some (.cells #[.int .i64 65536] 3 (0, 0)) ∧ w.grownBy w' none ∧ w'.heap.size = w.heap.size + 2 := by
  go_enter Tryd.func16, Tryd.ntmps16
  go_wp2
  go_ret
  refine ⟨rfl, ?_, ?_, (World.grownBy_alloc w _ none).trans (World.grownBy_alloc _ _ none), by simp⟩
  · exact (Below.heap_alloc _ _ _ (by simp)).trans (heap_new w _)
  · have := heap_new (w.alloc (.cells #[.slice a len cap] 22)) (.cells #[.int .i64 65536] 3)
    rw [World.size_alloc] at this
    exact this
/-- The k-th piece. -/
def ckB (bs : List Int) (k : Nat) : List Int := (bs.drop (65536 * k)).take 65536
theorem ck_seg {w : World} {a : Option Addr} {len : Nat} {bs : List Int} (h : Seg .u8 w a len bs) (k : Nat) (hk : 65536 * k < len) : Seg .u8 w (cutB a (65536 * k + ckE len k) (65536 * k)) (ckE len k) (ckB bs k) := by
  have hE : ckE len k ≤ len - 65536 * k := Nat.min_le_right _ _
  have h1 := seg_cutB h (65536 * k) (65536 * k + ckE len k) (by omega) (by omega) (Nat.le_refl _)
  rw [show 65536 * k + ckE len k - 65536 * k = ckE len k from by omega, drop_take_app] at h1
  have hl := h.1
  have e1 : (bs.drop (65536 * k)).take (ckE len k) = ckB bs k := by
    unfold ckB ckE
    rw [← hl, ← List.length_drop, Nat.min_comm]
    rcases Nat.le_total (bs.drop (65536 * k)).length 65536 with z | z
    · rw [Nat.min_eq_left z, List.take_of_length_le (Nat.le_refl _), List.take_of_length_le z]
    · rw [Nat.min_eq_right z]
  rw [e1] at h1
  refine ⟨h1.1, ?_⟩
  rcases h1.2 with z | ⟨b, off, hb, z⟩
  · exact .inl z
  · have hne : ¬ (65536 * k + ckE len k = 65536 * k) := fun e => by
      have : ckE len k = 0 := by omega
      unfold ckE at this
      omega
    refine .inr ⟨b, off, ?_, z⟩
    unfold cutB at hb ⊢
    rw [if_neg hne]
    by_cases hlk : len = 65536 * k
    · omega
    · rw [if_neg hlk] at hb; exact hb
theorem ck_take (bs : List Int) (k : Nat) : bs.take (65536 * (k + 1)) = bs.take (65536 * k) ++ ckB bs k := by
  unfold ckB
  rw [Nat.mul_succ, List.take_add]
theorem lost_le (most : Nat) (e : Bool) : ∀ n (ys : List Int), ys.length ≤ n → (fseen most e ys).lost ≤ (fseen most e ys).junk := by
  intro n
  induction n with
  | zero =>
    intro ys h
    obtain rfl : ys = [] := List.eq_nil_of_length_eq_zero (by omega)
    rw [fseen_nil]; exact Nat.le_refl _
  | succ n ih =>
    intro ys h
    by_cases h0 : ys = []
    · subst h0; rw [fseen_nil]; exact Nat.le_refl _
    have hp : 0 < ys.length := List.length_pos_iff.2 h0
    have i1 := ih (ys.drop 1) (by rw [List.length_drop]; omega)
    have i2 := ih (ys.drop (flen ys + 14)) (by rw [List.length_drop]; omega)
    rw [fseen_step most e ys h0]
    split
    · simp only [Seen.add]; omega
    · split
      · simp
      · split
        · simp only [Seen.add]; omega
        · simp only [Seen.add]; omega
/-- How far Feed has come: what is seen of zs. -/
def FI (most : Nat) (zs : List Int) (j l : Nat) (Gi : Nat → Prop) (S : Nat) (W : World) : Prop :=
  ∃ fv L, L.map FrM.fr = (fseen most false zs).frames ∧ SS Gi W S 2097180 (fseen most false zs).rest most (j + (fseen most false zs).junk) (l + (fseen most false zs).lost) fv L
theorem fi_start {most : Nat} {ys : List Int} {j l : Nat} {Gi : Nat → Prop} {S : Nat} {W : World} (h : SS Gi W S 2097180 ys most j l (.slice none 0 0) []) (hi : Idle most ys) : FI most ys j l Gi S W := by
  unfold FI
  rw [show fseen most false ys = ⟨[], 0, 0, ys⟩ from hi]
  exact ⟨_, [], rfl, h⟩
/-- One piece more. -/
theorem fi_next {most : Nat} {zs cs : List Int} {j l : Nat} {Gi : Nat → Prop} {S : Nat} {W : World} {fv' : Value} {L L' : List FrM} (h1 : L.map FrM.fr = (fseen most false zs).frames) (h2 : SeenOf L L' (fseen most false ((fseen most false zs).rest ++ cs)))
    (h3 : SS Gi W S (2 * (fseen most false ((fseen most false zs).rest ++ cs)).rest.length) (fseen most false ((fseen most false zs).rest ++ cs)).rest most (j + (fseen most false zs).junk + (fseen most false ((fseen most false zs).rest ++ cs)).junk) (l + (fseen most false zs).lost + (fseen most false ((fseen most false zs).rest ++ cs)).lost) fv' L') (hm : most ≤ 1048576) : FI most (zs ++ cs) j l Gi S W := by
  have e := fseen_app most _ zs (Nat.le_refl _) cs
  unfold FI
  rw [e]
  generalize fseen most false zs = s at *
  have hw := fseen_waits most _ (s.rest ++ cs) (Nat.le_refl _)
  generalize fseen most false (s.rest ++ cs) = t at *
  obtain ⟨D, rfl, h5⟩ := h2
  refine ⟨fv', L ++ D, ?_, ?_⟩
  · rw [List.map_append, h1, h5]; rfl
  · show SS Gi W S 2097180 t.rest most (j + (s.junk + t.junk)) (l + (s.lost + t.lost)) fv' (L ++ D)
    rw [← Nat.add_assoc, ← Nat.add_assoc]
    obtain ⟨T, v, xs, a, O, F, u, M, q1, q2, q3⟩ := h3
    exact ⟨T, v, xs, a, O, F, u, M, q1, q2, by omega⟩
theorem fi_own {most : Nat} {zs : List Int} {j l : Nat} {Gi : Nat → Prop} {S : Nat} {W W' : World} {row : Option Nat} (h : FI most zs j l Gi S W) (hg : W.grownBy W' row) (hr : ∀ r, row = some r → ∃ o : Obj, W.heap[r]? = some o ∧ o.isCells = false) : FI most zs j l Gi S W' := by
  obtain ⟨fv, L, h1, h2⟩ := h
  obtain ⟨Q, q1, q2, q3⟩ := h2.tight
  refine ⟨fv, L, h1, (q1.gr (Gr.of (G := fun k => row = some k) hg (fun k hk => .inl hk)) (fun k hk e => ?_)).weak (fun k _ hk => (q2 k hk).1)⟩
  obtain ⟨o, ho, hc⟩ := q3 k hk
  obtain ⟨o', ho', hc'⟩ := hr k e
  rw [ho] at ho'
  cases ho'
  rw [hc] at hc'
  cases hc'
theorem fi_len {most : Nat} {zs : List Int} (L : List FrM) (h : L.map FrM.fr = (fseen most false zs).frames) : L.length ≤ zs.length ∧ (fseen most false zs).junk ≤ zs.length ∧ (fseen most false zs).lost ≤ zs.length := by
  obtain ⟨s, hs⟩ : ∃ s, s = fseen most false zs := ⟨_, rfl⟩
  have q := fseen_all most false _ zs (Nat.le_refl _)
  have q4 : L.length ≤ (s.frames.map (fun f => f.2.length + 14)).sum := by
    rw [hs, ← h]
    clear hs q h s
    induction L with
    | nil => simp
    | cons f D ih => simp only [List.map_cons, List.sum_cons, List.length_cons] at ih ⊢; omega
  have q5 : s.lost ≤ s.junk := by
    rw [hs]
    exact lost_le most false _ _ (Nat.le_refl _)
  rw [← hs] at q ⊢
  omega
/-- The pieces that came. -/
def ckP (bs : List Int) (pre : List Nat) : List Int := (pre.map (ckB bs)).flatten
theorem ckP_snoc (bs : List Int) (pre : List Nat) (k : Nat) : ckP bs (pre ++ [k]) = ckP bs pre ++ ckB bs k := by unfold ckP; rw [List.map_append, List.flatten_append]; simp
theorem ckP_len (bs : List Int) (pre : List Nat) : (ckP bs pre).length ≤ 65536 * pre.length := by
  induction pre with
  | nil => simp [ckP]
  | cons k pre ih =>
    have h1 : ckP bs (k :: pre) = ckB bs k ++ ckP bs pre := rfl
    have h2 : (ckB bs k).length ≤ 65536 := by unfold ckB; rw [List.length_take]; exact Nat.min_le_left _ _
    rw [h1, List.length_append, List.length_cons]
    omega
theorem ckP_all (bs : List Int) : ckP bs (List.range (ckN bs.length)) = bs := by
  have h : ∀ n, ckP bs (List.range n) = bs.take (65536 * n) := by
    intro n
    induction n with
    | zero => simp [ckP]
    | succ n ih => rw [List.range_succ, ckP_snoc, ih, ck_take]
  rw [h]
  apply List.take_of_length_le
  unfold ckN
  omega
theorem ckB_bytes {bs : List Int} (h : Bytes bs) (k : Nat) : Bytes (ckB bs k) := (h.drop _).take _
end Go.Proofs.YtbfbehjldloeoaaDoor
