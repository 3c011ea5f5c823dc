/-
  What the library's sort makes of a list of numbers of one's own: the same ones, rising; such a list without neighbours that are alike; which buckets the ranges of some buckets meet. Condition: fewer than 2^62.
-/
import Derived.Test.YtdjcokepeifojaaNSs
import Derived.Test.YtdjcokepeifojaaNTo
import Derived.Sort.OwnSortedInts
namespace Go.Proofs.Ytdjcokepeifojaa
set_option linter.unusedVariables false
open Go.RowKit Go.Sort

/-- Numbers that rise, some more than once. -/
def SrtI (ls : List Int) : Prop := ls.Pairwise fun x y => x ≤ y
set_option maxHeartbeats 1000000 in
theorem sortI_c (B g cap : Nat) (ls : List Int) (w : World) (h : w.ownsRow B 3 1 (.slice (some ⟨g, 0, none⟩) ls.length cap) ls.length (i64s ls)) (hl : ls.length < 4611686018427387904) :
    Calls Try.prog 8 #[.slice (some ⟨g, 0, none⟩) ls.length cap] w fun e w' => e = .returned (.tuple #[]) ∧ ∃ ls', ls.Perm ls' ∧ SrtI ls' ∧ w'.ownsRow B 3 1 (.slice (some ⟨g, 0, none⟩) ls.length cap) ls.length (i64s ls') ∧ w.grownBy w' (some g) := by
  rcases h.2 with ⟨h0, _⟩ | ⟨g', cap', cur, h0, hB, hg, h1, h2, h3, h4⟩
  · cases h0
  simp only [Value.slice.injEq, Option.some.injEq, Addr.mk.injEq, and_true, true_and] at h0
  obtain ⟨rfl, rfl⟩ := h0
  have hH : Holds (Value.int .i64) w g 0 ls.toArray := holds_of_blockI hg (by simpa [i64s] using h4)
  have hcon := AnyM.slices_Sort_int Try.sortI g 0 cap ls w hH (Array.getElem?_eq_some_iff.1 hg).1 (by omega)
  change Calls Try.prog 20 _ _ _ at hcon
  have HC : Hid _ := hcon
  have HG : Hid (w.heap[g]? = some (.cells cur 3 (0, 0)) ∧ B ≤ g ∧ ls.length ≤ cap ∧ cap ≤ maxLen ∧ cur.size = cap * 1) := ⟨hg, hB, h1, h2, h3⟩
  obtain ⟨n, hn⟩ : ∃ n, n = ls.length := ⟨_, rfl⟩
  rw [← hn] at HC HG ⊢
  have HN : Hid (n = ls.length) := hn
  clear hcon h hH hn h1 h2 h3 h4 hg hB hl
  go_enter Try.func8, Try.ntmps8
  go_wp2_with (first
    | (go_at_call 20; go_must (refine (Calls.mono HC.out ?_)); rintro e w1 ⟨rfl, q, os, hw⟩; have HW : Hid (w1 = grow (putRow (Value.int .i64) (Sort.ahead w q) g 0 (ls.mergeSort fun x y => decide (x ≤ y)).toArray) os) := hw; clear hw))
  go_end0
  obtain ⟨k2, k3, k4, k5, k6⟩ := HG.out
  have hw := HW.out
  have hp : (ls.mergeSort fun x y => decide (x ≤ y)).Perm ls := List.mergeSort_perm _ _
  refine ⟨rfl, ls.mergeSort fun x y => decide (x ≤ y), hp.symm, ?_, ?_, ?_⟩
  · have hs := List.pairwise_mergeSort (le := fun x y : Int => decide (x ≤ y)) (fun a b c h1 h2 => by
      simp only [decide_eq_true_eq] at h1 h2 ⊢
      omega) (fun a b => by
      simp only [Bool.or_eq_true, decide_eq_true_eq]
      omega) ls
    exact hs.imp fun {a b} h => by simpa using h
  · have := ownsRow_sortedI (w := w) (n := q) (os := os) (ss := ls) (ts := ls.mergeSort fun x y => decide (x ≤ y)) hp.length_eq k3 k2 (by have := HN.out; omega) k5 k6
    rw [← HN.out] at this
    rw [hw]; exact this
  · rw [hw]; exact grownBy_sortedI _
theorem sortIn_c (w : World) : Calls Try.prog 8 #[.slice none 0 0] w fun e w' => e = .returned (.tuple #[]) ∧ w' = w := by
  have hcon := AnyM.slices_Sort_int_none Try.sortI none 0 w
  change Calls Try.prog 20 _ _ _ at hcon
  have HC : Hid _ := hcon
  clear hcon
  go_enter Try.func8, Try.ntmps8
  go_wp2_with (first
    | (go_at_call 20; go_must (refine (Calls.mono HC.out ?_)); rintro e w1 ⟨rfl, hw⟩; obtain rfl := hw.symm))
  go_end0
  exact ⟨rfl, rfl⟩
/-- The same, of whatever row of one's own. -/
theorem sortIv_c (B : Nat) (v : Value) (ls : List Int) (w : World) (h : w.ownsRow B 3 1 v ls.length (i64s ls)) (hl : ls.length < 4611686018427387904) :
    Calls Try.prog 8 #[v] w fun e w' => e = .returned (.tuple #[]) ∧ ∃ ls', ls.Perm ls' ∧ SrtI ls' ∧ w'.ownsRow B 3 1 v ls.length (i64s ls') ∧ w.grownBy w' v.ownBlock := by
  rcases h.2 with ⟨rfl, h0⟩ | ⟨g, cap, cur, rfl, r⟩
  · have : ls = [] := List.eq_nil_of_length_eq_zero h0
    subst this
    exact (sortIn_c w).mono fun e w' ⟨h1, h2⟩ => ⟨h1, [], .nil, .nil, by rw [h2]; exact h, by rw [h2]; exact gb_wide (gb_refl _) _⟩
  · exact sortI_c B g cap ls w h hl
/-- A list of numbers without the neighbours that are alike. -/
structure WI (ls : List Int) (k : Nat) (ms : List Int) : Prop where
  ris : ms.Pairwise fun x y => x < y
  mem : ∀ x, x ∈ ms ↔ x ∈ ls.take k
  le : ∀ x ∈ ms, ∀ j, k ≤ j + 1 → j < ls.length → x ≤ ls.getD j 0
  len : ms.length ≤ k
theorem srti_le {ls : List Int} (h : SrtI ls) {i j : Nat} (hij : i ≤ j) (hj : j < ls.length) : ls.getD i 0 ≤ ls.getD j 0 := by
  rcases Nat.lt_or_eq_of_le hij with h1 | rfl
  · have := (List.pairwise_iff_getElem.1 h) i j (by omega) hj h1
    simpa [hj, show i < ls.length by omega] using this
  · omega
theorem takeI_mem {ls : List Int} {k : Nat} (h : k < ls.length) (x : Int) : x ∈ ls.take (k + 1) ↔ x ∈ ls.take k ∨ x = ls.getD k 0 := by
  rw [List.take_succ_eq_append_getElem h]
  have : ls[k] = ls.getD k 0 := by simp [h]
  simp [this]
theorem wi_none (ls : List Int) : WI ls 0 [] := ⟨.nil, fun x => by simp, (fun x h => by cases h), Nat.le_refl _⟩
theorem wi_skip {ls : List Int} (hs : SrtI ls) {k : Nat} {ms : List Int} (h : WI ls k ms) (hk : k < ls.length) (h0 : 0 < k) (e : ls.getD k 0 = ls.getD (k - 1) 0) : WI ls (k + 1) ms := by
  refine ⟨h.ris, fun x => ?_, fun x hx j h1 h2 => h.le x hx j (by omega) h2, Nat.le_succ_of_le h.len⟩
  rw [h.mem, takeI_mem hk]
  constructor
  · exact .inl
  · rintro (h1 | rfl)
    · exact h1
    · rw [e]
      have := (takeI_mem (ls := ls) (k := k - 1) (by omega) (ls.getD (k - 1) 0)).2 (.inr rfl)
      rwa [show k - 1 + 1 = k by omega] at this
theorem wi_more {ls : List Int} (hs : SrtI ls) {k : Nat} {ms : List Int} (h : WI ls k ms) (hk : k < ls.length) (e : k = 0 ∨ ls.getD k 0 ≠ ls.getD (k - 1) 0) : WI ls (k + 1) (ms ++ [ls.getD k 0]) := by
  have hlt : ∀ x ∈ ms, x < ls.getD k 0 := fun x hx => by
    rcases e with rfl | e
    · have := (h.mem x).1 hx; simp at this
    · have h0 : 0 < k := by
        rcases Nat.eq_zero_or_pos k with rfl | h1
        · have := (h.mem x).1 hx; simp at this
        · exact h1
      have h1 := h.le x hx (k - 1) (by omega) (by omega)
      have h2 := srti_le hs (i := k - 1) (j := k) (by omega) hk
      omega
  refine ⟨?_, fun x => ?_, fun x hx j h1 h2 => ?_, by rw [List.length_append]; exact Nat.succ_le_succ h.len⟩
  · rw [List.pairwise_append]
    exact ⟨h.ris, by simp, fun x hx y hy => by simp only [List.mem_singleton] at hy; subst hy; exact hlt x hx⟩
  · rw [List.mem_append, h.mem, takeI_mem hk]; simp
  · rcases List.mem_append.1 hx with hx | hx
    · exact h.le x hx j (by omega) h2
    · simp only [List.mem_singleton] at hx; subst hx
      exact srti_le hs (by omega) h2
/-- Two lists that rise and have the same members are the same. -/
theorem pw_uniq : ∀ {A B : List Int}, A.Pairwise (fun x y => x < y) → B.Pairwise (fun x y => x < y) → (∀ x, x ∈ A ↔ x ∈ B) → A = B
  | [], [], _, _, _ => rfl
  | [], b :: B, _, _, h => by have := (h b).2 (by simp); simp at this
  | a :: A, [], _, _, h => by have := (h a).1 (by simp); simp at this
  | a :: A, b :: B, hA, hB, h => by
    rw [List.pairwise_cons] at hA hB
    have e : a = b := by
      rcases List.mem_cons.1 ((h a).1 (by simp)) with e | e
      · exact e
      · rcases List.mem_cons.1 ((h b).2 (by simp)) with e2 | e2
        · exact e2.symm
        · have := hB.1 a e; have := hA.1 b e2; omega
    subst e
    rw [pw_uniq hA.2 hB.2 fun x => by
      constructor
      · intro hx
        rcases List.mem_cons.1 ((h x).1 (by simp [hx])) with e | e
        · subst e; have := hA.1 x hx; omega
        · exact e
      · intro hx
        rcases List.mem_cons.1 ((h x).2 (by simp [hx])) with e | e
        · subst e; have := hB.1 x hx; omega
        · exact e]
theorem mt_ris (D : Nat) (A : List Rg) (n : Nat) : (mt D A n).Pairwise fun x y => x < y := by
  unfold mt
  rw [List.pairwise_map]
  refine (List.Pairwise.filter _ (List.pairwise_lt_range (n := n))).imp fun {a b} h => by omega
theorem mt_mem (D : Nat) (A : List Rg) (n : Nat) (x : Int) : x ∈ mt D A n ↔ ∃ b : Nat, b < n ∧ tch (ofR D (b : Int)) A = true ∧ x = (b : Int) := by
  unfold mt
  simp only [List.mem_map, List.mem_filter, List.mem_range]
  constructor
  · rintro ⟨b, ⟨h1, h2⟩, rfl⟩; exact ⟨b, h1, h2, rfl⟩
  · rintro ⟨b, h1, h2, rfl⟩; exact ⟨b, ⟨h1, h2⟩, rfl⟩
/-- The buckets that the ranges of some buckets meet are these. -/
theorem mt_back {D n : Nat} (h1 : 1 ≤ D) (h3 : D ≤ 3) (hn : nbk D = (n : Int)) {R : List Rg} {X : List Int} (hX : ∀ x ∈ X, 0 ≤ x ∧ x < (n : Int)) (hR : ∀ t, lHas R t = decide (bkt t D ∈ X)) (x : Int) : x ∈ mt D R n ↔ x ∈ X := by
  rw [mt_mem]
  constructor
  · rintro ⟨b, hb, ht, rfl⟩
    obtain ⟨t, k1, k2⟩ := tch_iff.1 ht
    rw [of_has D h1 h3 t (b : Int) ⟨by omega, by omega⟩] at k1
    rw [hR] at k2
    have e : bkt t D = (b : Int) := by simpa using k1
    rw [e] at k2; simpa using k2
  · intro hx
    obtain ⟨k1, k2⟩ := hX x hx
    refine ⟨x.toNat, by omega, ?_, by omega⟩
    have ex : ((x.toNat : Nat) : Int) = x := by omega
    rw [ex]
    have hf := rHas_from (of_some D h1 h3 x ⟨k1, by omega⟩)
    refine tch_iff.2 ⟨_, hf, ?_⟩
    rw [hR]
    have := of_has D h1 h3 (ofR D x).1 x ⟨k1, by omega⟩
    rw [hf] at this
    have e : bkt (ofR D x).1 D = x := by simpa using this.symm
    rw [e]; simpa using hx
end Go.Proofs.Ytdjcokepeifojaa
