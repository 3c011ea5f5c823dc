/-
  One step more of a disk's steps, as plain data: what it changes. No condition of its own.
-/
import Derived.Test.YteoohgjoffpmkaaKTw
import Derived.Test.YteoohgjoffpmkaaKHa
namespace Go.Proofs.Yteoohgjoffpmkaa
open Go.RowKit
set_option linter.unusedVariables false

/-- How many files there are. -/
def Len (F : ByteArray → Option (List Int)) (n : Nat) : Prop := ∃ L, Enum F L ∧ L.length = n
theorem Len.uniq {F n m} (h : Len F n) (k : Len F m) : n = m := by
  obtain ⟨L, hL, rfl⟩ := h
  obtain ⟨M, hM, rfl⟩ := k
  exact (hL.perm hM).length_eq
theorem Len.add {F n} (h : Len F n) (s : ByteArray) (xs : List Int) (hs : F s = none) : Len (fset F s (some xs)) (n + 1) := by
  obtain ⟨L, hL, rfl⟩ := h
  exact ⟨_, enum_snoc hL s xs hs, by simp⟩
theorem Len.del {F n} (h : Len F n) (s : ByteArray) (xs : List Int) (hs : F s = some xs) : 1 ≤ n ∧ Len (fset F s none) (n - 1) := by
  obtain ⟨L, ⟨h1, h2⟩, rfl⟩ := h
  have hm := (h2 s xs).1 hs
  obtain ⟨A, B, rfl⟩ := List.append_of_mem hm
  refine ⟨by simp; omega, A ++ B, ⟨?_, ?_⟩, by simp⟩
  · exact h1.sublist ((List.Sublist.append (List.Sublist.refl A) (List.sublist_cons_self _ B)).map _)
  · intro t ys
    have hn : ∀ zs, (s, zs) ∉ A ++ B := by
      intro zs hz
      rw [List.map_append, List.map_cons, List.nodup_append] at h1
      rcases List.mem_append.1 hz with hz | hz
      · exact h1.2.2 s (List.mem_map.2 ⟨_, hz, rfl⟩) s (List.mem_cons_self ..) rfl
      · exact (List.nodup_cons.1 h1.2.1).1 (List.mem_map.2 ⟨_, hz, rfl⟩)
    by_cases ht : t = s
    · subst ht
      rw [fset_same]
      exact ⟨fun q => (by cases q), fun q => absurd q (hn ys)⟩
    · rw [fset_other _ _ _ _ ht, h2 t ys]
      simp only [List.mem_append, List.mem_cons]
      constructor
      · rintro (q | q | q)
        · exact .inl q
        · cases q; exact absurd rfl ht
        · exact .inr q
      · rintro (q | q)
        · exact .inl q
        · exact .inr (.inr q)
theorem Len.set {F n} (h : Len F n) (s : ByteArray) (xs ys : List Int) (hs : F s = some xs) : Len (fset F s (some ys)) n := by
  obtain ⟨h1, h2⟩ := h.del s xs hs
  have h3 := h2.add s ys (fset_same _ _ _)
  rw [fset_fset] at h3
  rwa [Nat.sub_add_cancel h1] at h3
/-- One change. -/
def Stp1 (F F' : ByteArray → Option (List Int)) : Prop := (∃ s t, ∀ u, u ≠ s → u ≠ t → F' u = F u) ∧ ∀ n, Len F n → ∃ m, Len F' m ∧ m ≤ n + 1 ∧ n ≤ m + 1
theorem stp1_refl (F : ByteArray → Option (List Int)) : Stp1 F F := ⟨⟨.empty, .empty, fun _ _ _ => rfl⟩, fun n h => ⟨n, h, by omega, by omega⟩⟩
theorem stp1_set {F : ByteArray → Option (List Int)} {s : ByteArray} {X A : List Int} (hs : F s = some X) : Stp1 F (fset F s (some A)) :=
  ⟨⟨s, s, fun u h _ => fset_other _ _ _ _ h⟩, fun n h => ⟨n, h.set s X A hs, by omega, by omega⟩⟩
theorem stp1_sets {F : ByteArray → Option (List Int)} {s : ByteArray} {X A B : List Int} (hs : F s = some X) : Stp1 (fset F s (some A)) (fset F s (some B)) := by
  have h := stp1_set (A := B) (fset_same F s (some A))
  rwa [fset_fset] at h
theorem stp1_do {F : ByteArray → Option (List Int)} {p : Stp} (h : sok F p) : Stp1 F (sdo F p 1) := by
  obtain ⟨h1, h2, k1, k2, k3, k4, k5⟩ := h
  unfold sdo
  split
  · rename_i e
    exact ⟨⟨p.s, p.s, fun u h _ => fset_other _ _ _ _ h⟩, fun n h => ⟨n + 1, h.add p.s [] (k1 e), by omega, by omega⟩⟩
  split
  · rename_i e
    cases hs : F p.s with
    | none => exact absurd hs (k2 e).1
    | some X => exact stp1_set hs
  split
  · rename_i e
    obtain ⟨X, hs, _⟩ := k3 e
    exact stp1_set hs
  split
  · rename_i e
    cases hs : F p.s with
    | none => exact absurd hs (k4 e)
    | some X =>
      refine ⟨⟨p.s, p.t, fun u h1 h2 => by rw [fset_other _ _ _ _ h2, fset_other _ _ _ _ h1]⟩, fun n h => ?_⟩
      obtain ⟨q1, q2⟩ := h.del p.s X hs
      cases ht : fset F p.s none p.t with
      | none => exact ⟨n - 1 + 1, q2.add p.t _ ht, by omega, by omega⟩
      | some Y => exact ⟨n - 1, q2.set p.t Y _ ht, by omega, by omega⟩
  · have e : p.kind = 5 := by omega
    cases hs : F p.s with
    | none => exact absurd hs (k5 e)
    | some X =>
      refine ⟨⟨p.s, p.s, fun u h _ => fset_other _ _ _ _ h⟩, fun n h => ?_⟩
      obtain ⟨q1, q2⟩ := h.del p.s X hs
      exact ⟨n - 1, q2, by omega, by omega⟩
theorem stp1_more {F : ByteArray → Option (List Int)} {p : Stp} (h : sok F p) (k : Nat) (hk : k < scnt p) (hk1 : 1 ≤ k) : Stp1 (sdo F p k) (sdo F p (k + 1)) := by
  obtain ⟨h1, h2, k1, k2, k3, k4, k5⟩ := h
  have e : p.kind = 2 := by
    unfold scnt at hk
    split at hk
    · assumption
    · omega
  have e1 : ∀ j, sdo F p j = fset F p.s (some ((F p.s).getD [] ++ p.xs.take j)) := fun j => by
    unfold sdo
    rw [if_neg (by omega), if_pos e]
  rw [e1, e1]
  cases hs : F p.s with
  | none => exact absurd hs (k2 e).1
  | some X => exact stp1_sets hs
theorem stp1_first (L : List Stp) : ∀ (F : ByteArray → Option (List Int)) (k : Nat), soks F L → Stp1 (sfirst F L k) (sfirst F L (k + 1)) := by
  induction L with
  | nil => intro F k _; exact stp1_refl F
  | cons p L ih =>
    intro F k h
    have hc := sok_cnt h.1
    have e1 : ∀ j, 0 < j → sfirst F (p :: L) j = sfirst (sdo F p j) L (j - scnt p) := fun j hj => sfirst_cons F p L j hj
    rw [e1 (k + 1) (by omega)]
    by_cases h0 : k = 0
    · subst h0
      rw [sfirst_zero, show 0 + 1 - scnt p = 0 from by omega, sfirst_zero]
      exact stp1_do h.1
    · rw [e1 k (by omega)]
      by_cases hk : k < scnt p
      · rw [show k - scnt p = 0 from by omega, show k + 1 - scnt p = 0 from by omega, sfirst_zero, sfirst_zero]
        exact stp1_more h.1 k hk (by omega)
      · rw [sdo_more F p k (by omega), sdo_more F p (k + 1) (by omega), show k + 1 - scnt p = (k - scnt p) + 1 from by omega]
        exact ih _ _ h.2
theorem two_le {α : Type} {l : List α} {s t : α} (hn : l.Nodup) (h : ∀ y ∈ l, y = s ∨ y = t) : l.length ≤ 2 := by
  match l, hn, h with
  | [], _, _ => simp
  | [a], _, _ => simp
  | [a, b], _, _ => simp
  | a :: b :: c :: r, hn, h =>
    exfalso
    simp only [List.nodup_cons, List.mem_cons, not_or] at hn
    obtain ⟨⟨h1, h2, _⟩, ⟨h3, _⟩, _⟩ := hn
    have ha := h a (by simp)
    have hb := h b (by simp)
    have hc := h c (by simp)
    rcases ha with rfl | rfl
    · rcases hb with rfl | rfl
      · exact h1 rfl
      · rcases hc with rfl | rfl
        · exact h2 rfl
        · exact h3 rfl
    · rcases hb with rfl | rfl
      · rcases hc with rfl | rfl
        · exact h3 rfl
        · exact h2 rfl
      · exact h1 rfl
/-- Few files part. -/
theorem few_part {F F' : ByteArray → Option (List Int)} {A B : List (ByteArray × List Int)} {s t : ByteArray} (hA : Enum F A) (hB : Enum F' B) (h : ∀ u, u ≠ s → u ≠ t → F' u = F u) (Q : List (ByteArray × List Int)) (hQ : Q.Sublist A) (hn : ∀ x ∈ Q, x ∉ B) : Q.length ≤ 2 := by
  have hk : ∀ x ∈ Q, x.1 = s ∨ x.1 = t := by
    intro x hx
    by_cases h1 : x.1 = s
    · exact .inl h1
    by_cases h2 : x.1 = t
    · exact .inr h2
    exfalso
    have h3 := (hA.2 x.1 x.2).2 (hQ.subset hx)
    rw [← h x.1 h1 h2] at h3
    exact hn x hx ((hB.2 x.1 x.2).1 h3)
  have hnd : (Q.map (·.1)).Nodup := hA.1.sublist (hQ.map _)
  have hsub : ∀ y ∈ Q.map (·.1), y ∈ [s, t] := by
    intro y hy
    obtain ⟨x, hx, rfl⟩ := List.mem_map.1 hy
    rcases hk x hx with e | e <;> rw [e] <;> simp
  have hle := two_le hnd (fun y hy => by simpa using hsub y hy)
  rwa [List.length_map] at hle
theorem few_both {F F' : ByteArray → Option (List Int)} {A B : List (ByteArray × List Int)} (hA : Lst F A) (hB : Lst F' B) (h : Stp1 F F') : (∀ Q : List (ByteArray × List Int), Q.Sublist A → (∀ x ∈ Q, x ∉ B) → Q.length ≤ 2) ∧ (∀ Q : List (ByteArray × List Int), Q.Sublist B → (∀ x ∈ Q, x ∉ A) → Q.length ≤ 2) ∧ B.length ≤ A.length + 1 ∧ A.length ≤ B.length + 1 := by
  obtain ⟨⟨s, t, hst⟩, hl⟩ := h
  obtain ⟨m, h1, h2, h3⟩ := hl A.length ⟨A, hA.1, rfl⟩
  have e : m = B.length := h1.uniq ⟨B, hB.1, rfl⟩
  subst e
  exact ⟨fun Q q1 q2 => few_part hA.1 hB.1 hst Q q1 q2, fun Q q1 q2 => few_part hB.1 hA.1 (fun u a b => (hst u a b).symm) Q q1 q2, h2, h3⟩
/-- The first four steps. -/
theorem first_at (L : List Stp) (k : Nat) (hk : k ≤ 3) : sfirst (fun _ => none) (⟨1, fst_, fst_, [], 0⟩ :: ⟨2, fst_, fst_, one_, 0⟩ :: L) (k + 1) fst_ = some (one_.take k) := by
  rw [sfirst_cons _ _ _ _ (by omega)]
  have e0 : scnt ⟨1, fst_, fst_, [], 0⟩ = 1 := rfl
  have e2 : sdo (fun _ => none) ⟨1, fst_, fst_, [], 0⟩ (k + 1) = fset (fun _ => none) fst_ (some []) := rfl
  rw [e0, e2, Nat.add_sub_cancel]
  by_cases h0 : k = 0
  · subst h0
    rw [sfirst_zero, fset_same]; rfl
  · rw [sfirst_cons _ _ _ _ (by omega)]
    have e3 : scnt ⟨2, fst_, fst_, one_, 0⟩ = 3 := rfl
    rw [e3, show k - 3 = 0 from by omega, sfirst_zero]
    unfold sdo
    rw [if_neg (by decide), if_pos rfl]
    simp only
    rw [fset_same, fset_same]
    rfl
theorem first_new {F : ByteArray → Option (List Int)} {S L : List Stp} {A B : List (ByteArray × List Int)} (k : Nat) (hk : k < 4) (hF : F = fun _ => none) (hS : S = ⟨1, fst_, fst_, [], 0⟩ :: ⟨2, fst_, fst_, one_, 0⟩ :: L) (hA : Lst (sfirst F S k) A) (hB : Lst (sfirst F S (k + 1)) B) : ∃ x, x ∈ B ∧ x ∉ A := by
  subst hF
  have h1 := first_at L k (by omega)
  rw [← hS] at h1
  refine ⟨(fst_, one_.take k), (hB.1.2 _ _).1 h1, fun hm => ?_⟩
  have h2 := (hA.1.2 _ _).2 hm
  by_cases h0 : k = 0
  · subst h0
    rw [sfirst_zero] at h2; cases h2
  · have h3 := first_at L (k - 1) (by omega)
    rw [← hS, show k - 1 + 1 = k from by omega] at h3
    rw [h3] at h2
    have h4 : one_.take (k - 1) = one_.take k := Option.some.inj h2
    have h5 := congrArg List.length h4
    rw [List.length_take, List.length_take] at h5
    have h6 : one_.length = 3 := rfl
    omega
theorem play_steps {D D' : Dk} {Y : List Dop} (hf : ∀ o ∈ Y, o.few) (h : PlR D Y D') : ∃ M, D'.steps = D.steps ++ M := by
  induction Y generalizing D with
  | nil => obtain rfl : D' = D := h; exact ⟨[], by simp⟩
  | cons o Y ih =>
    obtain ⟨D1, h1, h2⟩ := h
    obtain ⟨M, e⟩ := ih (fun p hp => hf p (List.mem_cons_of_mem _ hp)) h2
    have e1 := opT_few (hf o (List.mem_cons_self ..)) h1
    have hb : ∀ need, (bgD D need).steps = D.steps := fun need => by unfold bgD; split <;> rfl
    have e2 : ∃ M1, D1.steps = D.steps ++ M1 := by
      rw [e1]
      rcases acR_cases D o with ⟨e, q⟩ | ⟨e, need, q⟩ | ⟨need, p, f, q, _⟩ | ⟨hn, _⟩
      · rw [q]; exact ⟨[], by simp⟩
      · rw [q]; exact ⟨[], by simp [hb]⟩
      · rw [q]; exact ⟨[p], by show (bgD D need).steps ++ [p] = _; rw [hb]⟩
      · have hfo := hf o (List.mem_cons_self ..)
        exact absurd ⟨hfo.2.1, hfo.2.2.1⟩ hn
    obtain ⟨M1, e3⟩ := e2
    exact ⟨M1 ++ M, by rw [e, e3, List.append_assoc]⟩
end Go.Proofs.Yteoohgjoffpmkaa
