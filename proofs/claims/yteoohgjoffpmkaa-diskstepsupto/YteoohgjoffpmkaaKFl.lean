/-
  A disk's files as functions from names to bytes: in memory, and how many bytes of the room they take. No condition of its own.
-/
import Derived.Test.YteoohgjoffpmkaaKMp
import Derived.Test.YteoohgjoffpmkaaFa
namespace Go.Proofs.Yteoohgjoffpmkaa
open Go.RowKit
set_option linter.unusedVariables false

/-- Files by their names. -/
def Fls : Type := ByteArray → Option (List Int)
/-- Files in a map, each file's bytes in a block of its own where O says. -/
structure Fl (O : Nat → Prop) (w : World) (b : Nat) (V : ByteArray → Option Value) (F : ByteArray → Option (List Int)) : Prop where
  mp : MpS w b V
  is : ∀ s v, V s = some v → ∃ xs, F s = some xs ∧ Own 0 w v xs.length xs ∧ Bytes xs
  no : ∀ s, V s = none → F s = none
  apart : ∀ s t v u k, s ≠ t → V s = some v → V t = some u → v.ownBlock = some k → u.ownBlock ≠ some k
  ob : O b
  ov : ∀ s v k, V s = some v → v.ownBlock = some k → O k ∧ k ≠ b
theorem Fl.gr {O G : Nat → Prop} {w w' : World} {b V F} (h : Fl O w b V F) (hg : Gr G w w') (hn : ∀ k, O k → ¬ G k) : Fl O w' b V F :=
  ⟨h.mp.gr hg (hn b h.ob), fun s v hv => let ⟨xs, h1, h2, h3⟩ := h.is s v hv
    ⟨xs, h1, own_gr h2 hg (fun k hk => hn k (h.ov s v k hv hk).1), h3⟩, h.no, h.apart, h.ob, h.ov⟩
theorem Fl.weak {O O' : Nat → Prop} {w : World} {b V F} (h : Fl O w b V F) (hn : ∀ k, O k → O' k) : Fl O' w b V F :=
  { h with ob := hn _ h.ob, ov := fun s v k h1 h2 => ⟨hn _ (h.ov s v k h1 h2).1, (h.ov s v k h1 h2).2⟩ }
theorem Fl.some_iff {O : Nat → Prop} {w : World} {b V F} (h : Fl O w b V F) (s : ByteArray) : (V s).isSome = (F s).isSome := by
  cases hv : V s with
  | none => rw [h.no s hv]; rfl
  | some v => obtain ⟨xs, h1, _⟩ := h.is s v hv; rw [h1]; rfl
theorem Fl.value {O : Nat → Prop} {w : World} {b V F} (h : Fl O w b V F) {s : ByteArray} {xs : List Int} (hs : F s = some xs) : ∃ v, V s = some v ∧ Own 0 w v xs.length xs ∧ Bytes xs := by
  cases hv : V s with
  | none => rw [h.no s hv] at hs; cases hs
  | some v =>
    obtain ⟨ys, h1, h2, h3⟩ := h.is s v hv
    rw [h1] at hs; cases hs
    exact ⟨v, rfl, h2, h3⟩
/-- A file is laid: its value lies in its old block, in none, or in one that none of the others has. -/
theorem Fl.put {O O' : Nat → Prop} {w w' : World} {b V F} (h : Fl O w b V F) (hsub : ∀ k, O k → O' k) (s : ByteArray) (v : Value) (xs : List Int) (hm : MpS w' b (fset V s (some v))) (hv : Own 0 w' v xs.length xs) (hx : Bytes xs)
    (hk : ∀ t u ys, t ≠ s → V t = some u → Own 0 w u ys.length ys → Own 0 w' u ys.length ys) (hb : ∀ k, v.ownBlock = some k → O' k ∧ k ≠ b ∧ ∀ t u, t ≠ s → V t = some u → u.ownBlock ≠ some k) : Fl O' w' b (fset V s (some v)) (fset F s (some xs)) where
  mp := hm
  is := fun t u hu => by
    by_cases ht : t = s
    · subst ht
      rw [fset_same] at hu ⊢
      cases hu
      exact ⟨xs, rfl, hv, hx⟩
    · rw [fset_other _ _ _ _ ht] at hu ⊢
      obtain ⟨ys, h1, h2, h3⟩ := h.is t u hu
      exact ⟨ys, h1, hk t u ys ht hu h2, h3⟩
  no := fun t hu => by
    by_cases ht : t = s
    · subst ht
      rw [fset_same] at hu; cases hu
    · rw [fset_other _ _ _ _ ht] at hu ⊢
      exact h.no t hu
  apart := fun t t' u u' k hne h1 h2 h3 => by
    by_cases ht : t = s
    · subst ht
      rw [fset_same] at h1; cases h1
      have ht' : t' ≠ t := fun e => hne e.symm
      rw [fset_other _ _ _ _ ht'] at h2
      exact (hb k h3).2.2 t' u' ht' h2
    · rw [fset_other _ _ _ _ ht] at h1
      by_cases ht' : t' = s
      · subst ht'
        rw [fset_same] at h2; cases h2
        intro hq
        exact (hb k hq).2.2 t u ht h1 h3
      · rw [fset_other _ _ _ _ ht'] at h2
        exact h.apart t t' u u' k hne h1 h2 h3
  ob := hsub _ h.ob
  ov := fun t u k h1 h2 => by
    by_cases ht : t = s
    · subst ht
      rw [fset_same] at h1; cases h1
      exact ⟨(hb k h2).1, (hb k h2).2.1⟩
    · rw [fset_other _ _ _ _ ht] at h1
      exact ⟨hsub _ (h.ov t u k h1 h2).1, (h.ov t u k h1 h2).2⟩
/-- A file is taken away. -/
theorem Fl.del {O : Nat → Prop} {w w' : World} {b V F} (h : Fl O w b V F) (s : ByteArray) (hm : MpS w' b (fset V s none)) (hg : Gr (fun k => k = b) w w') : Fl O w' b (fset V s none) (fset F s none) where
  mp := hm
  is := fun t u hu => by
    by_cases ht : t = s
    · subst ht
      rw [fset_same] at hu; cases hu
    · rw [fset_other _ _ _ _ ht] at hu ⊢
      obtain ⟨ys, h1, h2, h3⟩ := h.is t u hu
      exact ⟨ys, h1, own_gr h2 hg (fun k hk => (h.ov t u k hu hk).2), h3⟩
  no := fun t hu => by
    by_cases ht : t = s
    · subst ht
      rw [fset_same]
    · rw [fset_other _ _ _ _ ht] at hu ⊢
      exact h.no t hu
  apart := fun t t' u u' k hne h1 h2 h3 => by
    by_cases ht : t = s
    · subst ht
      rw [fset_same] at h1; cases h1
    · by_cases ht' : t' = s
      · subst ht'
        rw [fset_same] at h2; cases h2
      · rw [fset_other _ _ _ _ ht] at h1
        rw [fset_other _ _ _ _ ht'] at h2
        exact h.apart t t' u u' k hne h1 h2 h3
  ob := h.ob
  ov := fun t u k h1 h2 => by
    by_cases ht : t = s
    · subst ht
      rw [fset_same] at h1; cases h1
    · rw [fset_other _ _ _ _ ht] at h1
      exact h.ov t u k h1 h2
theorem fl_none {O : Nat → Prop} {w : World} {b : Nat} (h : MpS w b (fun _ => none)) (hb : O b) : Fl O w b (fun _ => none) (fun _ => none) where
  mp := h
  is := fun s v hv => by cases hv
  no := fun s _ => rfl
  apart := fun s t v u k _ h1 => by cases h1
  ob := hb
  ov := fun s v k h1 => by cases h1

/-- How many bytes the files take. -/
def totL : List (ByteArray × List Int) → Nat
  | [] => 0
  | p :: L => p.1.size + p.2.length + totL L
def Enum (F : ByteArray → Option (List Int)) (L : List (ByteArray × List Int)) : Prop := (L.map (·.1)).Nodup ∧ ∀ s xs, F s = some xs ↔ (s, xs) ∈ L
def Tot (F : ByteArray → Option (List Int)) (n : Nat) : Prop := ∃ L, Enum F L ∧ n = totL L
theorem totL_app (L M : List (ByteArray × List Int)) : totL (L ++ M) = totL L + totL M := by
  induction L with
  | nil => simp [totL]
  | cons p L ih => simp only [List.cons_append, totL, ih]; omega
theorem totL_perm {L M : List (ByteArray × List Int)} (h : L.Perm M) : totL L = totL M := by
  induction h with
  | nil => rfl
  | cons p _ ih => simp only [totL, ih]
  | swap p q L => simp only [totL]; omega
  | trans _ _ h1 h2 => exact h1.trans h2
theorem nodup_of_keys {L : List (ByteArray × List Int)} (h : (L.map (·.1)).Nodup) : L.Nodup := (List.pairwise_map.1 h).imp (fun hne e => hne (congrArg _ e))
theorem Enum.perm {F L M} (h : Enum F L) (k : Enum F M) : L.Perm M :=
  (List.perm_ext_iff_of_nodup (nodup_of_keys h.1) (nodup_of_keys k.1)).2 (fun p => by rw [← h.2 p.1 p.2, ← k.2 p.1 p.2])
theorem Tot.uniq {F n m} (h : Tot F n) (k : Tot F m) : n = m := by
  obtain ⟨L, hL, rfl⟩ := h
  obtain ⟨M, hM, rfl⟩ := k
  exact totL_perm (hL.perm hM)
theorem tot_none : Tot (fun _ => none) 0 := ⟨[], ⟨by simp, by simp⟩, rfl⟩
theorem Tot.del {F n} (h : Tot F n) (s : ByteArray) (xs : List Int) (hs : F s = some xs) : s.size + xs.length ≤ n ∧ Tot (fset F s none) (n - (s.size + xs.length)) := by
  obtain ⟨L, ⟨h1, h2⟩, rfl⟩ := h
  have hm := (h2 s xs).1 hs
  obtain ⟨A, B, rfl⟩ := List.append_of_mem hm
  have ht : totL (A ++ (s, xs) :: B) = s.size + xs.length + totL (A ++ B) := by rw [totL_app, totL_app]; simp only [totL]; omega
  rw [ht]
  refine ⟨by omega, A ++ B, ⟨?_, ?_⟩, by omega⟩
  · exact h1.sublist ((List.Sublist.append (List.Sublist.refl A) (List.sublist_cons_self _ B)).map _)
  · intro t ys
    have hn : ∀ zs, (s, zs) ∉ A ++ B := by
      intro zs hz
      rw [List.map_append, List.map_cons, List.nodup_append] at h1
      rcases List.mem_append.1 hz with hz | hz
      · exact h1.2.2 s (List.mem_map.2 ⟨_, hz, rfl⟩) s (List.mem_cons_self ..) rfl
      · exact (List.nodup_cons.1 h1.2.1).1 (List.mem_map.2 ⟨_, hz, rfl⟩)
    by_cases ht : t = s
    · subst ht
      rw [fset_same]
      exact ⟨fun q => (by cases q), fun q => absurd q (hn ys)⟩
    · rw [fset_other _ _ _ _ ht, h2 t ys]
      simp only [List.mem_append, List.mem_cons]
      constructor
      · rintro (q | q | q)
        · exact .inl q
        · cases q; exact absurd rfl ht
        · exact .inr q
      · rintro (q | q)
        · exact .inl q
        · exact .inr (.inr q)
theorem Tot.add {F n} (h : Tot F n) (s : ByteArray) (xs : List Int) (hs : F s = none) : Tot (fset F s (some xs)) (n + (s.size + xs.length)) := by
  obtain ⟨L, ⟨h1, h2⟩, rfl⟩ := h
  refine ⟨(s, xs) :: L, ⟨?_, ?_⟩, by simp only [totL]; omega⟩
  · rw [List.map_cons, List.nodup_cons]
    refine ⟨fun hq => ?_, h1⟩
    obtain ⟨⟨t, ys⟩, hp, rfl⟩ := List.mem_map.1 hq
    rw [(h2 t ys).2 hp] at hs; cases hs
  · intro t ys
    by_cases ht : t = s
    · subst ht
      rw [fset_same]
      constructor
      · intro q; cases q; exact List.mem_cons_self ..
      · intro q
        rcases List.mem_cons.1 q with q | q
        · cases q; rfl
        · rw [(h2 t ys).2 q] at hs; cases hs
    · rw [fset_other _ _ _ _ ht, h2 t ys]
      constructor
      · intro q; exact List.mem_cons_of_mem _ q
      · intro q
        rcases List.mem_cons.1 q with q | q
        · cases q; exact absurd rfl ht
        · exact q
theorem fset_fset {α : Type} (F : ByteArray → Option α) (s : ByteArray) (a b : Option α) : fset (fset F s a) s b = fset F s b := by
  funext t
  simp only [fset]
  by_cases h : t = s <;> simp [h]
theorem fset_id {α : Type} (F : ByteArray → Option α) (s : ByteArray) : fset F s (F s) = F := by
  funext t
  simp only [fset]
  by_cases h : t = s <;> simp [h]
theorem Tot.set {F n} (h : Tot F n) (s : ByteArray) (xs ys : List Int) (hs : F s = some xs) : Tot (fset F s (some ys)) (n - xs.length + ys.length) := by
  obtain ⟨h1, h2⟩ := h.del s xs hs
  have h3 := h2.add s ys (fset_same _ _ _)
  rw [fset_fset] at h3
  have e : n - (s.size + xs.length) + (s.size + ys.length) = n - xs.length + ys.length := by omega
  rwa [e] at h3
/-- What a step is: 1 create, 2 extend, 3 cut, 4 rename, 5 remove. -/
structure Stp where
  kind : Nat
  s : ByteArray
  t : ByteArray
  xs : List Int
  n : Nat
def scnt (p : Stp) : Nat := if p.kind = 2 then p.xs.length else 1
def sdo (F : ByteArray → Option (List Int)) (p : Stp) (keep : Nat) : ByteArray → Option (List Int) :=
  if p.kind = 1 then fset F p.s (some []) else if p.kind = 2 then fset F p.s (some ((F p.s).getD [] ++ p.xs.take keep)) else if p.kind = 3 then fset F p.s (some (((F p.s).getD []).take p.n)) else if p.kind = 4 then fset (fset F p.s none) p.t (some ((F p.s).getD [])) else fset F p.s none
/-- A step that the files allow. -/
def sok (F : ByteArray → Option (List Int)) (p : Stp) : Prop :=
  1 ≤ p.kind ∧ p.kind ≤ 5 ∧ (p.kind = 1 → F p.s = none) ∧ (p.kind = 2 → F p.s ≠ none ∧ 0 < p.xs.length) ∧ (p.kind = 3 → ∃ xs, F p.s = some xs ∧ p.n ≤ xs.length) ∧ (p.kind = 4 → F p.s ≠ none) ∧ (p.kind = 5 → F p.s ≠ none)
/-- Steps one behind the other, each allowed. -/
def soks : (ByteArray → Option (List Int)) → List Stp → Prop
  | _, [] => True
  | F, p :: L => sok F p ∧ soks (sdo F p (scnt p)) L
def sall : (ByteArray → Option (List Int)) → List Stp → (ByteArray → Option (List Int))
  | F, [] => F
  | F, p :: L => sall (sdo F p (scnt p)) L
def sfirst : (ByteArray → Option (List Int)) → List Stp → Nat → (ByteArray → Option (List Int))
  | F, [], _ => F
  | F, p :: L, k => if k = 0 then F else sfirst (sdo F p k) L (k - scnt p)
def scnts : List Stp → Nat
  | [] => 0
  | p :: L => scnt p + scnts L
theorem sdo_more (F : ByteArray → Option (List Int)) (p : Stp) (k : Nat) (h : scnt p ≤ k) : sdo F p k = sdo F p (scnt p) := by
  unfold sdo
  split
  · rfl
  split
  · rename_i h2
    have e : scnt p = p.xs.length := by simp [scnt, h2]
    rw [e] at h ⊢
    rw [List.take_of_length_le h, List.take_length]
  split
  · rfl
  split <;> rfl
theorem sfirst_all (F : ByteArray → Option (List Int)) (L : List Stp) (k : Nat) (h : scnts L ≤ k) (hp : ∀ p ∈ L, 0 < scnt p) : sfirst F L k = sall F L := by
  induction L generalizing F k with
  | nil => rfl
  | cons p L ih =>
    have h0 := hp p (List.mem_cons_self ..)
    have hc : scnts (p :: L) = scnt p + scnts L := rfl
    have e : sfirst F (p :: L) k = sfirst (sdo F p k) L (k - scnt p) := by
      show (if k = 0 then F else _) = _
      rw [if_neg (by omega)]
    rw [e, sdo_more F p k (by omega), ih _ _ (by omega) (fun q hq => hp q (List.mem_cons_of_mem _ hq))]
    rfl
theorem sok_cnt {F p} (h : sok F p) : 0 < scnt p := by
  unfold scnt
  split
  · rename_i h2; exact (h.2.2.2.1 h2).2
  · omega
theorem soks_cnt {F L} (h : soks F L) : ∀ p ∈ L, 0 < scnt p := by
  induction L generalizing F with
  | nil => simp
  | cons p L ih =>
    intro q hq
    rcases List.mem_cons.1 hq with rfl | hq
    · exact sok_cnt h.1
    · exact ih h.2 q hq
theorem soks_snoc {F L p} (h : soks F L) (hp : sok (sall F L) p) : soks F (L ++ [p]) := by
  induction L generalizing F with
  | nil => exact ⟨hp, trivial⟩
  | cons q L ih => exact ⟨h.1, ih h.2 hp⟩
theorem sall_snoc (F : ByteArray → Option (List Int)) (L : List Stp) (p : Stp) : sall F (L ++ [p]) = sdo (sall F L) p (scnt p) := by
  induction L generalizing F with
  | nil => rfl
  | cons q L ih => exact ih _
theorem scnts_snoc (L : List Stp) (p : Stp) : scnts (L ++ [p]) = scnts L + scnt p := by
  induction L with
  | nil => simp [scnts]
  | cons q L ih => simp only [List.cons_append, scnts, ih]; omega
end Go.Proofs.Yteoohgjoffpmkaa
