/-
  Files in lists of one's own: in memory, and one file more; the list of a disk's files by rising names, as plain data. No condition of its own.
-/
import Derived.Test.YteoohgjoffpmkaaKNw
import Derived.Test.YteoohgjoffpmkaaKNs
namespace Go.Proofs.Yteoohgjoffpmkaa
open Go.RowKit Go.Maps Go.Sort
set_option linter.unusedVariables false

/-- The files by rising names. -/
def Lst (F : ByteArray → Option (List Int)) (L : List (ByteArray × List Int)) : Prop := Enum F L ∧ (L.map fun p => p.1.data.toList).Pairwise (· ≤ ·)
theorem Lst.uniq {F L M} (h : Lst F L) (k : Lst F M) : L = M := by
  refine List.Perm.eq_of_pairwise (le := fun a b : ByteArray × List Int => a.1.data.toList ≤ b.1.data.toList) ?_ (List.pairwise_map.1 h.2) (List.pairwise_map.1 k.2) (h.1.perm k.1)
  intro a b ha hb h1 h2
  have e : a.1 = b.1 := ByteArray.ext (Array.toList_inj.1 (List.le_antisymm h1 h2))
  have h3 := (h.1.2 a.1 a.2).2 ha
  have h4 := (k.1.2 b.1 b.2).2 hb
  rw [e, h4] at h3
  exact Prod.ext e (Option.some.inj h3).symm
theorem Lst.inj {F G L} (h : Lst F L) (k : Lst G L) : F = G := by
  funext s
  cases hs : F s with
  | none =>
    cases hg : G s with
    | none => rfl
    | some xs => rw [(h.1.2 s xs).2 ((k.1.2 s xs).1 hg)] at hs; cases hs
  | some xs => exact ((k.1.2 s xs).2 ((h.1.2 s xs).1 hs)).symm
theorem lst_none : Lst (fun _ => none) [] := ⟨⟨by simp, by simp⟩, by simp⟩
theorem Lst.size {F L n} (h : Lst F L) (ht : Tot F n) : n = totL L := ht.uniq ⟨L, h.1, rfl⟩
/-- A file, and where its bytes lie. -/
structure FiM where
  s : ByteArray
  ys : List Int
  u : Value
def FiM.p (f : FiM) : ByteArray × List Int := (f.s, f.ys)
def flK (L : List FiM) : List Value := L.flatMap fun f => [.string f.s, f.u]
theorem flK_snoc (L : List FiM) (f : FiM) : flK (L ++ [f]) = flK L ++ [.string f.s, f.u] := by unfold flK; rw [List.flatMap_append]; rfl
theorem flK_len (L : List FiM) : (flK L).length = 2 * L.length := by
  induction L with
  | nil => rfl
  | cons f L ih => rw [show flK (f :: L) = .string f.s :: f.u :: flK L from rfl, List.length_cons, List.length_cons, List.length_cons, ih]; omega
theorem flK_at : ∀ (L : List FiM) (i : Nat) (f : FiM), L[i]? = some f → (flK L)[2 * i]? = some (.string f.s) ∧ (flK L)[2 * i + 1]? = some f.u
  | [], i, f, h => by simp at h
  | x :: L, 0, f, h => by
    rw [List.getElem?_cons_zero] at h
    cases h
    exact ⟨rfl, rfl⟩
  | x :: L, i + 1, f, h => by
    rw [List.getElem?_cons_succ] at h
    have := flK_at L i f h
    rw [show flK (x :: L) = .string x.s :: x.u :: flK L from rfl, show 2 * (i + 1) = 2 * i + 1 + 1 from by omega]
    simp only [List.getElem?_cons_succ]
    exact this
/-- Files in memory of their own, in blocks that F says. -/
structure FiL (F : Nat → Prop) (w : World) (v : Value) (L : List FiM) : Prop where
  own : w.ownsRow 0 59 2 v L.length (flK L)
  fv : ∀ k, v.ownBlock = some k → F k
  body : ∀ f ∈ L, (Own 0 w f.u f.ys.length f.ys ∧ ∀ k, f.u.ownBlock = some k → F k ∧ v.ownBlock ≠ some k) ∧ Bytes f.ys
  apart : L.Pairwise fun f g => ∀ k, f.u.ownBlock = some k → g.u.ownBlock ≠ some k
theorem fil_nil (F : Nat → Prop) (w : World) : FiL F w (.slice none 0 0) [] := ⟨World.ownsRow_nil _ _ _ _, fun k hk => (by cases hk), fun f hf => (by cases hf), List.Pairwise.nil⟩
theorem FiL.gr {F G : Nat → Prop} {w w' : World} {v : Value} {L : List FiM} (h : FiL F w v L) (hg : Gr G w w') (hn : ∀ k, F k → ¬ G k) : FiL F w' v L :=
  ⟨own_gr h.own hg (fun b hb => hn b (h.fv b hb)), h.fv, fun f hf => ⟨⟨own_gr (h.body f hf).1.1 hg (fun b hb => hn b ((h.body f hf).1.2 b hb).1), (h.body f hf).1.2⟩, (h.body f hf).2⟩, h.apart⟩
theorem FiL.below {F : Nat → Prop} {w w' : World} {v : Value} {L : List FiM} (h : FiL F w v L) (hb : Below w.heap.size w w') : FiL F w' v L := h.gr (G := fun _ => False) (Gr.ofB hb) (fun _ _ z => z)
theorem FiL.weak {F F' : Nat → Prop} {w : World} {v : Value} {L : List FiM} (h : FiL F w v L) (hn : ∀ k, k < w.heap.size → F k → F' k) : FiL F' w v L :=
  ⟨h.own, fun k hk => hn k (own_lt h.own k hk).2 (h.fv k hk), fun f hf => ⟨⟨(h.body f hf).1.1, fun k hk => ⟨hn k (own_lt (h.body f hf).1.1 k hk).2 ((h.body f hf).1.2 k hk).1, ((h.body f hf).1.2 k hk).2⟩⟩, (h.body f hf).2⟩, h.apart⟩
/-- One file more. -/
theorem fil_app {F : Nat → Prop} {w W1 W2 : World} {v v' : Value} {L : List FiM} {f : FiM} (h : FiL F w v L) (h1 : w.grownBy W1 none) (hb : Own w.heap.size W1 f.u f.ys.length f.ys) (hby : Bytes f.ys) (hg : W1.grownBy W2 v.ownBlock) (ho : W2.ownsRow 0 59 2 v' (L.length + 1) (flK L ++ [.string f.s, f.u])) (hv : ∀ k, v'.ownBlock = some k → (v.ownBlock = some k ∨ W1.heap.size ≤ k)) :
    FiL (fun k => F k ∨ w.heap.size ≤ k) W2 v' (L ++ [f]) := by
  have hs := h1.size
  have hG1 : Gr (fun _ => False) w W1 := Gr.of h1 (by simp)
  have hG2 : Gr (fun k => v.ownBlock = some k) W1 W2 := Gr.of hg (fun k hk => .inl hk)
  have hlo := own_lt hb
  refine ⟨by rw [List.length_append, flK_snoc]; exact ho, fun k hk => ?_, fun g hgm => ?_, ?_⟩
  · rcases hv k hk with z | z
    · exact .inl (h.fv k z)
    · exact .inr (by omega)
  · rcases List.mem_append.1 hgm with z | z
    · have q := (h.body g z).1
      refine ⟨⟨own_gr (own_gr q.1 hG1 (fun _ _ z => z)) hG2 (fun k hk => (q.2 k hk).2), fun k hk => ⟨.inl (q.2 k hk).1, fun e => ?_⟩⟩, (h.body g z).2⟩
      rcases hv k e with z2 | z2
      · exact (q.2 k hk).2 z2
      · have := (own_lt q.1 k hk).2; omega
    · obtain rfl : g = f := by simpa using z
      refine ⟨⟨own_gr (own_base0 hb) hG2 (fun k hk e => ?_), fun k hk => ⟨.inr (hlo k hk).1, fun e => ?_⟩⟩, hby⟩
      · have := (own_lt h.own k e).2; have := (hlo k hk).1; omega
      · rcases hv k e with z2 | z2
        · have := (own_lt h.own k z2).2; have := (hlo k hk).1; omega
        · have := (hlo k hk).2; omega
  · rw [List.pairwise_append]
    refine ⟨h.apart, List.pairwise_singleton _ _, fun g hgm f' hf' k hk e => ?_⟩
    obtain rfl : f' = f := by simpa using hf'
    have := (own_lt (h.body g hgm).1.1 k hk).2
    have := (hlo k e).1
    omega
theorem FiL.p_len {F w v L} (h : FiL F w v L) {M : List (ByteArray × List Int)} (e : L.map FiM.p = M) : L.length = M.length := by rw [← e]; simp
/-- The keys of files, sorted, with what the files hold. -/
def rowsF (F : ByteArray → Option (List Int)) (ss : List (List UInt8)) : List (ByteArray × List Int) := ss.map fun l => ((⟨l.toArray⟩ : ByteArray), (F ⟨l.toArray⟩).getD [])
theorem rowsF_lst {F : ByteArray → Option (List Int)} {ks ss : List (List UInt8)} (hp : ss.Perm ks) (hn : ks.Nodup) (hk : ∀ l, l ∈ ks ↔ ∃ s xs, F s = some xs ∧ l = s.data.toList) : Lst F (rowsF F (ss.mergeSort fun x y => decide (x ≤ y))) := by
  have hq : (ss.mergeSort fun x y => decide (x ≤ y)).Perm ks := (List.mergeSort_perm _ _).trans hp
  have e1 : (rowsF F (ss.mergeSort fun x y => decide (x ≤ y))).map (fun p => p.1.data.toList) = ss.mergeSort fun x y => decide (x ≤ y) := by
    unfold rowsF
    rw [List.map_map]
    exact (List.map_congr_left fun s _ => rfl).trans (List.map_id _)
  refine ⟨⟨?_, fun s xs => ?_⟩, ?_⟩
  · have hnd : ((rowsF F (ss.mergeSort fun x y => decide (x ≤ y))).map (fun p => p.1.data.toList)).Nodup := by rw [e1]; exact hn.perm hq.symm
    rw [show (fun p : ByteArray × List Int => p.1.data.toList) = (fun s : ByteArray => s.data.toList) ∘ (·.1) from rfl, ← List.map_map] at hnd
    exact (List.pairwise_map.1 hnd).imp (fun h e => h (by rw [e]))
  · constructor
    · intro hs
      refine List.mem_map.2 ⟨s.data.toList, hq.symm.subset ((hk _).2 ⟨s, xs, hs, rfl⟩), ?_⟩
      show ((s : ByteArray), (F s).getD []) = _
      rw [hs]; rfl
    · intro hm
      obtain ⟨l, hl, e⟩ := List.mem_map.1 hm
      obtain ⟨t, ys, ht, rfl⟩ := (hk l).1 (hq.subset hl)
      have e2 : ((t : ByteArray), (F t).getD []) = (s, xs) := e
      rw [ht] at e2
      cases e2
      exact ht
  · rw [e1]
    have hs := List.pairwise_mergeSort (le := fun x y : List UInt8 => decide (x ≤ y)) (fun a b c h1 h2 => by
      simp only [decide_eq_true_eq] at h1 h2 ⊢
      exact List.le_trans h1 h2) (fun a b => by
      simp only [Bool.or_eq_true, decide_eq_true_eq]
      exact List.le_total a b) ss
    exact hs.imp fun {a b} h => by simpa using h
end Go.Proofs.Yteoohgjoffpmkaa
