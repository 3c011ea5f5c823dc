/-
  What disk's taken answers of files: how many bytes they take. Condition: at most 67108864 bytes.
-/
import Derived.Test.YteoohgjoffpmkaaKCq
namespace Go.Proofs.Yteoohgjoffpmkaa
open Go.RowKit Go.ChangeMaps
set_option linter.unusedVariables false

/-- How many bytes the entries take that were seen. -/
def tkS (F : ByteArray → Option (List Int)) (seen : Array Nat) (l : List MapEntry) : Nat := totL ((l.filter (fun x => seen.contains x.born)).map (fun x => (keyS x.key, (F (keyS x.key)).getD [])))
theorem tkS_cons (F : ByteArray → Option (List Int)) (seen : Array Nat) (x : MapEntry) (l : List MapEntry) : tkS F seen (x :: l) = (if seen.contains x.born then (keyS x.key).size + ((F (keyS x.key)).getD []).length else 0) + tkS F seen l := by
  unfold tkS
  cases h : seen.contains x.born with
  | true => rw [List.filter_cons_of_pos (by exact h)]; simp only [List.map_cons, totL, if_true]
  | false => rw [List.filter_cons_of_neg (by rw [h]; simp)]; simp
theorem tkS_same (F : ByteArray → Option (List Int)) (seen : Array Nat) (k : Nat) (l : List MapEntry) (h : ∀ x ∈ l, x.born ≠ k) : tkS F (seen.push k) l = tkS F seen l := by
  unfold tkS
  congr 2
  apply List.filter_congr
  intro x hx
  rw [Array.contains_push]
  have := h x hx
  simp [this]
theorem tkS_push (F : ByteArray → Option (List Int)) (seen : Array Nat) (e : MapEntry) : ∀ (l : List MapEntry), (l.map (·.born)).Nodup → e ∈ l → seen.contains e.born = false → tkS F (seen.push e.born) l = tkS F seen l + ((keyS e.key).size + ((F (keyS e.key)).getD []).length)
  | [], _, he, _ => by simp at he
  | x :: l, hn, he, hs => by
    rw [List.map_cons, List.nodup_cons] at hn
    rw [tkS_cons, tkS_cons]
    by_cases hx : x.born = e.born
    · have hxe : x = e := by
        rcases List.mem_cons.1 he with q | q
        · exact q.symm
        · exact absurd (List.mem_map.2 ⟨e, q, hx.symm⟩) hn.1
      subst hxe
      rw [tkS_same F seen x.born l (fun y hy e2 => hn.1 (List.mem_map.2 ⟨y, hy, e2⟩))]
      have h1 : (seen.push x.born).contains x.born = true := by rw [Array.contains_push]; simp
      rw [h1, hs]
      simp only [if_true, Bool.false_eq_true, if_false]
      omega
    · have he2 : e ∈ l := by
        rcases List.mem_cons.1 he with q | q
        · exact absurd (by rw [q]) hx
        · exact q
      rw [tkS_push F seen e l hn.2 he2 hs]
      have h1 : (seen.push e.born).contains x.born = seen.contains x.born := by rw [Array.contains_push]; simp [hx]
      rw [h1]
      omega
theorem tkS_le (F : ByteArray → Option (List Int)) (seen : Array Nat) : ∀ l : List MapEntry, tkS F seen l ≤ totL (l.map (fun x => (keyS x.key, (F (keyS x.key)).getD [])))
  | [] => by simp [tkS]
  | x :: l => by
    rw [tkS_cons]
    have := tkS_le F seen l
    simp only [List.map_cons, totL]
    split <;> omega
theorem tkS_all {F : ByteArray → Option (List Int)} {seen : Array Nat} {es : Array MapEntry} (h : (leftOf es seen).size = 0) : tkS F seen es.toList = totL (es.toList.map (fun x => (keyS x.key, (F (keyS x.key)).getD []))) := by
  unfold tkS
  congr 2
  rw [List.filter_eq_self]
  intro x hx
  cases hq : seen.contains x.born with
  | true => rfl
  | false =>
    have hm : x ∈ (leftOf es seen).toList := by
      unfold leftOf
      rw [Array.toList_filter, List.mem_filter]
      exact ⟨hx, by show (!seen.contains x.born) = true; rw [hq]; rfl⟩
    rw [← Array.length_toList] at h
    rw [List.length_eq_zero_iff.1 h] at hm
    simp at hm
/-- All entries take what the files take. -/
theorem tot_es {O : Nat → Prop} {w : World} {b V F n} {es : Array MapEntry} {c : Nat} (h : Fl O w b V F) (ht : Tot F n) (hst : MapKept.Stamped es c) (hk : ∀ x ∈ es.toList, MapKept.IsKey .string x.key) (hV : ∀ s v, V s = some v ↔ ∃ x ∈ es.toList, x.key = .string s ∧ x.val = v) : totL (es.toList.map (fun x => (keyS x.key, (F (keyS x.key)).getD []))) = n := by
  have hkey : ∀ x ∈ es.toList, ∃ s xs, x.key = .string s ∧ F s = some xs := by
    intro x hx
    obtain ⟨s, e⟩ := str_of_key (hk x hx)
    obtain ⟨xs, h1, _⟩ := h.is s x.val ((hV s x.val).2 ⟨x, hx, e, rfl⟩)
    exact ⟨s, xs, e, h1⟩
  refine Tot.uniq (F := F) ⟨_, ⟨?_, ?_⟩, rfl⟩ ht
  · rw [List.map_map]
    have h2 := hst.2.2
    unfold List.Nodup at h2 ⊢
    rw [List.pairwise_map] at h2 ⊢
    refine h2.imp_of_mem ?_
    intro x y hx hy hne e
    obtain ⟨s, _, e1, _⟩ := hkey x hx
    obtain ⟨t, _, e2, _⟩ := hkey y hy
    simp only [Function.comp_apply, e1, e2] at e hne
    exact hne (congrArg Value.string e)
  · intro s xs
    rw [List.mem_map]
    constructor
    · intro e
      obtain ⟨v, hv, _⟩ := h.value e
      obtain ⟨x, hx, e1, _⟩ := (hV s v).1 hv
      refine ⟨x, hx, ?_⟩
      rw [e1]
      show (s, (F s).getD []) = (s, xs)
      rw [e]; rfl
    · rintro ⟨x, hx, e⟩
      obtain ⟨t, ys, e1, e2⟩ := hkey x hx
      rw [e1] at e
      have e3 : (t, (F t).getD []) = (s, xs) := e
      rw [e2] at e3
      cases e3
      exact e2
end Go.Proofs.Yteoohgjoffpmkaa
