/-
  A map of files as the library's contracts read it: its keys. No condition of its own.
-/
import Derived.Test.YteoohgjoffpmkaaKDv
import Derived.Maps.OwnSet
import Derived.Sort.KeysCollected
namespace Go.Proofs.Yteoohgjoffpmkaa
open Go.RowKit Go.Maps Go.WideElems Go.WideMaps Go.WideShapes
set_option linter.unusedVariables false

def keyS : Value → ByteArray
  | .string s => s
  | _ => ByteArray.empty
theorem totL_len {L : List (ByteArray × List Int)} (h : ∀ p ∈ L, 1 ≤ p.1.size) : L.length ≤ totL L := by
  induction L with
  | nil => simp
  | cons p L ih =>
    have h1 := h p (List.mem_cons_self ..)
    have h2 := ih (fun q hq => h q (List.mem_cons_of_mem _ hq))
    simp only [totL, List.length_cons]
    omega
theorem nm_size {s : ByteArray} (h : nmB s = true) : 1 ≤ s.size ∧ s.size ≤ 60 := by
  unfold nmB at h
  simp only [Bool.and_eq_true, decide_eq_true_eq] at h
  exact ⟨h.1.1, h.1.2⟩
/-- How a file reads to the library's contracts. -/
def rdU (v : Value) : Option (DataW Unit × List MemPlace) := some (.nil, [])
theorem fl_ownsP {P : Program} {k0 : TypeId} (hK : P.underlying k0 = some .string) {O : Nat → Prop} {w : World} {b V F n} (h : Fl O w b V F) (ht : Tot F n) (hn : n ≤ 67108864) (hm : ∀ s xs, F s = some xs → nmB s = true) :
    ∃ D : DataW Unit, w.ownsMap P k0 rdU b 67108864 D ∧ Maps.size D ≤ 67108864 ∧ (strKeys D).Nodup ∧ ∀ l, l ∈ strKeys D ↔ ∃ s xs, F s = some xs ∧ l = s.data.toList := by
  obtain ⟨es, c, hb, hs, hk, hV⟩ := h.mp
  have hkey : ∀ x ∈ es.toList, ∃ s xs, x.key = .string s ∧ F s = some xs := by
    intro x hx
    obtain ⟨s, e⟩ := str_of_key (hk x hx)
    obtain ⟨xs, h1, _⟩ := h.is s x.val ((hV s x.val).2 ⟨x, hx, e, rfl⟩)
    exact ⟨s, xs, e, h1⟩
  have hmem : ∀ s, s ∈ es.toList.map (fun x => keyS x.key) ↔ ∃ xs, F s = some xs := by
    intro s
    rw [List.mem_map]
    constructor
    · rintro ⟨x, hx, e⟩
      obtain ⟨s', xs, e1, e2⟩ := hkey x hx
      rw [e1] at e
      cases e
      exact ⟨xs, e2⟩
    · rintro ⟨xs, e⟩
      obtain ⟨v, hv, _⟩ := h.value e
      obtain ⟨x, hx, e1, _⟩ := (hV s v).1 hv
      exact ⟨x, hx, by rw [e1]; rfl⟩
  have hnd : (es.toList.map (fun x => keyS x.key)).Nodup := by
    have h2 := hs.2.2
    unfold List.Nodup at h2 ⊢
    rw [List.pairwise_map] at h2 ⊢
    refine h2.imp_of_mem ?_
    intro x y hx hy hne e
    obtain ⟨s, _, e1, _⟩ := hkey x hx
    obtain ⟨t, _, e2, _⟩ := hkey y hy
    rw [e1, e2] at e hne
    exact hne (congrArg Value.string e)
  obtain ⟨L, ⟨hL1, hL2⟩, hL3⟩ := ht
  have hsz : es.size ≤ n := by
    have hp : (es.toList.map (fun x => keyS x.key)).Perm (L.map (·.1)) := (List.perm_ext_iff_of_nodup hnd hL1).2 (fun s => by
      rw [hmem s, List.mem_map]
      constructor
      · rintro ⟨xs, e⟩; exact ⟨(s, xs), (hL2 s xs).1 e, rfl⟩
      · rintro ⟨⟨t, xs⟩, e1, e2⟩; simp only at e2; subst e2; exact ⟨xs, (hL2 _ xs).2 e1⟩)
    have hl := hp.length_eq
    simp only [List.length_map, Array.length_toList] at hl
    have := totL_len (L := L) (fun p hp2 => (nm_size (hm p.1 p.2 ((hL2 p.1 p.2).2 hp2))).1)
    omega
  have hrd : ∀ x ∈ es.toList, rd P k0 rdU x = some (.string (keyS x.key).data.toList, .nil) := by
    intro x hx
    obtain ⟨s, xs, e1, e2⟩ := hkey x hx
    have h3 := nm_size (hm s xs e2)
    have hk2 := keyOf_string_mk (P := P) (k := k0) hK (s := s) (by unfold maxLen; omega)
    obtain ⟨k, v, bo⟩ := x
    simp only at e1
    subst e1
    exact rd_mk (R := rdU) (val := v) (yv := (.nil, [])) (born := bo) hk2 rfl
  refine ⟨.map ((es.toList.map (rg P k0 rdU)).foldr DataW.insert []), ⟨es, c, hb, ⟨by unfold maxLen; omega, hs, fun x hx => ⟨_, hrd x hx⟩⟩, by omega, rfl⟩, ?_, ?_, ?_⟩
  · rw [size_eq, length_sorted, List.length_map, Array.length_toList]
    omega
  all_goals
    have hpm : (strKeys (.map ((es.toList.map (rg P k0 rdU)).foldr DataW.insert []) : DataW Unit)).Perm (es.toList.map (fun x => (keyS x.key).data.toList)) := by
      have h1 : (((es.toList.map (rg P k0 rdU)).foldr DataW.insert []).map fun p => strOf p.1).Perm ((es.toList.map (rg P k0 rdU)).map fun p => strOf p.1) := (sorted_perm _).map _
      have h2 : ((es.toList.map (rg P k0 rdU)).map fun p => strOf p.1) = es.toList.map (fun x => (keyS x.key).data.toList) := by
        rw [List.map_map]
        apply List.map_congr_left
        intro x hx
        have e9 := rg_of (hrd x hx)
        simp only [Function.comp_apply, e9, strOf]
      rw [h2] at h1
      exact h1
  · refine hpm.nodup_iff.2 ?_
    unfold List.Nodup at hnd ⊢
    rw [List.pairwise_map] at hnd ⊢
    refine hnd.imp ?_
    intro x y hne e
    exact hne (ByteArray.ext (Array.toList_inj.mp e))
  · intro l
    rw [hpm.mem_iff, List.mem_map]
    constructor
    · rintro ⟨x, hx, rfl⟩
      obtain ⟨xs, e⟩ := (hmem (keyS x.key)).1 (List.mem_map.2 ⟨x, hx, rfl⟩)
      exact ⟨_, xs, e, rfl⟩
    · rintro ⟨s, xs, e, rfl⟩
      obtain ⟨x, hx, e1⟩ := List.mem_map.1 ((hmem s).2 ⟨xs, e⟩)
      exact ⟨x, hx, by rw [e1]⟩
theorem fl_owns {O : Nat → Prop} {w : World} {b V F n} (h : Fl O w b V F) (ht : Tot F n) (hn : n ≤ 67108864) (hm : ∀ s xs, F s = some xs → nmB s = true) :
    ∃ D : DataW Unit, w.ownsMap Try.prog 9 rdU b 67108864 D ∧ Maps.size D ≤ 67108864 ∧ (strKeys D).Nodup ∧ ∀ l, l ∈ strKeys D ↔ ∃ s xs, F s = some xs ∧ l = s.data.toList := fl_ownsP Try.underlying9 h ht hn hm
end Go.Proofs.Yteoohgjoffpmkaa
