/-
  Edges: what the library's sort makes of a list of edges of one's own: the same ones, rising by their texts. Condition: there are fewer than 2^62.
-/
import Derived.Test.YtdjcokepeifojaaNSh
import Derived.Test.YtdjcokepeifojaaNOw
import Derived.Lib.Bytealg
namespace Go.Proofs.Ytdjcokepeifojaa
set_option linter.unusedVariables false
open Go.RowKit Go.Shelf Go.Sort

/-- An edge: its text, its list, its step. -/
abbrev Ed := ByteArray × Int × Int
def eE (e : Ed) : List Value := [.string e.1, .int .i64 e.2.1, .int .i64 e.2.2]
def flE (E : List Ed) : List Value := E.flatMap eE
theorem flE_len (E : List Ed) : (flE E).length = E.length * 3 := by
  induction E with
  | nil => rfl
  | cons e E ih => simp only [flE, List.flatMap_cons, List.length_append, List.length_cons] at ih ⊢; rw [ih]; simp only [eE, List.length_cons, List.length_nil]; omega
theorem flE_app (A B : List Ed) : flE (A ++ B) = flE A ++ flE B := by simp [flE]
theorem flE_at : ∀ (E : List Ed) (i c : Nat), i < E.length → c < 3 → (flE E)[i * 3 + c]? = (eE (E.getD i (.empty, 0, 0)))[c]?
  | [], i, c, h, _ => by simp at h
  | e :: E, 0, c, h, hc => by
    simp only [flE, List.flatMap_cons, Nat.zero_mul, Nat.zero_add, List.getD_cons_zero]
    rw [List.getElem?_append_left (by simpa [eE] using hc)]
  | e :: E, i + 1, c, h, hc => by
    have := flE_at E i c (by simpa using h) hc
    simp only [flE, List.flatMap_cons, List.getD_cons_succ] at this ⊢
    rw [List.getElem?_append_right (by simp [eE]; omega), ← this]
    congr 1
    simp [eE]; omega
theorem flE_one (E : List Ed) : ∀ u ∈ flE E, u.oneCell' = true := fun u hu => by
  obtain ⟨e, _, h⟩ := List.mem_flatMap.1 hu
  simp only [eE, List.mem_cons, List.not_mem_nil, or_false] at h
  rcases h with rfl | rfl | rfl <;> rfl
/-- How two texts compare. -/
def cmpS (s t : ByteArray) : Int := Lib.compareBytes s.data.toList t.data.toList
theorem cmpL_lt : ∀ a b : List UInt8, decide (Lib.compareBytes a b < 0) = Op.bytesLess a b
  | [], [] => rfl
  | [], _ :: _ => rfl
  | _ :: _, [] => rfl
  | x :: a, y :: b => by
    simp only [Lib.compareBytes, Op.bytesLess]
    by_cases h1 : x < y
    · simp [h1]
    · by_cases h2 : y < x
      · have : x ≠ y := fun e => by subst e; exact h1 h2
        simp [h1, h2, this]
      · have : x = y := UInt8.le_antisymm (UInt8.not_lt.1 h2) (UInt8.not_lt.1 h1)
        subst this
        simp [h1, cmpL_lt a b]
theorem lt_cmpS (x y : Ed) : ltOf (fun x y : Ed => cmpS x.1 y.1) x y = tl x.1 y.1 := by
  unfold ltOf cmpS
  rw [cmpL_lt, tl_bs]
theorem swoE : SWO (ltOf fun x y : Ed => cmpS x.1 y.1) where
  irrefl x := by rw [lt_cmpS]; exact tl_irrefl _
  trans x y z h1 h2 := by rw [lt_cmpS] at *; exact tl_trans h1 h2
  ntrans x y z h1 h2 := by rw [lt_cmpS] at *; exact le_le h2 h1
set_option maxHeartbeats 1000000 in
theorem closure_c (x y : Ed) (W : World) : Calls Try.prog 47 #[.agg (eE x).toArray, .agg (eE y).toArray] W fun e w' => e = .returned (.int .i64 (cmpS x.1 y.1)) ∧ ∃ q os', w' = grow (W.drewN q) os' := by
  obtain ⟨s, a, b⟩ := x
  obtain ⟨t, c, d⟩ := y
  have hcs : ∀ W : World, (callFunc 66 #[.string s, .string t]).run Try.prog W = .ok (.value (.int .i64 (cmpS s t))) W := fun W => by
    rw [run_callFunc_extern Try.func66 (by kernel_rfl) (by kernel_rfl) (by kernel_rfl) (e := Extern.BytealgCompare.compare) (by kernel_rfl), Lib.run_compareString]
    rfl
  show Calls _ _ #[.agg #[.string s, .int .i64 a, .int .i64 b], .agg #[.string t, .int .i64 c, .int .i64 d]] _ (fun e w' => e = .returned (.int .i64 (cmpS s t)) ∧ ∃ q os', w' = grow (W.drewN q) os')
  generalize cmpS s t = r at *
  go_enter Try.func47, Try.ntmps47
  go_wp2
  go_ret
  exact ⟨rfl, 0, _, by rw [alloc_eq_grow, alloc_eq_grow, grow_grow]; rfl⟩
/-- Rising by their texts. -/
def Srt (E : List Ed) : Prop := E.Pairwise fun x y => tl y.1 x.1 = false
theorem holds_own {w : World} {B g cap : Nat} {E : List Ed} (h : w.ownsRow B 67 3 (.slice (some ⟨g, 0, none⟩) E.length cap) E.length (flE E)) : HoldsK eE 3 w g 0 E.toArray := by
  intro j hj
  rw [size_flatK, List.size_toArray] at hj
  rcases h.2 with ⟨h0, _⟩ | ⟨g', cap', cur, h0, hB, hg, hn, hm, hsz, htake⟩
  · cases h0
  · simp only [Value.slice.injEq, Option.some.injEq, Addr.mk.injEq, and_true, true_and] at h0
    obtain ⟨rfl, rfl⟩ := h0
    have e : j = j / 3 * 3 + j % 3 := by omega
    have h1 := flE_at E (j / 3) (j % 3) (by omega) (by omega)
    rw [← e, ← htake, List.getElem?_take_of_lt hj] at h1
    refine ⟨?_, frozen_of_row _ _ _ _ _ hg⟩
    rw [Nat.zero_add, cell_of_row w g j _ _ _ hg, get_flatK _ _ _ _ (by rw [List.size_toArray]; exact hj)]
    have h2 : cur[j]? = (eE (E.getD (j / 3) (.empty, 0, 0)))[j % 3]? := by simpa using h1
    rw [h2]
    have h3 : j / 3 < E.length := by omega
    have h4 : E.toArray[j / 3]! = E.getD (j / 3) (.empty, 0, 0) := by simp [h3]
    rw [h4]
    have h5 : j % 3 < (eE (E.getD (j / 3) (.empty, 0, 0))).length := by simp only [eE, List.length_cons, List.length_nil]; omega
    rw [List.getElem?_eq_getElem h5, getElem!_pos (eE (E.getD (j / 3) (.empty, 0, 0))) (j % 3) h5]; rfl
theorem cells_holds {w : World} {g : Nat} {E : List Ed} (h : HoldsK eE 3 w g 0 E.toArray) (hg : g < w.heap.size) : Cells w (some ⟨g, 0, none⟩) (flE E) := by
  refine .inr ⟨g, 0, rfl, hg, fun j u hu => ?_⟩
  have hj : j < (flE E).length := by
    rcases Nat.lt_or_ge j (flE E).length with h | h
    · exact h
    · rw [List.getElem?_eq_none h] at hu; cases hu
  rw [flE_len] at hj
  have e : j = j / 3 * 3 + j % 3 := by omega
  have h1 := flE_at E (j / 3) (j % 3) (by omega) (by omega)
  rw [← e, hu] at h1
  have h2 := (HoldsK.cell h (i := j / 3) (c := j % 3) (by rw [List.size_toArray]; omega) (by omega)).1
  rw [Nat.add_assoc, ← e] at h2
  rw [h2]
  have h3 : j / 3 < E.length := by omega
  have h4 : E.toArray[j / 3]! = E.getD (j / 3) (.empty, 0, 0) := by simp [h3]
  rw [h4]
  have h5 : j % 3 < (eE (E.getD (j / 3) (.empty, 0, 0))).length := by simp only [eE, List.length_cons, List.length_nil]; omega
  rw [List.getElem?_eq_getElem h5] at h1
  rw [h1, getElem!_pos (eE (E.getD (j / 3) (.empty, 0, 0))) (j % 3) h5]
theorem sort_gb {w : World} {g n : Nat} {d : Array Ed} {os : Array Obj} (hg : g < w.heap.size) : w.grownBy (sortWorldK eE 3 w g 0 n d os) (some g) := by
  unfold sortWorldK grow putRowK putRow mapBlock
  refine ⟨rfl, rfl, rfl, by simp, fun k hk hne => ?_⟩
  show (_ ++ os)[k]? = _
  rw [Array.getElem?_append_left (by simpa [ahead] using hk)]
  rw [Array.getElem?_modify, if_neg (fun e => hne (by rw [e]))]
  rfl
theorem aggE : ∀ w, (isAgg 67).run Try.prog w = .ok true w := Try.isAgg67
theorem sortE_c (B g cap : Nat) (E : List Ed) (w : World) (h : w.ownsRow B 67 3 (.slice (some ⟨g, 0, none⟩) E.length cap) E.length (flE E)) (hl : E.length < 4611686018427387904) (hg : g < w.heap.size) :
    Calls Try.prog 46 #[.slice (some ⟨g, 0, none⟩) E.length cap, .func (.func 47) #[] #[]] w fun e w' => e = .returned (.tuple #[]) ∧ ∃ E', E.Perm E' ∧ Srt E' ∧ Cells w' (some ⟨g, 0, none⟩) (flE E') ∧ E'.length = E.length ∧ w.grownBy w' (some g) := by
  have hH := holds_own h
  have eg : ∀ args w, (callFunc 47 args).run Try.prog w = .ok (.enter 47 args) w := enters_of Try.func47 (by kernel_rfl) rfl
  have hcon := AnyQ.slices_SortFunc Try.sortE 3 Try.isAgg67 Try.sizeOf67 eE (fun _ => rfl) (fun x v hv => by simp [eE] at hv; rcases hv with rfl | rfl | rfl <;> rfl) (fun x y => cmpS x.1 y.1) swoE 47 #[] g 0 cap E.toArray w eg (fun _ _ _ _ x y => closure_c x y _) hH hg (by rw [List.size_toArray]; exact hl)
  rw [List.size_toArray] at hcon
  refine Calls.mono hcon ?_
  rintro e w' ⟨rfl, d', n, os, hp, hs, rfl⟩
  obtain ⟨E', rfl⟩ : ∃ E', d' = List.toArray E' := ⟨d'.toList, by simp⟩
  have hlen : E'.length = E.length := by have := hp.1; simpa using this
  refine ⟨rfl, E', ?_, ?_, ?_, hlen, sort_gb hg⟩
  · have := hp.2.2
    simp only [List.extract_toArray, List.extract_eq_take_drop, List.drop_zero, Nat.sub_zero] at this
    rw [List.take_of_length_le (by omega), List.take_of_length_le (by omega)] at this
    exact this.symm
  · unfold Srt
    rw [List.pairwise_iff_getElem]
    intro i j hi hj hij
    have := hs i j (Nat.zero_le _) hij (by omega)
    rw [lt_cmpS] at this
    simpa [hi, hj] using this
  · exact cells_holds (holdsK_sortWorldK eE 3 w g 0 n E.toArray _ os hg hH (by simpa using hlen)) (lt_sortWorldK eE 3 w g 0 n _ os hg)
end Go.Proofs.Ytdjcokepeifojaa
