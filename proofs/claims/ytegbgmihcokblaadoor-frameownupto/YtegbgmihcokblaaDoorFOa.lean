/-
  Lists of one's own, each in memory apart from the others': what stays when one of them grows; a law for append. No condition of its own.
-/
import Derived.Test.YtegbgmihcokblaaDoorFa
import Derived.Test.YtegbgmihcokblaaDoorFGr
namespace Go.Proofs.YtegbgmihcokblaaDoor
open Go.RowKit
set_option linter.unusedVariables false

def upd {α : Type} (f : Nat → α) (i : Nat) (x : α) : Nat → α := fun j => if j = i then x else f j
theorem upd_at {α : Type} (f : Nat → α) (i : Nat) (x : α) : upd f i x i = x := if_pos rfl
theorem upd_ne {α : Type} (f : Nat → α) (i : Nat) (x : α) {j : Nat} (h : j ≠ i) : upd f i x j = f j := if_neg h
/-- n lists V, each with what became of it, U: the bytes of each; no two share a block, and none lies in a block of D. -/
structure Fam (B : Nat) (w : World) (D : Nat → Prop) (n : Nat) (V U : Nat → Value) (l m : Nat → Nat) (X Z : Nat → List Int) : Prop where
  v : ∀ i, i < n → Own B w (V i) (l i) (X i)
  u : ∀ i, i < n → Own B w (U i) (m i) (Z i)
  apart : ∀ i j g, i < n → j < n → i ≠ j → ((V i).ownBlock = some g ∨ (U i).ownBlock = some g) → (V j).ownBlock ≠ some g ∧ (U j).ownBlock ≠ some g
  off : ∀ i g, i < n → ((V i).ownBlock = some g ∨ (U i).ownBlock = some g) → ¬ D g
theorem Fam.lt {B w D n V U l m X Z} (h : Fam B w D n V U l m X Z) {i g : Nat} (hi : i < n) (hg : (V i).ownBlock = some g ∨ (U i).ownBlock = some g) : B ≤ g ∧ g < w.heap.size := by
  rcases hg with hg | hg
  · exact (h.v i hi).lo g hg
  · exact (h.u i hi).lo g hg
/-- What is done elsewhere. -/
theorem Fam.gb {B w w' D n V U l m X Z} {row : Option Nat} (h : Fam B w D n V U l m X Z) (hg : w.grownBy w' row) (hr : ∀ g, row = some g → D g ∨ w.heap.size ≤ g) : Fam B w' D n V U l m X Z := by
  have hne : ∀ i g, i < n → ((V i).ownBlock = some g ∨ (U i).ownBlock = some g) → row ≠ some g := fun i g hi hb e => by
    rcases hr g e with q | q
    · exact h.off i g hi hb q
    · have := (h.lt hi hb).2; omega
  exact ⟨fun i hi => (h.v i hi).grown hg (fun g e => hne i g hi (.inl e)), fun i hi => (h.u i hi).grown hg (fun g e => hne i g hi (.inr e)), h.apart, h.off⟩
/-- What is done with one of them. -/
theorem Fam.step {B w w' D n V U l m X Z i U' m' X' Z'} {row : Option Nat} (h : Fam B w D n V U l m X Z) (hi : i < n) (hg : w.grownBy w' row) (hr : ∀ g, row = some g → (V i).ownBlock = some g ∨ (U i).ownBlock = some g)
    (hV : Own B w' (V i) (l i) X') (hU : Own B w' U' m' Z') (hat : ∀ g, U'.ownBlock = some g → (V i).ownBlock = some g ∨ (U i).ownBlock = some g ∨ w.heap.size ≤ g) (hD : ∀ g, D g → g < w.heap.size) :
    Fam B w' D n V (upd U i U') l (upd m i m') (upd X i X') (upd Z i Z') := by
  refine ⟨fun j hj => ?_, fun j hj => ?_, fun j k g hj hk hjk hb => ?_, fun j g hj hb => ?_⟩
  · by_cases e : j = i
    · subst e; rw [upd_at]; exact hV
    · rw [upd_ne _ _ _ e]
      exact (h.v j hj).grown hg (fun g e1 e2 => (h.apart i j g hi hj (fun q => e q.symm) (hr g e2)).1 e1)
  · by_cases e : j = i
    · subst e; rw [upd_at, upd_at, upd_at]; exact hU
    · rw [upd_ne _ _ _ e, upd_ne _ _ _ e, upd_ne _ _ _ e]
      exact (h.u j hj).grown hg (fun g e1 e2 => (h.apart i j g hi hj (fun q => e q.symm) (hr g e2)).2 e1)
  · by_cases e : j = i
    · subst e
      rw [upd_at] at hb
      rw [upd_ne _ _ _ (fun q => hjk q.symm)]
      have hb' : (V j).ownBlock = some g ∨ (U j).ownBlock = some g ∨ w.heap.size ≤ g := by
        rcases hb with q | q
        · exact .inl q
        · exact hat g q
      rcases hb' with q | q | q
      · exact h.apart j k g hj hk hjk (.inl q)
      · exact h.apart j k g hj hk hjk (.inr q)
      · exact ⟨fun r => by have := (h.lt hk (.inl r)).2; omega, fun r => by have := (h.lt hk (.inr r)).2; omega⟩
    · rw [upd_ne _ _ _ e] at hb
      have ha := h.lt hj hb
      by_cases e2 : k = i
      · subst e2
        rw [upd_at]
        have := h.apart j k g hj hk hjk hb
        refine ⟨this.1, fun r => ?_⟩
        rcases hat g r with q | q | q
        · exact this.1 q
        · exact this.2 q
        · omega
      · rw [upd_ne _ _ _ e2]
        exact h.apart j k g hj hk hjk hb
  · by_cases e : j = i
    · subst e
      rw [upd_at] at hb
      have hb' : (V j).ownBlock = some g ∨ (U j).ownBlock = some g ∨ w.heap.size ≤ g := by
        rcases hb with q | q
        · exact .inl q
        · exact hat g q
      rcases hb' with q | q | q
      · exact h.off j g hj (.inl q)
      · exact h.off j g hj (.inr q)
      · intro r; have := hD g r; omega
    · rw [upd_ne _ _ _ e] at hb
      exact h.off j g hj hb
/-- A list that is the beginning of another one in its block. -/
theorem Own.cut {B w g l c m xs zs} (h : Own B w (.slice (some ⟨g, 0, none⟩) m c) m zs) (hl : l ≤ m) (hx : zs.take l = xs) : Own B w (.slice (some ⟨g, 0, none⟩) l c) l xs := by
  have hzl : zs.length = m := by have := h.1; simpa using this
  subst hx
  refine ⟨by simp; omega, .inr ?_⟩
  rcases h.2 with ⟨h', _⟩ | ⟨g', cap', cur, h', hB, hg, hn, hm, hsz, htake⟩
  · simp at h'
  · simp only [Value.slice.injEq, Option.some.injEq, Addr.mk.injEq, and_true, true_and] at h'
    obtain ⟨rfl, rfl⟩ := h'
    refine ⟨g, c, cur, rfl, hB, hg, by omega, hm, hsz, ?_⟩
    rw [Nat.mul_one] at htake ⊢
    rw [List.map_take, ← htake, List.take_take, Nat.min_eq_left hl]
/-- append onto a list of one's own, by its ways: nil; room; no room. -/
theorem run_app (w : World) (ty : TypeId) (B n : Nat) (v : Value) (xs : List Int) (hown : Own B w v n xs) (ad : Addr) (m c : Nat) (ys : List Int) (hy : Seg .u8 w (some ad) m ys) (hm : 0 < m) (hb : n + m ≤ 140737488355328) (hB : B ≤ w.heap.size) :
    ∃ v' w', (Builtin.append_ #[28, 28] ty #[v, .slice (some ad) m c]).run Tryd.prog w = .ok v' w' ∧ Own B w' v' (n + m) (xs ++ ys) ∧
      ((∃ g cap, v = .slice (some ⟨g, 0, none⟩) n cap ∧ v' = .slice (some ⟨g, 0, none⟩) (n + m) cap ∧ w.grownBy w' (some g)) ∨ (∃ cap, v' = .slice (some ⟨w.heap.size, 0, none⟩) (n + m) cap ∧ w.grownBy w' none)) := by
  obtain ⟨i, hi, hz, h4, h5⟩ := info_parts' Tryd.infoU8
  have hl : (ys.map (Value.int .u8)).length = m * i.size := by rw [List.length_map, hy.1, h4, Nat.mul_one]
  have hone : ∀ u ∈ ys.map (Value.int .u8), u.oneCell' = true := by
    intro u hu; obtain ⟨z, _, rfl⟩ := List.mem_map.1 hu; rfl
  obtain ⟨v', w', hr, ho, hg, _, hat⟩ := run_append_own_at (P := Tryd.prog) w B 28 ty 5 i (.int .u8 0) 1 1 Tryd.underlying28 hi hz h4 h5 rfl (by decide) v n (xs.map (Value.int .u8)) hown ad m c (ys.map (Value.int .u8)) (by rw [hl, h4]) (seg_news' hy ad rfl) hone (by unfold maxLen; omega) (by omega) hB
  have ho' : Own B w' v' (n + m) (xs ++ ys) := by unfold Own; rw [List.map_append]; exact ho
  refine ⟨v', w', hr, ho', ?_⟩
  have hlen : xs.length = n := by have := hown.1; simpa using this
  rcases hown.2 with ⟨rfl, rfl⟩ | ⟨g, cap, cur, rfl, hBg, hgb, hn, hcm, hsz, htake⟩
  · right
    obtain ⟨g', c', e1, _, _⟩ := ho'.form (by omega)
    subst e1
    rcases hat with q | q
    · cases q
    · have q' : g' = w.heap.size := Option.some.inj q
      subst q'
      exact ⟨c', rfl, hg⟩
  · by_cases hroom : n + m ≤ cap
    · left
      have hrr := run_append_room (P := Tryd.prog) w 28 ty 5 i Tryd.underlying28 hi g n cap cur hgb ad m c (ys.map (Value.int .u8)) hl (seg_news' hy ad rfl) hone hroom (by rw [hl, h4, hsz]; omega)
      rw [hr] at hrr
      injection hrr with e1 e2
      subst e1
      exact ⟨g, cap, rfl, rfl, hg⟩
    · right
      have hrr := run_append_grow (P := Tryd.prog) w 28 ty 5 i (.int .u8 0) Tryd.underlying28 hi hz ⟨g, 0, none⟩ n cap (xs.map (Value.int .u8)) (by rw [List.length_map, hlen, h4, Nat.mul_one]) (hown.cells (g := g) rfl) ad m c (ys.map (Value.int .u8)) hl (seg_news' hy ad rfl) (by omega) (by omega) (growslice_fits (by omega) (by rw [h5]; omega))
      rw [hr] at hrr
      injection hrr with e1 e2
      subst e1 e2
      exact ⟨_, rfl, gb_trans (gb_drewN (World.grownBy.refl w none) 1) (World.grownBy_alloc _ _ _)⟩
/-- One byte more behind what became of a list: what the list holds stays. -/
theorem both_app {B : Nat} {w w' : World} {V U U' : Value} {l m : Nat} {X Z : List Int} (hV : Own B w V l X) (hU2 : Own B w' U m Z) (hrel : U.ownBlock = V.ownBlock → U = .slice none 0 0 ∨ ∃ g c, V = .slice (some ⟨g, 0, none⟩) l c ∧ U = .slice (some ⟨g, 0, none⟩) m c) (hlm : l ≤ m) (hX : Z.take l = X) (hg : w.grownBy w' U.ownBlock)
    (hs : (∃ g cap, U = .slice (some ⟨g, 0, none⟩) m cap ∧ U' = .slice (some ⟨g, 0, none⟩) (m + 1) cap) ∨ (∃ g cap, U' = .slice (some ⟨g, 0, none⟩) (m + 1) cap ∧ w.heap.size ≤ g)) :
    Own B w' V l X ∧ (U'.ownBlock = V.ownBlock → U' = .slice none 0 0 ∨ ∃ g c, V = .slice (some ⟨g, 0, none⟩) l c ∧ U' = .slice (some ⟨g, 0, none⟩) (m + 1) c) ∧ (∀ g, U'.ownBlock = some g → U.ownBlock = some g ∨ w.heap.size ≤ g) := by
  have hVo : Own B w' V l X := by
    by_cases e : U.ownBlock = V.ownBlock
    · rcases hrel e with q | ⟨g, c, q1, q2⟩
      · refine hV.grown hg (fun g' e1 e2 => ?_)
        rw [q] at e2; cases e2
      · subst q1 q2
        exact hU2.cut hlm hX
    · exact hV.grown hg (fun g' e1 e2 => e (by rw [e1]; exact e2))
  refine ⟨hVo, fun e => ?_, fun g' e => ?_⟩
  · rcases hs with ⟨g, cap, rfl, rfl⟩ | ⟨gn, cap, rfl, hgn⟩
    · rcases hrel e with q | ⟨g', c', q1, q2⟩
      · cases q
      · simp only [Value.slice.injEq, Option.some.injEq, Addr.mk.injEq, and_true, true_and] at q2
        obtain ⟨rfl, rfl⟩ := q2
        exact .inr ⟨g, cap, q1, rfl⟩
    · have := hV.lo gn e.symm; omega
  · rcases hs with ⟨g, cap, rfl, rfl⟩ | ⟨gn, cap, rfl, hgn⟩
    · exact .inl e
    · have e' : gn = g' := Option.some.inj e
      exact .inr (by omega)
theorem Fam.dom {B w D D' n V U l m X Z} (h : Fam B w D n V U l m X Z) (hd : ∀ k, D' k → D k ∨ w.heap.size ≤ k) : Fam B w D' n V U l m X Z :=
  ⟨h.v, h.u, h.apart, fun i g hi hb z => by
    rcases hd g z with q | q
    · exact h.off i g hi hb q
    · have := (h.lt hi hb).2; omega⟩
theorem upd_self {α : Type} (f : Nat → α) (i : Nat) : upd f i (f i) = f := by
  funext j
  unfold upd
  split
  · next e => rw [e]
  · rfl
theorem upd_upd {α : Type} (f : Nat → α) (i : Nat) (x y : α) : upd (upd f i x) i y = upd f i y := by
  funext j
  unfold upd
  split <;> rfl
/-- append of one byte to a list of one's own: what it was stays, too. -/
theorem wpList_app1 {ops : Array Oper} {rest : List Oper} {o : Oper} {a : Act} {Q : Exit → Act → World → Prop} (hgd : o.guard = none) (s x : Operand)
    (ho : o.op = .call { callee := .builtin .append, args := #[s, x], argTypes := #[28, 28] }) (w : World) (B M : Nat) (u : Value) (Z : List Int) (y : Int) (hs : a.eval s = u) (hown : Own B w u M Z) (b : Nat)
    (hx : a.eval x = .slice (some ⟨b, 0, none⟩) 1 1) (hsg : Seg .u8 w (some ⟨b, 0, none⟩) 1 [y]) (hb : M + 1 ≤ 140737488355328) (hB : B ≤ w.heap.size)
    (K : ∀ v' w', Own B w' v' (M + 1) (Z ++ [y]) → Own B w' u M Z → w.grownBy w' u.ownBlock → ((∃ g cap, u = .slice (some ⟨g, 0, none⟩) M cap ∧ v' = .slice (some ⟨g, 0, none⟩) (M + 1) cap) ∨ (∃ g cap, v' = .slice (some ⟨g, 0, none⟩) (M + 1) cap ∧ w.heap.size ≤ g)) → wpList Tryd.prog ops Q rest (a.put o.dst v') w') :
    wpList Tryd.prog ops Q (o :: rest) a w := by
  refine wpList_plain hgd fun K' hK' => ?_
  obtain ⟨v', w', hr, h1, h2⟩ := run_app w o.type B M u Z hown ⟨b, 0, none⟩ 1 1 [y] hsg (by omega) hb hB
  have hzl : Z.length = M := by have := hown.1; simpa using this
  unfold Oper.wp execOp
  simp only [ho, resolve, invoke, builtin, Sem.run_bind, Sem.run_pure, Result.andThen_ok, List.map_toArray, List.map_cons, List.map_nil, hs, hx, hr]
  refine hK' _ _ ?_
  rcases h2 with ⟨g2, cap, e1, e2, e3⟩ | ⟨cap, e2, e3⟩
  · refine K v' w' h1 ?_ (by rw [e1]; exact e3) (.inl ⟨g2, cap, e1, e2⟩)
    rw [e2] at h1
    rw [e1]
    exact h1.cut (by omega) (by rw [List.take_append_of_le_length (by omega), List.take_of_length_le (by omega)])
  · exact K v' w' h1 (hown.grown e3 (fun _ _ e => by cases e)) (gb_wide e3 _) (.inr ⟨w.heap.size, cap, e2, Nat.le_refl _⟩)
end Go.Proofs.YtegbgmihcokblaaDoor
