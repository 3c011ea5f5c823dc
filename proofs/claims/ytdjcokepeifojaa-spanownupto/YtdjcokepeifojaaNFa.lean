/-
  Lists of one's own, no two of which share a block, whatever their elements: what is done with one of them leaves the others; append, and what stays. No condition of its own.
-/
import Derived.Test.YtdjcokepeifojaaNRr
import Derived.Maps.AppendAt
namespace Go.Proofs.Ytdjcokepeifojaa
set_option linter.unusedVariables false
open Go.RowKit

theorem own_lo {w : World} {B : Nat} {e : TypeId} {size : Nat} {v : Value} {n : Nat} {xs : List Value} (h : w.ownsRow B e size v n xs) : ∀ g, v.ownBlock = some g → B ≤ g ∧ g < w.heap.size := fun g hg => by
  rcases h.2 with ⟨rfl, _⟩ | ⟨g', cap, cur, rfl, hB, hgb, _⟩
  · cases hg
  · cases hg; exact ⟨hB, lt_of_block hgb⟩
theorem own_gro {w w' : World} {B : Nat} {e : TypeId} {size : Nat} {v : Value} {n : Nat} {xs : List Value} {row : Option Nat} (h : w.ownsRow B e size v n xs) (hg : w.grownBy w' row) (hne : ∀ g, v.ownBlock = some g → row ≠ some g) : w'.ownsRow B e size v n xs := by
  refine ⟨h.1, ?_⟩
  rcases h.2 with h0 | ⟨g, cap, cur, rfl, hB, hgb, r⟩
  · exact .inl h0
  · exact .inr ⟨g, cap, cur, rfl, hB, (hg.block g (lt_of_block hgb) (fun e => hne g rfl e.symm)).trans hgb, r⟩
theorem own_shape {w : World} {B : Nat} {T : TypeId} {sz : Nat} {v : Value} {n : Nat} {xs : List Value} (h : w.ownsRow B T sz v n xs) : (∃ a c, v = .slice a n c) ∧ (0 < n → ∃ g c, v = .slice (some ⟨g, 0, none⟩) n c) := by
  rcases h.2 with ⟨rfl, rfl⟩ | ⟨g, cap, cur, rfl, _⟩
  · exact ⟨⟨_, _, rfl⟩, fun h => by omega⟩
  · exact ⟨⟨_, _, rfl⟩, fun _ => ⟨_, _, rfl⟩⟩
def upd {α : Type} (f : Nat → α) (i : Nat) (x : α) : Nat → α := fun j => if j = i then x else f j
theorem upd_at {α : Type} (f : Nat → α) (i : Nat) (x : α) : upd f i x i = x := if_pos rfl
theorem upd_ne {α : Type} (f : Nat → α) (i : Nat) (x : α) {j : Nat} (h : j ≠ i) : upd f i x j = f j := if_neg h
/-- n lists V, each with what became of it, U: the cells of each, of elements E of so many cells S; no two share a block, and none lies in a block of D. -/
structure Fam (B : Nat) (w : World) (D : Nat → Prop) (n : Nat) (E : Nat → TypeId) (S : Nat → Nat) (V U : Nat → Value) (l m : Nat → Nat) (X Z : Nat → List Value) : Prop where
  v : ∀ i, i < n → w.ownsRow B (E i) (S i) (V i) (l i) (X i)
  u : ∀ i, i < n → w.ownsRow B (E i) (S i) (U i) (m i) (Z i)
  apart : ∀ i j g, i < n → j < n → i ≠ j → ((V i).ownBlock = some g ∨ (U i).ownBlock = some g) → (V j).ownBlock ≠ some g ∧ (U j).ownBlock ≠ some g
  off : ∀ i g, i < n → ((V i).ownBlock = some g ∨ (U i).ownBlock = some g) → ¬ D g
theorem Fam.lt {B w D n E S V U l m X Z} (h : Fam B w D n E S V U l m X Z) {i g : Nat} (hi : i < n) (hg : (V i).ownBlock = some g ∨ (U i).ownBlock = some g) : B ≤ g ∧ g < w.heap.size := by
  rcases hg with hg | hg
  · exact own_lo (h.v i hi) g hg
  · exact own_lo (h.u i hi) g hg
/-- What is done elsewhere. -/
theorem Fam.gb {B w w' D n E S V U l m X Z} {row : Option Nat} (h : Fam B w D n E S V U l m X Z) (hg : w.grownBy w' row) (hr : ∀ g, row = some g → D g ∨ w.heap.size ≤ g) : Fam B w' D n E S V U l m X Z := by
  have hne : ∀ i g, i < n → ((V i).ownBlock = some g ∨ (U i).ownBlock = some g) → row ≠ some g := fun i g hi hb e => by
    rcases hr g e with q | q
    · exact h.off i g hi hb q
    · have := (h.lt hi hb).2; omega
  exact ⟨fun i hi => own_gro (h.v i hi) hg (fun g e => hne i g hi (.inl e)), fun i hi => own_gro (h.u i hi) hg (fun g e => hne i g hi (.inr e)), h.apart, h.off⟩
/-- What is done with one of them. -/
theorem Fam.step {B w w' D n E S V U l m X Z i U' m' X' Z'} {row : Option Nat} (h : Fam B w D n E S V U l m X Z) (hi : i < n) (hg : w.grownBy w' row) (hr : ∀ g, row = some g → (V i).ownBlock = some g ∨ (U i).ownBlock = some g)
    (hV : w'.ownsRow B (E i) (S i) (V i) (l i) X') (hU : w'.ownsRow B (E i) (S i) U' m' Z') (hat : ∀ g, U'.ownBlock = some g → (V i).ownBlock = some g ∨ (U i).ownBlock = some g ∨ w.heap.size ≤ g) (hD : ∀ g, D g → g < w.heap.size) :
    Fam B w' D n E S V (upd U i U') l (upd m i m') (upd X i X') (upd Z i Z') := by
  refine ⟨fun j hj => ?_, fun j hj => ?_, fun j k g hj hk hjk hb => ?_, fun j g hj hb => ?_⟩
  · by_cases e : j = i
    · subst e; rw [upd_at]; exact hV
    · rw [upd_ne _ _ _ e]
      exact own_gro (h.v j hj) hg (fun g e1 e2 => (h.apart i j g hi hj (fun q => e q.symm) (hr g e2)).1 e1)
  · by_cases e : j = i
    · subst e; rw [upd_at, upd_at, upd_at]; exact hU
    · rw [upd_ne _ _ _ e, upd_ne _ _ _ e, upd_ne _ _ _ e]
      exact own_gro (h.u j hj) hg (fun g e1 e2 => (h.apart i j g hi hj (fun q => e q.symm) (hr g e2)).2 e1)
  · by_cases e : j = i
    · subst e
      rw [upd_at] at hb
      rw [upd_ne _ _ _ (fun q => hjk q.symm)]
      have hb' : (V j).ownBlock = some g ∨ (U j).ownBlock = some g ∨ w.heap.size ≤ g := by
        rcases hb with q | q
        · exact .inl q
        · exact hat g q
      rcases hb' with q | q | q
      · exact h.apart j k g hj hk hjk (.inl q)
      · exact h.apart j k g hj hk hjk (.inr q)
      · exact ⟨fun r => by have := (h.lt hk (.inl r)).2; omega, fun r => by have := (h.lt hk (.inr r)).2; omega⟩
    · rw [upd_ne _ _ _ e] at hb
      have ha := h.lt hj hb
      by_cases e2 : k = i
      · subst e2
        rw [upd_at]
        have := h.apart j k g hj hk hjk hb
        refine ⟨this.1, fun r => ?_⟩
        rcases hat g r with q | q | q
        · exact this.1 q
        · exact this.2 q
        · omega
      · rw [upd_ne _ _ _ e2]
        exact h.apart j k g hj hk hjk hb
  · by_cases e : j = i
    · subst e
      rw [upd_at] at hb
      have hb' : (V j).ownBlock = some g ∨ (U j).ownBlock = some g ∨ w.heap.size ≤ g := by
        rcases hb with q | q
        · exact .inl q
        · exact hat g q
      rcases hb' with q | q | q
      · exact h.off j g hj (.inl q)
      · exact h.off j g hj (.inr q)
      · intro r; have := hD g r; omega
    · rw [upd_ne _ _ _ e] at hb
      exact h.off j g hj hb
/-- A list that is the beginning of another one in its block. -/
theorem own_cut {w : World} {B g l c m : Nat} {e : TypeId} {size : Nat} {xs zs : List Value} (h : w.ownsRow B e size (.slice (some ⟨g, 0, none⟩) m c) m zs) (hl : l ≤ m) (hx : zs.take (l * size) = xs) : w.ownsRow B e size (.slice (some ⟨g, 0, none⟩) l c) l xs := by
  have hzl : zs.length = m * size := h.1
  have hls : l * size ≤ m * size := Nat.mul_le_mul_right _ hl
  subst hx
  refine ⟨by rw [List.length_take]; omega, .inr ?_⟩
  rcases h.2 with ⟨h', _⟩ | ⟨g', cap', cur, h', hB, hg, hn, hm, hsz, htake⟩
  · simp at h'
  · simp only [Value.slice.injEq, Option.some.injEq, Addr.mk.injEq, and_true, true_and] at h'
    obtain ⟨rfl, rfl⟩ := h'
    refine ⟨g, c, cur, rfl, hB, hg, by omega, hm, hsz, ?_⟩
    rw [← htake, List.take_take, Nat.min_eq_left hls]
/-- One element more behind what became of a list: what the list holds stays. -/
theorem both_app {B : Nat} {w w' : World} {e : TypeId} {size : Nat} {V U U' : Value} {l m : Nat} {X Z : List Value} (hV : w.ownsRow B e size V l X) (hU2 : w'.ownsRow B e size U m Z) (hrel : U.ownBlock = V.ownBlock → U = .slice none 0 0 ∨ ∃ g c, V = .slice (some ⟨g, 0, none⟩) l c ∧ U = .slice (some ⟨g, 0, none⟩) m c) (hlm : l ≤ m) (hX : Z.take (l * size) = X) (hg : w.grownBy w' U.ownBlock)
    (hs : (∃ g cap, U = .slice (some ⟨g, 0, none⟩) m cap ∧ U' = .slice (some ⟨g, 0, none⟩) (m + 1) cap) ∨ (∃ g cap, U' = .slice (some ⟨g, 0, none⟩) (m + 1) cap ∧ w.heap.size ≤ g)) :
    w'.ownsRow B e size V l X ∧ (U'.ownBlock = V.ownBlock → U' = .slice none 0 0 ∨ ∃ g c, V = .slice (some ⟨g, 0, none⟩) l c ∧ U' = .slice (some ⟨g, 0, none⟩) (m + 1) c) ∧ (∀ g, U'.ownBlock = some g → U.ownBlock = some g ∨ w.heap.size ≤ g) := by
  have hVo : w'.ownsRow B e size V l X := by
    by_cases e : U.ownBlock = V.ownBlock
    · rcases hrel e with q | ⟨g, c, q1, q2⟩
      · refine own_gro hV hg (fun g' e1 e2 => ?_)
        rw [q] at e2; cases e2
      · subst q1 q2
        exact own_cut hU2 hlm hX
    · exact own_gro hV hg (fun g' e1 e2 => e (by rw [e1]; exact e2))
  refine ⟨hVo, fun e => ?_, fun g' e => ?_⟩
  · rcases hs with ⟨g, cap, rfl, rfl⟩ | ⟨gn, cap, rfl, hgn⟩
    · rcases hrel e with q | ⟨g', c', q1, q2⟩
      · cases q
      · simp only [Value.slice.injEq, Option.some.injEq, Addr.mk.injEq, and_true, true_and] at q2
        obtain ⟨rfl, rfl⟩ := q2
        exact .inr ⟨g, cap, q1, rfl⟩
    · have := own_lo hV gn e.symm; omega
  · rcases hs with ⟨g, cap, rfl, rfl⟩ | ⟨gn, cap, rfl, hgn⟩
    · exact .inl e
    · have e' : gn = g' := Option.some.inj e
      exact .inr (by omega)
theorem Fam.dom {B w D D' n E S V U l m X Z} (h : Fam B w D n E S V U l m X Z) (hd : ∀ k, D' k → D k ∨ w.heap.size ≤ k) : Fam B w D' n E S V U l m X Z :=
  ⟨h.v, h.u, h.apart, fun i g hi hb z => by
    rcases hd g z with q | q
    · exact h.off i g hi hb q
    · have := (h.lt hi hb).2; omega⟩
theorem upd_self {α : Type} (f : Nat → α) (i : Nat) : upd f i (f i) = f := by
  funext j
  unfold upd
  split
  · next e => rw [e]
  · rfl
theorem upd_upd {α : Type} (f : Nat → α) (i : Nat) (x y : α) : upd (upd f i x) i y = upd f i y := by
  funext j
  unfold upd
  split <;> rfl
/-- append of one new element to a list of one's own: what it was stays, too. -/
theorem wpList_app1 {ops : Array Oper} {rest : List Oper} {o : Oper} {a : Act} {Q : Exit → Act → World → Prop} {w : World} (hgd : o.guard = none) (s x : Operand) (t : TypeId)
    (ho : o.op = .call { callee := .builtin .append, args := #[s, x], argTypes := #[t, t] })
    (B : Nat) (e : TypeId) (z : Value) (size bytes : Nat) (ht : Try.prog.underlying t = some (.slice e)) (hi : (Try.prog.info? e).map (fun i => (i.zero, i.size, i.bytes)) = some (some z, size, bytes)) (hzs : z.cells.size = size) (hsz : 0 < size) (hby : 0 < bytes)
    (w0 : World) (cs : Array Value) (hw : w = w0.alloc (.cells cs e)) (u : Value) (M : Nat) (Z : List Value) (hs : a.eval s = u) (hown : w0.ownsRow B e size u M Z)
    (hx : a.eval x = .slice (some ⟨w0.heap.size, 0, none⟩) 1 1) (hl : cs.size = size) (h1 : ∀ u ∈ cs.toList, u.oneCell' = true)
    (h63 : M + 1 ≤ maxLen) (hbytes : (M + 1) * bytes ≤ 140737488355328) (hbase : B ≤ w0.heap.size)
    (K : ∀ v' w', w'.ownsRow B e size v' (M + 1) (Z ++ cs.toList) → w'.ownsRow B e size u M Z → w0.grownBy w' u.ownBlock → ((∃ g cap, u = .slice (some ⟨g, 0, none⟩) M cap ∧ v' = .slice (some ⟨g, 0, none⟩) (M + 1) cap) ∨ (∃ g cap, v' = .slice (some ⟨g, 0, none⟩) (M + 1) cap ∧ w0.heap.size ≤ g)) → wpList Try.prog ops Q rest (a.put o.dst v') w') :
    wpList Try.prog ops Q (o :: rest) a w := by
  subst hw
  obtain ⟨i, hi, hz, h4, h5⟩ := info_parts' hi
  have hown' := own_gb hown (gb_alloc w0 (.cells cs e))
  have hl2 : cs.toList.length = 1 * size := by rw [Array.length_toList, hl]; omega
  have hnews := World.news_of_block (heap_new w0 (.cells cs e))
  refine wpList_plain hgd fun K' hK' => ?_
  obtain ⟨v', w', hr, h1', hg, _, hat⟩ := run_append_own_at (P := Try.prog) (w := w0.alloc (.cells cs e)) B t o.type e i z size bytes ht hi hz h4 h5 hzs hsz u M Z hown' ⟨w0.heap.size, 0, none⟩ 1 1 cs.toList hl2 hnews h1 h63 hbytes (Nat.le_trans hbase (gb_alloc w0 _).size)
  have hzl : Z.length = M * size := hown.1
  unfold Oper.wp execOp
  simp only [ho, resolve, invoke, builtin, Sem.run_bind, Sem.run_pure, Result.andThen_ok, List.map_toArray, List.map_cons, List.map_nil, hs, hx, hr]
  refine hK' _ _ ?_
  have hsz0 := (gb_alloc w0 (.cells cs e)).size
  have hM47 : M + 1 ≤ 140737488355328 := Nat.le_trans (Nat.le_mul_of_pos_right _ hby) hbytes
  rcases hown'.2 with ⟨rfl, rfl⟩ | ⟨g, cap, cur, rfl, hBg, hgb, hn, hcm, hsz2, htake⟩
  · obtain ⟨g', c', e1, _, _⟩ := World.ownsRow.form h1' (by omega)
    subst e1
    refine K _ w' h1' (own_gro hown' hg (fun g q => by cases q)) (gb_trans (gb_wide (gb_alloc w0 _) _) hg) (.inr ⟨g', c', rfl, ?_⟩)
    rcases hat with q | q
    · cases q
    · have q' : g' = (w0.alloc (.cells cs e)).heap.size := Option.some.inj q
      omega
  · by_cases hroom : M + 1 ≤ cap
    · have hrr := run_append_room (P := Try.prog) (w0.alloc (.cells cs e)) t o.type e i ht hi g M cap cur hgb ⟨w0.heap.size, 0, none⟩ 1 1 cs.toList (by rw [hl2, h4]) hnews h1 hroom (by rw [hl2, h4, hsz2]; have := Nat.mul_le_mul_right size hroom; rw [Nat.add_mul] at this; omega)
      rw [hr] at hrr
      injection hrr with e1 e2
      subst e1
      refine K _ w' h1' (own_cut h1' (Nat.le_succ M) ?_) (gb_trans (gb_wide (gb_alloc w0 _) _) hg) (.inl ⟨g, cap, rfl, rfl⟩)
      rw [List.take_append_of_le_length (by omega), List.take_of_length_le (by omega)]
    · have hrr := run_append_grow (P := Try.prog) (w0.alloc (.cells cs e)) t o.type e i z ht hi hz ⟨g, 0, none⟩ M cap Z (by rw [hzl, h4]) (fun j u hu => hown'.cells (g := g) rfl j u hu) ⟨w0.heap.size, 0, none⟩ 1 1 cs.toList (by rw [hl2, h4]) hnews (by omega) (by omega) (growslice_fits (by omega) (by rw [h5]; omega))
      rw [hr] at hrr
      injection hrr with e1 e2
      subst e1 e2
      refine K _ _ h1' ?_ (gb_trans (gb_wide (gb_alloc w0 _) _) hg) (.inr ⟨_, _, rfl, hsz0⟩)
      exact own_gro (row := none) hown' (gb_trans (gb_drewN (gb_refl _) 1) (World.grownBy_alloc _ _ _)) (fun g q z => by cases z)
end Go.Proofs.Ytdjcokepeifojaa
