/-
  What the document's Own answers of lists of one's own, each in memory apart from the others': true. Condition: at most 1000 lists, each of at most 2^46 bytes.
-/
import Derived.Test.YtlmjgjimmbadeaaDoorOwB
import Derived.Test.YtlmjgjimmbadeaaDoorFa
import Derived.Test.YtlmjgjimmbadeaaDoorTSk
import Derived.Test.YtlmjgjimmbadeaaDoorRLk
import Derived.Deep.RegionHeld3
namespace Go.Proofs.YtlmjgjimmbadeaaDoor
open Go.RowKit
set_option linter.unusedVariables false

theorem Tryd.infoS8 : (Tryd.prog.info? 27).map (fun i => (i.zero, i.size, i.bytes)) = some (some (.slice none 0 0), 1, 24) := by kernel_rfl
theorem upd_self {α : Type} (f : Nat → α) (i : Nat) : upd f i (f i) = f := by
  funext j
  by_cases h : j = i
  · subst h; exact upd_at _ _ _
  · exact upd_ne _ _ _ h
theorem upd_upd {α : Type} (f : Nat → α) (i : Nat) (x y : α) : upd (upd f i x) i y = upd f i y := by
  funext j
  by_cases h : j = i
  · subst h; rw [upd_at, upd_at]
  · rw [upd_ne _ _ _ h, upd_ne _ _ _ h, upd_ne _ _ _ h]
theorem Fam.set {B w D n V l X i g c k} (h : Fam B w D n V V l l X X) (hi : i < n) (hV : V i = .slice (some ⟨g, 0, none⟩) (l i) c) (hk : k < l i) (y : Int) (hD : ∀ g, D g → g < w.heap.size) :
    Fam B (w.setCell ⟨g, k, none⟩ (.int .u8 y)) D n V V l l (upd X i ((X i).set k y)) (upd X i ((X i).set k y)) := by
  have ho := h.v i hi
  rw [hV] at ho
  have h1 : Own B (w.setCell ⟨g, k, none⟩ (.int .u8 y)) (V i) (l i) ((X i).set k y) := by rw [hV]; exact Own.set ho k hk y
  have := h.step (U' := V i) (m' := l i) hi (grownBy_cell w g k (.int .u8 y)) (fun g' e => by rw [hV]; exact .inl e) h1 h1 (fun g' e => .inl e) hD
  rw [upd_self, upd_self] at this
  exact this
/-- The blocks of the lists. -/
def LB (V : Nat → Value) (n : Nat) (g : Nat) : Prop := ∃ i, i < n ∧ (V i).ownBlock = some g
theorem gr_then {G : Nat → Prop} {w wr w' : World} {row : Option Nat} (h : Gr G w wr) (hg : wr.grownBy w' row) (hr : ∀ k, row = some k → G k ∨ w.heap.size ≤ k) : Gr G w w' := by
  have hs := h.size
  refine ⟨hg.os.trans h.os, hg.tape.trans h.tape, hg.output.trans h.output, Nat.le_trans hs hg.size, fun k hk hn => ?_⟩
  refine (hg.block k (by omega) (fun e => ?_)).trans (h.block k hk hn)
  rcases hr k e.symm with q | q
  · exact hn q
  · omega
/-- What the first loop leaves. -/
def S1 (B : Nat) (w : World) (D : Nat → Prop) (P n : Nat) (V : Nat → Value) (l : Nat → Nat) (k : Nat) (wr : World) (X : Nat → List Int) : Prop :=
  Fam B wr D n V V l l X X ∧ (∀ i, i < k → X i = mks i (l i)) ∧ Gr (LB V n) w wr ∧ (∀ i, i < n → wr.cell? ⟨P, i, none⟩ = some (V i)) ∧ (∀ g, D g → g < wr.heap.size) ∧ B ≤ wr.heap.size
theorem S1.set {B w D P n V l k wr X g c j} (h : S1 B w D P n V l k wr X) (hD : D P) (hk : k < n) (hV : V k = .slice (some ⟨g, 0, none⟩) (l k) c) (hj : j < l k) (R : List Int) (hX : X k = mks k j ++ R) :
    ∃ X' R', S1 B w D P n V l k (wr.setCell ⟨g, j, none⟩ (.int .u8 (mrk k j))) X' ∧ X' k = mks k (j + 1) ++ R' := by
  obtain ⟨h1, h2, h3, h4, h5, h6⟩ := h
  have hBg := (h1.lt hk (.inl (by rw [hV]; rfl)) : B ≤ g ∧ g < wr.heap.size)
  have hPg : P ≠ g := fun e => h1.off k g hk (.inl (by rw [hV]; rfl)) (e ▸ hD)
  have hl : (X k).length = l k := by have := (h1.v k hk).1; simpa using this
  rw [hX, List.length_append, mks_length] at hl
  refine ⟨_, R.drop 1, ⟨h1.set hk hV hj (mrk k j) h5, fun i hi => ?_, gr_then h3 (grownBy_cell wr g j _) (fun q e => by cases e; exact .inl ⟨k, hk, by rw [hV]; rfl⟩), fun i hi => ?_, fun g' hg' => ?_, ?_⟩, ?_⟩
  · rw [upd_ne _ _ _ (by omega)]; exact h2 i hi
  · rw [World.cell?_of_block (w := wr) (a := ⟨P, i, none⟩) (Below.heap_setCell _ _ _ _ (fun e => hPg e))]; exact h4 i hi
  · have := h5 g' hg'; simpa using this
  · simpa using h6
  · rw [upd_at, hX, mks_succ]
    match R, hl with
    | [], hl => simp at hl; omega
    | r :: R, hl =>
      rw [List.set_append_right _ _ (by rw [mks_length]; exact Nat.le_refl _), mks_length, Nat.sub_self]
      simp
theorem S1.drew {B w D P n V l k wr X} (h : S1 B w D P n V l k wr X) : S1 B w D P n V l k wr.drew X := by
  obtain ⟨h1, h2, h3, h4, h5, h6⟩ := h
  exact ⟨h1.gb (row := none) (gb_drewN (World.grownBy.refl _ _) 1) (by simp), h2, gr_then h3 (gb_drewN (World.grownBy.refl wr none) 1) (by simp), h4, h5, h6⟩
theorem S1.next {B w D P n V l k wr X R} (h : S1 B w D P n V l k wr X) (hk : k < n) (hX : X k = mks k (l k) ++ R) : S1 B w D P n V l (k + 1) wr X := by
  obtain ⟨h1, h2, h3, h4, h5, h6⟩ := h
  have hl : (X k).length = l k := by have := (h1.v k hk).1; simpa using this
  have hR : R = [] := by
    rw [hX, List.length_append, mks_length] at hl
    exact List.eq_nil_of_length_eq_zero (by omega)
  refine ⟨h1, fun i hi => ?_, h3, h4, h5, h6⟩
  by_cases e : i = k
  · subst e; rw [hX, hR, List.append_nil]
  · exact h2 i (by omega)
/-- The list of what becomes of the lists. -/
def Gq (w : World) (Q n : Nat) (G : Nat → Value) : Prop := w.heap[Q]? = some (.cells ((List.range n).map G).toArray 27 (0, 0))
theorem Gq.cell {w Q n G} (h : Gq w Q n G) (i : Nat) (hi : i < n) : w.cell? ⟨Q, i, none⟩ = some (G i) := by
  rw [cell_of_row w Q i _ _ _ h]; simp [hi]
theorem Gq.free {w Q n G} (h : Gq w Q n G) (i : Nat) : w.frozen? ⟨Q, i, none⟩ = false := frozen_of_row w Q i _ _ h
theorem Gq.set {w Q n G} (h : Gq w Q n G) (i : Nat) (v : Value) : Gq (w.setCell ⟨Q, i, none⟩ v) Q n (upd G i v) := by
  unfold Gq
  rw [heap_setCell_same w Q i _ 27 v h]
  congr 2
  apply Array.ext_getElem?
  intro j
  rw [Array.getElem?_setIfInBounds]
  by_cases hj : j < n
  · by_cases e : i = j
    · subst e; simp [hj, upd_at]
    · rw [if_neg e]; simp [hj, upd_ne G i v (fun q => e q.symm)]
  · have h1 : ¬ j < ((List.range n).map G).toArray.size := by simpa using hj
    by_cases e : i = j
    · subst e; simp [hj]
    · rw [if_neg e]; simp [hj]
theorem Gq.grew {w w' Q n G row} (h : Gq w Q n G) (hg : w.grownBy w' row) (hne : row ≠ some Q) : Gq w' Q n G := (hg.block Q (lt_of_block h) (fun e => hne e.symm)).trans h
/-- Between the second loop's rounds, and within one: k lists are done, those from t on are as they were. -/
structure S2 (B : Nat) (w : World) (D : Nat → Prop) (P Q n : Nat) (V : Nat → Value) (l : Nat → Nat) (k t : Nat) (wr : World) (G U : Nat → Value) (m : Nat → Nat) (Z : Nat → List Int) : Prop where
  fam : Fam B wr (fun g => D g ∨ g = Q) n V U l m (fun i => mks i (l i)) Z
  did : ∀ i, i < k → m i = l i + 16 ∧ Z i = mks i (l i) ++ mks (i + 7) 16 ∧ G i = U i
  todo : ∀ i, t ≤ i → i < n → U i = V i ∧ m i = l i ∧ Z i = mks i (l i)
  bel : Gr (LB V n) w wr
  ps : ∀ i, i < n → wr.cell? ⟨P, i, none⟩ = some (V i)
  gq : Gq wr Q n G
  dl : ∀ g, D g → g < wr.heap.size
  bl : B ≤ wr.heap.size
  bq : B ≤ Q
  pq : P ≠ Q
  dp : D P
  wq : w.heap.size ≤ Q
  ub : ∀ i g, i < n → (U i).ownBlock = some g → LB V n g ∨ w.heap.size ≤ g
theorem gq_made {w1 w2 : World} {n : Nat} (h : w2.ownsRow w1.heap.size 27 1 (.slice (some ⟨w1.heap.size, 0, none⟩) n n) n (madeCells (Value.slice none 0 0).cells (n * 1)).toList) : Gq w2 w1.heap.size n (fun _ => .slice none 0 0) := by
  rcases h.2 with ⟨h', _⟩ | ⟨g', cap', cur, h', _, hg, _, _, hs, htake⟩
  · simp at h'
  · simp only [Value.slice.injEq, Option.some.injEq, Addr.mk.injEq, and_true, true_and] at h'
    obtain ⟨rfl, rfl⟩ := h'
    unfold Gq
    rw [List.take_of_length_le (by rw [Array.length_toList, hs]; exact Nat.le_refl _)] at htake
    rw [hg]
    congr 2
    apply Array.toList_inj.1
    rw [htake, show (madeCells (Value.slice none 0 0).cells (n * 1)).toList = List.replicate n (.slice none 0 0) from by simpa [Value.cells] using toList_madeCells_one (.slice none 0 0) n]
    apply List.ext_getElem?
    intro i
    by_cases hi : i < n <;> simp [hi]
theorem Fam.more {B w D n V U l m X Z Q} (h : Fam B w D n V U l m X Z) (hQ : ∀ i g, i < n → ((V i).ownBlock = some g ∨ (U i).ownBlock = some g) → g ≠ Q) : Fam B w (fun g => D g ∨ g = Q) n V U l m X Z :=
  ⟨h.v, h.u, h.apart, fun i g hi hb q => by rcases q with q | q; exact h.off i g hi hb q; exact hQ i g hi hb q⟩
theorem S1.two {B w D P n V l wr X w1} (h : S1 B w D P n V l n wr X) (hDP : D P) (hg : wr.grownBy w1 none) (hq : Gq w1 wr.heap.size n (fun _ => .slice none 0 0)) : S2 B w D P wr.heap.size n V l 0 0 w1 (fun _ => .slice none 0 0) V l (fun i => mks i (l i)) := by
  obtain ⟨h1, h2, h3, h4, h5, h6⟩ := h
  have hf : Fam B wr D n V V l l (fun i => mks i (l i)) (fun i => mks i (l i)) := ⟨fun i hi => by have := h1.v i hi; rw [h2 i hi] at this; exact this, fun i hi => by have := h1.v i hi; rw [h2 i hi] at this; exact this, h1.apart, h1.off⟩
  refine ⟨(hf.gb hg (by simp)).more (fun i g hi hb => by have := (hf.lt hi hb).2; omega), fun i hi => by omega, fun i _ _ => ⟨rfl, rfl, rfl⟩, gr_then h3 hg (fun _ e => by cases e), fun i hi => ?_, hq, fun g hg' => by have := h5 g hg'; have := hg.size; omega, by have := hg.size; omega, h6, ?_, hDP, h3.size, fun i g hi e => .inl ⟨i, hi, e⟩⟩
  · exact hg.cell (h4 i hi) (by simp)
  · have := h5 P hDP; omega
theorem S2.drew {B w D P Q n V l k t wr G U m Z} (h : S2 B w D P Q n V l k t wr G U m Z) : S2 B w D P Q n V l k t wr.drew G U m Z :=
  ⟨h.fam.gb (row := none) (gb_drewN (World.grownBy.refl _ _) 1) (by simp), h.did, h.todo, gr_then h.bel (gb_drewN (World.grownBy.refl wr none) 1) (by simp), h.ps, h.gq, h.dl, h.bl, h.bq, h.pq, h.dp, h.wq, h.ub⟩
theorem cell_setOther {w : World} {Q i : Nat} {v : Value} {P j : Nat} (h : P ≠ Q) : (w.setCell ⟨Q, i, none⟩ v).cell? ⟨P, j, none⟩ = w.cell? ⟨P, j, none⟩ :=
  World.cell?_of_block (w := w) (a := ⟨P, j, none⟩) (Below.heap_setCell _ _ _ _ (fun e => h e))
/-- grown[k] = lists[k]. -/
theorem S2.lay {B w D P Q n V l k wr G U m Z} (h : S2 B w D P Q n V l k k wr G U m Z) (hk : k < n) (v : Value) (hv : v = V k) : S2 B w D P Q n V l k (k + 1) (wr.setCell ⟨Q, k, none⟩ v) (upd G k v) U m Z ∧ upd G k v k = U k ∧ m k = l k + 0 ∧ Z k = mks k (l k) ++ mks (k + 7) 0 ∧ ((U k).ownBlock = (V k).ownBlock → U k = .slice none 0 0 ∨ ∃ g c, V k = .slice (some ⟨g, 0, none⟩) (l k) c ∧ U k = .slice (some ⟨g, 0, none⟩) (m k) c) := by
  obtain ⟨t1, t2, t3⟩ := h.todo k (Nat.le_refl _) hk
  refine ⟨⟨h.fam.gb (grownBy_cell wr Q k v) (fun g e => by cases e; exact .inl (.inr rfl)), fun i hi => ?_, fun i hi hi' => h.todo i (by omega) hi', gr_then h.bel (grownBy_cell wr Q k v) (fun q e => by cases e; exact .inr h.wq), fun i hi => ?_, h.gq.set k v, fun g hg => by have := h.dl g hg; simpa using this, by simpa using h.bl, h.bq, h.pq, h.dp, h.wq, h.ub⟩, by rw [upd_at, hv, t1], t2, by rw [t3]; simp [mks], fun _ => ?_⟩
  · obtain ⟨d1, d2, d3⟩ := h.did i hi
    exact ⟨d1, d2, by rw [upd_ne _ _ _ (by omega)]; exact d3⟩
  · rw [cell_setOther h.pq]; exact h.ps i hi
  · rw [t1, t2]
    rcases (h.fam.v k hk).2 with ⟨q, _⟩ | ⟨g, c, cur, q, _⟩
    · exact .inl q
    · exact .inr ⟨g, c, q, q⟩
/-- One byte more behind what became of list k. -/
theorem S2.app {B w D P Q n V l k j wr w' G U m Z g' c'} {y : Int} (h : S2 B w D P Q n V l k (k + 1) wr G U m Z) (hk : k < n) (hm : m k = l k + j) (hZ : Z k = mks k (l k) ++ mks (k + 7) j) (hy : y = mrk (k + 7) j)
    (hrel : (U k).ownBlock = (V k).ownBlock → U k = .slice none 0 0 ∨ ∃ g c, V k = .slice (some ⟨g, 0, none⟩) (l k) c ∧ U k = .slice (some ⟨g, 0, none⟩) (m k) c)
    (ho : Own B w' (.slice (some ⟨g', 0, none⟩) (m k + 1) c') (m k + 1) (Z k ++ [y])) (hU2 : Own B w' (U k) (m k) (Z k)) (hg : wr.grownBy w' (U k).ownBlock)
    (hs : (∃ g cap, U k = .slice (some ⟨g, 0, none⟩) (m k) cap ∧ (Value.slice (some ⟨g', 0, none⟩) (m k + 1) c') = .slice (some ⟨g, 0, none⟩) (m k + 1) cap) ∨ (∃ g cap, (Value.slice (some ⟨g', 0, none⟩) (m k + 1) c') = .slice (some ⟨g, 0, none⟩) (m k + 1) cap ∧ wr.heap.size ≤ g)) :
    w'.cell? ⟨Q, k, none⟩ = some (G k) ∧ w'.frozen? ⟨Q, k, none⟩ = false ∧ (∀ i, i < n → w'.cell? ⟨P, i, none⟩ = some (V i)) ∧
    ∃ U' m' Z', S2 B w D P Q n V l k (k + 1) (w'.setCell ⟨Q, k, none⟩ (.slice (some ⟨g', 0, none⟩) (m k + 1) c')) (upd G k (.slice (some ⟨g', 0, none⟩) (m k + 1) c')) U' m' Z' ∧ U' k = .slice (some ⟨g', 0, none⟩) (m k + 1) c' ∧ m' k = l k + (j + 1) ∧ Z' k = mks k (l k) ++ mks (k + 7) (j + 1) ∧
      ((U' k).ownBlock = (V k).ownBlock → U' k = .slice none 0 0 ∨ ∃ g c, V k = .slice (some ⟨g, 0, none⟩) (l k) c ∧ U' k = .slice (some ⟨g, 0, none⟩) (m' k) c) := by
  have hX : (Z k).take (l k) = mks k (l k) := by
    rw [hZ, List.take_append_of_le_length (by rw [mks_length]; exact Nat.le_refl _), List.take_of_length_le (by rw [mks_length]; exact Nat.le_refl _)]
  obtain ⟨b1, b2, b3⟩ := both_app (h.fam.v k hk) hU2 hrel (by omega) hX hg hs
  obtain ⟨row, b4, b5⟩ : ∃ row, wr.grownBy w' row ∧ ∀ g, row = some g → (U k).ownBlock = some g := ⟨_, hg, fun g e => e⟩
  have hrow : ∀ g, row = some g → ¬ (D g ∨ g = Q) := fun g e => h.fam.off k g hk (.inr (b5 g e))
  have hQr : row ≠ some Q := fun e => hrow Q e (.inr rfl)
  have hgq := h.gq.grew b4 hQr
  have hps : ∀ i, i < n → w'.cell? ⟨P, i, none⟩ = some (V i) := fun i hi => b4.cell (h.ps i hi) (fun e => hrow P e.symm (.inl h.dp))
  have hdq : ∀ g, (D g ∨ g = Q) → g < wr.heap.size := fun g q => by
    rcases q with q | q
    · exact h.dl g q
    · rw [q]; exact lt_of_block h.gq
  have hf := h.fam.step hk b4 (fun g e => .inr (b5 g e)) b1 ho (fun g e => by rcases b3 g e with q | q; exact .inr (.inl q); exact .inr (.inr q)) hdq
  rw [upd_self (fun i => mks i (l i)) k] at hf
  have hsz := b4.size
  refine ⟨hgq.cell k hk, hgq.free k, hps, _, _, _, ⟨hf.gb (grownBy_cell w' Q k _) (fun g e => by cases e; exact .inl (.inr rfl)), fun i hi => ?_, fun i hi hi' => ?_, gr_then (gr_then h.bel b4 (fun g e => h.ub k g hk (b5 g e))) (grownBy_cell w' Q k _) (fun q e => by cases e; exact .inr h.wq), fun i hi => ?_, hgq.set k _, fun g hg => ?_, ?_, h.bq, h.pq, h.dp, h.wq, fun i g hi e => ?_⟩, upd_at _ _ _, ?_, ?_, ?_⟩
  · obtain ⟨d1, d2, d3⟩ := h.did i hi
    rw [upd_ne _ _ _ (by omega), upd_ne _ _ _ (by omega), upd_ne _ _ _ (by omega), upd_ne _ _ _ (by omega)]
    exact ⟨d1, d2, d3⟩
  · rw [upd_ne _ _ _ (by omega), upd_ne _ _ _ (by omega), upd_ne _ _ _ (by omega)]
    exact h.todo i hi hi'
  · rw [cell_setOther h.pq]; exact hps i hi
  · have := h.dl g hg; simp; omega
  · have := h.bl; simp; omega
  · by_cases ei : i = k
    · subst ei
      rw [upd_at] at e
      rcases b3 g e with q | q
      · exact h.ub i g hi q
      · exact .inr (Nat.le_trans h.bel.size q)
    · rw [upd_ne _ _ _ ei] at e; exact h.ub i g hi e
  · rw [upd_at, hm]; omega
  · rw [upd_at, hZ, hy, mks_succ, List.append_assoc]
  · rw [upd_at, upd_at]; exact b2
theorem S2.next {B w D P Q n V l k wr G U m Z} (h : S2 B w D P Q n V l k (k + 1) wr G U m Z) (hk : k < n) (hG : G k = U k) (hm : m k = l k + 16) (hZ : Z k = mks k (l k) ++ mks (k + 7) 16) : S2 B w D P Q n V l (k + 1) (k + 1) wr G U m Z :=
  ⟨h.fam, fun i hi => by
    by_cases e : i = k
    · subst e; exact ⟨hm, hZ, hG⟩
    · exact h.did i (by omega), h.todo, h.bel, h.ps, h.gq, h.dl, h.bl, h.bq, h.pq, h.dp, h.wq, h.ub⟩
theorem app2 {B w D P Q n V l k j wr w' G U m Z g' c' u M} (h : S2 B w D P Q n V l k (k + 1) wr G U m Z ∧ m k = l k + j ∧ Z k = mks k (l k) ++ mks (k + 7) j ∧ ((U k).ownBlock = (V k).ownBlock → U k = .slice none 0 0 ∨ ∃ g c, V k = .slice (some ⟨g, 0, none⟩) (l k) c ∧ U k = .slice (some ⟨g, 0, none⟩) (m k) c)) (hG : G k = u) (hu : u = U k) (hM : M = m k) (hk : k < n)
    (ho : Own B w' (.slice (some ⟨g', 0, none⟩) (M + 1) c') (M + 1) (Z k ++ [mrk (k + 7) j])) (hra : RA B u M (Z k) (mrk (k + 7) j) wr w')
    (hs : (∃ g cap, u = .slice (some ⟨g, 0, none⟩) M cap ∧ (Value.slice (some ⟨g', 0, none⟩) (M + 1) c') = .slice (some ⟨g, 0, none⟩) (M + 1) cap) ∨ (∃ g cap, (Value.slice (some ⟨g', 0, none⟩) (M + 1) c') = .slice (some ⟨g, 0, none⟩) (M + 1) cap ∧ wr.heap.size ≤ g)) :
    w'.cell? ⟨Q, k, none⟩ = some u ∧ w'.frozen? ⟨Q, k, none⟩ = false ∧ ∃ G' U' m' Z', S2 B w D P Q n V l k (k + 1) (w'.setCell ⟨Q, k, none⟩ (.slice (some ⟨g', 0, none⟩) (M + 1) c')) G' U' m' Z' ∧ G' k = U' k ∧ m' k = l k + (j + 1) ∧ Z' k = mks k (l k) ++ mks (k + 7) (j + 1) ∧
      ((U' k).ownBlock = (V k).ownBlock → U' k = .slice none 0 0 ∨ ∃ g c, V k = .slice (some ⟨g, 0, none⟩) (l k) c ∧ U' k = .slice (some ⟨g, 0, none⟩) (m' k) c) := by
  subst hM hu
  obtain ⟨a1, a2, _, U', m', Z', a4, a5, a6, a7, a8⟩ := h.1.app hk h.2.1 h.2.2.1 rfl h.2.2.2 ho (hra.2.1 (h.1.fam.u k hk)) hra.1 hs
  exact ⟨by rw [a1, hG], a2, _, U', m', Z', a4, by rw [upd_at, a5], a6, a7, a8⟩
theorem mks_set (i s n : Nat) (h : s < n) : (mks i s ++ List.replicate (n - s) (0 : Int)).set s (mrk i s) = mks i (s + 1) ++ List.replicate (n - (s + 1)) 0 := by
  rw [List.set_append_right _ _ (by rw [mks_length]; exact Nat.le_refl _), mks_length, Nat.sub_self, mks_succ, show n - s = (n - (s + 1)) + 1 from by omega, List.replicate_succ]
  simp
/-- What the third and fourth loops count on. -/
structure Bs (B : Nat) (w : World) (E : Nat → Prop) (P Q n : Nat) (V : Nat → Value) (l : Nat → Nat) (wr : World) (G U : Nat → Value) (m : Nat → Nat) (Z : Nat → List Int) : Prop where
  fam : Fam B wr E n V U l m (fun i => mks i (l i)) Z
  bel : Gr (LB V n) w wr
  ps : ∀ i, i < n → wr.cell? ⟨P, i, none⟩ = some (V i)
  gq : Gq wr Q n G
  gu : ∀ i, i < n → G i = U i
  el : ∀ g, E g → g < wr.heap.size
  bl : B ≤ wr.heap.size
  bq : B ≤ Q
  pq : P ≠ Q
  ep : E P
  eq : E Q
  wq : w.heap.size ≤ Q
  ub : ∀ i g, i < n → (U i).ownBlock = some g → LB V n g ∨ w.heap.size ≤ g
theorem S2.bs {B w D P Q n V l wr G U m Z} (h : S2 B w D P Q n V l n n wr G U m Z) : Bs B w (fun g => D g ∨ g = Q) P Q n V l wr G U m Z :=
  ⟨h.fam, h.bel, h.ps, h.gq, fun i hi => (h.did i hi).2.2, fun g q => by rcases q with q | q; exact h.dl g q; rw [q]; exact lt_of_block h.gq, h.bl, h.bq, h.pq, .inl h.dp, .inr rfl, h.wq, h.ub⟩
/-- What is done elsewhere. -/
theorem Bs.gb {B w E P Q n V l wr w' G U m Z} {row : Option Nat} (h : Bs B w E P Q n V l wr G U m Z) (hg : wr.grownBy w' row) (hr : ∀ g, row = some g → E g ∧ g ≠ P ∧ g ≠ Q ∧ w.heap.size ≤ g) : Bs B w E P Q n V l w' G U m Z := by
  have hs := hg.size
  refine ⟨h.fam.gb hg (fun g e => .inl (hr g e).1), gr_then h.bel hg (fun g e => .inr (hr g e).2.2.2), fun i hi => hg.cell (h.ps i hi) (fun e => (hr P e.symm).2.1 rfl), h.gq.grew hg (fun e => (hr Q e).2.2.1 rfl), h.gu, fun g q => by have := h.el g q; omega, by have := h.bl; omega, h.bq, h.pq, h.ep, h.eq, h.wq, h.ub⟩
theorem Bs.more {B w E P Q n V l wr w' G U m Z} (h : Bs B w E P Q n V l wr G U m Z) (hg : wr.grownBy w' none) (N : Nat) (hN : wr.heap.size ≤ N) (hN2 : N < w'.heap.size) : Bs B w (fun g => E g ∨ g = N) P Q n V l w' G U m Z := by
  have h' := h.gb hg (fun g e => by cases e)
  refine ⟨h'.fam.more (fun i g hi hb => by have := (h.fam.lt hi hb).2; omega), h'.bel, h'.ps, h'.gq, h'.gu, fun g q => by rcases q with q | q; exact h'.el g q; omega, h'.bl, h'.bq, h'.pq, .inl h'.ep, .inl h'.eq, h'.wq, h'.ub⟩
theorem Bs.less {B w E P Q n V l wr G U m Z N} (h : Bs B w (fun g => E g ∨ g = N) P Q n V l wr G U m Z) (hp : E P) (hq : E Q) : Bs B w E P Q n V l wr G U m Z :=
  ⟨⟨h.fam.v, h.fam.u, h.fam.apart, fun i g hi hb q => h.fam.off i g hi hb (.inl q)⟩, h.bel, h.ps, h.gq, h.gu, fun g q => h.el g (.inl q), h.bl, h.bq, h.pq, hp, hq, h.wq, h.ub⟩
/-- grown[k] is something new. -/
theorem Bs.put {B w E P Q n V l k wr w' G U m Z v m' Z'} {row : Option Nat} (h : Bs B w E P Q n V l wr G U m Z) (hk : k < n) (hg : wr.grownBy w' row) (hr : ∀ g, row = some g → (U k).ownBlock = some g) (hV : Own B w' (V k) (l k) (mks k (l k))) (hU : Own B w' v m' Z') (hat : ∀ g, v.ownBlock = some g → (U k).ownBlock = some g ∨ wr.heap.size ≤ g) :
    w'.cell? ⟨Q, k, none⟩ = some (U k) ∧ w'.frozen? ⟨Q, k, none⟩ = false ∧ Bs B w E P Q n V l (w'.setCell ⟨Q, k, none⟩ v) (upd G k v) (upd U k v) (upd m k m') (upd Z k Z') := by
  have hrow : ∀ g, row = some g → ¬ E g := fun g e => h.fam.off k g hk (.inr (hr g e))
  have hgq := h.gq.grew hg (fun e => hrow Q e h.eq)
  have hps : ∀ i, i < n → w'.cell? ⟨P, i, none⟩ = some (V i) := fun i hi => hg.cell (h.ps i hi) (fun e => hrow P e.symm h.ep)
  have hf := h.fam.step hk hg (fun g e => .inr (hr g e)) hV hU (fun g e => by rcases hat g e with q | q; exact .inr (.inl q); exact .inr (.inr q)) h.el
  rw [upd_self (fun i => mks i (l i)) k] at hf
  have hsz := hg.size
  refine ⟨by rw [hgq.cell k hk, h.gu k hk], hgq.free k, ⟨hf.gb (grownBy_cell w' Q k v) (fun g e => by cases e; exact .inl h.eq), gr_then (gr_then h.bel hg (fun g e => h.ub k g hk (hr g e))) (grownBy_cell w' Q k v) (fun q e => by cases e; exact .inr h.wq), fun i hi => ?_, hgq.set k v, fun i hi => ?_, fun g q => ?_, ?_, h.bq, h.pq, h.ep, h.eq, h.wq, fun i g hi e => ?_⟩⟩
  · rw [cell_setOther h.pq]; exact hps i hi
  · by_cases e : i = k
    · subst e; rw [upd_at, upd_at]
    · rw [upd_ne _ _ _ e, upd_ne _ _ _ e]; exact h.gu i hi
  · have := h.el g q; simp; omega
  · have := h.bl; simp; omega
  · by_cases ei : i = k
    · subst ei
      rw [upd_at] at e
      rcases hat g e with q | q
      · exact h.ub i g hi q
      · exact .inr (Nat.le_trans h.bel.size q)
    · rw [upd_ne _ _ _ ei] at e; exact h.ub i g hi e
/-- The bytes of a list behind the second loop, and behind the third. -/
def Z2 (l : Nat → Nat) (i : Nat) : List Int := mks i (l i) ++ mks (i + 7) 16
def Z3 (l : Nat → Nat) (i : Nat) : List Int := Z2 l i ++ mks (i + 13) 80
theorem Z2_length (l : Nat → Nat) (i : Nat) : (Z2 l i).length = l i + 16 := by simp [Z2, mks_length]
theorem Z3_length (l : Nat → Nat) (i : Nat) : (Z3 l i).length = l i + 96 := by simp [Z3, Z2_length, mks_length]
structure S3 (B : Nat) (w : World) (E : Nat → Prop) (P Q n : Nat) (V : Nat → Value) (l : Nat → Nat) (k : Nat) (wr : World) (G U : Nat → Value) (m : Nat → Nat) (Z : Nat → List Int) : Prop where
  bs : Bs B w E P Q n V l wr G U m Z
  did : ∀ i, i < k → m i = l i + 96 ∧ Z i = Z3 l i
  todo : ∀ i, k ≤ i → i < n → m i = l i + 16 ∧ Z i = Z2 l i
theorem S2.three {B w D P Q n V l wr G U m Z} (h : S2 B w D P Q n V l n n wr G U m Z) : S3 B w (fun g => D g ∨ g = Q) P Q n V l 0 wr G U m Z :=
  ⟨h.bs, fun i hi => by omega, fun i _ hi => ⟨(h.did i hi).1, (h.did i hi).2.1⟩⟩
/-- A list that is laid anew where there is no room. -/
theorem own_anew (w : World) (ty : TypeId) (B g n m c : Nat) (zs : List Int) (hown : Own B w (.slice (some ⟨g, 0, none⟩) (n + m) c) (n + m) zs) (hm : 0 < m) (c2 : Nat) (hb : n + m ≤ 140737488355328) (hB : B ≤ w.heap.size) :
    ∃ cap, (Builtin.append_ #[27, 27] ty #[.slice (some ⟨g, 0, none⟩) n n, .slice (some ⟨g, n, none⟩) m c2]).run Tryd.prog w = .ok (.slice (some ⟨w.heap.size, 0, none⟩) (n + m) cap) (w.drew.alloc (.cells ((zs.map (Value.int .u8)).toArray ++ Builtin.zeroCells (Value.int .u8 0).cells (cap - (n + m))) 5)) ∧ n + m ≤ cap ∧ cap ≤ maxLen := by
  obtain ⟨i, hi, hz, h4, h5⟩ := info_parts Tryd.infoU8
  have hzl : zs.length = n + m := by have := hown.1; simpa using this
  have hcl : ∀ j u, (zs.map (Value.int .u8))[j]? = some u → w.cell? ((⟨g, 0, none⟩ : Addr).add j) = some u := hown.cells (g := g) rfl
  have hr := run_append_grow (P := Tryd.prog) w 27 ty 5 i (.int .u8 0) Tryd.underlying27 hi hz ⟨g, 0, none⟩ n n ((zs.take n).map (Value.int .u8)) (by rw [List.length_map, List.length_take, h4]; omega)
    (fun j v hv => hcl j v (by
      rw [List.getElem?_map] at hv ⊢
      by_cases hj : j < n
      · rw [List.getElem?_take_of_lt hj] at hv; exact hv
      · rw [List.getElem?_eq_none (by rw [List.length_take]; omega)] at hv; cases hv))
    ⟨g, n, none⟩ m c2 ((zs.drop n).map (Value.int .u8)) (by rw [List.length_map, List.length_drop, h4]; omega)
    (fun j v hv => by
      have := hcl (n + j) v (by rw [List.getElem?_map] at hv ⊢; rw [List.getElem?_drop] at hv; exact hv)
      rw [Go.WideShapes.add_plain] at this ⊢
      rw [Nat.zero_add] at this; exact this)
    (by omega) (by omega) (growslice_fits (by omega) (by rw [h5]; omega))
  have e : ((zs.take n).map (Value.int .u8)).toArray ++ ((zs.drop n).map (Value.int .u8)).toArray = (zs.map (Value.int .u8)).toArray := by
    rw [List.append_toArray, ← List.map_append, List.take_append_drop]
  rw [e] at hr
  exact ⟨_, hr, grownCap_ge w (n + m) n 5, grownCap_le_maxLen w (n + m) n 5 (by unfold maxLen; omega)⟩
theorem own_alloc (w : World) (B n cap : Nat) (zs : List Int) (hz : zs.length = n) (hc : n ≤ cap) (hm : cap ≤ maxLen) (hB : B ≤ w.heap.size) : Own B (w.drew.alloc (.cells ((zs.map (Value.int .u8)).toArray ++ Builtin.zeroCells (Value.int .u8 0).cells (cap - n)) 5)) (.slice (some ⟨w.heap.size, 0, none⟩) n cap) n zs := by
  refine ⟨by simp [hz], .inr ⟨w.heap.size, cap, _, rfl, hB, heap_new w.drew _, hc, hm, ?_, ?_⟩⟩
  · rw [Array.size_append, size_zeroCells]; simp [Value.cells, hz]; omega
  · rw [Nat.mul_one, Array.toList_append, List.take_append_of_le_length (by simp [hz]), List.take_of_length_le (by simp [hz])]
theorem slice_head3 (g n L c : Nat) (h : L ≤ c) (W : World) : Sem.run Tryd.prog (Instr.slice 27 (.slice (some ⟨g, 0, none⟩) n c) none (some (.int .i64 (L : Int))) (some (.int .i64 (L : Int)))) W = .ok (.slice (some ⟨g, 0, none⟩) L L) W := by
  obtain ⟨i0, hi, hz0, hz1, hz2⟩ := info_parts Tryd.infoU8
  have hel : Tryd.prog.elem 27 = 5 := by simp [Program.elem]
  rw [run_slice_hm W 27 (some ⟨g, 0, none⟩) n c (by rw [hel]; exact Tryd.underlying27) .i64 .i64 L L (by omega) (by omega) (by omega)]
  rw [hel]
  simp [sizeOf, typeInfo, hi, sliced, Go.WideShapes.add_plain]
theorem slice_tail (g n L c : Nat) (h : L ≤ n) (hc : L < c) (W : World) : Sem.run Tryd.prog (Instr.slice 27 (.slice (some ⟨g, 0, none⟩) n c) (some (.int .i64 (L : Int))) none none) W = .ok (.slice (some ⟨g, L, none⟩) (n - L) (c - L)) W := by
  obtain ⟨i0, hi, hz0, hz1, hz2⟩ := info_parts Tryd.infoU8
  have hel : Tryd.prog.elem 27 = 5 := by simp [Program.elem]
  rw [run_slice_l W 27 (some ⟨g, 0, none⟩) n c (by rw [hel]; exact Tryd.underlying27) .i64 L (by omega) (by omega)]
  rw [hel]
  have hne : ¬ c = L := by omega
  simp [sizeOf, typeInfo, hi, sliced, hz1, hne, Go.WideShapes.add_plain]
theorem ph_slice3 {ops : Array Oper} {o : Oper} {A : Act} {W : World} {K : Act → World → Prop} {Q : Exit → Act → World → Prop} {E : Prop} (T : TypeId) (x y z : Operand) (ho : o.op = .slice T x none (some y) (some z)) (hwt : Region.wanted o (yielded ops A.tmps) = true) (u a b v : Value) (hx : A.eval x = u) (hy : A.eval y = a) (hz : A.eval z = b) (hr : (Instr.sliceAt T u none (some a) (some b)).run Tryd.prog W = .ok v W) (k : K (A.put o.dst v) W) : if Region.wanted o (yielded ops A.tmps) = true then Oper.wp Tryd.prog o A W K Q else E :=
  ph_sem rfl hwt (r := .ok (.value v) W) (by simp [execOp, ho, hx, hy, hz, hr]) k
theorem ph_slice1 {ops : Array Oper} {o : Oper} {A : Act} {W : World} {K : Act → World → Prop} {Q : Exit → Act → World → Prop} {E : Prop} (T : TypeId) (x y : Operand) (ho : o.op = .slice T x (some y) none none) (hwt : Region.wanted o (yielded ops A.tmps) = true) (u a v : Value) (hx : A.eval x = u) (hy : A.eval y = a) (hr : (Instr.sliceAt T u (some a) none none).run Tryd.prog W = .ok v W) (k : K (A.put o.dst v) W) : if Region.wanted o (yielded ops A.tmps) = true then Oper.wp Tryd.prog o A W K Q else E :=
  ph_sem rfl hwt (r := .ok (.value v) W) (by simp [execOp, ho, hx, hy, hr]) k
theorem Row.grew {k T w w' g xs row} (h : Row k T w g xs) (hg : w.grownBy w' row) (hne : row ≠ some g) : Row k T w' g xs := (hg.block g h.lt (fun e => hne e.symm)).trans h
theorem ph_anew {ops : Array Oper} {o : Oper} {A : Act} {W : World} {K : Act → World → Prop} {Q : Exit → Act → World → Prop} {E : Prop} (hgd : Region.wanted o (yielded ops A.tmps) = true) (s x : Operand)
    (ho : o.op = .call { callee := .builtin .append, args := #[s, x], argTypes := #[27, 27] }) (B g n m c c2 : Nat) (zs : List Int) (hs : A.eval s = .slice (some ⟨g, 0, none⟩) n n) (hx : A.eval x = .slice (some ⟨g, n, none⟩) m c2)
    (hown : Own B W (.slice (some ⟨g, 0, none⟩) (n + m) c) (n + m) zs) (hm : 0 < m) (hb : n + m ≤ 140737488355328) (hB : B ≤ W.heap.size)
    (h : ∀ g' c' W', W.grownBy W' none → Own B W' (.slice (some ⟨g', 0, none⟩) (n + m) c') (n + m) zs → W.heap.size ≤ g' → K (A.put o.dst (.slice (some ⟨g', 0, none⟩) (n + m) c')) W') :
    if Region.wanted o (yielded ops A.tmps) = true then Oper.wp Tryd.prog o A W K Q else E := by
  rw [if_pos hgd]
  obtain ⟨cap, hr, hc1, hc2⟩ := own_anew W o.type B g n m c zs hown hm c2 hb hB
  have hzl : zs.length = n + m := by have := hown.1; simpa using this
  unfold Oper.wp execOp
  simp only [ho, resolve, invoke, builtin, Sem.run_bind, Sem.run_pure, Result.andThen_ok, List.map_toArray, List.map_cons, List.map_nil, hs, hx, hr]
  exact h W.heap.size cap _ (gb_trans (gb_drewN (World.grownBy.refl W none) 1) (World.grownBy_alloc _ _ _)) (own_alloc W B (n + m) cap zs hzl hc1 hc2 hB) (Nat.le_refl _)
theorem Bs.put29 {B w E P Q n V l k wr W G U m Z L g c} (h : Bs B w E P Q n V l wr G U m Z) (hk : k < n) (hg : wr.grownBy W none) (ho : Own B W (.slice (some ⟨g, 0, none⟩) (L + 16) c) (L + 16) (Z2 l k)) (hn : wr.heap.size ≤ g) :
    W.cell? ⟨Q, k, none⟩ = some (U k) ∧ W.frozen? ⟨Q, k, none⟩ = false ∧ Bs B w E P Q n V l (W.setCell ⟨Q, k, none⟩ (.slice (some ⟨g, 0, none⟩) (L + 16) c)) (upd G k (.slice (some ⟨g, 0, none⟩) (L + 16) c)) (upd U k (.slice (some ⟨g, 0, none⟩) (L + 16) c)) (upd m k (L + 16)) (upd Z k (Z2 l k)) ∧ (V k).ownBlock ≠ some g := by
  obtain ⟨p1, p2, p3⟩ := h.put hk hg (fun _ e => by cases e) ((h.fam.v k hk).grown hg (fun _ _ e => by cases e)) ho (fun g' e => by have e' : g = g' := Option.some.inj e; exact .inr (by omega))
  exact ⟨p1, p2, p3, fun e => by have := (h.fam.lt hk (.inl e)).2; omega⟩
theorem Bs.put30 {B w E P Q n V l k wr W G U m Z L g c g' c' N} (h : Bs B w (fun g => E g ∨ g = N) P Q n V l wr G U m Z) (hE : E P ∧ E Q) (hk : k < n) (hL : L = l k) (hU : U k = .slice (some ⟨g, 0, none⟩) (L + 16) c) (hne : (V k).ownBlock ≠ some g) (hg : wr.grownBy W (some g)) (ho : Own B W (.slice (some ⟨g', 0, none⟩) (L + 16 + 80) c') (L + 16 + 80) (Z2 l k ++ mks (k + 13) 80)) (hat : g' = g ∨ g' = wr.heap.size)
    (hdid : ∀ i, i < k → m i = l i + 96 ∧ Z i = Z3 l i) (htodo : ∀ i, k < i → i < n → m i = l i + 16 ∧ Z i = Z2 l i) :
    W.cell? ⟨Q, k, none⟩ = some (.slice (some ⟨g, 0, none⟩) (L + 16) c) ∧ W.frozen? ⟨Q, k, none⟩ = false ∧ ∃ G' U' m' Z', S3 B w E P Q n V l (k + 1) (W.setCell ⟨Q, k, none⟩ (.slice (some ⟨g', 0, none⟩) (L + 16 + 80) c')) G' U' m' Z' := by
  obtain ⟨p1, p2, p3⟩ := h.put hk hg (fun g3 e => by rw [hU]; exact e) ((h.fam.v k hk).grown hg (fun g3 e1 e2 => hne (by rw [e1]; exact e2.symm))) ho (fun g3 e => by
    have e' : g' = g3 := Option.some.inj e
    rw [hU]
    rcases hat with q | q
    · exact .inl (by rw [← e', q]; rfl)
    · exact .inr (by omega))
  refine ⟨by rw [p1, hU], p2, _, _, _, _, p3.less hE.1 hE.2, fun i hi => ?_, fun i hi hi' => ?_⟩
  · by_cases e : i = k
    · subst e; rw [upd_at, upd_at]; exact ⟨by omega, rfl⟩
    · rw [upd_ne _ _ _ e, upd_ne _ _ _ e]; exact hdid i (by omega)
  · rw [upd_ne _ _ _ (by omega), upd_ne _ _ _ (by omega)]; exact htodo i (by omega) hi'
theorem Z3_lo (l : Nat → Nat) (i j : Nat) (h : j < l i) : (Z3 l i)[j]?.getD 0 = mrk i j := by
  unfold Z3 Z2
  rw [List.getElem?_append_left (by simp [mks_length]; omega), List.getElem?_append_left (by simpa [mks_length] using h)]
  exact mks_at i (l i) j h
theorem Z3_mid (l : Nat → Nat) (i j d : Nat) (h : j = l i + d) (hd : d < 16) : (Z3 l i)[j]?.getD 0 = mrk (i + 7) d := by
  unfold Z3 Z2
  rw [List.getElem?_append_left (by simp [mks_length]; omega), List.getElem?_append_right (by simp [mks_length]; omega), mks_length, show j - l i = d from by omega]
  exact mks_at (i + 7) 16 d hd
theorem Z3_hi (l : Nat → Nat) (i j d : Nat) (h : j = l i + 16 + d) (hd : d < 80) : (Z3 l i)[j]?.getD 0 = mrk (i + 13) d := by
  unfold Z3
  rw [List.getElem?_append_right (by rw [Z2_length]; omega), Z2_length, show j - (l i + 16) = d from by omega]
  exact mks_at (i + 13) 80 d hd
theorem third {B w E P Q n V l wr G U m Z i} (h : S3 B w E P Q n V l n wr G U m Z) (hi : i < n) (hl : l i ≤ 70368744177664) : ∃ g c a d, l i ≤ 70368744177664 ∧ wr.cell? ⟨Q, i, none⟩ = some (.slice (some ⟨g, 0, none⟩) (l i + 96) c) ∧ l i + 96 ≤ c ∧ (∀ j, j < l i + 96 → wr.cell? ⟨g, j, none⟩ = some (.int .u8 ((Z3 l i)[j]?.getD 0))) ∧ wr.cell? ⟨P, i, none⟩ = some (.slice a (l i) d) ∧ (∀ j, j < l i → ∃ b, a = some ⟨b, 0, none⟩ ∧ wr.cell? ⟨b, j, none⟩ = some (.int .u8 (mrk i j))) := by
  obtain ⟨e1, e2⟩ := h.did i hi
  have hu := h.bs.fam.u i hi
  have hv := h.bs.fam.v i hi
  rw [e1, e2] at hu
  obtain ⟨g, c, hU, _, hc⟩ := hu.form (by omega)
  obtain ⟨a, d, hV, hsg, _, _⟩ := hv.seg
  refine ⟨g, c, a, d, hl, by rw [h.bs.gq.cell i hi, h.bs.gu i hi, hU], hc, fun j hj => ?_, by rw [h.bs.ps i hi, hV], fun j hj => ?_⟩
  · rw [hU] at hu; exact (Own.cell hu j hj).1
  · obtain ⟨b, c3, hb, _, _⟩ := hv.form (by omega)
    rw [hV] at hb
    simp only [Value.slice.injEq, true_and] at hb
    obtain ⟨rfl, rfl⟩ := hb
    rw [hV] at hv
    have := (Own.cell hv j hj).1
    rw [mks_at i (l i) j hj] at this
    exact ⟨b, rfl, this⟩
set_option maxRecDepth 20000 in
set_option maxHeartbeats 8000000 in
theorem own_c (B P n : Nat) (D : Nat → Prop) (V : Nat → Value) (l : Nat → Nat) (X : Nat → List Int) (w : World) (hF : Fam B w D n V V l l X X) (hP : ∀ i, i < n → w.cell? ⟨P, i, none⟩ = some (V i)) (hDP : D P) (hD : ∀ g, D g → g < w.heap.size) (hn : n ≤ 1000) (hl : ∀ i, i < n → l i ≤ 70368744177664) (hB : B ≤ w.heap.size) :
    Calls Tryd.prog 16 #[.slice (some ⟨P, 0, none⟩) n n] w fun r w' => r = .returned (.bool true) ∧ Gr (LB V n) w w' := by
  have HL : Hid (∀ i, i < n → l i ≤ 70368744177664) := hl
  have HDP : Hid (D P) := hDP
  have H0 : Hid (S1 B w D P n V l 0 w X) := ⟨hF, fun i hi => by omega, Gr.refl _ _, hP, hD, hB⟩
  clear hF hP hDP hD hl hB
  go_enter Tryd.func16, Tryd.ntmps16
  go_wp2
  go_loopw [17] (fun i wr => ∃ k : Nat, k ≤ n ∧ i = .int .i64 k ∧ ∃ X, Hid (S1 B w D P n V l k wr X)) (fun i _ => n - (intOf i).toNat)
  case atStart => exact ⟨0, Nat.zero_le _, rfl, X, H0⟩
  case round =>
    obtain ⟨k, hk, rfl, X1, hr⟩ := hrel
    clear H0
    by_cases hlt : k < n
    · have hi1 : (k : Int) < n := by omega
      have hi0 : (0 : Int) ≤ (k : Int) := by omega
      obtain ⟨a, c, hV, hsg, hnil, hlc⟩ := (hr.out.1.v k hlt).seg
      obtain ⟨L, hL⟩ : ∃ L, L = l k := ⟨_, rfl⟩
      have HV : Hid (V k = .slice a (l k) c ∧ L = l k ∧ L ≤ c) := ⟨hV, hL, by rw [hL]; exact hlc⟩
      have HLk : Hid (L ≤ 70368744177664) := by show _ ≤ _; rw [hL]; exact HL.out k hlt
      have hLb := HLk.out
      have hc := hr.out.2.2.2.1 k hlt
      rw [hV, ← hL] at hc
      clear hV hsg hnil hlc hL
      go_wp2
      obtain ⟨w1, hw1⟩ : ∃ w1, w1 = wr := ⟨_, rfl⟩
      subst hw1
      go_loopw [25] (fun i wr => ∃ j : Nat, j ≤ L ∧ i = .int .i64 j ∧ ∃ X R, Hid (S1 B w D P n V l k wr X ∧ X k = mks k j ++ R)) (fun i _ => L - (intOf i).toNat)
      case atStart => exact ⟨0, Nat.zero_le _, rfl, X1, X1 k, hr.out, by simp [mks]⟩
      case round =>
        obtain ⟨j, hj, rfl, X2, R2, hs⟩ := hrel
        clear hr hc
        by_cases hlt2 : j < L
        · have hj1 : (j : Int) < L := by omega
          have hj0 : (0 : Int) ≤ (j : Int) := by omega
          have ho := hs.out.1.1.v k hlt
          obtain ⟨g, c2, hVg, hBg, hlc⟩ := ho.form (by have := HV.out.2.1; omega)
          rw [HV.out.1, ← HV.out.2.1] at hVg
          simp only [Value.slice.injEq, true_and] at hVg
          obtain ⟨rfl, rfl⟩ := hVg
          have hcell := hs.out.1.2.2.2.1 k hlt
          rw [HV.out.1, ← HV.out.2.1] at ho hcell
          have hwc := ho.cell j hlt2
          obtain ⟨X3, R3, h3, h3'⟩ := S1.set hs.out.1.drew HDP.out hlt HV.out.1 (by have := HV.out.2.1; omega) R2 hs.out.2
          have H3 : Hid (S1 B w D P n V l k (wr.drew.setCell ⟨g, j, none⟩ (.int .u8 (mrk k j))) X3 ∧ X3 k = mks k (j + 1) ++ R3) := ⟨h3, h3'⟩
          have hS0 : wr.drew.cell? ⟨P, k, none⟩ = some (.slice (some ⟨g, 0, none⟩) L c) := hcell
          have hS1 : (wr.drew.setCell ⟨g, j, none⟩ (.int .u8 (mrk k j))).cell? ⟨P, k, none⟩ = some (.slice (some ⟨g, 0, none⟩) L c) := by
            have := h3.2.2.2.1 k hlt
            rw [HV.out.1, ← HV.out.2.1] at this
            exact this
          have hq1 : wr.drew.cell? ⟨g, j, none⟩ = some (.int .u8 ((X2 k)[j]?.getD 0)) := hwc.1
          have hq2 : wr.drew.frozen? ⟨g, j, none⟩ = false := hwc.2
          clear ho h3 h3' hwc hlc hBg hcell hs
          go_wp2
          go_region_held3 (fun w' => w'.cell? ⟨P, k, none⟩ = some (.slice (some ⟨g, 0, none⟩) L c)) (assumption) (first
            | (go_at_call 45; go_must (refine (mark_c k j (by omega) (by omega) _).mono ?_); rintro r w9 ⟨rfl, rfl⟩))
          go_wp2
          go_roundw
          case rel => exact ⟨j + 1, by omega, by go_num, X3, R3, H3.out⟩
          case measure => simp [intOf]; omega
        · obtain rfl : j = L := by omega
          have HN : Hid (S1 B w D P n V l (k + 1) wr X2) := S1.next hs.out.1 hlt (by rw [← HV.out.2.1]; exact hs.out.2)
          clear hs
          go_wp2
          go_roundw
          case rel => exact ⟨k + 1, by omega, by go_num, X2, HN⟩
          case measure => simp [intOf]; omega
    · obtain rfl : k = n := by omega
      obtain ⟨i0, hi, hz0, hz1, hz2⟩ := info_parts Tryd.infoS8
      obtain ⟨w1, hw1⟩ : ∃ w1, w1 = wr := ⟨_, rfl⟩
      subst hw1
      go_wp2_with (at_make; go_must (refine wpList_make_full _ rfl _ _ 101 rfl w1.heap.size 27 i0 (.slice none 0 0) 1 Tryd.underlying101 hi hz0 hz1 _ _ _ _ k rfl rfl (by omega) (by omega) (by rw [hz2]; omega) (by unfold maxLen; omega) (Nat.le_refl _) ?_); intro w2 hown hgrow; have H2 : Hid (S2 B w D P w1.heap.size k V l 0 0 w2 (fun _ => .slice none 0 0) V l (fun i => mks i (l i))) := hr.out.two HDP.out hgrow (gq_made hown); clear hown hgrow)
      obtain ⟨Q, hQ⟩ : ∃ Q, Q = w1.heap.size := ⟨_, rfl⟩
      rw [← hQ] at H2 ⊢
      clear hQ hr
      go_loopw [44] (fun i wr => ∃ t : Nat, t ≤ k ∧ i = .int .i64 t ∧ ∃ G U m Z, Hid (S2 B w D P Q k V l t t wr G U m Z)) (fun i _ => k - (intOf i).toNat)
      case atStart => exact ⟨0, Nat.zero_le _, rfl, _, _, _, _, H2⟩
      case round =>
        obtain ⟨t, ht, rfl, G, U, m, Z, hr⟩ := hrel
        clear H2
        by_cases hlt : t < k
        · have hi1 : (t : Int) < k := by omega
          have hi0 : (0 : Int) ≤ (t : Int) := by omega
          obtain ⟨a, c, hV, _, _, hlc⟩ := (hr.out.fam.v t hlt).seg
          have hcp := hr.out.ps t hlt
          have hcq := hr.out.gq.cell t hlt
          have hfq := hr.out.gq.free t
          have HVT : Hid (V t = .slice a (l t) c) := hV
          rw [hV] at hcp
          have HLY : Hid _ := hr.out.lay hlt (.slice a (l t) c) hV.symm
          have HLt : Hid (l t ≤ 70368744177664) := HL.out t hlt
          obtain ⟨w1, hw1⟩ : ∃ w1, w1 = wr := ⟨_, rfl⟩
          subst hw1
          clear hr hV hlc
          go_wp2
          go_loopw [7] (fun i wr => ∃ j : Nat, j ≤ 16 ∧ i = .int .i64 j ∧ ∃ G U m Z, Hid (S2 B w D P Q k V l t (t + 1) wr G U m Z ∧ G t = U t ∧ m t = l t + j ∧ Z t = mks t (l t) ++ mks (t + 7) j ∧ ((U t).ownBlock = (V t).ownBlock → U t = .slice none 0 0 ∨ ∃ g c, V t = .slice (some ⟨g, 0, none⟩) (l t) c ∧ U t = .slice (some ⟨g, 0, none⟩) (m t) c))) (fun i _ => 16 - (intOf i).toNat)
          case atStart => exact ⟨0, by omega, rfl, _, _, _, _, HLY.out⟩
          case round =>
            obtain ⟨j, hj, rfl, G, U, m, Z, hs⟩ := hrel
            clear HLY hcp hcq hfq
            by_cases hlt2 : j < 16
            · have hj1 : (j : Int) < 16 := by omega
              have hj0 : (0 : Int) ≤ (j : Int) := by omega
              obtain ⟨u, hu⟩ : ∃ u, u = U t := ⟨_, rfl⟩
              obtain ⟨M, hM⟩ : ∃ M, M = m t := ⟨_, rfl⟩
              have hcq : wr.drew.cell? ⟨Q, t, none⟩ = some u := by rw [hu, ← hs.out.2.1]; exact hs.out.1.gq.cell t hlt
              have HU : Hid (Own B wr u M (Z t)) := by rw [hu, hM]; exact hs.out.1.fam.u t hlt
              have HUM : Hid (u = U t ∧ M = m t ∧ M ≤ 70368744177680 ∧ B ≤ wr.heap.size) := ⟨hu, hM, by rw [hM, hs.out.2.2.1]; have := HLt.out; omega, hs.out.1.bl⟩
              clear hu hM
              have HST : Hid (S2 B w D P Q k V l t (t + 1) wr G U m Z ∧ m t = l t + j ∧ Z t = mks t (l t) ++ mks (t + 7) j ∧ ((U t).ownBlock = (V t).ownBlock → U t = .slice none 0 0 ∨ ∃ g c, V t = .slice (some ⟨g, 0, none⟩) (l t) c ∧ U t = .slice (some ⟨g, 0, none⟩) (m t) c)) := ⟨hs.out.1, hs.out.2.2⟩
              have hwr7 : IntKind.i64.wrap ((t : Int) + 7) = (t : Int) + 7 := by rw [IntKind.wrap_i64]; omega
              have HGT : Hid (G t = u) := by show _ = _; rw [HUM.out.1]; exact hs.out.2.1
              clear hs
              go_wp2
              have HW18 : Hid (∀ W, RA B u M (Z t) (mrk (t + 7) j) wr W → W.cell? ⟨Q, t, none⟩ = some u ∧ Own B W u M (Z t) ∧ wr.heap.size ≤ W.heap.size ∧ ∀ g, u.ownBlock = some g → g < W.heap.size) := fun W hW => by
                refine ⟨hW.1.cell (by rw [← HGT.out]; exact HST.out.1.gq.cell t hlt) (fun e => ?_), hW.2.1 HU.out, hW.1.size, fun g hg => by have := (HU.out.lo g hg).2; have := hW.1.size; omega⟩
                have := HST.out.1.fam.off t Q hlt (.inr (by rw [← HUM.out.1]; exact e.symm))
                exact this (.inr rfl)
              refine wp_region_lastR (RA B u M (Z t) (mrk (t + 7) j)) ra_trans (ra_drew wr) 13 rfl (by kernel_rfl) [58, 59, 60, 61, 62, 63, 64, 65, 66, 67, 68, 69, 70, 100013] [[], [], [], [], [2, 3], [4], [], [6], [], [7, 8], [9], [5, 10], [0, 1], [12, 11]] (by kernel_rfl) (by kernel_rfl) [fun u W => u = .slice (some ⟨Q, 0, none⟩) k k, fun u W => u = .int .i64 (t : Int), fun u W => u = .slice (some ⟨Q, 0, none⟩) k k, fun u W => u = .int .i64 (t : Int), fun u W => u = .pointer (some ⟨Q, t, none⟩), fun v W => v = u, fun u W => u = .int .i64 (t : Int), fun u W => u = .int .i64 ((t : Int) + 7), fun u W => u = .int .i64 (j : Int), fun u W => u = .int .u8 (mrk (t + 7) j), fun v W => ∃ b : Nat, v = .slice (some ⟨b, 0, none⟩) 1 1 ∧ Seg .u8 W (some ⟨b, 0, none⟩) 1 [mrk (t + 7) j] ∧ u.ownBlock ≠ some b, fun v W => ∃ g c : Nat, v = .slice (some ⟨g, 0, none⟩) (M + 1) c ∧ Own B W (.slice (some ⟨g, 0, none⟩) (M + 1) c) (M + 1) (Z t ++ [mrk (t + 7) j]) ∧ ((∃ g' cap, u = .slice (some ⟨g', 0, none⟩) M cap ∧ (Value.slice (some ⟨g, 0, none⟩) (M + 1) c) = .slice (some ⟨g', 0, none⟩) (M + 1) cap) ∨ (∃ g' cap, (Value.slice (some ⟨g, 0, none⟩) (M + 1) c) = .slice (some ⟨g', 0, none⟩) (M + 1) cap ∧ wr.heap.size ≤ g')), fun u W => u = .pointer (some ⟨Q, t, none⟩)] ?stable ?step ?last
              case stable =>
                intro i v W W' h hg
                match i, h with
                | 0, h => exact h
                | 1, h => exact h
                | 2, h => exact h
                | 3, h => exact h
                | 4, h => exact h
                | 5, h => exact h
                | 6, h => exact h
                | 7, h => exact h
                | 8, h => exact h
                | 9, h => exact h
                | 10, h => obtain ⟨b, q1, q2, q3⟩ := h; exact ⟨b, q1, q2.grew hg.1 (fun g e b' o s e2 => by cases e2; exact fun e3 => q3 (by rw [e, e3])), q3⟩
                | 11, h => obtain ⟨g, c, q1, q2, q3⟩ := h; exact ⟨g, c, q1, hg.2.2 g c q2, q3⟩
                | 12, h => exact h
                | i + 13, h => exact trivial
              case step =>
                intro f W A hA hg i o hin ho hu K hK
                match i, hin, ho, hu, hK with
                | 0, hin, ho, hu, hK =>
                  cases ho
                  have hw := HW18.out W hg
                  have e5 : A.eval (.tmp 5) = .slice (some ⟨Q, 0, none⟩) k k := ev_out hA 5 rfl
                  exact ph_move _ rfl rfl (.slice (some ⟨Q, 0, none⟩) k k) e5 (hK _ _ (ra_rr W) rfl)
                | 1, hin, ho, hu, hK =>
                  cases ho
                  have hw := HW18.out W hg
                  have e6 : A.eval (.tmp 6) = .int .i64 (t : Int) := ev_out hA 6 rfl
                  exact ph_move _ rfl rfl (.int .i64 (t : Int)) e6 (hK _ _ (ra_rr W) rfl)
                | 2, hin, ho, hu, hK =>
                  cases ho
                  have hw := HW18.out W hg
                  have e5 : A.eval (.tmp 5) = .slice (some ⟨Q, 0, none⟩) k k := ev_out hA 5 rfl
                  exact ph_move _ rfl rfl (.slice (some ⟨Q, 0, none⟩) k k) e5 (hK _ _ (ra_rr W) rfl)
                | 3, hin, ho, hu, hK =>
                  cases ho
                  have hw := HW18.out W hg
                  have e6 : A.eval (.tmp 6) = .int .i64 (t : Int) := ev_out hA 6 rfl
                  exact ph_move _ rfl rfl (.int .i64 (t : Int)) e6 (hK _ _ (ra_rr W) rfl)
                | 4, hin, ho, hu, hK =>
                  cases ho
                  have hw := HW18.out W hg
                  have e60 : A.eval (.tmp 60) = .slice (some ⟨Q, 0, none⟩) k k := (ev_in hA 60 2 rfl rfl rfl).trans (show f 2 = .slice (some ⟨Q, 0, none⟩) k k from hu 2 (by decide))
                  have e61 : A.eval (.tmp 61) = .int .i64 (t : Int) := (ev_in hA 61 3 rfl rfl rfl).trans (show f 3 = .int .i64 (t : Int) from hu 3 (by decide))
                  refine ph_sem rfl rfl (r := .ok (.value (.pointer (some ⟨Q, t, none⟩))) W) ?_ (hK _ _ (ra_rr W) rfl)
                  have eC : ∀ c, A.eval (.const c) = c := fun _ => rfl; have eF : ∀ g, A.eval (.func g) = .func (.func g) #[] #[] := fun _ => rfl; generalize A.eval = ρ at *
                  clear hA hu hg hw
                  go_simp
                | 5, hin, ho, hu, hK =>
                  cases ho
                  have hw := HW18.out W hg
                  have e62 : A.eval (.tmp 62) = .pointer (some ⟨Q, t, none⟩) := (ev_in hA 62 4 rfl rfl rfl).trans (show f 4 = .pointer (some ⟨Q, t, none⟩) from hu 4 (by decide))
                  have hc := hw.1
                  refine ph_sem rfl rfl (r := .ok (.value u) W) ?_ (hK _ _ (ra_rr W) rfl)
                  have eC : ∀ c, A.eval (.const c) = c := fun _ => rfl; have eF : ∀ g, A.eval (.func g) = .func (.func g) #[] #[] := fun _ => rfl; generalize A.eval = ρ at *
                  clear hA hu hg hw
                  go_simp
                | 6, hin, ho, hu, hK =>
                  cases ho
                  have hw := HW18.out W hg
                  have e6 : A.eval (.tmp 6) = .int .i64 (t : Int) := ev_out hA 6 rfl
                  exact ph_move _ rfl rfl (.int .i64 (t : Int)) e6 (hK _ _ (ra_rr W) rfl)
                | 7, hin, ho, hu, hK =>
                  cases ho
                  have hw := HW18.out W hg
                  have e64 : A.eval (.tmp 64) = .int .i64 (t : Int) := (ev_in hA 64 6 rfl rfl rfl).trans (show f 6 = .int .i64 (t : Int) from hu 6 (by decide))
                  refine ph_sem rfl rfl (r := .ok (.value (.int .i64 ((t : Int) + 7))) W) ?_ (hK _ _ (ra_rr W) rfl)
                  have eC : ∀ c, A.eval (.const c) = c := fun _ => rfl; have eF : ∀ g, A.eval (.func g) = .func (.func g) #[] #[] := fun _ => rfl; generalize A.eval = ρ at *
                  clear hA hu hg hw
                  go_simp
                | 8, hin, ho, hu, hK =>
                  cases ho
                  have hw := HW18.out W hg
                  have e7 : A.eval (.tmp 7) = .int .i64 (j : Int) := ev_out hA 7 rfl
                  exact ph_move _ rfl rfl (.int .i64 (j : Int)) e7 (hK _ _ (ra_rr W) rfl)
                | 9, hin, ho, hu, hK =>
                  cases ho
                  have hw := HW18.out W hg
                  have e65 : A.eval (.tmp 65) = .int .i64 ((t : Int) + 7) := (ev_in hA 65 7 rfl rfl rfl).trans (show f 7 = .int .i64 ((t : Int) + 7) from hu 7 (by decide))
                  have e66 : A.eval (.tmp 66) = .int .i64 (j : Int) := (ev_in hA 66 8 rfl rfl rfl).trans (show f 8 = .int .i64 (j : Int) from hu 8 (by decide))
                  refine ph_fn 45 _ _ rfl rfl #[.int .i64 ((t : Int) + 7), .int .i64 (j : Int)] (by simp [e65, e66]) (by kernel_rfl) ?_
                  refine (Calls.mono (mark_c (t + 7) j (by omega) (by omega) W) ?_)
                  rintro e W' ⟨rfl, rfl⟩
                  exact ⟨_, rfl, hK _ _ (ra_rr _) rfl⟩
                | 10, hin, ho, hu, hK =>
                  cases ho
                  have hw := HW18.out W hg
                  have e67 : A.eval (.tmp 67) = .int .u8 (mrk (t + 7) j) := (ev_in hA 67 9 rfl rfl rfl).trans (show f 9 = .int .u8 (mrk (t + 7) j) from hu 9 (by decide))
                  refine ph_sem rfl rfl (r := .ok (.value (.slice (some ⟨W.heap.size, 0, none⟩) 1 1)) (W.alloc (.cells #[.int .u8 (mrk (t + 7) j)] 5))) ?_ (hK _ _ (ra_gb (World.grownBy_alloc _ _ _)) ⟨W.heap.size, rfl, seg_new W .u8 _ 5 1 [mrk (t + 7) j] rfl rfl, fun e => by have := hw.2.2.2 _ e; omega⟩)
                  have eC : ∀ c, A.eval (.const c) = c := fun _ => rfl; have eF : ∀ g, A.eval (.func g) = .func (.func g) #[] #[] := fun _ => rfl; generalize A.eval = ρ at *
                  clear hA hu hg hw
                  go_simp
                | 11, hin, ho, hu, hK =>
                  cases ho
                  have hw := HW18.out W hg
                  have e63 : A.eval (.tmp 63) = u := (ev_in hA 63 5 rfl rfl rfl).trans (show f 5 = u from hu 5 (by decide))
                  obtain ⟨b68, hv10, hq10, hn10⟩ := hu 10 (by decide)
                  have e68 : A.eval (.tmp 68) = .slice (some ⟨b68, 0, none⟩) 1 1 := (ev_in hA 68 10 rfl rfl rfl).trans hv10
                  refine ph_app1 rfl _ _ rfl wr.heap.size B M u (Z t) (mrk (t + 7) j) e63 hw.2.1 b68 e68 hq10 (by have := HUM.out.2.2.1; omega) (Nat.le_trans HUM.out.2.2.2 hw.2.2.1) hw.2.2.1 ?_
                  intro g c W' h1 h2 h3
                  exact hK _ _ h1 ⟨g, c, rfl, h2, h3⟩
                | 12, hin, ho, hu, hK =>
                  cases ho
                  have hw := HW18.out W hg
                  have e58 : A.eval (.tmp 58) = .slice (some ⟨Q, 0, none⟩) k k := (ev_in hA 58 0 rfl rfl rfl).trans (show f 0 = .slice (some ⟨Q, 0, none⟩) k k from hu 0 (by decide))
                  have e59 : A.eval (.tmp 59) = .int .i64 (t : Int) := (ev_in hA 59 1 rfl rfl rfl).trans (show f 1 = .int .i64 (t : Int) from hu 1 (by decide))
                  refine ph_sem rfl rfl (r := .ok (.value (.pointer (some ⟨Q, t, none⟩))) W) ?_ (hK _ _ (ra_rr W) rfl)
                  have eC : ∀ c, A.eval (.const c) = c := fun _ => rfl; have eF : ∀ g, A.eval (.func g) = .func (.func g) #[] #[] := fun _ => rfl; generalize A.eval = ρ at *
                  clear hA hu hg hw
                  go_simp
                | i + 13, hin, ho, hu, hK => omega
              case last =>
                intro f W A hA hg hu o ho K hK
                cases ho
                have hw := HW18.out W hg
                obtain ⟨g69, c69, hv11, ho11, ha11⟩ := hu 11 (by decide)
                have e69 : A.eval (.tmp 69) = .slice (some ⟨g69, 0, none⟩) (M + 1) c69 := (ev_in hA 69 11 rfl rfl rfl).trans hv11
                have e70 : A.eval (.tmp 70) = .pointer (some ⟨Q, t, none⟩) := (ev_in hA 70 12 rfl rfl rfl).trans (show f 12 = .pointer (some ⟨Q, t, none⟩) from hu 12 (by decide))
                obtain ⟨k1, k2, G', U', m', Z', k3⟩ := app2 HST.out HGT.out HUM.out.1 HUM.out.2.1 hlt ho11 hg ha11
                have H5 : Hid _ := k3
                refine ph_sem rfl rfl (r := .ok .skip (W.setCell ⟨Q, t, none⟩ (.slice (some ⟨g69, 0, none⟩) (M + 1) c69))) ?st (hK _ _ ?go)
                case st =>
                  have eC : ∀ c, A.eval (.const c) = c := fun _ => rfl
                  generalize A.eval = ρ at *
                  clear hA hu hg hw hv11 ho11 ha11 k3 H5
                  go_simp
                case go =>
                  obtain ⟨b68, hv10, _, _⟩ := hu 10 (by decide)
                  clear k1 k2 k3 hg hw ho11 ha11 e69 e70
                  have hA2 := hA.trans (putAll_lit [(.slice (some ⟨Q, 0, none⟩) k k), (.int .i64 (t : Int)), (.slice (some ⟨Q, 0, none⟩) k k), (.int .i64 (t : Int)), (.pointer (some ⟨Q, t, none⟩)), (u), (.int .i64 (t : Int)), (.int .i64 ((t : Int) + 7)), (.int .i64 (j : Int)), (.int .u8 (mrk (t + 7) j)), (.slice (some ⟨b68, 0, none⟩) 1 1), (.slice (some ⟨g69, 0, none⟩) (M + 1) c69), (.pointer (some ⟨Q, t, none⟩)), (f 13)] (by
                    intro j hj
                    match j, hj with
                    | 0, _ => exact hu 0 (by decide)
                    | 1, _ => exact hu 1 (by decide)
                    | 2, _ => exact hu 2 (by decide)
                    | 3, _ => exact hu 3 (by decide)
                    | 4, _ => exact hu 4 (by decide)
                    | 5, _ => exact hu 5 (by decide)
                    | 6, _ => exact hu 6 (by decide)
                    | 7, _ => exact hu 7 (by decide)
                    | 8, _ => exact hu 8 (by decide)
                    | 9, _ => exact hu 9 (by decide)
                    | 10, _ => exact hv10
                    | 11, _ => exact hv11
                    | 12, _ => exact hu 12 (by decide)
                    | 13, _ => rfl
                    | j + 14, hj => exact absurd hj (by simp)))
                  clear hu hA
                  subst hA2
                  simp only [putAll, putL, List.mem_cons, List.not_mem_nil, List.idxOf_cons, Nat.reduceEqDiff, Nat.reduceBEq, Nat.reduceAdd, or_false, or_true, reduceIte, cond_true, cond_false, List.getD_cons_zero, List.getD_cons_succ, BEq.rfl]
                  go_wp2
                  go_roundw
                  case rel => exact ⟨j + 1, by omega, by go_num, G', U', m', Z', H5.out⟩
                  case measure => simp [intOf]; omega
            · obtain rfl : j = 16 := by omega
              have HN : Hid (S2 B w D P Q k V l (t + 1) (t + 1) wr G U m Z) := hs.out.1.next hlt hs.out.2.1 hs.out.2.2.1 hs.out.2.2.2.1
              clear hs
              go_wp2
              go_roundw
              case rel => exact ⟨t + 1, by omega, by go_num, G, U, m, Z, HN⟩
              case measure => simp [intOf]; omega
        · obtain rfl : t = k := by omega
          have H3 : Hid (S3 B w (fun g => D g ∨ g = Q) P Q t V l 0 wr G U m Z) := hr.out.three
          clear hr
          obtain ⟨E, hE⟩ : ∃ E : Nat → Prop, E = (fun g => D g ∨ g = Q) := ⟨_, rfl⟩
          rw [← hE] at H3
          clear hE
          obtain ⟨w1, hw1⟩ : ∃ w1, w1 = wr := ⟨_, rfl⟩
          subst hw1
          obtain ⟨i8, hi8, hz08, hz18, hz28⟩ := info_parts Tryd.infoU8
          go_wp2
          go_loopw [74] (fun i wr => ∃ q : Nat, q ≤ t ∧ i = .int .i64 q ∧ ∃ G U m Z, Hid (S3 B w E P Q t V l q wr G U m Z)) (fun i _ => t - (intOf i).toNat)
          case atStart => exact ⟨0, Nat.zero_le _, rfl, _, _, _, _, H3⟩
          case round =>
            obtain ⟨q, hq, rfl, G, U, m, Z, hr⟩ := hrel
            clear H3
            by_cases hlt : q < t
            · have hi1 : (q : Int) < t := by omega
              have hi0 : (0 : Int) ≤ (q : Int) := by omega
              have HLt : Hid (l q ≤ 70368744177664) := HL.out q hlt
              obtain ⟨w1, hw1⟩ : ∃ w1, w1 = wr := ⟨_, rfl⟩
              subst hw1
              go_wp2_with (at_make; go_must (refine wpList_make_full _ rfl _ _ 27 rfl w1.heap.size 5 i8 (.int .u8 0) 1 Tryd.underlying27 hi8 hz08 hz18 _ _ _ _ 80 rfl rfl (by omega) (by omega) (by rw [hz28]; omega) (by unfold maxLen; omega) (Nat.le_refl _) ?_); intro w2 hown hgrow; have hrow : Row .u8 5 w2 w1.heap.size (List.replicate 80 0) := row_of_own (List.replicate 80 0) hown (by simpa [Value.cells] using toList_madeCells_one (.int .u8 0) 80); have H4 : Hid (Bs B w (fun g => E g ∨ g = w1.heap.size) P Q t V l w2 G U m Z ∧ Row .u8 5 w2 w1.heap.size (mks (q + 13) 0 ++ List.replicate (80 - 0) 0)) := ⟨hr.out.bs.more hgrow w1.heap.size (Nat.le_refl _) hrow.lt, by simpa [mks] using hrow⟩; clear hown hgrow hrow)
              obtain ⟨N, hN⟩ : ∃ N, N = w1.heap.size := ⟨_, rfl⟩
              rw [← hN] at H4 ⊢
              have HDT : Hid (m q = l q + 16 ∧ Z q = Z2 l q ∧ E P ∧ E Q ∧ P ≠ N ∧ Q ≠ N ∧ w.heap.size ≤ N ∧ (∀ i, i < q → m i = l i + 96 ∧ Z i = Z3 l i) ∧ (∀ i, q ≤ i → i < t → m i = l i + 16 ∧ Z i = Z2 l i)) := ⟨(hr.out.todo q (Nat.le_refl _) hlt).1, (hr.out.todo q (Nat.le_refl _) hlt).2, hr.out.bs.ep, hr.out.bs.eq, by have := hr.out.bs.el P hr.out.bs.ep; omega, by have := hr.out.bs.el Q hr.out.bs.eq; omega, by have := hr.out.bs.bel.size; omega, hr.out.did, hr.out.todo⟩
              clear hN hr
              go_loopw [80] (fun i wr => ∃ s : Nat, s ≤ 80 ∧ i = .int .i64 s ∧ Hid (Bs B w (fun g => E g ∨ g = N) P Q t V l wr G U m Z ∧ Row .u8 5 wr N (mks (q + 13) s ++ List.replicate (80 - s) 0))) (fun i _ => 80 - (intOf i).toNat)
              case atStart => exact ⟨0, by omega, rfl, H4⟩
              case round =>
                obtain ⟨s, hs, rfl, hx⟩ := hrel
                clear H4
                by_cases hlt2 : s < 80
                · have hs1 : (s : Int) < 80 := by omega
                  have hs0 : (0 : Int) ≤ (s : Int) := by omega
                  have hc1 := hx.out.2.cell s (by simp [mks_length]; omega)
                  have hc2 := hx.out.2.free s
                  have H5 : Hid (Bs B w (fun g => E g ∨ g = N) P Q t V l (wr.setCell ⟨N, s, none⟩ (.int .u8 (mrk (q + 13) s))) G U m Z ∧ Row .u8 5 (wr.setCell ⟨N, s, none⟩ (.int .u8 (mrk (q + 13) s))) N (mks (q + 13) (s + 1) ++ List.replicate (80 - (s + 1)) 0)) := ⟨hx.out.1.gb (grownBy_cell wr N s _) (fun g e => by cases e; exact ⟨.inr rfl, fun e => HDT.out.2.2.2.2.1 e.symm, fun e => HDT.out.2.2.2.2.2.1 e.symm, HDT.out.2.2.2.2.2.2.1⟩), by rw [← mks_set (q + 13) s 80 hlt2]; exact hx.out.2.set s _⟩
                  clear hx
                  go_wp2_with (go_at_call 45; go_must (refine (mark_c (q + 13) s (by omega) (by omega) _).mono ?_); rintro r w9 ⟨rfl, h9⟩; obtain rfl := h9.symm)
                  go_roundw
                  case rel => exact ⟨s + 1, by omega, by go_num, H5.out⟩
                  case measure => simp [intOf]; omega
                · obtain rfl : s = 80 := by omega
                  obtain ⟨L, hL⟩ : ∃ L, L = l q := ⟨_, rfl⟩
                  obtain ⟨gu, cu, hU, _, hcu⟩ := (hx.out.1.fam.u q hlt).form (by have := HDT.out.1; omega)
                  obtain ⟨a, c, hV, _, _, _⟩ := (hx.out.1.fam.v q hlt).seg
                  rw [HDT.out.1, ← hL] at hU hcu
                  have HUV : Hid (U q = .slice (some ⟨gu, 0, none⟩) (L + 16) cu ∧ V q = .slice a L c ∧ L = l q ∧ L ≤ 70368744177664 ∧ L + 16 ≤ cu) := ⟨hU, by rw [hL]; exact hV, hL, by rw [hL]; exact HLt.out, hcu⟩
                  have HOU : Hid (Own B wr (.slice (some ⟨gu, 0, none⟩) (L + 16) cu) (L + 16) (Z2 l q)) := by
                    have := hx.out.1.fam.u q hlt
                    rw [HDT.out.1, HDT.out.2.1, HUV.out.1, ← hL] at this
                    exact this
                  have HW29 : Hid (∀ W, wr.grownBy W none → W.cell? ⟨Q, q, none⟩ = some (.slice (some ⟨gu, 0, none⟩) (L + 16) cu) ∧ W.cell? ⟨P, q, none⟩ = some (.slice a L c) ∧ Own B W (.slice (some ⟨gu, 0, none⟩) (L + 16) cu) (L + 16) (Z2 l q) ∧ wr.heap.size ≤ W.heap.size) := fun W hW =>
                    ⟨hW.cell (by rw [hx.out.1.gq.cell q hlt, hx.out.1.gu q hlt, HUV.out.1]) (by simp), hW.cell (by rw [hx.out.1.ps q hlt, HUV.out.2.1]) (by simp), HOU.out.grown hW (fun _ _ e => by cases e), hW.size⟩
                  have HBX : Hid (Bs B w (fun g => E g ∨ g = N) P Q t V l wr G U m Z ∧ Row .u8 5 wr N (mks (q + 13) 80)) := ⟨hx.out.1, by have := hx.out.2; simpa using this⟩
                  have hL0 : (0 : Int) ≤ (L : Int) := by omega
                  have hL1 : (L : Int) ≤ (cu : Int) := by have := HUV.out.2.2.2.2; omega
                  have HS1 : Hid (∀ W, Sem.run Tryd.prog (Instr.sliceAt 27 (.slice (some ⟨gu, 0, none⟩) (L + 16) cu) none (some (.int .i64 (L : Int))) (some (.int .i64 (L : Int)))) W = .ok (.slice (some ⟨gu, 0, none⟩) L L) W) := fun W => slice_head3 gu (L + 16) L cu (by have := HUV.out.2.2.2.2; omega) W
                  have HS2 : Hid (∀ W, Sem.run Tryd.prog (Instr.sliceAt 27 (.slice (some ⟨gu, 0, none⟩) (L + 16) cu) (some (.int .i64 (L : Int))) none none) W = .ok (.slice (some ⟨gu, L, none⟩) 16 (cu - L)) W) := fun W => by
                    have := slice_tail gu (L + 16) L cu (by omega) (by have := HUV.out.2.2.2.2; omega) W
                    rw [show L + 16 - L = 16 from by omega] at this
                    exact this
                  clear hx hU hV hcu hL
                  go_wp2
                  refine wp_region_lastR (fun W W' => W.grownBy W' none) (fun _ _ _ h k => gb_trans h k) (gb_drewN (World.grownBy.refl wr none) 1) 29 rfl (by kernel_rfl) [91, 92, 93, 94, 95, 96, 97, 98, 99, 100, 101, 102, 103, 104, 105, 106, 107, 108, 109, 110, 111, 112, 113, 114, 115, 116, 117, 118, 119, 100029] [[], [], [], [], [2, 3], [4], [], [], [6, 7], [8], [9], [], [], [11, 12], [13], [14], [5, 10, 15], [], [], [17, 18], [19], [], [], [21, 22], [23], [24], [20, 25], [16, 26], [0, 1], [28, 27]] (by kernel_rfl) (by kernel_rfl) [fun u W => u = .slice (some ⟨Q, 0, none⟩) t t, fun u W => u = .int .i64 (q : Int), fun u W => u = .slice (some ⟨Q, 0, none⟩) t t, fun u W => u = .int .i64 (q : Int), fun u W => u = .pointer (some ⟨Q, q, none⟩), fun u W => u = .slice (some ⟨gu, 0, none⟩) (L + 16) cu, fun u W => u = .slice (some ⟨P, 0, none⟩) t t, fun u W => u = .int .i64 (q : Int), fun u W => u = .pointer (some ⟨P, q, none⟩), fun u W => u = .slice a L c, fun u W => u = .int .i64 (L : Int), fun u W => u = .slice (some ⟨P, 0, none⟩) t t, fun u W => u = .int .i64 (q : Int), fun u W => u = .pointer (some ⟨P, q, none⟩), fun u W => u = .slice a L c, fun u W => u = .int .i64 (L : Int), fun u W => u = .slice (some ⟨gu, 0, none⟩) L L, fun u W => u = .slice (some ⟨Q, 0, none⟩) t t, fun u W => u = .int .i64 (q : Int), fun u W => u = .pointer (some ⟨Q, q, none⟩), fun u W => u = .slice (some ⟨gu, 0, none⟩) (L + 16) cu, fun u W => u = .slice (some ⟨P, 0, none⟩) t t, fun u W => u = .int .i64 (q : Int), fun u W => u = .pointer (some ⟨P, q, none⟩), fun u W => u = .slice a L c, fun u W => u = .int .i64 (L : Int), fun u W => u = .slice (some ⟨gu, L, none⟩) 16 (cu - L), fun v W => ∃ g c : Nat, v = .slice (some ⟨g, 0, none⟩) (L + 16) c ∧ Own B W (.slice (some ⟨g, 0, none⟩) (L + 16) c) (L + 16) (Z2 l q) ∧ wr.heap.size ≤ g, fun u W => u = .pointer (some ⟨Q, q, none⟩)] ?stable ?step ?last
                  case stable =>
                    intro i v W W' h hg
                    match i, h with
                    | 0, h => exact h
                    | 1, h => exact h
                    | 2, h => exact h
                    | 3, h => exact h
                    | 4, h => exact h
                    | 5, h => exact h
                    | 6, h => exact h
                    | 7, h => exact h
                    | 8, h => exact h
                    | 9, h => exact h
                    | 10, h => exact h
                    | 11, h => exact h
                    | 12, h => exact h
                    | 13, h => exact h
                    | 14, h => exact h
                    | 15, h => exact h
                    | 16, h => exact h
                    | 17, h => exact h
                    | 18, h => exact h
                    | 19, h => exact h
                    | 20, h => exact h
                    | 21, h => exact h
                    | 22, h => exact h
                    | 23, h => exact h
                    | 24, h => exact h
                    | 25, h => exact h
                    | 26, h => exact h
                    | 27, h => obtain ⟨g, c, q1, q2, q3⟩ := h; exact ⟨g, c, q1, q2.grown hg (fun _ _ e => by cases e), q3⟩
                    | 28, h => exact h
                    | i + 29, h => exact trivial
                  case step =>
                    intro f W A hA hg i o hin ho hu K hK
                    match i, hin, ho, hu, hK with
                    | 0, hin, ho, hu, hK =>
                      cases ho
                      have hw := HW29.out W hg
                      have e5 : A.eval (.tmp 5) = .slice (some ⟨Q, 0, none⟩) t t := ev_out hA 5 rfl
                      exact ph_move _ rfl rfl (.slice (some ⟨Q, 0, none⟩) t t) e5 (hK _ _ (gb_rr W _) rfl)
                    | 1, hin, ho, hu, hK =>
                      cases ho
                      have hw := HW29.out W hg
                      have e8 : A.eval (.tmp 8) = .int .i64 (q : Int) := ev_out hA 8 rfl
                      exact ph_move _ rfl rfl (.int .i64 (q : Int)) e8 (hK _ _ (gb_rr W _) rfl)
                    | 2, hin, ho, hu, hK =>
                      cases ho
                      have hw := HW29.out W hg
                      have e5 : A.eval (.tmp 5) = .slice (some ⟨Q, 0, none⟩) t t := ev_out hA 5 rfl
                      exact ph_move _ rfl rfl (.slice (some ⟨Q, 0, none⟩) t t) e5 (hK _ _ (gb_rr W _) rfl)
                    | 3, hin, ho, hu, hK =>
                      cases ho
                      have hw := HW29.out W hg
                      have e8 : A.eval (.tmp 8) = .int .i64 (q : Int) := ev_out hA 8 rfl
                      exact ph_move _ rfl rfl (.int .i64 (q : Int)) e8 (hK _ _ (gb_rr W _) rfl)
                    | 4, hin, ho, hu, hK =>
                      cases ho
                      have hw := HW29.out W hg
                      have e93 : A.eval (.tmp 93) = .slice (some ⟨Q, 0, none⟩) t t := (ev_in hA 93 2 rfl rfl rfl).trans (show f 2 = .slice (some ⟨Q, 0, none⟩) t t from hu 2 (by decide))
                      have e94 : A.eval (.tmp 94) = .int .i64 (q : Int) := (ev_in hA 94 3 rfl rfl rfl).trans (show f 3 = .int .i64 (q : Int) from hu 3 (by decide))
                      refine ph_sem rfl rfl (r := .ok (.value (.pointer (some ⟨Q, q, none⟩))) W) ?_ (hK _ _ (gb_rr W _) rfl)
                      have eC : ∀ c, A.eval (.const c) = c := fun _ => rfl; have eF : ∀ g, A.eval (.func g) = .func (.func g) #[] #[] := fun _ => rfl; generalize A.eval = ρ at *
                      clear hA hu hg hw
                      go_simp
                    | 5, hin, ho, hu, hK =>
                      cases ho
                      have hw := HW29.out W hg
                      have e95 : A.eval (.tmp 95) = .pointer (some ⟨Q, q, none⟩) := (ev_in hA 95 4 rfl rfl rfl).trans (show f 4 = .pointer (some ⟨Q, q, none⟩) from hu 4 (by decide))
                      have hc := hw.1
                      refine ph_sem rfl rfl (r := .ok (.value (.slice (some ⟨gu, 0, none⟩) (L + 16) cu)) W) ?_ (hK _ _ (gb_rr W _) rfl)
                      have eC : ∀ c, A.eval (.const c) = c := fun _ => rfl; have eF : ∀ g, A.eval (.func g) = .func (.func g) #[] #[] := fun _ => rfl; generalize A.eval = ρ at *
                      clear hA hu hg hw
                      go_simp
                    | 6, hin, ho, hu, hK =>
                      cases ho
                      have hw := HW29.out W hg
                      have e0 : A.eval (.tmp 0) = .slice (some ⟨P, 0, none⟩) t t := ev_out hA 0 rfl
                      exact ph_move _ rfl rfl (.slice (some ⟨P, 0, none⟩) t t) e0 (hK _ _ (gb_rr W _) rfl)
                    | 7, hin, ho, hu, hK =>
                      cases ho
                      have hw := HW29.out W hg
                      have e8 : A.eval (.tmp 8) = .int .i64 (q : Int) := ev_out hA 8 rfl
                      exact ph_move _ rfl rfl (.int .i64 (q : Int)) e8 (hK _ _ (gb_rr W _) rfl)
                    | 8, hin, ho, hu, hK =>
                      cases ho
                      have hw := HW29.out W hg
                      have e97 : A.eval (.tmp 97) = .slice (some ⟨P, 0, none⟩) t t := (ev_in hA 97 6 rfl rfl rfl).trans (show f 6 = .slice (some ⟨P, 0, none⟩) t t from hu 6 (by decide))
                      have e98 : A.eval (.tmp 98) = .int .i64 (q : Int) := (ev_in hA 98 7 rfl rfl rfl).trans (show f 7 = .int .i64 (q : Int) from hu 7 (by decide))
                      refine ph_sem rfl rfl (r := .ok (.value (.pointer (some ⟨P, q, none⟩))) W) ?_ (hK _ _ (gb_rr W _) rfl)
                      have eC : ∀ c, A.eval (.const c) = c := fun _ => rfl; have eF : ∀ g, A.eval (.func g) = .func (.func g) #[] #[] := fun _ => rfl; generalize A.eval = ρ at *
                      clear hA hu hg hw
                      go_simp
                    | 9, hin, ho, hu, hK =>
                      cases ho
                      have hw := HW29.out W hg
                      have e99 : A.eval (.tmp 99) = .pointer (some ⟨P, q, none⟩) := (ev_in hA 99 8 rfl rfl rfl).trans (show f 8 = .pointer (some ⟨P, q, none⟩) from hu 8 (by decide))
                      have hc := hw.2.1
                      refine ph_sem rfl rfl (r := .ok (.value (.slice a L c)) W) ?_ (hK _ _ (gb_rr W _) rfl)
                      have eC : ∀ c, A.eval (.const c) = c := fun _ => rfl; have eF : ∀ g, A.eval (.func g) = .func (.func g) #[] #[] := fun _ => rfl; generalize A.eval = ρ at *
                      clear hA hu hg hw
                      go_simp
                    | 10, hin, ho, hu, hK =>
                      cases ho
                      have hw := HW29.out W hg
                      have e100 : A.eval (.tmp 100) = .slice a L c := (ev_in hA 100 9 rfl rfl rfl).trans (show f 9 = .slice a L c from hu 9 (by decide))
                      refine ph_sem rfl rfl (r := .ok (.value (.int .i64 (L : Int))) W) ?_ (hK _ _ (gb_rr W _) rfl)
                      have eC : ∀ c, A.eval (.const c) = c := fun _ => rfl; have eF : ∀ g, A.eval (.func g) = .func (.func g) #[] #[] := fun _ => rfl; generalize A.eval = ρ at *
                      clear hA hu hg hw
                      go_simp
                    | 11, hin, ho, hu, hK =>
                      cases ho
                      have hw := HW29.out W hg
                      have e0 : A.eval (.tmp 0) = .slice (some ⟨P, 0, none⟩) t t := ev_out hA 0 rfl
                      exact ph_move _ rfl rfl (.slice (some ⟨P, 0, none⟩) t t) e0 (hK _ _ (gb_rr W _) rfl)
                    | 12, hin, ho, hu, hK =>
                      cases ho
                      have hw := HW29.out W hg
                      have e8 : A.eval (.tmp 8) = .int .i64 (q : Int) := ev_out hA 8 rfl
                      exact ph_move _ rfl rfl (.int .i64 (q : Int)) e8 (hK _ _ (gb_rr W _) rfl)
                    | 13, hin, ho, hu, hK =>
                      cases ho
                      have hw := HW29.out W hg
                      have e102 : A.eval (.tmp 102) = .slice (some ⟨P, 0, none⟩) t t := (ev_in hA 102 11 rfl rfl rfl).trans (show f 11 = .slice (some ⟨P, 0, none⟩) t t from hu 11 (by decide))
                      have e103 : A.eval (.tmp 103) = .int .i64 (q : Int) := (ev_in hA 103 12 rfl rfl rfl).trans (show f 12 = .int .i64 (q : Int) from hu 12 (by decide))
                      refine ph_sem rfl rfl (r := .ok (.value (.pointer (some ⟨P, q, none⟩))) W) ?_ (hK _ _ (gb_rr W _) rfl)
                      have eC : ∀ c, A.eval (.const c) = c := fun _ => rfl; have eF : ∀ g, A.eval (.func g) = .func (.func g) #[] #[] := fun _ => rfl; generalize A.eval = ρ at *
                      clear hA hu hg hw
                      go_simp
                    | 14, hin, ho, hu, hK =>
                      cases ho
                      have hw := HW29.out W hg
                      have e104 : A.eval (.tmp 104) = .pointer (some ⟨P, q, none⟩) := (ev_in hA 104 13 rfl rfl rfl).trans (show f 13 = .pointer (some ⟨P, q, none⟩) from hu 13 (by decide))
                      have hc := hw.2.1
                      refine ph_sem rfl rfl (r := .ok (.value (.slice a L c)) W) ?_ (hK _ _ (gb_rr W _) rfl)
                      have eC : ∀ c, A.eval (.const c) = c := fun _ => rfl; have eF : ∀ g, A.eval (.func g) = .func (.func g) #[] #[] := fun _ => rfl; generalize A.eval = ρ at *
                      clear hA hu hg hw
                      go_simp
                    | 15, hin, ho, hu, hK =>
                      cases ho
                      have hw := HW29.out W hg
                      have e105 : A.eval (.tmp 105) = .slice a L c := (ev_in hA 105 14 rfl rfl rfl).trans (show f 14 = .slice a L c from hu 14 (by decide))
                      refine ph_sem rfl rfl (r := .ok (.value (.int .i64 (L : Int))) W) ?_ (hK _ _ (gb_rr W _) rfl)
                      have eC : ∀ c, A.eval (.const c) = c := fun _ => rfl; have eF : ∀ g, A.eval (.func g) = .func (.func g) #[] #[] := fun _ => rfl; generalize A.eval = ρ at *
                      clear hA hu hg hw
                      go_simp
                    | 16, hin, ho, hu, hK =>
                      cases ho
                      have hw := HW29.out W hg
                      have e96 : A.eval (.tmp 96) = .slice (some ⟨gu, 0, none⟩) (L + 16) cu := (ev_in hA 96 5 rfl rfl rfl).trans (show f 5 = .slice (some ⟨gu, 0, none⟩) (L + 16) cu from hu 5 (by decide))
                      have e101 : A.eval (.tmp 101) = .int .i64 (L : Int) := (ev_in hA 101 10 rfl rfl rfl).trans (show f 10 = .int .i64 (L : Int) from hu 10 (by decide))
                      have e106 : A.eval (.tmp 106) = .int .i64 (L : Int) := (ev_in hA 106 15 rfl rfl rfl).trans (show f 15 = .int .i64 (L : Int) from hu 15 (by decide))
                      exact ph_slice3 _ _ _ _ rfl rfl _ _ _ (.slice (some ⟨gu, 0, none⟩) L L) e96 e101 e106 (HS1.out W) (hK _ _ (gb_rr W _) rfl)
                    | 17, hin, ho, hu, hK =>
                      cases ho
                      have hw := HW29.out W hg
                      have e5 : A.eval (.tmp 5) = .slice (some ⟨Q, 0, none⟩) t t := ev_out hA 5 rfl
                      exact ph_move _ rfl rfl (.slice (some ⟨Q, 0, none⟩) t t) e5 (hK _ _ (gb_rr W _) rfl)
                    | 18, hin, ho, hu, hK =>
                      cases ho
                      have hw := HW29.out W hg
                      have e8 : A.eval (.tmp 8) = .int .i64 (q : Int) := ev_out hA 8 rfl
                      exact ph_move _ rfl rfl (.int .i64 (q : Int)) e8 (hK _ _ (gb_rr W _) rfl)
                    | 19, hin, ho, hu, hK =>
                      cases ho
                      have hw := HW29.out W hg
                      have e108 : A.eval (.tmp 108) = .slice (some ⟨Q, 0, none⟩) t t := (ev_in hA 108 17 rfl rfl rfl).trans (show f 17 = .slice (some ⟨Q, 0, none⟩) t t from hu 17 (by decide))
                      have e109 : A.eval (.tmp 109) = .int .i64 (q : Int) := (ev_in hA 109 18 rfl rfl rfl).trans (show f 18 = .int .i64 (q : Int) from hu 18 (by decide))
                      refine ph_sem rfl rfl (r := .ok (.value (.pointer (some ⟨Q, q, none⟩))) W) ?_ (hK _ _ (gb_rr W _) rfl)
                      have eC : ∀ c, A.eval (.const c) = c := fun _ => rfl; have eF : ∀ g, A.eval (.func g) = .func (.func g) #[] #[] := fun _ => rfl; generalize A.eval = ρ at *
                      clear hA hu hg hw
                      go_simp
                    | 20, hin, ho, hu, hK =>
                      cases ho
                      have hw := HW29.out W hg
                      have e110 : A.eval (.tmp 110) = .pointer (some ⟨Q, q, none⟩) := (ev_in hA 110 19 rfl rfl rfl).trans (show f 19 = .pointer (some ⟨Q, q, none⟩) from hu 19 (by decide))
                      have hc := hw.1
                      refine ph_sem rfl rfl (r := .ok (.value (.slice (some ⟨gu, 0, none⟩) (L + 16) cu)) W) ?_ (hK _ _ (gb_rr W _) rfl)
                      have eC : ∀ c, A.eval (.const c) = c := fun _ => rfl; have eF : ∀ g, A.eval (.func g) = .func (.func g) #[] #[] := fun _ => rfl; generalize A.eval = ρ at *
                      clear hA hu hg hw
                      go_simp
                    | 21, hin, ho, hu, hK =>
                      cases ho
                      have hw := HW29.out W hg
                      have e0 : A.eval (.tmp 0) = .slice (some ⟨P, 0, none⟩) t t := ev_out hA 0 rfl
                      exact ph_move _ rfl rfl (.slice (some ⟨P, 0, none⟩) t t) e0 (hK _ _ (gb_rr W _) rfl)
                    | 22, hin, ho, hu, hK =>
                      cases ho
                      have hw := HW29.out W hg
                      have e8 : A.eval (.tmp 8) = .int .i64 (q : Int) := ev_out hA 8 rfl
                      exact ph_move _ rfl rfl (.int .i64 (q : Int)) e8 (hK _ _ (gb_rr W _) rfl)
                    | 23, hin, ho, hu, hK =>
                      cases ho
                      have hw := HW29.out W hg
                      have e112 : A.eval (.tmp 112) = .slice (some ⟨P, 0, none⟩) t t := (ev_in hA 112 21 rfl rfl rfl).trans (show f 21 = .slice (some ⟨P, 0, none⟩) t t from hu 21 (by decide))
                      have e113 : A.eval (.tmp 113) = .int .i64 (q : Int) := (ev_in hA 113 22 rfl rfl rfl).trans (show f 22 = .int .i64 (q : Int) from hu 22 (by decide))
                      refine ph_sem rfl rfl (r := .ok (.value (.pointer (some ⟨P, q, none⟩))) W) ?_ (hK _ _ (gb_rr W _) rfl)
                      have eC : ∀ c, A.eval (.const c) = c := fun _ => rfl; have eF : ∀ g, A.eval (.func g) = .func (.func g) #[] #[] := fun _ => rfl; generalize A.eval = ρ at *
                      clear hA hu hg hw
                      go_simp
                    | 24, hin, ho, hu, hK =>
                      cases ho
                      have hw := HW29.out W hg
                      have e114 : A.eval (.tmp 114) = .pointer (some ⟨P, q, none⟩) := (ev_in hA 114 23 rfl rfl rfl).trans (show f 23 = .pointer (some ⟨P, q, none⟩) from hu 23 (by decide))
                      have hc := hw.2.1
                      refine ph_sem rfl rfl (r := .ok (.value (.slice a L c)) W) ?_ (hK _ _ (gb_rr W _) rfl)
                      have eC : ∀ c, A.eval (.const c) = c := fun _ => rfl; have eF : ∀ g, A.eval (.func g) = .func (.func g) #[] #[] := fun _ => rfl; generalize A.eval = ρ at *
                      clear hA hu hg hw
                      go_simp
                    | 25, hin, ho, hu, hK =>
                      cases ho
                      have hw := HW29.out W hg
                      have e115 : A.eval (.tmp 115) = .slice a L c := (ev_in hA 115 24 rfl rfl rfl).trans (show f 24 = .slice a L c from hu 24 (by decide))
                      refine ph_sem rfl rfl (r := .ok (.value (.int .i64 (L : Int))) W) ?_ (hK _ _ (gb_rr W _) rfl)
                      have eC : ∀ c, A.eval (.const c) = c := fun _ => rfl; have eF : ∀ g, A.eval (.func g) = .func (.func g) #[] #[] := fun _ => rfl; generalize A.eval = ρ at *
                      clear hA hu hg hw
                      go_simp
                    | 26, hin, ho, hu, hK =>
                      cases ho
                      have hw := HW29.out W hg
                      have e111 : A.eval (.tmp 111) = .slice (some ⟨gu, 0, none⟩) (L + 16) cu := (ev_in hA 111 20 rfl rfl rfl).trans (show f 20 = .slice (some ⟨gu, 0, none⟩) (L + 16) cu from hu 20 (by decide))
                      have e116 : A.eval (.tmp 116) = .int .i64 (L : Int) := (ev_in hA 116 25 rfl rfl rfl).trans (show f 25 = .int .i64 (L : Int) from hu 25 (by decide))
                      exact ph_slice1 _ _ _ rfl rfl _ _ (.slice (some ⟨gu, L, none⟩) 16 (cu - L)) e111 e116 (HS2.out W) (hK _ _ (gb_rr W _) rfl)
                    | 27, hin, ho, hu, hK =>
                      cases ho
                      have hw := HW29.out W hg
                      have e107 : A.eval (.tmp 107) = .slice (some ⟨gu, 0, none⟩) L L := (ev_in hA 107 16 rfl rfl rfl).trans (show f 16 = .slice (some ⟨gu, 0, none⟩) L L from hu 16 (by decide))
                      have e117 : A.eval (.tmp 117) = .slice (some ⟨gu, L, none⟩) 16 (cu - L) := (ev_in hA 117 26 rfl rfl rfl).trans (show f 26 = .slice (some ⟨gu, L, none⟩) 16 (cu - L) from hu 26 (by decide))
                      refine ph_anew rfl _ _ rfl B gu L 16 cu (cu - L) (Z2 l q) e107 e117 hw.2.2.1 (by omega) (by have := HUV.out.2.2.2.1; omega) (Nat.le_trans HBX.out.1.bl hw.2.2.2) ?_
                      intro g c W' h1 h2 h3
                      exact hK _ _ h1 ⟨g, c, rfl, h2, Nat.le_trans hw.2.2.2 h3⟩
                    | 28, hin, ho, hu, hK =>
                      cases ho
                      have hw := HW29.out W hg
                      have e91 : A.eval (.tmp 91) = .slice (some ⟨Q, 0, none⟩) t t := (ev_in hA 91 0 rfl rfl rfl).trans (show f 0 = .slice (some ⟨Q, 0, none⟩) t t from hu 0 (by decide))
                      have e92 : A.eval (.tmp 92) = .int .i64 (q : Int) := (ev_in hA 92 1 rfl rfl rfl).trans (show f 1 = .int .i64 (q : Int) from hu 1 (by decide))
                      refine ph_sem rfl rfl (r := .ok (.value (.pointer (some ⟨Q, q, none⟩))) W) ?_ (hK _ _ (gb_rr W _) rfl)
                      have eC : ∀ c, A.eval (.const c) = c := fun _ => rfl; have eF : ∀ g, A.eval (.func g) = .func (.func g) #[] #[] := fun _ => rfl; generalize A.eval = ρ at *
                      clear hA hu hg hw
                      go_simp
                    | i + 29, hin, ho, hu, hK => omega
                  case last =>
                    intro f W A hA hg hu o ho K hK
                    cases ho
                    have hw := HW29.out W hg
                    obtain ⟨g118, c118, hv27, ho27, hn27⟩ := hu 27 (by decide)
                    have e118 : A.eval (.tmp 118) = .slice (some ⟨g118, 0, none⟩) (L + 16) c118 := (ev_in hA 118 27 rfl rfl rfl).trans hv27
                    have e119 : A.eval (.tmp 119) = .pointer (some ⟨Q, q, none⟩) := (ev_in hA 119 28 rfl rfl rfl).trans (show f 28 = .pointer (some ⟨Q, q, none⟩) from hu 28 (by decide))
                    obtain ⟨k1, k2, k3, k4⟩ := HBX.out.1.put29 hlt hg ho27 hn27
                    have HM : Hid (Row .u8 5 (W.setCell ⟨Q, q, none⟩ (.slice (some ⟨g118, 0, none⟩) (L + 16) c118)) N (mks (q + 13) 80)) := (Row.grew (HBX.out.2.grew hg (by simp)) (grownBy_cell W Q q _) (fun e => HDT.out.2.2.2.2.2.1 (Option.some.inj e)))
                    have H5 : Hid (_ ∧ _) := ⟨k3, k4⟩
                    refine ph_sem rfl rfl (r := .ok .skip (W.setCell ⟨Q, q, none⟩ (.slice (some ⟨g118, 0, none⟩) (L + 16) c118))) ?st (hK _ _ ?go)
                    case st =>
                      have eC : ∀ c, A.eval (.const c) = c := fun _ => rfl
                      generalize A.eval = ρ at *
                      clear hA hu hg hw hv27 ho27 hn27 k3 k4 H5
                      go_simp
                    case go =>
                      clear k1 k2 k3 k4 hg hw ho27 hn27 e118 e119
                      have hA2 := hA.trans (putAll_lit [(.slice (some ⟨Q, 0, none⟩) t t), (.int .i64 (q : Int)), (.slice (some ⟨Q, 0, none⟩) t t), (.int .i64 (q : Int)), (.pointer (some ⟨Q, q, none⟩)), (.slice (some ⟨gu, 0, none⟩) (L + 16) cu), (.slice (some ⟨P, 0, none⟩) t t), (.int .i64 (q : Int)), (.pointer (some ⟨P, q, none⟩)), (.slice a L c), (.int .i64 (L : Int)), (.slice (some ⟨P, 0, none⟩) t t), (.int .i64 (q : Int)), (.pointer (some ⟨P, q, none⟩)), (.slice a L c), (.int .i64 (L : Int)), (.slice (some ⟨gu, 0, none⟩) L L), (.slice (some ⟨Q, 0, none⟩) t t), (.int .i64 (q : Int)), (.pointer (some ⟨Q, q, none⟩)), (.slice (some ⟨gu, 0, none⟩) (L + 16) cu), (.slice (some ⟨P, 0, none⟩) t t), (.int .i64 (q : Int)), (.pointer (some ⟨P, q, none⟩)), (.slice a L c), (.int .i64 (L : Int)), (.slice (some ⟨gu, L, none⟩) 16 (cu - L)), (.slice (some ⟨g118, 0, none⟩) (L + 16) c118), (.pointer (some ⟨Q, q, none⟩)), (f 29)] (by
                        intro j hj
                        match j, hj with
                        | 0, _ => exact hu 0 (by decide)
                        | 1, _ => exact hu 1 (by decide)
                        | 2, _ => exact hu 2 (by decide)
                        | 3, _ => exact hu 3 (by decide)
                        | 4, _ => exact hu 4 (by decide)
                        | 5, _ => exact hu 5 (by decide)
                        | 6, _ => exact hu 6 (by decide)
                        | 7, _ => exact hu 7 (by decide)
                        | 8, _ => exact hu 8 (by decide)
                        | 9, _ => exact hu 9 (by decide)
                        | 10, _ => exact hu 10 (by decide)
                        | 11, _ => exact hu 11 (by decide)
                        | 12, _ => exact hu 12 (by decide)
                        | 13, _ => exact hu 13 (by decide)
                        | 14, _ => exact hu 14 (by decide)
                        | 15, _ => exact hu 15 (by decide)
                        | 16, _ => exact hu 16 (by decide)
                        | 17, _ => exact hu 17 (by decide)
                        | 18, _ => exact hu 18 (by decide)
                        | 19, _ => exact hu 19 (by decide)
                        | 20, _ => exact hu 20 (by decide)
                        | 21, _ => exact hu 21 (by decide)
                        | 22, _ => exact hu 22 (by decide)
                        | 23, _ => exact hu 23 (by decide)
                        | 24, _ => exact hu 24 (by decide)
                        | 25, _ => exact hu 25 (by decide)
                        | 26, _ => exact hu 26 (by decide)
                        | 27, _ => exact hv27
                        | 28, _ => exact hu 28 (by decide)
                        | 29, _ => rfl
                        | j + 30, hj => exact absurd hj (by simp)))
                      clear hu hA
                      subst hA2
                      simp only [putAll, putL, List.mem_cons, List.not_mem_nil, List.idxOf_cons, Nat.reduceEqDiff, Nat.reduceBEq, Nat.reduceAdd, or_false, or_true, reduceIte, cond_true, cond_false, List.getD_cons_zero, List.getD_cons_succ, BEq.rfl]
                      have hcq0 := H5.out.1.gq.cell q hlt
                      rw [upd_at] at hcq0
                      have HU2 : Hid (Own B (W.setCell ⟨Q, q, none⟩ (.slice (some ⟨g118, 0, none⟩) (L + 16) c118)) (.slice (some ⟨g118, 0, none⟩) (L + 16) c118) (L + 16) (Z2 l q)) := by
                        have := H5.out.1.fam.u q hlt
                        rw [upd_at, upd_at, upd_at] at this
                        exact this
                      have HB5 : Hid (B ≤ (W.setCell ⟨Q, q, none⟩ (.slice (some ⟨g118, 0, none⟩) (L + 16) c118)).heap.size) := H5.out.1.bl
                      generalize World.setCell W _ _ = X1 at hcq0 HU2 HB5 HM H5
                      go_wp2_with (first
                        | (at_builtin; go_must (refine wpList_append_apart _ rfl _ _ rfl B (L + 16) (.slice (some ⟨g118, 0, none⟩) (L + 16) c118) (Z2 l q) rfl HU2.out (some ⟨N, 0, none⟩) 80 80 (mks (q + 13) 80) rfl (by simp) (HM.out.segAll 80 (by rw [mks_length])) (by have := HUV.out.2.2.2.1; omega) HB5.out ?_); intro v5 w5 ho5 hg5 hat5; obtain ⟨g5, c5, hv5, _, _⟩ := ho5.form (by omega); subst hv5; obtain ⟨k1, k2, k3⟩ := H5.out.1.put30 ⟨HDT.out.2.2.1, HDT.out.2.2.2.1⟩ hlt HUV.out.2.2.1 (upd_at _ _ _) H5.out.2 hg5 ho5 (by rcases hat5 with q5 | q5; exact .inl (Option.some.inj q5); exact .inr (Option.some.inj q5)) (fun i hi => by rw [upd_ne _ _ _ (by omega), upd_ne _ _ _ (by omega)]; exact HDT.out.2.2.2.2.2.2.2.1 i hi) (fun i hi hi' => by rw [upd_ne _ _ _ (by omega), upd_ne _ _ _ (by omega)]; exact HDT.out.2.2.2.2.2.2.2.2 i (by omega) hi'); have H6 : Hid _ := k3; clear k3 ho5 hg5 hat5))
                      obtain ⟨G', U', m', Z', h7⟩ := H6.out
                      have H7 : Hid _ := h7
                      clear h7 H6
                      go_roundw
                      case rel => exact ⟨q + 1, by omega, by go_num, G', U', m', Z', H7.out⟩
                      case measure => simp [intOf]; omega
            · obtain rfl : q = t := by omega
              have HQ : Hid (Gr (LB V q) w wr) := hr.out.bs.bel
              have HEA : Hid (∀ i, i < q → ∃ g c a d, l i ≤ 70368744177664 ∧ wr.cell? ⟨Q, i, none⟩ = some (.slice (some ⟨g, 0, none⟩) (l i + 96) c) ∧ l i + 96 ≤ c ∧ (∀ j, j < l i + 96 → wr.cell? ⟨g, j, none⟩ = some (.int .u8 ((Z3 l i)[j]?.getD 0))) ∧ wr.cell? ⟨P, i, none⟩ = some (.slice a (l i) d) ∧ (∀ j, j < l i → ∃ b, a = some ⟨b, 0, none⟩ ∧ wr.cell? ⟨b, j, none⟩ = some (.int .u8 (mrk i j)))) := fun i hi => third hr.out hi (HL.out i hi)
              clear hr
              go_wp2
              go_loop [132] (fun i => ∃ s : Nat, s ≤ q ∧ i = .int .i64 s) (fun i => q - (intOf i).toNat)
              case atStart => exact ⟨0, Nat.zero_le _, rfl⟩
              case round =>
                obtain ⟨s, hs, rfl⟩ := hrel
                by_cases hlt : s < q
                · have hi1 : (s : Int) < q := by omega
                  have hi0 : (0 : Int) ≤ (s : Int) := by omega
                  obtain ⟨g, c, a, d, hlb, hq1, hcc, hgc, hp1, hvc⟩ := HEA.out s hlt
                  obtain ⟨L, hL⟩ : ∃ L, L = l s := ⟨_, rfl⟩
                  have HLL : Hid (L = l s) := hL
                  rw [← hL] at hlb hq1 hcc hp1
                  have HGC : Hid (∀ j, j < L + 96 → wr.cell? ⟨g, j, none⟩ = some (.int .u8 ((Z3 l s)[j]?.getD 0))) := by rw [hL]; exact hgc
                  have HVC : Hid (∀ j, j < L → ∃ b, a = some ⟨b, 0, none⟩ ∧ wr.cell? ⟨b, j, none⟩ = some (.int .u8 (mrk s j))) := by rw [hL]; exact hvc
                  clear hgc hvc hL
                  go_wp2
                  go_loop [140] (fun i => ∃ j : Nat, j ≤ L + 96 ∧ i = .int .i64 j) (fun i => L + 96 - (intOf i).toNat)
                  case atStart => exact ⟨0, Nat.zero_le _, rfl⟩
                  case round =>
                    obtain ⟨j, hj, rfl⟩ := hrel
                    by_cases hlt2 : j < L + 96
                    · have hj1 : (j : Int) < (L : Int) + 96 := by omega
                      have hj0 : (0 : Int) ≤ (j : Int) := by omega
                      have hg1 := HGC.out j hlt2
                      by_cases hc1 : j < L
                      · obtain ⟨b, rfl, hb1⟩ := HVC.out j hc1
                        rw [Z3_lo l s j (by rw [← HLL.out]; exact hc1)] at hg1
                        obtain ⟨x, hx⟩ : ∃ x : Int, (j : Int) - (L : Int) = x := ⟨_, rfl⟩
                        have hx1 : ¬ (16 ≤ x) := by omega
                        have hx2 : ¬ (0 ≤ x) := by omega
                        have hx3 : (j : Int) < (L : Int) := by omega
                        have hne : (mrk s j != mrk s j) = false := by simp
                        go_wp2_with (go_at_call 45; go_must (refine (mark_c s j (by omega) (by omega) _).mono ?_); rintro r w9 ⟨rfl, h9⟩; obtain rfl := h9.symm)
                        go_round
                        case rel => exact ⟨j + 1, by omega, by go_num⟩
                        case measure => simp [intOf]; omega
                      · by_cases hc2 : j < L + 16
                        · obtain ⟨d1, hd1⟩ : ∃ d1 : Nat, j = L + d1 := ⟨j - L, by omega⟩
                          have hx : (j : Int) - (L : Int) = (d1 : Int) := by omega
                          have hx1 : ¬ (16 ≤ (d1 : Int)) := by omega
                          have hx2 : (0 : Int) ≤ (d1 : Int) := by omega
                          have hx3 : ¬ (j : Int) < (L : Int) := by omega
                          rw [Z3_mid l s j d1 (by rw [← HLL.out]; exact hd1) (by omega)] at hg1
                          have hne : (mrk (s + 7) d1 != mrk (s + 7) d1) = false := by simp
                          have HD1 : Hid (j = L + d1) := hd1
                          clear hd1
                          go_wp2_with (first
                            | ((fail_if_success (have z := H9)); go_at_call 45; go_must (refine (mark_c s j (by omega) (by omega) _).mono ?_); rintro r w9 ⟨rfl, h9⟩; obtain rfl := h9.symm; have H9 : Hid True := trivial)
                            | (have z := H9; clear z; go_at_call 45; go_must (refine (mark_c (s + 7) d1 (by omega) (by omega) _).mono ?_); rintro r w9 ⟨rfl, h9⟩; obtain rfl := h9.symm))
                          go_round
                          case rel => exact ⟨j + 1, by omega, by go_num⟩
                          case measure => simp [intOf]; omega
                        · obtain ⟨d1, hd1⟩ : ∃ d1 : Nat, j = L + d1 := ⟨j - L, by omega⟩
                          obtain ⟨d2, hd2⟩ : ∃ d2 : Nat, d1 = 16 + d2 := ⟨d1 - 16, by omega⟩
                          have hx : (j : Int) - (L : Int) = (d1 : Int) := by omega
                          have hx1 : (16 : Int) ≤ (d1 : Int) := by omega
                          have hx2 : (d1 : Int) - 16 = (d2 : Int) := by omega
                          have hx3 : ¬ (j : Int) < (L : Int) := by omega
                          rw [Z3_hi l s j d2 (by rw [← HLL.out]; omega) (by omega)] at hg1
                          have hne : (mrk (s + 13) d2 != mrk (s + 13) d2) = false := by simp
                          have hd2b : d2 ≤ 80 := by omega
                          clear hd1 hd2
                          go_wp2_with (first
                            | ((fail_if_success (have z := H9)); go_at_call 45; go_must (refine (mark_c s j (by omega) (by omega) _).mono ?_); rintro r w9 ⟨rfl, h9⟩; obtain rfl := h9.symm; have H9 : Hid True := trivial)
                            | (have z := H9; clear z; go_at_call 45; go_must (refine (mark_c (s + 13) d2 (by omega) (by omega) _).mono ?_); rintro r w9 ⟨rfl, h9⟩; obtain rfl := h9.symm))
                          go_round
                          case rel => exact ⟨j + 1, by omega, by go_num⟩
                          case measure => simp [intOf]; omega
                    · go_wp2
                      go_round
                      case rel => exact ⟨s + 1, by omega, by go_num⟩
                      case measure => simp [intOf]; omega
                · go_wp2
                  go_ret
                  exact ⟨rfl, HQ.out⟩
end Go.Proofs.YtlmjgjimmbadeaaDoor
