/-
  What the law's apart answers of lists that lie apart: yes. Condition: fewer than 2^30 lists, each shorter than 2^30.
-/
import Derived.Test.YtegbgmihcokblaaDoorFOa
import Derived.Test.YtegbgmihcokblaaDoorFFi
import Derived.Sort.AtCall
namespace Go.Proofs.YtegbgmihcokblaaDoor
set_option linter.unusedVariables false
open Go.RowKit Go.WideShapes Go.ChangeShapes

/-- The marks. -/
def amk (i k : Nat) : Int := ((i : Int) + 7 * (k : Int)) % 256
def ams (i n : Nat) : List Int := (List.range n).map (amk i)
def agk (i k : Nat) : Int := ((i : Int) + 101 + 3 * (k : Int)) % 256
def ags (i n : Nat) : List Int := (List.range n).map (agk i)
theorem ams_length (i n : Nat) : (ams i n).length = n := by simp [ams]
theorem ams_at (i n k : Nat) (h : k < n) : (ams i n)[k]?.getD 0 = amk i k := by simp [ams, h]
theorem ams_succ (i n : Nat) : ams i (n + 1) = ams i n ++ [amk i n] := by simp [ams, List.range_succ]
theorem ags_length (i n : Nat) : (ags i n).length = n := by simp [ags]
theorem ags_succ (i n : Nat) : ags i (n + 1) = ags i n ++ [agk i n] := by simp [ags, List.range_succ]
theorem ags_at (X : List Int) (i n k : Nat) (h : k < n) : (X ++ ags i n)[X.length + k]?.getD 0 = agk i k := by
  rw [List.getElem?_append_right (by omega)]
  simp [ags, h]
theorem fam_set {B : Nat} {w : World} {D : Nat → Prop} {n : Nat} {V : Nat → Value} {l : Nat → Nat} {X : Nat → List Int} (h : Fam B w D n V V l l X X) (hD : ∀ g, D g → g < w.heap.size) {i g c k : Nat} (y : Int) (hi : i < n) (hV : V i = .slice (some ⟨g, 0, none⟩) (l i) c) (hk : k < l i) :
    Fam B (w.setCell ⟨g, k, none⟩ (.int .u8 y)) D n V V l l (upd X i ((X i).set k y)) (upd X i ((X i).set k y)) := by
  have hO := h.v i hi
  rw [hV] at hO
  have hS := hO.set k hk y
  have := h.step (U' := V i) (m' := l i) (X' := (X i).set k y) (Z' := (X i).set k y) (w' := w.setCell ⟨g, k, none⟩ (.int .u8 y)) hi (grown_set w g k _) (fun g' e => .inl (by rw [hV]; exact e)) (by rw [hV]; exact hS) (by rw [hV]; exact hS) (fun g' e => .inl e) hD
  rw [upd_self, upd_self] at this
  exact this
/-- A row of lists. -/
def RowH (B : Nat) (w : World) (v : Value) (n : Nat) (V : Nat → Value) : Prop := w.ownsRow B 28 1 v n ((List.range n).map V)
theorem RowH.cell {B : Nat} {w : World} {b c n : Nat} {V : Nat → Value} (h : RowH B w (.slice (some ⟨b, 0, none⟩) n c) n V) (i : Nat) (hi : i < n) : w.cell? ⟨b, i, none⟩ = some (V i) := by
  rw [World.ownsRow.cellAt h i (by omega)]
  simp [hi]
/-- While the lists are marked. -/
structure ApA (B : Nat) (w wr : World) (hv : Value) (n : Nat) (V : Nat → Value) (l : Nat → Nat) (X : Nat → List Int) : Prop where
  fam : Fam B wr (fun k => hv.ownBlock = some k) n V V l l X X
  row : RowH B wr hv n V
  bel : Below B w wr
  sz : B ≤ wr.heap.size
theorem ApA.set {B : Nat} {w wr : World} {hv : Value} {n : Nat} {V : Nat → Value} {l : Nat → Nat} {X : Nat → List Int} (h : ApA B w wr hv n V l X) {i g c k : Nat} (y : Int) (hi : i < n) (hV : V i = .slice (some ⟨g, 0, none⟩) (l i) c) (hk : k < l i) :
    ApA B w (wr.setCell ⟨g, k, none⟩ (.int .u8 y)) hv n V l (upd X i ((X i).set k y)) := by
  have hg := grown_set wr g k (.int .u8 y)
  have hb : (V i).ownBlock = some g := by rw [hV]; rfl
  refine ⟨fam_set h.fam (fun g' e => (own_lt h.row g' e).2) y hi hV hk, own_gr h.row (Gr.of (G := fun k => k = g) hg (fun k hk => by cases hk; exact .inl rfl)) (fun b e z => ?_), h.bel.grown hg h.sz (fun k e => by cases e; exact (h.fam.lt hi (.inl hb)).1), by simpa using h.sz⟩
  subst z
  exact h.fam.off i b hi (.inl hb) e
/-- While the lists grow. -/
structure ApB (B : Nat) (w wr : World) (hv gv : Value) (n i : Nat) (V U : Nat → Value) (l m : Nat → Nat) (X Z : Nat → List Int) : Prop where
  fam : Fam B wr (fun k => hv.ownBlock = some k ∨ gv.ownBlock = some k) n V U l m X Z
  row : RowH B wr hv n V
  gro : RowH B wr gv i U
  ap : ∀ k, hv.ownBlock = some k → gv.ownBlock ≠ some k
  bel : Below B w wr
  sz : B ≤ wr.heap.size
theorem ApB.gb {B : Nat} {w wr w2 : World} {hv gv : Value} {n i : Nat} {V U : Nat → Value} {l m : Nat → Nat} {X Z : Nat → List Int} (h : ApB B w wr hv gv n i V U l m X Z) (hg : wr.grownBy w2 none) : ApB B w w2 hv gv n i V U l m X Z :=
  ⟨h.fam.gb hg (fun _ e => by cases e), own_gr h.row (Gr.of (G := fun _ => False) hg (by simp)) (fun _ _ z => z), own_gr h.gro (Gr.of (G := fun _ => False) hg (by simp)) (fun _ _ z => z), h.ap, h.bel.grown hg h.sz (fun k e => by cases e), Nat.le_trans h.sz hg.size⟩
theorem row_upd {B : Nat} {w : World} {v : Value} {i : Nat} {U : Nat → Value} (u : Value) (h : RowH B w v i U) : RowH B w v i (upd U i u) := by
  unfold RowH at *
  have : (List.range i).map (upd U i u) = (List.range i).map U := List.map_congr_left (fun j hj => upd_ne _ _ _ (by have := List.mem_range.1 hj; omega))
  rw [this]
  exact h
/-- One byte more behind the i-th list. -/
theorem ApB.app {B : Nat} {w wr w2 : World} {hv gv : Value} {n i : Nat} {V U : Nat → Value} {l m : Nat → Nat} {X Z : Nat → List Int} (h : ApB B w wr hv gv n i V U l m X Z) (hi : i < n) {u' : Value} {m' : Nat} {Z' : List Int} (hg : wr.grownBy w2 (U i).ownBlock) (hV : Own B w2 (V i) (l i) (X i)) (hU : Own B w2 u' m' Z') (hat : ∀ g, u'.ownBlock = some g → (U i).ownBlock = some g ∨ wr.heap.size ≤ g) :
    ApB B w w2 hv gv n i V (upd U i u') l (upd m i m') X (upd Z i Z') := by
  have hD : ∀ g, (hv.ownBlock = some g ∨ gv.ownBlock = some g) → g < wr.heap.size := fun g e => e.elim (fun e => (own_lt h.row g e).2) (fun e => (own_lt h.gro g e).2)
  have hf := h.fam.step hi hg (fun g e => .inr e) hV hU (fun g e => .inr (hat g e)) hD
  rw [upd_self] at hf
  have hG : Gr (fun k => (U i).ownBlock = some k) wr w2 := Gr.of hg (fun k e => .inl e)
  exact ⟨hf, own_gr h.row hG (fun b e z => h.fam.off i b hi (.inr z) (.inl e)), row_upd _ (own_gr h.gro hG (fun b e z => h.fam.off i b hi (.inr z) (.inr e))), h.ap, h.bel.grown hg h.sz (fun k e => (h.fam.lt hi (.inr e)).1), Nat.le_trans h.sz hg.size⟩
/-- One grown list more. -/
theorem ApB.push {B : Nat} {w wr w2 : World} {hv gv gv' : Value} {n i : Nat} {V U : Nat → Value} {l m : Nat → Nat} {X Z : Nat → List Int} (h : ApB B w wr hv gv n i V U l m X Z) (hg : wr.grownBy w2 gv.ownBlock) (hr : RowH B w2 gv' (i + 1) U) (hat : gv'.ownBlock = gv.ownBlock ∨ gv'.ownBlock = some wr.heap.size) : ApB B w w2 hv gv' n (i + 1) V U l m X Z := by
  have hG : Gr (fun k => gv.ownBlock = some k) wr w2 := Gr.of hg (fun k e => .inl e)
  have hs := hg.size
  have hf := h.fam.gb hg (fun g e => .inl (.inr e))
  refine ⟨⟨hf.v, hf.u, hf.apart, fun j g hj hb z => ?_⟩, own_gr h.row hG (fun b e z => h.ap b e z), hr, fun k e z => ?_, h.bel.grown hg h.sz (fun k e => (own_lt h.gro k e).1), Nat.le_trans h.sz hs⟩
  · rcases z with z | z
    · exact hf.off j g hj hb (.inl z)
    · rcases hat with q | q
      · exact hf.off j g hj hb (.inr (by rw [← q]; exact z))
      · rw [q] at z; cases z
        have := (h.fam.lt hj hb).2
        omega
  · rcases hat with q | q
    · exact h.ap k e (by rw [← q]; exact z)
    · rw [q] at z; cases z
      have := (own_lt h.row _ e).2
      omega
theorem Tryd.infoTss : (Tryd.prog.info? 28).map (fun i => (i.zero, i.size, i.bytes)) = some (some (.slice none 0 0), 1, 24) := by kernel_rfl
/-- append of lists that were just put into a row to a row of lists of one's own. -/
theorem wpList_pushH {ops : Array Oper} {rest : List Oper} {o : Oper} {a : Act} {Q : Exit → Act → World → Prop} (hgd : o.guard = none) (s x : Operand)
    (ho : o.op = .call { callee := .builtin .append, args := #[s, x], argTypes := #[46, 46] }) (w : World) (B : Nat) (v : Value) (n : Nat) (xs : List Value) (b m : Nat) (news : List Value) (hs : a.eval s = v) (hx : a.eval x = .slice (some ⟨b, 0, none⟩) m m) (h : w.ownsRow B 28 1 v n xs) (hl : news.length = m) (hc : ∀ j u, news[j]? = some u → w.cell? ⟨b, j, none⟩ = some u) (h1 : ∀ u ∈ news, u.oneCell' = true) (hn : (n + m) * 24 ≤ 140737488355328) (hB : B ≤ w.heap.size)
    (K : ∀ v' w', w'.ownsRow B 28 1 v' (n + m) (xs ++ news) → w.grownBy w' v.ownBlock → (v'.ownBlock = v.ownBlock ∨ v'.ownBlock = some w.heap.size) → wpList Tryd.prog ops Q rest (a.put o.dst v') w') :
    wpList Tryd.prog ops Q (o :: rest) a w := by
  obtain ⟨i, hi, hz, h4, h5⟩ := info_parts' Tryd.infoTss
  refine wpList_append_own_at _ hgd s x 46 ho B 28 i (.slice none 0 0) 1 24 Tryd.underlying46 hi hz h4 h5 rfl (by decide) v n xs hs h ⟨b, 0, none⟩ m m news hx (by omega) (fun j u hu => ?_) h1 (by unfold maxLen; omega) (by omega) hB ?_
  · rw [add_plain, Nat.zero_add]
    exact hc j u hu
  · intro v' w' k1 k2 _ k4
    exact K v' w' k1 k2 k4
end Go.Proofs.YtegbgmihcokblaaDoor
