/-
  Rows of lists of ranges and of numbers, side by side, while they are marked and grown. No condition of its own.
-/
import Derived.Test.YtdjcokepeifojaaNFb
import Derived.Test.YtdjcokepeifojaaNRg
namespace Go.Proofs.Ytdjcokepeifojaa
set_option linter.unusedVariables false
open Go.RowKit

def tyE (nh q : Nat) : TypeId := if q < nh then 39 else 3
def tyS (nh q : Nat) : Nat := if q < nh then 2 else 1
/-- Two slices with no block in common. -/
def Ndis (a b : Value) : Prop := ∀ k, a.ownBlock = some k → b.ownBlock ≠ some k
structure Ap (F : Nat → Prop) (B : Nat) (w wr : World) (hv nv gv mv : Value) (nh nn i j : Nat) (V U : Nat → Value) (l m : Nat → Nat) (X Z : Nat → List Value) : Prop where
  fam : Fam B wr (fun k => hv.ownBlock = some k ∨ nv.ownBlock = some k ∨ gv.ownBlock = some k ∨ mv.ownBlock = some k ∨ F k) (nh + nn) (tyE nh) (tyS nh) V U l m X Z
  rh : wr.ownsRow B 24 1 hv nh ((List.range nh).map V)
  rn : wr.ownsRow B 22 1 nv nn ((List.range nn).map fun q => V (nh + q))
  rg : wr.ownsRow B 24 1 gv i ((List.range i).map U)
  rm : wr.ownsRow B 22 1 mv j ((List.range j).map fun q => U (nh + q))
  ap : [hv, nv, gv, mv].Pairwise Ndis
  bel : Below B w wr
  sz : B ≤ wr.heap.size
  ile : i ≤ nh
  kp : ∀ k, F k → wr.heap[k]? = w.heap[k]? ∧ k < w.heap.size
  kf : ∀ k, F k → hv.ownBlock ≠ some k ∧ nv.ownBlock ≠ some k ∧ gv.ownBlock ≠ some k ∧ mv.ownBlock ≠ some k
theorem Ap.dlt {F B w wr hv nv gv mv nh nn i j V U l m X Z} (h : Ap F B w wr hv nv gv mv nh nn i j V U l m X Z) : ∀ g, (hv.ownBlock = some g ∨ nv.ownBlock = some g ∨ gv.ownBlock = some g ∨ mv.ownBlock = some g ∨ F g) → g < wr.heap.size := fun g e => by
  rcases e with e | e | e | e | e
  · exact (own_lo h.rh g e).2
  · exact (own_lo h.rn g e).2
  · exact (own_lo h.rg g e).2
  · exact (own_lo h.rm g e).2
  · exact Nat.lt_of_lt_of_le (h.kp g e).2 h.bel.size
theorem Ap.kpt {F B w wr hv nv gv mv nh nn i j V U l m X Z} {w2 : World} {row : Option Nat} (h : Ap F B w wr hv nv gv mv nh nn i j V U l m X Z) (hg : wr.grownBy w2 row) (hr : ∀ k, row = some k → ¬ F k) : ∀ k, F k → w2.heap[k]? = w.heap[k]? ∧ k < w.heap.size := fun k hk =>
  ⟨(hg.block k (Nat.lt_of_lt_of_le (h.kp k hk).2 h.bel.size) (fun e => hr k e.symm hk)).trans (h.kp k hk).1, (h.kp k hk).2⟩
theorem kf_new {F : Nat → Prop} {v v' : Value} {n : Nat} (h : ∀ k, F k → v.ownBlock ≠ some k) (hF : ∀ k, F k → k < n) (hat : v'.ownBlock = v.ownBlock ∨ ∃ k, v'.ownBlock = some k ∧ n ≤ k) : ∀ k, F k → v'.ownBlock ≠ some k := fun k hk z => by
  rcases hat with q | ⟨k', q, hk'⟩
  · exact h k hk (by rw [← q]; exact z)
  · rw [q] at z; cases z; have := hF _ hk; omega
theorem Ap.gb {F B w wr w2 hv nv gv mv nh nn i j V U l m X Z} (h : Ap F B w wr hv nv gv mv nh nn i j V U l m X Z) (hg : wr.grownBy w2 none) : Ap F B w w2 hv nv gv mv nh nn i j V U l m X Z :=
  ⟨h.fam.gb hg (fun _ e => by cases e), own_gro h.rh hg (fun _ _ z => by cases z), own_gro h.rn hg (fun _ _ z => by cases z), own_gro h.rg hg (fun _ _ z => by cases z), own_gro h.rm hg (fun _ _ z => by cases z), h.ap, h.bel.grown hg h.sz (fun _ e => by cases e), Nat.le_trans h.sz hg.size, h.ile, h.kpt hg (fun _ e => by cases e), h.kf⟩
theorem map_upd {U : Nat → Value} {q i : Nat} {U' : Value} (f : Nat → Nat) (h : U' = U q ∨ ∀ p, p < i → f p ≠ q) : (List.range i).map (fun p => upd U q U' (f p)) = (List.range i).map fun p => U (f p) :=
  List.map_congr_left fun p hp => by
    rcases h with rfl | h
    · rw [upd_self]
    · exact upd_ne _ _ _ (h p (List.mem_range.1 hp))
theorem Ap.step {F B w wr w2 hv nv gv mv nh nn i j V U l m X Z q} {row : Option Nat} {U' : Value} {m' : Nat} {X' Z' : List Value} (h : Ap F B w wr hv nv gv mv nh nn i j V U l m X Z) (hq : q < nh + nn) (hg : wr.grownBy w2 row) (hr : ∀ g, row = some g → (V q).ownBlock = some g ∨ (U q).ownBlock = some g)
    (hV : w2.ownsRow B (tyE nh q) (tyS nh q) (V q) (l q) X') (hU : w2.ownsRow B (tyE nh q) (tyS nh q) U' m' Z') (hat : ∀ g, U'.ownBlock = some g → (V q).ownBlock = some g ∨ (U q).ownBlock = some g ∨ wr.heap.size ≤ g) (hu : U' = U q ∨ ((q < nh → i ≤ q) ∧ (nh ≤ q → nh + j ≤ q))) :
    Ap F B w w2 hv nv gv mv nh nn i j V (upd U q U') l (upd m q m') (upd X q X') (upd Z q Z') := by
  have hi := h.ile
  refine ⟨h.fam.step hq hg hr hV hU hat (fun g e => h.dlt g e), own_gro h.rh hg (fun g e z => h.fam.off q g hq (hr g z) (.inl e)), own_gro h.rn hg (fun g e z => h.fam.off q g hq (hr g z) (.inr (.inl e))), ?_, ?_, h.ap, h.bel.grown hg h.sz (fun k e => (h.fam.lt hq (hr k e)).1), Nat.le_trans h.sz hg.size, h.ile, h.kpt hg (fun k e z => h.fam.off q k hq (hr k e) (.inr (.inr (.inr (.inr z))))), h.kf⟩
  · have := own_gro h.rg hg (fun g e z => h.fam.off q g hq (hr g z) (.inr (.inr (.inl e))))
    rw [show (List.range i).map (upd U q U') = (List.range i).map fun p => U p from map_upd (fun p => p) (hu.imp id fun hu p hp e => by
      subst e
      rcases Nat.lt_or_ge p nh with k | k
      · have := hu.1 k; omega
      · omega)]
    exact this
  · have := own_gro h.rm hg (fun g e z => h.fam.off q g hq (hr g z) (.inr (.inr (.inr (.inl e)))))
    rw [map_upd (fun p => nh + p) (hu.imp id fun hu p hp e => by have := hu.2 (by omega); omega)]
    exact this
theorem ndis_new {a b b' : Value} {n : Nat} (h : Ndis a b) (ha : ∀ k, a.ownBlock = some k → k < n) (hat : b'.ownBlock = b.ownBlock ∨ ∃ k, b'.ownBlock = some k ∧ n ≤ k) : Ndis a b' := fun k e z => by
  rcases hat with q | ⟨k', q, hk⟩
  · exact h k e (by rw [← q]; exact z)
  · rw [q] at z; cases z; have := ha _ e; omega
theorem ndis_symm {a b : Value} (h : Ndis a b) : Ndis b a := fun k e z => h k z e
theorem Ap.four {F B w wr hv nv gv mv nh nn i j V U l m X Z} (h : Ap F B w wr hv nv gv mv nh nn i j V U l m X Z) : Ndis hv nv ∧ Ndis hv gv ∧ Ndis hv mv ∧ Ndis nv gv ∧ Ndis nv mv ∧ Ndis gv mv := by
  have := h.ap
  simp only [List.pairwise_cons, List.mem_cons, List.not_mem_nil, or_false, forall_eq_or_imp, forall_eq] at this
  exact ⟨this.1.1, this.1.2.1, this.1.2.2, this.2.1.1, this.2.1.2, this.2.2.1⟩
theorem four_ap {a b c d : Value} (h : Ndis a b ∧ Ndis a c ∧ Ndis a d ∧ Ndis b c ∧ Ndis b d ∧ Ndis c d) : [a, b, c, d].Pairwise Ndis := by
  simp only [List.pairwise_cons, List.mem_cons, List.not_mem_nil, or_false, forall_eq_or_imp, forall_eq]
  exact ⟨⟨h.1, h.2.1, h.2.2.1⟩, ⟨h.2.2.2.1, h.2.2.2.2.1⟩, h.2.2.2.2.2, by simp, List.Pairwise.nil⟩
theorem Ap.pushG {F B w wr w2 hv nv gv gv' mv nh nn i j V U l m X Z} (h : Ap F B w wr hv nv gv mv nh nn i j V U l m X Z) (hg : wr.grownBy w2 gv.ownBlock) (hr : w2.ownsRow B 24 1 gv' (i + 1) ((List.range i).map U ++ [U i])) (hat : gv'.ownBlock = gv.ownBlock ∨ ∃ k, gv'.ownBlock = some k ∧ wr.heap.size ≤ k) (hi : i + 1 ≤ nh) :
    Ap F B w w2 hv nv gv' mv nh nn (i + 1) j V U l m X Z := by
  obtain ⟨a1, a2, a3, a4, a5, a6⟩ := h.four
  have hf := h.fam.gb hg (fun g e => .inl (.inr (.inr (.inl e))))
  refine ⟨⟨hf.v, hf.u, hf.apart, fun q g hq hb z => ?_⟩, own_gro h.rh hg (fun g e z => a2 g e z), own_gro h.rn hg (fun g e z => a4 g e z), by rw [List.range_succ, List.map_append, List.map_singleton]; exact hr, own_gro h.rm hg (fun g e z => a6 g z e), four_ap ⟨a1, ndis_new a2 (fun k e => (own_lo h.rh k e).2) hat, a3, ndis_new a4 (fun k e => (own_lo h.rn k e).2) hat, a5, ndis_symm (ndis_new (ndis_symm a6) (fun k e => (own_lo h.rm k e).2) hat)⟩, h.bel.grown hg h.sz (fun k e => (own_lo h.rg k e).1), Nat.le_trans h.sz hg.size, hi, h.kpt hg (fun k e z => (h.kf k z).2.2.1 e), fun k hk => ⟨(h.kf k hk).1, (h.kf k hk).2.1, kf_new (fun k hk => (h.kf k hk).2.2.1) (fun k hk => Nat.lt_of_lt_of_le (h.kp k hk).2 h.bel.size) hat k hk, (h.kf k hk).2.2.2⟩⟩
  rcases z with z | z | z | z | z
  · exact hf.off q g hq hb (.inl z)
  · exact hf.off q g hq hb (.inr (.inl z))
  · rcases hat with p | ⟨k, p, hk⟩
    · exact hf.off q g hq hb (.inr (.inr (.inl (by rw [← p]; exact z))))
    · rw [p] at z; cases z
      have := (h.fam.lt hq hb).2; omega
  · exact hf.off q g hq hb (.inr (.inr (.inr (.inl z))))
  · exact hf.off q g hq hb (.inr (.inr (.inr (.inr z))))
theorem Ap.pushM {F B w wr w2 hv nv gv mv mv' nh nn i j V U l m X Z} (h : Ap F B w wr hv nv gv mv nh nn i j V U l m X Z) (hg : wr.grownBy w2 mv.ownBlock) (hr : w2.ownsRow B 22 1 mv' (j + 1) (((List.range j).map fun q => U (nh + q)) ++ [U (nh + j)])) (hat : mv'.ownBlock = mv.ownBlock ∨ ∃ k, mv'.ownBlock = some k ∧ wr.heap.size ≤ k) :
    Ap F B w w2 hv nv gv mv' nh nn i (j + 1) V U l m X Z := by
  obtain ⟨a1, a2, a3, a4, a5, a6⟩ := h.four
  have hf := h.fam.gb hg (fun g e => .inl (.inr (.inr (.inr (.inl e)))))
  refine ⟨⟨hf.v, hf.u, hf.apart, fun q g hq hb z => ?_⟩, own_gro h.rh hg (fun g e z => a3 g e z), own_gro h.rn hg (fun g e z => a5 g e z), own_gro h.rg hg (fun g e z => a6 g e z), by rw [List.range_succ, List.map_append, List.map_singleton]; exact hr, four_ap ⟨a1, a2, ndis_new a3 (fun k e => (own_lo h.rh k e).2) hat, a4, ndis_new a5 (fun k e => (own_lo h.rn k e).2) hat, ndis_new a6 (fun k e => (own_lo h.rg k e).2) hat⟩, h.bel.grown hg h.sz (fun k e => (own_lo h.rm k e).1), Nat.le_trans h.sz hg.size, h.ile, h.kpt hg (fun k e z => (h.kf k z).2.2.2 e), fun k hk => ⟨(h.kf k hk).1, (h.kf k hk).2.1, (h.kf k hk).2.2.1, kf_new (fun k hk => (h.kf k hk).2.2.2) (fun k hk => Nat.lt_of_lt_of_le (h.kp k hk).2 h.bel.size) hat k hk⟩⟩
  rcases z with z | z | z | z | z
  · exact hf.off q g hq hb (.inl z)
  · exact hf.off q g hq hb (.inr (.inl z))
  · exact hf.off q g hq hb (.inr (.inr (.inl z)))
  · rcases hat with p | ⟨k, p, hk⟩
    · exact hf.off q g hq hb (.inr (.inr (.inr (.inl (by rw [← p]; exact z)))))
    · rw [p] at z; cases z
      have := (h.fam.lt hq hb).2; omega
  · exact hf.off q g hq hb (.inr (.inr (.inr (.inr z))))
/-- What became of a list, and the list itself. -/
def Arel (v u : Value) (l m : Nat) : Prop := u.ownBlock = v.ownBlock → u = .slice none 0 0 ∨ ∃ g c, v = .slice (some ⟨g, 0, none⟩) l c ∧ u = .slice (some ⟨g, 0, none⟩) m c
theorem arel_self {B : Nat} {w : World} {e : TypeId} {size : Nat} {v : Value} {n : Nat} {xs : List Value} (h : w.ownsRow B e size v n xs) : Arel v v n n := fun _ => by
  rcases h.2 with ⟨e, _⟩ | ⟨g, cap, cur, e, _⟩
  · exact .inl e
  · exact .inr ⟨g, cap, e, e⟩
/-- One element more behind what became of a list. -/
theorem Ap.app {F B w wr w2 hv nv gv mv nh nn i j V U l m X Z q} {u v' : Value} {M1 : Nat} {zs cs : List Value} (h : Ap F B w wr hv nv gv mv nh nn i j V (upd U q u) l (upd m q M1) X (upd Z q zs)) (hq : q < nh + nn) (hr : Arel (V q) u (l q) M1) (hlm : l q ≤ M1) (hX : zs.take (l q * tyS nh q) = X q)
    (y1 : w2.ownsRow B (tyE nh q) (tyS nh q) v' (M1 + 1) (zs ++ cs)) (y2 : w2.ownsRow B (tyE nh q) (tyS nh q) u M1 zs) (y3 : wr.grownBy w2 u.ownBlock) (y4 : (∃ g cap, u = .slice (some ⟨g, 0, none⟩) M1 cap ∧ v' = .slice (some ⟨g, 0, none⟩) (M1 + 1) cap) ∨ (∃ g cap, v' = .slice (some ⟨g, 0, none⟩) (M1 + 1) cap ∧ wr.heap.size ≤ g)) (hij : (q < nh → i ≤ q) ∧ (nh ≤ q → nh + j ≤ q)) :
    Ap F B w w2 hv nv gv mv nh nn i j V (upd U q v') l (upd m q (M1 + 1)) X (upd Z q (zs ++ cs)) ∧ Arel (V q) v' (l q) (M1 + 1) := by
  obtain ⟨b1, b2, b3⟩ := both_app (h.fam.v q hq) y2 hr hlm hX y3 y4
  have := h.step hq (U' := v') (m' := M1 + 1) (Z' := zs ++ cs) (X' := X q) (w2 := w2) y3 (fun g e => .inr (by rw [upd_at]; exact e)) b1 y1 (fun g e => .inr (by rw [upd_at]; exact b3 g e)) (.inr hij)
  rw [upd_upd, upd_upd, upd_upd, upd_self] at this
  exact ⟨this, b2⟩
/-- One element of a list is written, while none has grown. -/
theorem Ap.set {F B w wr w2 hv nv nh nn V l X q} {X' : List Value} {g c : Nat} (h : Ap F B w wr hv nv (.slice none 0 0) (.slice none 0 0) nh nn 0 0 V V l l X X) (hq : q < nh + nn) (hV : V q = .slice (some ⟨g, 0, none⟩) (l q) c) (hg : wr.grownBy w2 (some g)) (hX : w2.ownsRow B (tyE nh q) (tyS nh q) (V q) (l q) X') :
    Ap F B w w2 hv nv (.slice none 0 0) (.slice none 0 0) nh nn 0 0 V V l l (upd X q X') (upd X q X') := by
  have := h.step hq (U' := V q) (m' := l q) (X' := X') (Z' := X') (w2 := w2) hg (fun g' e => .inl (by rw [hV]; exact e)) hX hX (fun g' e => .inl e) (.inl rfl)
  rwa [upd_self, upd_self] at this
theorem own_setT {w : World} {B : Nat} {g n cap : Nat} {xs : List Value} {e : TypeId} (h : w.ownsRow B e 2 (.slice (some ⟨g, 0, none⟩) n cap) n xs) (k : Nat) (a b : Value) :
    ((w.setCell ⟨g, k * 2, none⟩ a).setCell ⟨g, k * 2 + 1, none⟩ b).ownsRow B e 2 (.slice (some ⟨g, 0, none⟩) n cap) n ((xs.set (k * 2) a).set (k * 2 + 1) b) := by
  refine ⟨by have := h.1; simpa using this, .inr ?_⟩
  rcases h.2 with ⟨h', _⟩ | ⟨g', cap', cur, h', hB, hg, hn, hm, hsz, htake⟩
  · simp at h'
  · simp only [Value.slice.injEq, Option.some.injEq, Addr.mk.injEq, and_true, true_and] at h'
    obtain ⟨rfl, rfl⟩ := h'
    refine ⟨g, cap, (cur.setIfInBounds (k * 2) a).setIfInBounds (k * 2 + 1) b, rfl, hB, ?_, hn, hm, by simpa using hsz, ?_⟩
    · rw [heap_setCell_same _ g _ _ e _ (heap_setCell_same w g _ _ e _ hg)]
    · rw [Array.toList_setIfInBounds, Array.toList_setIfInBounds, List.take_set, List.take_set, htake]
def oldT : ByteArray := ⟨#[111, 108, 100]⟩
def newT : ByteArray := ⟨#[110, 101, 119]⟩
/-- Marks of ranges and of numbers, and what grows behind them. -/
def mkH (t : ByteArray) (q n : Nat) : List Value := flR ((List.range n).map fun k => (nmS q k, t))
def mkN (q n : Nat) : List Value := i64s ((List.range n).map fun k : Nat => -1000 * (q : Int) - (k : Int) - 1)
def grN (q n : Nat) : List Value := i64s ((List.range n).map fun k : Nat => 1000 * (q : Int) + (k : Int) + 1)
theorem mkH_succ (t : ByteArray) (q n : Nat) : mkH t q (n + 1) = mkH t q n ++ [.string (nmS q n), .string t] := by
  unfold mkH; rw [List.range_succ, List.map_append, flR_app]; rfl
theorem mkN_succ (q n : Nat) : mkN q (n + 1) = mkN q n ++ [.int .i64 (-1000 * (q : Int) - (n : Int) - 1)] := by
  unfold mkN; rw [List.range_succ, List.map_append]; simp [i64s]
theorem grN_succ (q n : Nat) : grN q (n + 1) = grN q n ++ [.int .i64 (1000 * (q : Int) + (n : Int) + 1)] := by
  unfold grN; rw [List.range_succ, List.map_append]; simp [i64s]
theorem mkH_len (t : ByteArray) (q n : Nat) : (mkH t q n).length = n * 2 := by unfold mkH; rw [flR_len]; simp
theorem mkN_len (q n : Nat) : (mkN q n).length = n := by simp [mkN, i64s]
theorem grN_len (q n : Nat) : (grN q n).length = n := by simp [grN, i64s]
theorem mkH_at (t : ByteArray) (q n k : Nat) (h : k < n) : (mkH t q n)[k * 2]? = some (.string (nmS q k)) ∧ (mkH t q n)[k * 2 + 1]? = some (.string t) := by
  unfold mkH
  have h0 := flR_at ((List.range n).map fun k => (nmS q k, t)) k 0 (by simpa using h) (by omega)
  have h1 := flR_at ((List.range n).map fun k => (nmS q k, t)) k 1 (by simpa using h) (by omega)
  have e : ((List.range n).map fun k => (nmS q k, t)).getD k (.empty, .empty) = (nmS q k, t) := by simp [h]
  rw [e] at h0 h1
  exact ⟨h0, h1⟩
theorem mkN_at (q n k : Nat) (h : k < n) : (mkN q n)[k]? = some (.int .i64 (-1000 * (q : Int) - (k : Int) - 1)) := by simp [mkN, i64s, h]
theorem grN_at (q n k : Nat) (h : k < n) : (grN q n)[k]? = some (.int .i64 (1000 * (q : Int) + (k : Int) + 1)) := by simp [grN, i64s, h]
theorem take_set2 {xs : List Value} {t : ByteArray} {q k : Nat} (h : xs.take (k * 2) = mkH t q k) (hk : k * 2 + 1 < xs.length) : ((xs.set (k * 2) (.string (nmS q k))).set (k * 2 + 1) (.string t)).take ((k + 1) * 2) = mkH t q (k + 1) := by
  rw [mkH_succ, ← h, show (k + 1) * 2 = k * 2 + 1 + 1 by omega]
  have e1 : k * 2 < (xs.set (k * 2) (.string (nmS q k))).length := by rw [List.length_set]; omega
  rw [List.take_add_one, List.take_add_one, List.take_set_of_le (by omega), List.take_set_of_le (Nat.le_refl _)]
  have h1 : ((xs.set (k * 2) (.string (nmS q k))).set (k * 2 + 1) (.string t))[k * 2]? = some (.string (nmS q k)) := by
    rw [List.getElem?_set_ne (by omega)]; simp [show k * 2 < xs.length by omega]
  have h2 : ((xs.set (k * 2) (.string (nmS q k))).set (k * 2 + 1) (.string t))[k * 2 + 1]? = some (.string t) := by simp [hk]
  rw [h1, h2]; simp
theorem take_set1 {xs : List Value} {q k : Nat} (h : xs.take k = mkN q k) (hk : k < xs.length) : (xs.set k (.int .i64 (-1000 * (q : Int) - (k : Int) - 1))).take (k + 1) = mkN q (k + 1) := by
  rw [mkN_succ, ← h, List.take_add_one, List.take_set_of_le (Nat.le_refl _)]
  simp [hk]
end Go.Proofs.Ytdjcokepeifojaa
