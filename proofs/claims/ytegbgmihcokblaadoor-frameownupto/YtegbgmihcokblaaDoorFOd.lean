/-
  Lists of bytes that are held in a row, each in memory of its own: what stays, and what one more does. No condition of its own.
-/
import Derived.Test.YtegbgmihcokblaaDoorFOc
import Derived.Test.YtegbgmihcokblaaDoorFLe
namespace Go.Proofs.YtegbgmihcokblaaDoor
set_option linter.unusedVariables false
open Go.RowKit

/-- A list that is held. -/
structure HdM where
  u : Value
  ys : List Int
def hdOf (f : FrM) : HdM := ⟨f.u, f.ys⟩
structure Held (B : Nat) (w : World) (Av : Nat → Prop) (v : Value) (H : List HdM) : Prop where
  row : w.ownsRow B 28 1 v H.length (H.map HdM.u)
  av : ∀ k, v.ownBlock = some k → ¬ Av k
  own : ∀ f ∈ H, Own B w f.u f.ys.length f.ys
  len : ∀ f ∈ H, f.ys.length ≤ 1073741824
  off : ∀ f ∈ H, ∀ k, f.u.ownBlock = some k → v.ownBlock ≠ some k ∧ ¬ Av k
  ap : H.Pairwise fun f g => ∀ k, f.u.ownBlock = some k → g.u.ownBlock ≠ some k
theorem held_nil (B : Nat) (w : World) (Av : Nat → Prop) : Held B w Av (.slice none 0 0) [] := ⟨World.ownsRow_nil _ _ _ _, (fun k e => by cases e), (fun f h => by cases h), (fun f h => by cases h), (fun f h => by cases h), List.Pairwise.nil⟩
theorem Held.gr {B : Nat} {w w' : World} {Av G : Nat → Prop} {v : Value} {H : List HdM} (h : Held B w Av v H) (hg : Gr G w w') (hG : ∀ k, G k → Av k) : Held B w' Av v H :=
  ⟨own_gr h.row hg (fun b e z => h.av b e (hG b z)), h.av, fun f hf => own_gr (h.own f hf) hg (fun b e z => (h.off f hf b e).2 (hG b z)), h.len, h.off, h.ap⟩
theorem Held.wide {B : Nat} {w : World} {Av Av' : Nat → Prop} {v : Value} {H : List HdM} (h : Held B w Av v H) (hA : ∀ k, Av' k → Av k ∨ w.heap.size ≤ k) : Held B w Av' v H :=
  ⟨h.row, fun k e z => (hA k z).elim (h.av k e) (fun q => by have := (own_lt h.row k e).2; omega), h.own, h.len, fun f hf k e => ⟨(h.off f hf k e).1, fun z => (hA k z).elim (h.off f hf k e).2 (fun q => by have := (own_lt (h.own f hf) k e).2; omega)⟩, h.ap⟩
/-- Lists that may be held besides. -/
structure New (B : Nat) (w : World) (Av : Nat → Prop) (v : Value) (H N : List HdM) : Prop where
  own : ∀ f ∈ N, Own B w f.u f.ys.length f.ys
  len : ∀ f ∈ N, f.ys.length ≤ 1073741824
  off : ∀ f ∈ N, ∀ k, f.u.ownBlock = some k → v.ownBlock ≠ some k ∧ ¬ Av k
  ap : N.Pairwise fun f g => ∀ k, f.u.ownBlock = some k → g.u.ownBlock ≠ some k
  cross : ∀ f ∈ H, ∀ g ∈ N, ∀ k, f.u.ownBlock = some k → g.u.ownBlock ≠ some k
theorem Held.push {B : Nat} {w W1 w2 : World} {Av : Nat → Prop} {v v' : Value} {H N : List HdM} (h : Held B w Av v H) (hN : New B w Av v H N) (hAv : ∀ k, Av k → k < w.heap.size) (hW : w.grownBy W1 none) (y1 : w2.ownsRow B 28 1 v' (H.length + N.length) (H.map HdM.u ++ N.map HdM.u)) (y2 : W1.grownBy w2 v.ownBlock) (y3 : v'.ownBlock = v.ownBlock ∨ v'.ownBlock = some W1.heap.size) : Held B w2 Av v' (H ++ N) := by
  have hs := hW.size
  have hG1 : Gr (fun _ => False) w W1 := Gr.of hW (by simp)
  have hG2 : Gr (fun k => v.ownBlock = some k) W1 w2 := Gr.of y2 (fun k hk => .inl hk)
  have hoff : ∀ f ∈ H ++ N, ∀ k, f.u.ownBlock = some k → (v.ownBlock ≠ some k ∧ ¬ Av k) ∧ k < w.heap.size := fun f hf k e => by
    rcases List.mem_append.1 hf with z | z
    · exact ⟨h.off f z k e, (own_lt (h.own f z) k e).2⟩
    · exact ⟨hN.off f z k e, (own_lt (hN.own f z) k e).2⟩
  refine ⟨by rw [List.length_append, List.map_append]; exact y1, fun k e z => ?_, fun f hf => ?_, fun f hf => ?_, fun f hf k e => ⟨fun z => ?_, (hoff f hf k e).1.2⟩, ?_⟩
  · rcases y3 with q | q
    · exact h.av k (by rw [← q]; exact e) z
    · rw [q] at e; cases e; have := hAv _ z; omega
  · have ho : Own B w f.u f.ys.length f.ys := (List.mem_append.1 hf).elim (fun z => h.own f z) (fun z => hN.own f z)
    exact own_gr (own_gr ho hG1 (fun _ _ z => z)) hG2 (fun k e => (hoff f hf k e).1.1)
  · exact (List.mem_append.1 hf).elim (fun z => h.len f z) (fun z => hN.len f z)
  · rcases y3 with q | q
    · exact (hoff f hf k e).1.1 (by rw [← q]; exact z)
    · rw [q] at z; cases z; have := (hoff f hf _ e).2; omega
  · rw [List.pairwise_append]
    exact ⟨h.ap, hN.ap, hN.cross⟩
/-- What is held, while lists are put to it: only the row's block may change. -/
structure HI (B : Nat) (Av : Nat → Prop) (w2 : World) (hv0 : Value) (wr : World) (hv : Value) (H : List HdM) : Prop where
  held : Held B wr Av hv H
  gr : Gr (fun k => hv0.ownBlock = some k) w2 wr
  at_ : ∀ k, hv.ownBlock = some k → hv0.ownBlock = some k ∨ w2.heap.size ≤ k
theorem HI.start {B : Nat} {Av : Nat → Prop} {w : World} {hv : Value} {H : List HdM} (h : Held B w Av hv H) : HI B Av w hv w hv H := ⟨h, Gr.refl _ _, fun k e => .inl e⟩
theorem HI.below {B : Nat} {Av : Nat → Prop} {w2 wr w' : World} {hv0 hv : Value} {H : List HdM} (h : HI B Av w2 hv0 wr hv H) (hb : Below wr.heap.size wr w') : HI B Av w2 hv0 w' hv H :=
  ⟨h.held.gr (Gr.ofB (G := fun _ => False) hb) (fun k z => z.elim), h.gr.trans (Gr.ofB hb), h.at_⟩
theorem HI.push {B : Nat} {Av : Nat → Prop} {w2 wr W1 w' : World} {hv0 hv v' : Value} {H N : List HdM} (h : HI B Av w2 hv0 wr hv H) (hN : New B wr Av hv H N) (hAv : ∀ k, Av k → k < wr.heap.size) (hW : wr.grownBy W1 none) (y1 : w'.ownsRow B 28 1 v' (H.length + N.length) (H.map HdM.u ++ N.map HdM.u)) (y2 : W1.grownBy w' hv.ownBlock) (y3 : v'.ownBlock = hv.ownBlock ∨ v'.ownBlock = some W1.heap.size) : HI B Av w2 hv0 w' v' (H ++ N) := by
  have hs := hW.size
  have hs2 := h.gr.size
  refine ⟨h.held.push hN hAv hW y1 y2 y3, ?_, fun k e => ?_⟩
  · refine (h.gr.trans (Gr.of hW (by simp))).then (Gr.of (G := fun k => hv.ownBlock = some k) y2 (fun k hk => .inl hk)) (fun k hk z => ?_)
    rcases h.at_ k z with q | q
    · exact q
    · omega
  · rcases y3 with q | q
    · exact h.at_ k (by rw [← q]; exact e)
    · rw [q] at e; cases e; exact .inr (by omega)
theorem hi_push {B : Nat} {Av : Nat → Prop} {w2 wr W1 w' : World} {hv0 hv v' : Value} {H N : List HdM} {p c : Nat} {us : List Value} (h : HI B Av w2 hv0 wr hv H) (hlen : H.length = p) (hN : New B wr Av hv H N) (hAv : ∀ k, Av k → k < wr.heap.size) (hW : wr.grownBy W1 none) (hc : N.length = c) (hus : N.map HdM.u = us) (y1 : w'.ownsRow B 28 1 v' (p + c) (H.map HdM.u ++ us)) (y2 : W1.grownBy w' hv.ownBlock) (y3 : v'.ownBlock = hv.ownBlock ∨ v'.ownBlock = some W1.heap.size) :
    ∃ xa xc, v' = .slice xa (p + c) xc ∧ HI B Av w2 hv0 w' (.slice xa (p + c) xc) (H ++ N) := by
  obtain ⟨xa, xc, rfl⟩ := (own_shape y1).1
  subst hlen hc hus
  exact ⟨xa, xc, rfl, h.push hN hAv hW y1 y2 y3⟩
theorem HI.rowAt {B : Nat} {Av : Nat → Prop} {w2 wr W1 : World} {hv0 hv : Value} {H : List HdM} {p : Nat} (h : HI B Av w2 hv0 wr hv H) (hlen : H.length = p) (hW : wr.grownBy W1 none) : W1.ownsRow B 28 1 hv p (H.map HdM.u) := by
  have := own_gr h.held.row (Gr.of (G := fun _ => False) hW (by simp)) (fun _ _ z => z)
  rw [hlen] at this
  exact this
theorem own_rebase {B : Nat} {w : World} {u : Value} {n : Nat} {xs : List Int} (h : Own 0 w u n xs) (hb : ∀ k, u.ownBlock = some k → B ≤ k) : Own B w u n xs := by
  refine ⟨h.1, ?_⟩
  rcases h.2 with h0 | ⟨g, cap, cur, rfl, _, r⟩
  · exact .inl h0
  · exact .inr ⟨g, cap, cur, rfl, hb g rfl, r⟩
/-- The k-th body of frames that were found. -/
theorem body_new {B : Nat} {Av F : Nat → Prop} {w2 wr : World} {hv0 hv fv : Value} {H : List HdM} {L : List FrM} {k : Nat} {f : FrM} (h : HI B Av w2 hv0 wr hv (H ++ (L.take k).map hdOf)) (hF : FrL F w2 fv L) (hf : L[k]? = some f) (hFB : ∀ k, F k → B ≤ k) (hFA : ∀ k, F k → ¬ Av k) (hFh : ∀ k, F k → hv0.ownBlock ≠ some k) (hFH : ∀ g ∈ H, ∀ k, g.u.ownBlock = some k → ¬ F k) (hl : f.ys.length ≤ 1073741824) :
    New B wr Av hv (H ++ (L.take k).map hdOf) [hdOf f] := by
  have hm : f ∈ L := List.mem_of_getElem? hf
  have q := hF.body f hm
  have hlt : ∀ j, f.u.ownBlock = some j → j < w2.heap.size := fun j e => (own_lt q.1 j e).2
  have ho : Own 0 wr f.u f.ys.length f.ys := own_gr q.1 h.gr (fun j e z => hFh j (q.2 j e).1 z)
  refine ⟨fun g hg => ?_, fun g hg => ?_, fun g hg j e => ?_, List.pairwise_singleton _ _, fun g hg g' hg' j e e' => ?_⟩
  · obtain rfl : g = hdOf f := by simpa using hg
    exact own_rebase ho (fun j e => hFB j (q.2 j e).1)
  · obtain rfl : g = hdOf f := by simpa using hg
    exact hl
  · obtain rfl : g = hdOf f := by simpa using hg
    refine ⟨fun z => ?_, hFA j (q.2 j e).1⟩
    rcases h.at_ j z with r | r
    · exact hFh j (q.2 j e).1 r
    · have := hlt j e; omega
  · obtain rfl : g' = hdOf f := by simpa using hg'
    rcases List.mem_append.1 hg with z | z
    · exact hFH g z j e (q.2 j e').1
    · obtain ⟨f2, hf2, rfl⟩ := List.mem_map.1 z
      obtain ⟨i, hi, rfl⟩ := List.getElem_of_mem hf2
      rw [List.length_take] at hi
      rw [List.getElem_take] at e
      have hkl := (List.getElem?_eq_some_iff.1 hf)
      have := List.pairwise_iff_getElem.1 hF.apart i k (by omega) hkl.1 (by omega) j e
      rw [hkl.2] at this
      exact this e'
theorem take_hd (L : List FrM) (k : Nat) (f : FrM) (h : L[k]? = some f) : (L.take (k + 1)).map hdOf = (L.take k).map hdOf ++ [hdOf f] := by
  rw [List.take_add_one, h]; simp
/-- Lists that were made one behind the other. -/
theorem new_three {B : Nat} {Av : Nat → Prop} {wr wa wb wc : World} {hv : Value} {H : List HdM} {x y z : HdM} (h : Held B wr Av hv H) (hAv : ∀ k, Av k → k < wr.heap.size) (hB : B ≤ wr.heap.size) (ha : wr.heap.size ≤ wa.heap.size) (hb : wa.heap.size ≤ wb.heap.size) (hx : Own wr.heap.size wc x.u x.ys.length x.ys) (hxl : ∀ k, x.u.ownBlock = some k → k < wa.heap.size) (hy : Own wa.heap.size wc y.u y.ys.length y.ys) (hyl : ∀ k, y.u.ownBlock = some k → k < wb.heap.size) (hz : Own wb.heap.size wc z.u z.ys.length z.ys) (lx : x.ys.length ≤ 1073741824) (ly : y.ys.length ≤ 1073741824) (lz : z.ys.length ≤ 1073741824) :
    New B wc Av hv H [x, y, z] := by
  have b1 : ∀ k, x.u.ownBlock = some k → wr.heap.size ≤ k := fun k e => (own_lt hx k e).1
  have b2 : ∀ k, y.u.ownBlock = some k → wa.heap.size ≤ k := fun k e => (own_lt hy k e).1
  have b3 : ∀ k, z.u.ownBlock = some k → wb.heap.size ≤ k := fun k e => (own_lt hz k e).1
  have all : ∀ f ∈ [x, y, z], ∀ k, f.u.ownBlock = some k → wr.heap.size ≤ k := fun f hf k e => by
    simp only [List.mem_cons, List.not_mem_nil, or_false] at hf
    rcases hf with rfl | rfl | rfl
    · exact b1 k e
    · have := b2 k e; omega
    · have := b3 k e; omega
  refine ⟨fun f hf => ?_, fun f hf => ?_, fun f hf k e => ⟨fun q => ?_, fun q => ?_⟩, ?_, fun f hf g hg k e e' => ?_⟩
  · simp only [List.mem_cons, List.not_mem_nil, or_false] at hf
    rcases hf with rfl | rfl | rfl
    · exact hx.base hB
    · exact hy.base (by omega)
    · exact hz.base (by omega)
  · simp only [List.mem_cons, List.not_mem_nil, or_false] at hf
    rcases hf with rfl | rfl | rfl
    · exact lx
    · exact ly
    · exact lz
  · have := all f hf k e; have := (own_lt h.row k q).2; omega
  · have := all f hf k e; have := hAv k q; omega
  · refine List.pairwise_cons.2 ⟨fun g hg k e e' => ?_, List.pairwise_cons.2 ⟨fun g hg k e e' => ?_, List.pairwise_singleton _ _⟩⟩
    · have := hxl k e
      simp only [List.mem_cons, List.not_mem_nil, or_false] at hg
      rcases hg with rfl | rfl
      · have := b2 k e'; omega
      · have := b3 k e'; omega
    · have := hyl k e
      simp only [List.mem_cons, List.not_mem_nil, or_false] at hg
      subst hg
      have := b3 k e'; omega
  · have := all g hg k e'; have := (own_lt (h.own f hf) k e).2; omega
/-- What is held, as lists that lie apart. -/
theorem held_fam {B : Nat} {w w0 : World} {Av : Nat → Prop} {v : Value} {H : List HdM} (h : Held B w Av v H) (hb : Below B w0 w) (hB : B ≤ w.heap.size) : ∃ V l X, ApA B w w v H.length V l X ∧ ∀ i, i < H.length → l i ≤ 1073741824 := by
  refine ⟨fun i => (H[i]?.getD ⟨.int .i64 0, []⟩).u, fun i => (H[i]?.getD ⟨.int .i64 0, []⟩).ys.length, fun i => (H[i]?.getD ⟨.int .i64 0, []⟩).ys, ⟨⟨fun i hi => ?_, fun i hi => ?_, fun i j g hi hj hij hb' => ?_, fun i g hi hb' => ?_⟩, ?_, Below.refl _ _, hB⟩, fun i hi => ?_⟩
  · simp only [List.getElem?_eq_getElem hi, Option.getD_some]; exact h.own _ (List.getElem_mem hi)
  · simp only [List.getElem?_eq_getElem hi, Option.getD_some]; exact h.own _ (List.getElem_mem hi)
  · simp only [List.getElem?_eq_getElem hi, List.getElem?_eq_getElem hj, Option.getD_some, or_self, and_self] at hb' ⊢
    rcases Nat.lt_or_ge i j with q | q
    · exact List.pairwise_iff_getElem.1 h.ap i j hi hj q g hb'
    · intro e
      exact List.pairwise_iff_getElem.1 h.ap j i hj hi (by omega) g e hb'
  · simp only [List.getElem?_eq_getElem hi, Option.getD_some, or_self] at hb'
    exact (h.off _ (List.getElem_mem hi) g hb').1
  · unfold RowH
    have e : (List.range H.length).map (fun i => (H[i]?.getD ⟨.int .i64 0, []⟩).u) = H.map HdM.u := by
      apply List.ext_getElem?
      intro i
      rcases Nat.lt_or_ge i H.length with q | q
      · simp [q]
      · rw [List.getElem?_eq_none (by simpa using q), List.getElem?_eq_none (by simpa using q)]
    rw [e]
    exact h.row
  · simp only [List.getElem?_eq_getElem hi, Option.getD_some]; exact h.len _ (List.getElem_mem hi)
end Go.Proofs.YtegbgmihcokblaaDoor
