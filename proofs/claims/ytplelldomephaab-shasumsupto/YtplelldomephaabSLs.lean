/-
  Two lists that Lend has made of some parts: each part in a row of its own, the wholes and the parts. No condition of its own.
-/
import Derived.Test.YtplelldomephaabSPt
import Derived.Test.YtplelldomephaabSMe
import Derived.Test.YtplelldomephaabSOw
import Derived.Test.YtplelldomephaabSGv
namespace Go.Proofs.Ytplelldomephaab
set_option linter.unusedVariables false
open Go.RowKit

theorem infoS8 : (Try.prog.info? 32).map (fun i => (i.zero, i.size, i.bytes)) = some (some (.slice none 0 0), 1, 24) := by kernel_rfl
theorem grown_of {a b : World} (h : Below a.heap.size a b) : a.grownBy b none := ⟨h.os, h.tape, h.output, h.size, fun i hi _ => h.block i hi⟩
theorem rowGr {B n : Nat} {e : TypeId} {w w' : World} {v : Value} {xs : List Value} {row : Option Nat} (h : w.ownsRow B e 1 v n xs) (hg : w.grownBy w' row) (hne : ∀ g, v.ownBlock = some g → row ≠ some g) : w'.ownsRow B e 1 v n xs := by
  refine ⟨h.1, ?_⟩
  rcases h.2 with h0 | ⟨g, cap, cur, rfl, hB, hg', r⟩
  · exact .inl h0
  · exact .inr ⟨g, cap, cur, rfl, hB, (hg.block g (lt_of_block hg') (fun e => hne g rfl e.symm)).trans hg', r⟩
theorem rowLo {B n : Nat} {e : TypeId} {w : World} {v : Value} {xs : List Value} (h : w.ownsRow B e 1 v n xs) : ∀ g, v.ownBlock = some g → B ≤ g ∧ g < w.heap.size := by
  intro g hg
  rcases h.2 with ⟨rfl, _⟩ | ⟨g', cap, cur, rfl, hB, hgb, _⟩
  · cases hg
  · cases hg; exact ⟨hB, lt_of_block hgb⟩
theorem Row.gr {k T w w' g xs row} (h : Row k T w g xs) (hg : w.grownBy w' row) (hne : row ≠ some g) : Row k T w' g xs := (hg.block g h.lt (fun e => hne e.symm)).trans h
/-- Some parts, lent: the wholes, and what is handed on. -/
def Lents (B : Nat) (w : World) (v u : Value) (k : Nat) (X : List (List Int)) : Prop :=
  ∃ vs us : List Value, w.ownsRow B 32 1 v k vs ∧ w.ownsRow B 32 1 u k us ∧ (∀ g, v.ownBlock = some g → u.ownBlock ≠ some g) ∧
    ∀ i, i < k → ∃ g, vs[i]? = some (.slice (some ⟨g, 0, none⟩) ((X[i]?.getD []).length + 9) ((X[i]?.getD []).length + 9)) ∧ us[i]? = some (.slice (some ⟨g, 0, none⟩) (X[i]?.getD []).length ((X[i]?.getD []).length + 9)) ∧ Row .u8 5 w g (lent (X[i]?.getD [])) ∧ v.ownBlock ≠ some g ∧ u.ownBlock ≠ some g
theorem lents_none (B : Nat) (w : World) (X : List (List Int)) : Lents B w (.slice none 0 0) (.slice none 0 0) 0 X :=
  ⟨[], [], ⟨rfl, .inl ⟨rfl, rfl⟩⟩, ⟨rfl, .inl ⟨rfl, rfl⟩⟩, (fun g h => by cases h), fun i hi => by omega⟩
theorem lents_step {B : Nat} {wr w1 w2 w3 : World} {v u : Value} {k : Nat} {X : List (List Int)} {vs us : List Value} {g g1 g2 c1 c2 pl : Nat}
    (hpl : (X[k]?.getD []).length = pl)
    (ov : wr.ownsRow B 32 1 v k vs) (ou : wr.ownsRow B 32 1 u k us) (hd : ∀ g, v.ownBlock = some g → u.ownBlock ≠ some g)
    (hi : ∀ i, i < k → ∃ g, vs[i]? = some (.slice (some ⟨g, 0, none⟩) ((X[i]?.getD []).length + 9) ((X[i]?.getD []).length + 9)) ∧ us[i]? = some (.slice (some ⟨g, 0, none⟩) (X[i]?.getD []).length ((X[i]?.getD []).length + 9)) ∧ Row .u8 5 wr g (lent (X[i]?.getD [])) ∧ v.ownBlock ≠ some g ∧ u.ownBlock ≠ some g)
    (h1 : Below wr.heap.size wr w1) (hg : wr.heap.size ≤ g) (hr : Row .u8 5 w1 g (lent (X[k]?.getD [])))
    (o1 : w2.ownsRow B 32 1 (.slice (some ⟨g1, 0, none⟩) (k + 1) c1) (k + 1) (vs ++ (#[Value.slice (some ⟨g, 0, none⟩) (pl + 9) (pl + 9)] : Array Value).toList)) (gr1 : w1.grownBy w2 v.ownBlock) (at1 : v.ownBlock = some g1 ∨ w1.heap.size ≤ g1) (lt1 : g1 < w2.heap.size)
    (o2 : w3.ownsRow B 32 1 (.slice (some ⟨g2, 0, none⟩) (k + 1) c2) (k + 1) (us ++ (#[Value.slice (some ⟨g, 0, none⟩) pl (pl + 9)] : Array Value).toList)) (gr2 : w2.grownBy w3 u.ownBlock) (at2 : u.ownBlock = some g2 ∨ w2.heap.size ≤ g2) :
    Lents B w3 (.slice (some ⟨g1, 0, none⟩) (k + 1) c1) (.slice (some ⟨g2, 0, none⟩) (k + 1) c2) (k + 1) X := by
  have lv := rowLo ov
  have lu := rowLo ou
  have z1 := h1.size
  have z2 := gr1.size
  have hvl : vs.length = k := by have := ov.1; simpa using this
  have hul : us.length = k := by have := ou.1; simpa using this
  have hgl := hr.lt
  have n1 : u.ownBlock ≠ some g1 := fun e => by
    have := (lu g1 e).2
    rcases at1 with h | h
    · exact hd g1 h e
    · omega
  have n2 : ∀ b, b < w2.heap.size → u.ownBlock ≠ some b → g2 ≠ b := fun b hb hn e => by
    rcases at2 with h | h
    · rw [e] at h; exact hn h
    · omega
  refine ⟨_, _, rowGr o1 gr2 (fun b hb e => n1 (by cases hb; exact e)), o2, fun b hb e => ?_, fun i hik => ?_⟩
  · cases hb
    have e' : g2 = g1 := Option.some.inj e
    exact n2 g1 lt1 n1 e'
  · by_cases hlt : i < k
    · obtain ⟨b, q1, q2, q3, q4, q5⟩ := hi i hlt
      have hbl := q3.lt
      have r1 : Row .u8 5 w1 b (lent (X[i]?.getD [])) := q3.below h1 hbl
      refine ⟨b, by rw [List.getElem?_append_left (by omega)]; exact q1, by rw [List.getElem?_append_left (by omega)]; exact q2, (r1.gr gr1 q4).gr gr2 q5, fun e => ?_, fun e => ?_⟩
      · have e' : g1 = b := Option.some.inj e
        rcases at1 with h | h
        · rw [e'] at h; exact q4 h
        · omega
      · exact n2 b (by omega) q5 (Option.some.inj e)
    · obtain rfl : i = k := by omega
      have nv : v.ownBlock ≠ some g := fun e => by have := (lv g e).2; omega
      have nu : u.ownBlock ≠ some g := fun e => by have := (lu g e).2; omega
      refine ⟨g, by rw [List.getElem?_append_right (by omega), hvl, hpl]; simp, by rw [List.getElem?_append_right (by omega), hul, hpl]; simp, (hr.gr gr1 nv).gr gr2 nu, fun e => ?_, fun e => ?_⟩
      · have e' : g1 = g := Option.some.inj e
        rcases at1 with h | h
        · rw [e'] at h; exact nv h
        · omega
      · exact n2 g (by omega) nu (Option.some.inj e)
theorem Lents.gb {B w w' v u k X} (h : Lents B w v u k X) (hg : w.grownBy w' none) : Lents B w' v u k X := by
  obtain ⟨vs, us, h1, h2, h3, h4⟩ := h
  refine ⟨vs, us, rowGr h1 hg (by simp), rowGr h2 hg (by simp), h3, fun i hi => ?_⟩
  obtain ⟨g, q1, q2, q3, q4, q5⟩ := h4 i hi
  exact ⟨g, q1, q2, q3.gr hg (by simp), q4, q5⟩
theorem Lents.part {B w v u X} (h : Lents B w v u X.length X) (hx : ∀ i, i < X.length → Bytes (X[i]?.getD []) ∧ (X[i]?.getD []).length ≤ 1048576) : ∃ a cap, u = .slice a X.length cap ∧ SParts w a X.length X := by
  obtain ⟨vs, us, h1, h2, h3, h4⟩ := h
  have hul : us.length = X.length := by have := h2.1; simpa using this
  rcases h2.2 with ⟨rfl, h0⟩ | ⟨g, cap, cur, rfl, hB, hg, hn, hm, hsz, htake⟩
  · exact ⟨none, 0, by rw [h0], rfl, .inl h0⟩
  · refine ⟨_, cap, rfl, rfl, .inr ⟨g, 0, rfl, lt_of_block hg, fun i hi => ?_⟩⟩
    obtain ⟨b, _, q2, q3, _⟩ := h4 i hi
    have hb := hx i hi
    have hs : Seg .u8 w (some ⟨b, 0, none⟩) (X[i]?.getD []).length (X[i]?.getD []) := by
      have := q3.seg (X[i]?.getD []).length (by rw [lent_length]; omega)
      rw [lent_take] at this
      exact this
    refine ⟨some ⟨b, 0, none⟩, (X[i]?.getD []).length, (X[i]?.getD []).length + 9, ?_, hs, hb.1, by omega, by omega⟩
    rw [Nat.zero_add, h2.cellAt i (by omega), q2]
theorem Lents.whole {B w v u X} (h : Lents B w v u X.length X) : ∃ a cap, v = .slice a X.length cap ∧ (X.length = 0 ∨ ∃ b, a = some ⟨b, 0, none⟩ ∧ b < w.heap.size ∧ ∀ i, i < X.length → ∃ g, w.cell? ⟨b, 0 + i, none⟩ = some (.slice (some ⟨g, 0, none⟩) ((X[i]?.getD []).length + 9) ((X[i]?.getD []).length + 9)) ∧ Row .u8 5 w g (lent (X[i]?.getD []))) := by
  obtain ⟨vs, us, h1, h2, h3, h4⟩ := h
  have hvl : vs.length = X.length := by have := h1.1; simpa using this
  rcases h1.2 with ⟨rfl, h0⟩ | ⟨g, cap, cur, rfl, hB, hg, hn, hm, hsz, htake⟩
  · exact ⟨none, 0, by rw [h0], .inl h0⟩
  · refine ⟨_, cap, rfl, .inr ⟨g, rfl, lt_of_block hg, fun i hi => ?_⟩⟩
    obtain ⟨b, q1, _, q3, _⟩ := h4 i hi
    refine ⟨b, ?_, q3⟩
    rw [Nat.zero_add, h1.cellAt i (by omega), q1]
end Go.Proofs.Ytplelldomephaab
