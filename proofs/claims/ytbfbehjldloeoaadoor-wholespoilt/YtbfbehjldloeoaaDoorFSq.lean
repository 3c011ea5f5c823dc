/-
  What Waits, Junk and Lost answer of a Splitter; two Splitters side by side. No condition but sizes.
-/
import Derived.Test.YtbfbehjldloeoaaDoorFAk
namespace Go.Proofs.YtbfbehjldloeoaaDoor
set_option linter.unusedVariables false
open Go.RowKit

theorem ss_waits {G : Nat → Prop} {w : World} {S B : Nat} {ys : List Int} {most j l : Nat} {fv : Value} {L : List FrM} (h : SS G w S B ys most j l fv L) (hB : B ≤ 549755813888) :
    Calls Tryd.prog 34 #[.pointer (some ⟨S, 0, none⟩)] w fun r w' => r = .returned (.int .i64 (ys.length : Int)) ∧ w.grownBy w' none := by
  obtain ⟨T, v, xs, a, O, F, u, M, h1, rfl, h3⟩ := h
  have hle := h1.le
  refine (waits_c S T a xs.length most j l fv w h1.sp ⟨by omega, by omega⟩ (by omega)).mono ?_
  rintro r w' ⟨q1, _, q3⟩
  exact ⟨by rw [q1, List.length_drop]; congr 2; omega, q3⟩
theorem SS.gb {G : Nat → Prop} {w w' : World} {S B : Nat} {ys : List Int} {most j l : Nat} {fv : Value} {L : List FrM} (h : SS G w S B ys most j l fv L) (hg : w.grownBy w' none) : SS G w' S B ys most j l fv L := h.gr (Gr.of (G := fun _ => False) hg (by simp)) (fun _ _ z => z)
theorem FrL.gb {F : Nat → Prop} {w w' : World} {v : Value} {L : List FrM} (h : FrL F w v L) (hg : w.grownBy w' none) : FrL F w' v L := h.gr (Gr.of (G := fun _ => False) hg (by simp)) (fun _ _ z => z)
/-- Two Splitters side by side, and what was handed out of them. -/
structure Two (w0 w : World) (S T most B : Nat) (ys : List Int) (j l : Nat) (v1 v2 : Value) (L1 L2 : List FrM) (Q1 Q2 F1 F2 : Nat → Prop) : Prop where
  s1 : SS Q1 w S B ys most j l (.slice none 0 0) []
  s2 : SS Q2 w T B ys most j l (.slice none 0 0) []
  f1 : FrL F1 w v1 L1
  f2 : FrL F2 w v2 L2
  q1 : ∀ k, Q1 k → w0.heap.size ≤ k ∧ k < w.heap.size
  q2 : ∀ k, Q2 k → w0.heap.size ≤ k ∧ k < w.heap.size
  b1 : ∀ k, F1 k → w0.heap.size ≤ k ∧ k < w.heap.size
  b2 : ∀ k, F2 k → w0.heap.size ≤ k ∧ k < w.heap.size
  d12 : ∀ k, Q1 k → ¬ Q2 k
  d1 : ∀ k, F1 k → ¬ Q1 k ∧ ¬ Q2 k
  d2 : ∀ k, F2 k → ¬ Q1 k ∧ ¬ Q2 k
  be : Below w0.heap.size w0 w
theorem Two.gb {w0 w w' : World} {S T most B : Nat} {ys : List Int} {j l : Nat} {v1 v2 : Value} {L1 L2 : List FrM} {Q1 Q2 F1 F2 : Nat → Prop} (h : Two w0 w S T most B ys j l v1 v2 L1 L2 Q1 Q2 F1 F2) (hg : w.grownBy w' none) : Two w0 w' S T most B ys j l v1 v2 L1 L2 Q1 Q2 F1 F2 := by
  have hs := hg.size
  exact ⟨h.s1.gb hg, h.s2.gb hg, h.f1.gb hg, h.f2.gb hg, fun k hk => ⟨(h.q1 k hk).1, by have := (h.q1 k hk).2; omega⟩, fun k hk => ⟨(h.q2 k hk).1, by have := (h.q2 k hk).2; omega⟩, fun k hk => ⟨(h.b1 k hk).1, by have := (h.b1 k hk).2; omega⟩, fun k hk => ⟨(h.b2 k hk).1, by have := (h.b2 k hk).2; omega⟩, h.d12, h.d1, h.d2, h.be.trans ((gb_below hg).mono h.be.size)⟩
/-- The same bytes in pieces and in one: two Splitters that have seen the same. -/
theorem two_of {most : Nat} {w w1 w2 : World} {S T : Nat} {zs : List Int} {v1 v2 : Value} {L1 L2 : List FrM} {Q1 F1 Q2 F2 : Nat → Prop} {w1' : World} (h1 : AllI most w S zs w1 v1 L1 Q1 F1) (hg : w1.grownBy w1' none) (h2 : AllI most w1' T zs w2 v2 L2 Q2 F2) :
    Two w w2 S T most 2097180 (fseen most false zs).rest (fseen most false zs).junk (fseen most false zs).lost v1 v2 L1 L2 Q1 Q2 F1 F2 := by
  obtain ⟨_, a2, a3, a4, a5, a6, a7⟩ := h1
  obtain ⟨_, b2, b3, b4, b5, b6, b7⟩ := h2
  have hs1 := hg.size
  have hs2 := b7.size
  have hs0 := a7.size
  have hG : Gr (fun k => w1'.heap.size ≤ k) w1' w2 := ⟨b7.os, b7.tape, b7.output, b7.size, fun k hk _ => b7.block k hk⟩
  refine ⟨(a2.gb hg).gr hG (fun k hk z => by have := (a4 k hk).2; omega), b2, (a3.gb hg).gr hG (fun k hk z => by have := (a5 k hk).2; omega), b3, fun k hk => ⟨(a4 k hk).1, by have := (a4 k hk).2; omega⟩, fun k hk => ⟨by have := (b4 k hk).1; omega, (b4 k hk).2⟩, fun k hk => ⟨(a5 k hk).1, by have := (a5 k hk).2; omega⟩, fun k hk => ⟨by have := (b5 k hk).1; omega, (b5 k hk).2⟩, fun k hk z => ?_, fun k hk => ⟨a6 k hk, fun z => ?_⟩, fun k hk => ⟨fun z => ?_, b6 k hk⟩, (a7.trans ((gb_below hg).mono (by omega))).trans (b7.mono (by omega))⟩
  · have := (a4 k hk).2; have := (b4 k z).1; omega
  · have := (a5 k hk).2; have := (b4 k z).1; omega
  · have := (a4 k z).2; have := (b5 k hk).1; omega
/-- The end of both: what they answer is the same. -/
def EndB (w0 : World) (S T most : Nat) (j l : Nat) (fs : List (Int × List Int)) (r1 r2 : Value) (w : World) : Prop :=
  ∃ fa1 fc1 fa2 fc2 L1 L2 Q1 Q2 F1 F2, r1 = .slice fa1 L1.length fc1 ∧ r2 = .slice fa2 L2.length fc2 ∧ L1.map FrM.fr = fs ∧ L2.map FrM.fr = fs ∧ Two w0 w S T most 0 [] j l r1 r2 L1 L2 Q1 Q2 F1 F2
theorem end_one {w0 w : World} {S T most B : Nat} {ys : List Int} {j l : Nat} {v1 v2 : Value} {L1 L2 : List FrM} {Q1 Q2 F1 F2 : Nat → Prop} (h : Two w0 w S T most B ys j l v1 v2 L1 L2 Q1 Q2 F1 F2) (ht : Tab w0) (hm : most ≤ 1048576) (hB : B ≤ 549755813888) (hj : j ≤ 1152921504606846976) (hl : l ≤ 1152921504606846976) :
    Calls Tryd.prog 9 #[.pointer (some ⟨S, 0, none⟩)] w fun r w' => ∃ fa fc L Q F, r = .returned (.slice fa L.length fc) ∧ L.map FrM.fr = (fseen most true ys).frames ∧ SS Q w' S 0 [] most (j + (fseen most true ys).junk) (l + (fseen most true ys).lost) (.slice none 0 0) [] ∧ FrL F w' (.slice fa L.length fc) L ∧ SS Q2 w' T B ys most j l (.slice none 0 0) [] ∧
      (∀ k, Q k → w0.heap.size ≤ k ∧ k < w'.heap.size ∧ ¬ Q2 k) ∧ (∀ k, F k → w0.heap.size ≤ k ∧ k < w'.heap.size ∧ ¬ Q2 k) ∧ (∀ k, F k → ¬ Q k) ∧ (∀ k, Q2 k → w0.heap.size ≤ k ∧ k < w'.heap.size) ∧ Below w0.heap.size w0 w' := by
  have hs := h.be.size
  refine (end_c Q1 w S B ys most j l h.s1 (ht.below h.be) (fun z => by have := (h.q1 0 z).1; have := ht.pos; omega) hm hB hj hl).mono ?_
  rintro r w' ⟨fa, fc, L, Q, F, z1, z2, z3, z4, z5, z6, z7, z8⟩
  have hs' := z8.size
  have hn : ∀ k, (Q1 k ∨ w.heap.size ≤ k) → w0.heap.size ≤ k ∧ ¬ Q2 k := fun k hk => by
    rcases hk with q | q
    · exact ⟨(h.q1 k q).1, h.d12 k q⟩
    · exact ⟨by omega, fun z => by have := (h.q2 k z).2; omega⟩
  refine ⟨fa, fc, L, Q, F, z1, z2, z3, z4, h.s2.gr z8 (fun k hk z => h.d12 k z hk), fun k hk => ⟨(hn k (z5 k hk).1).1, (z5 k hk).2, (hn k (z5 k hk).1).2⟩, fun k hk => ⟨(hn k (z6 k hk).1).1, (z6 k hk).2, (hn k (z6 k hk).1).2⟩, z7, fun k hk => ⟨(h.q2 k hk).1, by have := (h.q2 k hk).2; omega⟩, h.be.trans ⟨z8.os, z8.tape, z8.output, z8.size, fun k hk => z8.block k (by omega) (fun z => by have := (h.q1 k z).1; omega)⟩⟩
theorem end_two {w0 w : World} {S T most B : Nat} {ys : List Int} {j l : Nat} {fa : Option Addr} {fc : Nat} {L : List FrM} {Q Q2 F : Nat → Prop} (e1 : L.map FrM.fr = (fseen most true ys).frames) (h1 : SS Q w S 0 [] most (j + (fseen most true ys).junk) (l + (fseen most true ys).lost) (.slice none 0 0) []) (h2 : FrL F w (.slice fa L.length fc) L) (h3 : SS Q2 w T B ys most j l (.slice none 0 0) [])
    (h4 : ∀ k, Q k → w0.heap.size ≤ k ∧ k < w.heap.size ∧ ¬ Q2 k) (h5 : ∀ k, F k → w0.heap.size ≤ k ∧ k < w.heap.size ∧ ¬ Q2 k) (h6 : ∀ k, F k → ¬ Q k) (h7 : ∀ k, Q2 k → w0.heap.size ≤ k ∧ k < w.heap.size) (h8 : Below w0.heap.size w0 w) (ht : Tab w0) (hm : most ≤ 1048576) (hB : B ≤ 549755813888) (hj : j ≤ 1152921504606846976) (hl : l ≤ 1152921504606846976) :
    Calls Tryd.prog 9 #[.pointer (some ⟨T, 0, none⟩)] w fun r w' => ∃ fa2 fc2 L2 Q2' F2, r = .returned (.slice fa2 L2.length fc2) ∧ L2.map FrM.fr = (fseen most true ys).frames ∧ Two w0 w' S T most 0 [] (j + (fseen most true ys).junk) (l + (fseen most true ys).lost) (.slice fa L.length fc) (.slice fa2 L2.length fc2) L L2 Q Q2' F F2 := by
  have hs := h8.size
  refine (end_c Q2 w T B ys most j l h3 (ht.below h8) (fun z => by have := (h7 0 z).1; have := ht.pos; omega) hm hB hj hl).mono ?_
  rintro r w' ⟨fa2, fc2, L2, Q2', F2, z1, z2, z3, z4, z5, z6, z7, z8⟩
  have hs' := z8.size
  have hlo : ∀ k, (Q2 k ∨ w.heap.size ≤ k) → w0.heap.size ≤ k := fun k hk => hk.elim (fun q => (h7 k q).1) (fun q => by omega)
  refine ⟨fa2, fc2, L2, Q2', F2, z1, z2, ⟨h1.gr z8 (fun k hk z => (h4 k hk).2.2 z), z3, h2.gr z8 (fun k hk z => (h5 k hk).2.2 z), z4, fun k hk => ⟨(h4 k hk).1, by have := (h4 k hk).2.1; omega⟩, fun k hk => ⟨hlo k (z5 k hk).1, (z5 k hk).2⟩, fun k hk => ⟨(h5 k hk).1, by have := (h5 k hk).2.1; omega⟩, fun k hk => ⟨hlo k (z6 k hk).1, (z6 k hk).2⟩, fun k hk z => ?_, fun k hk => ⟨h6 k hk, fun z => ?_⟩, fun k hk => ⟨fun z => ?_, z7 k hk⟩, h8.trans ⟨z8.os, z8.tape, z8.output, z8.size, fun k hk => z8.block k (by omega) (fun z => by have := (h7 k z).1; omega)⟩⟩⟩
  · exact (z5 k z).1.elim (h4 k hk).2.2 (fun q => by have := (h4 k hk).2.1; omega)
  · exact (z5 k z).1.elim (h5 k hk).2.2 (fun q => by have := (h5 k hk).2.1; omega)
  · exact (z6 k hk).1.elim (h4 k z).2.2 (fun q => by have := (h4 k z).2.1; omega)
end Go.Proofs.YtbfbehjldloeoaaDoor
