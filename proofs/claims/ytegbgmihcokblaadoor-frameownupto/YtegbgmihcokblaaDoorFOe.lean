/-
  A constant's bytes as a list of one's own: what the conversion leaves. No condition.
-/
import Derived.Test.YtegbgmihcokblaaDoorFOd
import Derived.Test.YtegbgmihcokblaaDoorFDc
namespace Go.Proofs.YtegbgmihcokblaaDoor
set_option linter.unusedVariables false
open Go.RowKit

theorem convert_own (w : World) (cs : Array Value) (n : Nat) : ∃ W', (convert 28 28 (.slice (some ⟨w.heap.size, 0, none⟩) n n)).run Tryd.prog (w.alloc (.cells cs 5)) = .ok (.slice (some ⟨w.heap.size, 0, none⟩) n n) W' ∧ Below w.heap.size w W' ∧ W'.heap.size = w.heap.size + 1 ∧ ∀ i, W'.cell? ⟨w.heap.size, i, none⟩ = cs[i]? := by
  have hb : (w.alloc (.cells cs 5)).heap[w.heap.size]? = some (.cells cs 5) := heap_new w _
  have hsh : (w.alloc (.cells cs 5)).shape? w.heap.size = some (5, cs.size) := by unfold World.shape?; rw [hb]
  have hba : Below w.heap.size w (w.alloc (.cells cs 5)) := (Below.refl _ _).alloc (Nat.le_refl _) _
  have hfz : ∀ b, b < w.heap.size → ((w.alloc (.cells cs 5)).freeze ⟨w.heap.size, cs.size, none⟩ 1).heap[b]? = (w.alloc (.cells cs 5)).heap[b]? := fun b hb => by
    unfold World.freeze
    rw [if_neg (by decide)]
    simp only [Array.getElem?_modify]
    rw [if_neg (by omega)]
  refine ⟨(w.alloc (.cells cs 5)).freeze ⟨w.heap.size, cs.size, none⟩ 1, ?_, ?_, ?_, fun i => ?_⟩
  · simp [convert, run_underlying Tryd.underlying28, run_underlying Tryd.underlying5, markStringish, hsh]
  · refine ⟨?_, ?_, ?_, ?_, fun b hb => (hfz b hb).trans (hba.block b hb)⟩
    · unfold World.freeze; rw [if_neg (by decide)]; rfl
    · unfold World.freeze; rw [if_neg (by decide)]; rfl
    · unfold World.freeze; rw [if_neg (by decide)]; rfl
    · unfold World.freeze; rw [if_neg (by decide)]; simp
  · unfold World.freeze; rw [if_neg (by decide)]; simp
  · have : ∃ f, ((w.alloc (.cells cs 5)).freeze ⟨w.heap.size, cs.size, none⟩ 1).heap[w.heap.size]? = some (.cells cs 5 f) := by
      unfold World.freeze
      rw [if_neg (by decide)]
      simp only [Array.getElem?_modify, if_pos]
      rw [hb]
      exact ⟨_, rfl⟩
    obtain ⟨f, hf⟩ := this
    exact cell_of_row _ _ i cs _ f hf
/-- What a Splitter finds of the frames that were laid down, fed at once. -/
structure Got (w w' : World) (T G : Nat) (SSl : List FrM) (fv : Value) (L2 : List FrM) (Q F : Nat → Prop) : Prop where
  len : L2.length = G
  fr : L2.map FrM.fr = SSl.map FrM.fr
  ss : SS Q w' T 2097180 [] 2000 0 0 (.slice none 0 0) []
  frl : FrL F w' fv L2
  q : ∀ k, Q k → w.heap.size ≤ k ∧ k < w'.heap.size
  f : ∀ k, F k → w.heap.size ≤ k ∧ k < w'.heap.size
  qf : ∀ k, F k → ¬ Q k
  bel : Below w.heap.size w w'
theorem all_one {w : World} {fb E fc G : Nat} {SSl : List FrM} (h : Seg .u8 w (some ⟨fb, 0, none⟩) E (fencs SSl)) (hfc : E ≤ fc) (hk : ∀ f ∈ SSl, fkeep 2000 f = true) (hb : ∀ f ∈ SSl, Bytes f.ys) (hz : fsz SSl ≤ 1073741824) (hG : G = SSl.length) (ht : Tab w) :
    Calls Tryd.prog 20 #[.int .i64 2000, .slice (some ⟨w.heap.size, 0, none⟩) 1 1] (w.alloc (.cells #[.slice (some ⟨fb, 0, none⟩) E fc] 28)) fun r w' => ∃ T fa fcc L2 Q F, r = .returned (.tuple #[.slice fa G fcc, .pointer (some ⟨T, 0, none⟩), .bool true]) ∧ Got w w' T G SSl (.slice fa G fcc) L2 Q F := by
  have hba : Below w.heap.size w (w.alloc (.cells #[.slice (some ⟨fb, 0, none⟩) E fc] 28)) := (Below.refl _ _).alloc (Nat.le_refl _) _
  have hbk : Bk 28 (w.alloc (.cells #[.slice (some ⟨fb, 0, none⟩) E fc] 28)) w.heap.size #[.slice (some ⟨fb, 0, none⟩) E fc] := heap_new w _
  have hpc : Pcs (w.alloc (.cells #[.slice (some ⟨fb, 0, none⟩) E fc] 28)) (some ⟨w.heap.size, 0, none⟩) 1 [fencs SSl] := by
    refine ⟨rfl, .inr ⟨w.heap.size, 0, rfl, by simp, fun i hi => ?_⟩⟩
    obtain rfl : i = 0 := by omega
    exact ⟨_, E, fc, hbk.cell 0, h.below hba, fencs_bytes 2000 SSl hk hb, hfc, fun h => by cases h⟩
  have hfl : [fencs SSl].flatten = fencs SSl := by simp
  have hc := all_c 2000 (some ⟨w.heap.size, 0, none⟩) 1 1 [fencs SSl] _ hpc (ht.below hba) (by decide) (by rw [hfl, fencs_len]; omega) (by decide)
  rw [hfl] at hc
  refine hc.mono ?_
  rintro r w' ⟨S, fa, fcc, L2, Q, F, rfl, a1, a2, a3, a4, a5, a6, a7⟩
  have e := fseen_laid 2000 SSl hk [] (fun z hz => by cases hz)
  rw [List.nil_append] at e
  rw [e] at a1 a2
  have hll : L2.length = G := by have := congrArg List.length a1; simp at this; rw [hG]; exact this
  rw [hll] at a3 ⊢
  have hsz : (w.alloc (.cells #[.slice (some ⟨fb, 0, none⟩) E fc] 28)).heap.size = w.heap.size + 1 := by simp
  exact ⟨S, fa, fcc, L2, Q, F, rfl, hll, a1, a2, a3, fun k hk => by have := a4 k hk; omega, fun k hk => by have := a5 k hk; omega, a6, hba.trans (a7.mono hba.size)⟩
/-- What Feed of the same bytes finds again. -/
theorem feed_again {w : World} {T G fb E fc : Nat} {SSl : List FrM} {Q : Nat → Prop} (h : SS Q w T 2097180 [] 2000 0 0 (.slice none 0 0) []) (hs : Seg .u8 w (some ⟨fb, 0, none⟩) E (fencs SSl)) (hfc : E ≤ fc) (hfb : ¬ Q fb) (hk : ∀ f ∈ SSl, fkeep 2000 f = true) (hb : ∀ f ∈ SSl, Bytes f.ys) (hz : fsz SSl ≤ 1073741824) (hG : G = SSl.length) (ht : Tab w) (h0 : ¬ Q 0) :
    Calls Tryd.prog 13 #[.pointer (some ⟨T, 0, none⟩), .slice (some ⟨fb, 0, none⟩) E fc] w fun r w' => ∃ fa fcc L3 F, r = .returned (.slice fa G fcc) ∧ L3.length = G ∧ L3.map FrM.fr = SSl.map FrM.fr ∧ FrL F w' (.slice fa G fcc) L3 ∧ (∀ k, F k → (Q k ∨ w.heap.size ≤ k) ∧ k < w'.heap.size) ∧ Gr Q w w' := by
  have hE := hs.1
  rw [fencs_len] at hE
  have hc := feed_c Q w T [] 2000 0 0 (some ⟨fb, 0, none⟩) E fc (fencs SSl) h (idle_nil _) hs (fencs_bytes 2000 SSl hk hb) hfc (fun hp b o s e z => by cases e; exact hfb z) ht h0 (by decide) (by omega) (by omega) (by omega)
  refine hc.mono ?_
  rintro r w' ⟨fa2, fc2, L2, Q2, F2, rfl, z1, z2, z3, z4, z5, z6, z7⟩
  have e := fseen_laid 2000 SSl hk [] (fun z hz => by cases hz)
  rw [List.nil_append] at e
  rw [List.nil_append, e] at z1
  have hll : L2.length = G := by have := congrArg List.length z1; simp at this; rw [hG]; exact this
  rw [hll] at z3 ⊢
  exact ⟨fa2, fc2, L2, F2, rfl, hll, z1, z3, z5, z7⟩
end Go.Proofs.YtegbgmihcokblaaDoor
