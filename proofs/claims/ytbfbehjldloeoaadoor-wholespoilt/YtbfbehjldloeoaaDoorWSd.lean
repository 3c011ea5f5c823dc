/-
  Two calls of Feed, their answers put together, and End: what is found of a list of bytes. No condition of its own.
-/
import Derived.Test.YtbfbehjldloeoaaDoorWSc
import Derived.Test.YtbfbehjldloeoaaDoorFFg
namespace Go.Proofs.YtbfbehjldloeoaaDoor
open Go.RowKit
set_option linter.unusedVariables false

theorem sum_ge (l : List (Int × List Int)) : l.length ≤ (l.map (fun f => f.2.length + 14)).sum := by
  induction l with
  | nil => simp
  | cons f l ih => simp; omega
theorem frames_le (most : Nat) (en : Bool) (xs : List Int) : (fseen most en xs).frames.length ≤ xs.length ∧ (fseen most en xs).rest.length ≤ xs.length ∧ (fseen most en xs).junk ≤ xs.length := by
  have h := fseen_all most en _ xs (Nat.le_refl _)
  have h2 := sum_ge (fseen most en xs).frames
  omega
theorem lost_leS (most : Nat) (en : Bool) : ∀ n (xs : List Int), xs.length ≤ n → (fseen most en xs).lost ≤ xs.length := by
  intro n
  induction n with
  | zero =>
    intro xs h
    obtain rfl : xs = [] := List.eq_nil_of_length_eq_zero (by omega)
    rw [fseen_nil]; simp
  | succ n ih =>
    intro xs h
    by_cases h0 : xs = []
    · subst h0; rw [fseen_nil]; simp
    have hp : 0 < xs.length := List.length_pos_iff.2 h0
    have i1 := ih (xs.drop 1) (by rw [List.length_drop]; omega)
    have i2 := ih (xs.drop (flen xs + 14)) (by rw [List.length_drop]; omega)
    rw [List.length_drop] at i1 i2
    rw [fseen_step most en xs h0]
    split
    · simp only [Seen.add]; omega
    · split
      · simp
      · split
        · simp only [Seen.add]; omega
        · simp only [Seen.add]; omega
/-- The first call. -/
theorem sp_first {w4 W W' : World} {S : Nat} {zs : List Int} {Q0 : Nat → Prop} {r : Ending} (hQ : ∀ k, Q0 k → w4.heap.size ≤ k ∧ k < W.heap.size) (hb : Below w4.heap.size w4 W) (hc : CallA Q0 W S 2097180 (fseen 1048576 false ([] ++ zs)).rest 1048576 (0 + (fseen 1048576 false ([] ++ zs)).junk) (0 + (fseen 1048576 false ([] ++ zs)).lost) (fseen 1048576 false ([] ++ zs)).frames r W') :
    ∃ v, r = .returned v ∧ Sp1 w4 S zs v W' := by
  obtain ⟨fa, fc, L, Q, F, rfl, z1, z2, z3, z4, z5, z6, z7⟩ := hc
  rw [List.nil_append] at z1 z2
  rw [Nat.zero_add, Nat.zero_add] at z2
  have hs := hb.size
  refine ⟨_, rfl, fa, L.length, fc, L, Q, F, rfl, rfl, z1, z2, z3, fun k hk => ?_, fun k hk => ?_, z6, Gr.below hb z7 (fun k z => (hQ k z).1) hs⟩
  · have := z4 k hk
    rcases this.1 with q | q
    · exact ⟨(hQ k q).1, this.2⟩
    · exact ⟨by omega, this.2⟩
  · have := z5 k hk
    rcases this.1 with q | q
    · exact ⟨(hQ k q).1, this.2⟩
    · exact ⟨by omega, this.2⟩
/-- The second call. -/
theorem sp_second {w4 W W' : World} {S cn fc : Nat} {fa : Option Addr} {zs ys : List Int} {L : List FrM} {Q F : Nat → Prop} {r : Ending} (hl : L.length = cn) (h : AllI 1048576 w4 S zs W (.slice fa cn fc) L Q F)
    (hc : CallA Q W S 2097180 (fseen 1048576 false ((fseen 1048576 false zs).rest ++ ys)).rest 1048576 ((fseen 1048576 false zs).junk + (fseen 1048576 false ((fseen 1048576 false zs).rest ++ ys)).junk) ((fseen 1048576 false zs).lost + (fseen 1048576 false ((fseen 1048576 false zs).rest ++ ys)).lost) (fseen 1048576 false ((fseen 1048576 false zs).rest ++ ys)).frames r W') :
    ∃ v, r = .returned v ∧ Sp2 w4 S zs ys (.slice fa cn fc) v W' := by
  obtain ⟨fb, fd, L2, Q2, F2, rfl, z1, z2, z3, z4, z5, z6, z7⟩ := hc
  exact ⟨_, rfl, W, fa, cn, fc, L, Q, F, fb, L2.length, fd, L2, Q2, F2, rfl, hl, h, rfl, rfl, z1, z2, z3, z4, z5, z6, z7⟩
/-- Both answers in one list. -/
theorem sp_cat {w4 w0 W W' : World} {S cn fc cm fd : Nat} {fa fb fe : Option Addr} {ff : Nat} {zs ys : List Int} {L L2 : List FrM} {Q F Q2 F2 : Nat → Prop} (hl : L.length = cn) (h : AllI 1048576 w4 S zs w0 (.slice fa cn fc) L Q F) (hb : CallB w0 S zs ys W (.slice fb cm fd) L2 Q Q2 F2)
    (h3 : FrL (fun k => F k ∨ F2 k ∨ W.heap.size ≤ k) W' (.slice fe (L ++ L2).length ff) (L ++ L2)) (hg2 : W.grownBy W' (Value.slice fa cn fc).ownBlock) : Sp1 w4 S (zs ++ ys) (.slice fe (L ++ L2).length ff) W' :=
  ⟨fe, _, ff, L ++ L2, Q2, _, rfl, rfl, alli_next h hb.e2 hb.hS hb.hQ hb.hF hb.hFQ hb.hg h3 hg2⟩
theorem sp_apart {w4 w0 W : World} {S cn fc cm fd : Nat} {fa fb : Option Addr} {zs ys : List Int} {L L2 : List FrM} {Q F Q2 F2 : Nat → Prop} (hl : L.length = cn) (hl2 : L2.length = cm) (h : AllI 1048576 w4 S zs w0 (.slice fa cn fc) L Q F) (hb : CallB w0 S zs ys W (.slice fb cm fd) L2 Q Q2 F2) (hn : zs.length + ys.length ≤ 1048590) :
    FrL F W (.slice fa cn fc) L ∧ (∀ k, F2 k → ¬ F k) ∧ (L.length + L2.length) * 32 ≤ 140737488355328 := by
  obtain ⟨a1, a2, a3, a4, a5, a6, a7⟩ := h
  refine ⟨a3.gr hb.hg (fun k hk => a6 k hk), fun k hk z => ?_, ?_⟩
  · rcases (hb.hF k hk).1 with q | q
    · exact a6 k z q
    · have := (a5 k z).2; omega
  · have e1 := congrArg List.length a1
    have e2 := congrArg List.length hb.e2
    rw [List.length_map] at e1 e2
    have f1 := frames_le 1048576 false zs
    have f2 := frames_le 1048576 false ((fseen 1048576 false zs).rest ++ ys)
    rw [List.length_append] at f2
    omega
/-- All that is found. -/
def SpE (w4 : World) (cs : List Int) (v : Value) (W : World) : Prop := ∃ fa cn fc L, v = .slice fa cn fc ∧ L.length = cn ∧ L.map FrM.fr = fAll 1048576 cs ∧ RdL W (.slice fa cn fc) L ∧ Below w4.heap.size w4 W
end Go.Proofs.YtbfbehjldloeoaaDoor
