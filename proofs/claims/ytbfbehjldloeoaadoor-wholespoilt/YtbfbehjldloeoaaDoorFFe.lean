/-
  What frame.steps answers, and Splitter.End. Condition: the table of package crc lies in memory; at most 2^38 bytes at once.
-/
import Derived.Test.YtbfbehjldloeoaaDoorFSS
import Derived.Laws.EntriesVeiled
namespace Go.Proofs.YtbfbehjldloeoaaDoor
set_option linter.unusedVariables false
open Go.RowKit Go.Shelf

def zT : Array Value := #[.nilFunc, .nilFunc, .nilFunc, .nilFunc, .nilFunc, .nilFunc, .nilFunc, .nilFunc, .nilFunc, .nilFunc, .nilFunc, .nilFunc, .nilFunc, .nilFunc, .nilFunc, .nilFunc, .nilFunc, .nilFunc, .nilFunc, .nilFunc, .nilFunc, .nilFunc, .nilFunc, .nilFunc, .nilFunc, .nilFunc, .nilFunc, .nilFunc, .nilFunc, .nilFunc, .nilFunc, .nilFunc, .nilFunc, .nilFunc, .nilFunc, .nilFunc, .nilFunc, .nilFunc, .nilFunc, .nilFunc, .nilFunc, .nilFunc, .nilFunc, .nilFunc, .nilFunc]
theorem infoT : (Tryd.prog.info? 55).map (·.size) = some 45 := by kernel_rfl
theorem stepT_one (e : Bool) : (stepT e).all (·.oneCell') = true := by cases e <;> kernel_rfl
theorem stepT_size (e : Bool) : (stepT e).size = 45 := by cases e <;> rfl
set_option maxRecDepth 20000 in
set_option maxHeartbeats 1000000 in
theorem steps_c (w : World) : Calls Tryd.prog 15 #[] w fun r w' => r = .returned (.agg (stepT false)) ∧ w.grownBy w' none := by
  have HZ : Hid (Bk 55 (w.alloc (.cells zT 55)) w.heap.size zT ∧ w.grownBy (w.alloc (.cells zT 55)) none) := blk_new w 55 zT
  go_enter Tryd.func15, Tryd.ntmps15
  go_wp2_with (refine wpList_store_bk 55 rfl (.tmp 0) (.tmp 1) rfl infoT w.heap.size zT (stepT false) rfl rfl HZ.out.1 rfl rfl (stepT_one false) ?_; intro w2 h1 h2; have H2 : Hid (Bk 55 w2 w.heap.size (stepT false) ∧ w.grownBy w2 none) := ⟨h1, ⟨h2.os.trans HZ.out.2.os, h2.tape.trans HZ.out.2.tape, h2.output.trans HZ.out.2.output, Nat.le_trans HZ.out.2.size h2.size, fun i hi hn => (h2.block i (Nat.lt_of_lt_of_le hi HZ.out.2.size) (fun e => by cases e; omega)).trans (HZ.out.2.block i hi hn)⟩⟩; clear h1 h2)
  refine bodyPost_ret (results_cell1 Tryd.results15 _ _ _ ⟨w.heap.size, 0, none⟩ (.agg (stepT false)) rfl (bk_load (T := 55) Tryd.underlying55 rfl infoT H2.out.1 rfl)) rfl ?_
  exact ⟨rfl, H2.out.2⟩
theorem fseen_end (most : Nat) : ∀ n (xs : List Int), xs.length ≤ n → (fseen most true xs).rest = [] := by
  intro n
  induction n with
  | zero =>
    intro xs h
    obtain rfl : xs = [] := List.eq_nil_of_length_eq_zero (by omega)
    rw [fseen_nil]
  | succ n ih =>
    intro xs h
    by_cases h0 : xs = []
    · subst h0; rw [fseen_nil]
    have hp : 0 < xs.length := List.length_pos_iff.2 h0
    rw [fseen_step most true xs h0]
    split
    · exact ih _ (by rw [List.length_drop]; omega)
    · rw [if_neg (fun z => by cases z.2)]
      split
      · exact ih _ (by rw [List.length_drop]; omega)
      · exact ih _ (by rw [List.length_drop]; omega)
/-- What a call answers and leaves: the frames, in memory of their own, and the Splitter. -/
def CallA (G : Nat → Prop) (w : World) (S B : Nat) (ys : List Int) (most j l : Nat) (fs : List (Int × List Int)) (r : Ending) (w' : World) : Prop :=
  ∃ fa fc L Q F, r = .returned (.slice fa L.length fc) ∧ L.map FrM.fr = fs ∧ SS Q w' S B ys most j l (.slice none 0 0) [] ∧ FrL F w' (.slice fa L.length fc) L ∧ (∀ k, Q k → (G k ∨ w.heap.size ≤ k) ∧ k < w'.heap.size) ∧ (∀ k, F k → (G k ∨ w.heap.size ≤ k) ∧ k < w'.heap.size) ∧ (∀ k, F k → ¬ Q k) ∧ Gr G w w'
set_option maxRecDepth 20000 in
set_option maxHeartbeats 2000000 in
theorem end_c (G : Nat → Prop) (w : World) (S B : Nat) (ys : List Int) (most j l : Nat) (h : SS G w S B ys most j l (.slice none 0 0) []) (ht : Tab w) (h0 : ¬ G 0) (hm : most ≤ 1048576) (hl : B ≤ 549755813888) (hj : j ≤ 1152921504606846976) (hlo : l ≤ 1152921504606846976) :
    Calls Tryd.prog 9 #[.pointer (some ⟨S, 0, none⟩)] w fun r w' => CallA G w S 0 [] most (j + (fseen most true ys).junk) (l + (fseen most true ys).lost) (fseen most true ys).frames r w' := by
  obtain ⟨Q0, hQ, hQG, _⟩ := h.tight
  have HMD : Hid (Calls Tryd.prog 14 #[.pointer (some ⟨S, 0, none⟩)] w fun r w' => r = .returned (.bool true) ∧ w' = w) := by
    obtain ⟨T, v, xs, a, O, F, u, M, h1, _⟩ := hQ
    exact made_yes S T a xs.length most j l (.slice none 0 0) w h1.sp
  have HQ : Hid (SS Q0 w S B ys most j l (.slice none 0 0) [] ∧ (∀ k, Q0 k → G k ∧ k < w.heap.size) ∧ Tab w ∧ ¬ G 0) := ⟨hQ, hQG, ht, h0⟩
  have HST : Hid (∀ W, Calls Tryd.prog 15 #[] W fun r w' => r = .returned (.agg (stepT false)) ∧ W.grownBy w' none) := steps_c
  have hre := fseen_end most _ ys (Nat.le_refl _)
  obtain ⟨s, hs⟩ : ∃ s, s = fseen most true ys := ⟨_, rfl⟩
  rw [← hs] at hre ⊢
  have HWK : Hid (∀ W, Gr (fun _ => False) w W → Calls Tryd.prog 18 #[.pointer (some ⟨S, 0, none⟩), .agg (stepT true)] W fun r w' => r = .returned (.tuple #[]) ∧ (∃ fv' L', SeenOf [] L' s ∧ SS (fun k => Q0 k ∨ W.heap.size ≤ k) w' S B [] most (j + s.junk) (l + s.lost) fv' L') ∧ Gr (fun k => Q0 k ∨ W.heap.size ≤ k) W w') := fun W hg => by
    have hz := (ht.gr hg (fun z => z))
    have := ss_walk ((hQ.gr hg (fun _ _ z => z)).weak (G' := fun k => Q0 k ∨ W.heap.size ≤ k) (fun k _ z => .inl z)) true (fun k hk => .inr hk) hz (fun z => z.elim (fun q => h0 (hQG 0 q).1) (fun q => by have := hz.pos; omega)) hm hl (Nat.zero_le _) hj hlo
    rw [← hs, hre] at this
    exact this
  clear h ht h0 hQ hQG hs hre hj hlo hm
  go_enter Tryd.func9, Tryd.ntmps9
  go_wp2_with (first
    | (go_at_call 14; go_must (refine (Calls.mono HMD.out ?_)); rintro r w0 ⟨rfl, hw0⟩; rw [hw0]; clear hw0)
    | (go_at_call 15; go_must (refine (Calls.mono (HST.out _) ?_)); rintro r w1 ⟨rfl, h1⟩; have H1 : Hid (w.grownBy w1 none) := h1; clear h1; have HZ : Hid (Bk 55 (w1.alloc (.cells zT 55)) w1.heap.size zT ∧ w1.grownBy (w1.alloc (.cells zT 55)) none) := blk_new w1 55 zT)
    | (refine wpList_store_bk 55 rfl (.tmp 3) (.tmp 7) rfl infoT w1.heap.size zT (stepT false) rfl rfl HZ.out.1 rfl rfl (stepT_one false) ?_; intro w2 h1 h2; have H2 : Hid (Bk 55 w2 w1.heap.size (stepT false) ∧ Gr (fun k => k = w1.heap.size) w w2) := ⟨h1, (Gr.of (gb_trans H1.out HZ.out.2) (by simp)).trans (Gr.of h2 (fun k hk => .inl (by cases hk; rfl)))⟩; clear h1 h2; have ck : w2.cell? ⟨w1.heap.size, 40, none⟩ = some (.func (.func 29) #[] #[]) := H2.out.1.cell 40; have fk : w2.frozen? ⟨w1.heap.size, 40, none⟩ = false := frozen_of_row w2 _ 40 _ _ H2.out.1; have H3 : Hid (Bk 55 (w2.setCell ⟨w1.heap.size, 40, none⟩ (.func (.func 21) #[] #[])) w1.heap.size (stepT true) ∧ Gr (fun k => k = w1.heap.size) w (w2.setCell ⟨w1.heap.size, 40, none⟩ (.func (.func 21) #[] #[]))) := ⟨Bk.set H2.out.1 40 _, H2.out.2.set w1.heap.size 40 rfl _⟩)
    | (refine wpList_load_bk 55 rfl (.tmp 3) rfl Tryd.underlying55 rfl infoT w1.heap.size (stepT true) rfl H3.out.1 (stepT_size true) ?_; generalize w2.setCell ⟨w1.heap.size, 40, none⟩ (.func (.func 21) #[] #[]) = w3 at H3 ⊢; have H4 : Hid (Gr (fun _ => False) w w3) := ⟨H3.out.2.os, H3.out.2.tape, H3.out.2.output, H3.out.2.size, fun i hi _ => H3.out.2.block i hi (fun e => by have := H1.out.size; omega)⟩; clear ck fk H3 H2 HZ)
    | (go_at_call 18; go_must (refine (Calls.mono (HWK.out _ H4.out) ?_)); rintro r w4 ⟨rfl, ⟨fv', L', h1, h2⟩, h3⟩; have H5 : Hid (SeenOf [] L' s ∧ SS (fun k => Q0 k ∨ w3.heap.size ≤ k) w4 S B [] most (j + s.junk) (l + s.lost) fv' L' ∧ Gr (fun k => Q0 k ∨ w3.heap.size ≤ k) w3 w4) := ⟨h1, h2, h3⟩; clear h1 h2 h3)
    | (go_at_call 19; go_must (refine (Calls.mono (ss_leave H5.out.2.1 (fun k hk => .inr (Nat.le_trans H5.out.2.2.size hk)) hl) ?_)); rintro r w5 ⟨rfl, h2, h3⟩; have H6 : Hid (SS (fun k => Q0 k ∨ w3.heap.size ≤ k) w5 S 0 [] most (j + s.junk) (l + s.lost) fv' L' ∧ Gr (fun k => Q0 k ∨ w3.heap.size ≤ k) w3 w5) := ⟨h2, H5.out.2.2.trans h3⟩; clear h2 h3)
    | (go_at_call 20; go_must (refine (Calls.mono (ss_hand H6.out.1) ?_)); rintro r w6 ⟨fa, fc, h1, rfl, ⟨Q, F, h2, h3, h4, h5, h6⟩, h7⟩; have H7 : Hid (fv' = .slice fa L'.length fc ∧ SS Q w6 S 0 [] most (j + s.junk) (l + s.lost) (.slice none 0 0) [] ∧ FrL F w6 fv' L' ∧ (∀ k, Q k → (Q0 k ∨ w3.heap.size ≤ k) ∧ k < w6.heap.size) ∧ (∀ k, F k → (Q0 k ∨ w3.heap.size ≤ k) ∧ k < w6.heap.size) ∧ (∀ k, F k → ¬ Q k) ∧ Gr (fun k => Q0 k ∨ w3.heap.size ≤ k) w3 w6) := ⟨h1, h2, h3, h4, h5, h6, H6.out.2.trans h7⟩; clear h1 h2 h3 h4 h5 h6 h7))
  go_ret
  obtain ⟨e1, h2, h3, h4, h5, h6, h7⟩ := H7.out
  obtain ⟨D, e2, e3⟩ := H5.out.1
  have hs3 := H4.out.size
  refine ⟨fa, fc, L', Q, F, by rw [e1]; rfl, by rw [e2]; exact e3, h2, by rw [← e1]; exact h3, fun k hk => ⟨?_, (h4 k hk).2⟩, fun k hk => ⟨?_, (h5 k hk).2⟩, h6, ?_⟩
  · exact (h4 k hk).1.elim (fun z => .inl (HQ.out.2.1 k z).1) (fun z => .inr (by omega))
  · exact (h5 k hk).1.elim (fun z => .inl (HQ.out.2.1 k z).1) (fun z => .inr (by omega))
  · exact ((Gr.refl G w).then H4.out (fun _ _ z => z.elim)).then h7 (fun i hi z => z.elim (fun q => (HQ.out.2.1 i q).1) (fun q => by omega))
end Go.Proofs.YtbfbehjldloeoaaDoor
