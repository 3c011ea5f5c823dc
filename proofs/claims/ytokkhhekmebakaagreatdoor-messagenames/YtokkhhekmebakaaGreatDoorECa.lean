/-
  What the pass's carry comes to: the kind, the ends, and the kind's fields one behind the other, whatever each of them comes to. Condition: the list of kinds lies in memory as the program's text lays it.
-/
import Derived.Test.YtokkhhekmebakaaGreatDoorEFl
namespace Go.Proofs.YtokkhhekmebakaaGreatDoor
open Go.RowKit
set_option linter.unusedVariables false

theorem wpList_callf {P : Program} {ops : Array Oper} {rest : List Oper} {op : Oper} {a : Act} {w : World} {Q : Exit → Act → World → Prop} (hgd : op.guard = none) (x y : Operand) (ty : Array TypeId) (ho : op.op = .call { callee := .value x, args := #[y], argTypes := ty }) (g : FuncId) (v : Value) (hx : a.eval x = fnV g) (hy : a.eval y = v) (hcf : (callFunc g #[v]).run P w = .ok (.enter g #[v]) w)
    (h : Calls P g #[v] w fun e W' => (∃ u, e = .returned u ∧ wpList P ops Q rest (a.put op.dst u) W') ∨ ∃ c, e = .panicked c ∧ Q (.panic c) a W') : wpList P ops Q (op :: rest) a w := by
  refine wpList_plain hgd fun K hK => ?_
  have e : (execOp a.eval op).run P w = .ok (.enter g #[v]) w := by
    unfold fnV at hx
    simp [execOp, ho, resolve, invoke, hx, hy, Deferred.ofValue, hcf]
  unfold Oper.wp
  rw [e, Oper.upon_enter]
  refine Calls.mono h ?_
  rintro e W' (⟨u, rfl, hk⟩ | ⟨c, rfl, hk⟩)
  · exact hK _ _ hk
  · exact hk
/-- Fields one behind the other. -/
def runF (fd : Nat → Array Value → Wy → Option (Array Value × Wy)) : Nat → Nat → Array Value → Wy → Option (Array Value × Wy)
  | 0, _, q, S => some (q, S)
  | n + 1, i, q, S => match fd i q S with
    | none => none
    | some (q1, S1) => runF fd n (i + 1) q1 S1
def fCarry (fd : Nat → Array Value → Wy → Option (Array Value × Wy)) (k : Nat) (x y : Int) (q : Array Value) (S : Wy) : Option (Array Value × Wy) :=
  match fEnds k x y (q.setIfInBounds 0 (.int .i64 k)) S with
  | none => none
  | some (q1, S1) => runF fd (flK k).length 0 q1 S1
theorem ends_same {k x y : Int} {q q1 : Array Value} {S S1 : Wy} (h : fEnds k x y q S = some (q1, S1)) : S1.blk = S.blk := by
  unfold fEnds at h
  split at h
  · cases h
  · rename_i a Sa ha
    split at h
    · cases h
    · rename_i b Sb hb
      split at h
      · injection h with h
        injection h with _ h
        subst h
        exact (blk_same (num_same hb)).trans (blk_same (num_same ha))
      · cases h
theorem St.far {w p m q S A} (h : St w p m q S A) (B : Nat) (hB : w.heap.size ≤ B) : ¬ (B = p ∨ S.blk B) := by
  rintro (z | ⟨z, z1⟩)
  · have := h.lt p h.ap; omega
  · rcases h.ok with y | ⟨_, _, fs, hw, _⟩
    · exact z y
    · have := hw.lt; omega
theorem Gr.cellK {G : Nat → Prop} {w w' : World} (h : Gr G w w') {B : Nat} (i : Nat) (hB : B < w.heap.size) (hn : ¬ G B) : w'.cell? ⟨B, i, none⟩ = w.cell? ⟨B, i, none⟩ :=
  World.cell?_of_block (w := w) (a := ⟨B, i, none⟩) (h.block B hB hn)
/-- Between two fields. -/
structure Car (w : World) (p : Nat) (m : Array Value) (S : Wy) (A : Nat → Prop) (B : Nat) (fs : List FuncId) (fd : Nat → Array Value → Wy → Option (Array Value × Wy)) (Iv : Nat → Array Value → Wy → Prop) (R : Option (Array Value × Wy)) (i : Nat) (wr : World) : Prop where
  is : ∃ q' S', R = runF fd (fs.length - i) i q' S' ∧ Iv i q' S' ∧ St wr p m q' S' A ∧ S'.blk = S.blk
  gr : Gr (fun j => j = p ∨ S.blk j) w wr
  kn : Knd wr
  mx : Max wr
  cell : ∀ j, j < fs.length → wr.cell? ⟨B, j, none⟩ = some (fnV (fs.getD j 0))
  far : ¬ (B = p ∨ S.blk B)
  lt : B < wr.heap.size
theorem car_next {w p m S A B fs fd Iv R i wr} (h : Car w p m S A B fs fd Iv R i wr) (hi : i < fs.length) {q' q2 : Array Value} {S' S2 : Wy} (hR : R = runF fd (fs.length - i) i q' S') (hs : St wr p m q' S' A) (hb : S'.blk = S.blk) (hf : fd i q' S' = some (q2, S2)) (hI : Iv (i + 1) q2 S2) (hb2 : S2.blk = S'.blk) {w2 : World} (h2 : St w2 p m q2 S2 A) (hg : Gr (fun j => j = p ∨ S'.blk j) wr w2) : Car w p m S A B fs fd Iv R (i + 1) w2 := by
  have hg' : Gr (fun j => j = p ∨ S.blk j) wr w2 := by rw [← hb]; exact hg
  refine ⟨⟨q2, S2, ?_, hI, h2, hb2.trans hb⟩, h.gr.trans hg', h.kn.st hs hg, h.mx.st hs hg, fun j hj => ?_, h.far, Nat.lt_of_lt_of_le h.lt hg.size⟩
  · rw [hR, show fs.length - i = (fs.length - (i + 1)) + 1 by omega, runF, hf]
  · rw [hg'.cellK j h.lt h.far]; exact h.cell j hj
theorem flK_all : ∀ k, k < 29 → (flK k).length ≤ 4 := by decide
theorem flK_le (k : Nat) (h1 : 1 ≤ k) (h2 : k ≤ 28) : (flK k).length ≤ 4 := flK_all k (by omega)
set_option maxRecDepth 20000 in
set_option maxHeartbeats 2000000 in
theorem carry_c {w p m q S A} (k : Nat) (x y : Int) (fd : Nat → Array Value → Wy → Option (Array Value × Wy)) (Iv : Nat → Array Value → Wy → Prop) (hk1 : 1 ≤ k) (hk2 : k ≤ 28) (hm1 : m[1]? = some (.int .i64 x)) (hm2 : m[2]? = some (.int .i64 y)) (h : St w p m q S A) (hb : S.room 20) (HK : Knd w) (HM : Max w)
    (HE : ∀ q1 S1, fEnds k x y (q.setIfInBounds 0 (.int .i64 k)) S = some (q1, S1) → Iv 0 q1 S1)
    (HF : ∀ i q S W, i < (flK k).length → Iv i q S → St W p m q S A → Knd W → Max W → Calls Tryz.prog ((flK k).getD i 0) #[.pointer (some ⟨p, 0, none⟩)] W (StepTo W p m q S A (fd i q S)))
    (HI : ∀ i q S q' S', i < (flK k).length → Iv i q S → fd i q S = some (q', S') → Iv (i + 1) q' S' ∧ S'.blk = S.blk)
    (HC : ∀ i W, i < (flK k).length → (callFunc ((flK k).getD i 0) #[.pointer (some ⟨p, 0, none⟩)]).run Tryz.prog W = .ok (.enter ((flK k).getD i 0) #[.pointer (some ⟨p, 0, none⟩)]) W) :
    Calls Tryz.prog 52 #[.pointer (some ⟨p, 0, none⟩), .int .i64 k] w fun r w' => StepTo w p m q S A (fCarry fd k x y q S) r w' := by
  obtain ⟨u, hu⟩ := q_some h 0 (by omega)
  have cq : w.cell? ⟨p, 37, none⟩ = some u := (h.cellQ 0 (by omega)).trans hu
  have fq : w.frozen? ⟨p, 37, none⟩ = false := h.free 37
  have h1 := h.put 0 (by omega) (.int .i64 k)
  have g1 : Gr (fun j => j = p ∨ S.blk j) w (w.setCell ⟨p, 37, none⟩ (.int .i64 k)) := put_gr (p := p) (k := 37) (Gr.refl _ w) (.int .i64 k)
  have q37 := h.q37
  have HN : Hid _ := ends_c (k : Int) x y hm1 hm2 (by simp [q37]) h1 hb (HK.st h g1) (HM.st h g1)
  have H1 : Hid (Gr (fun j => j = p ∨ S.blk j) w (w.setCell ⟨p, 37, none⟩ (.int .i64 k)) ∧ St (w.setCell ⟨p, 37 + 0, none⟩ (.int .i64 k)) p m (q.setIfInBounds 0 (.int .i64 k)) S A ∧ Knd (w.setCell ⟨p, 37, none⟩ (.int .i64 k)) ∧ Max (w.setCell ⟨p, 37, none⟩ (.int .i64 k))) := ⟨g1, h1, HK.st h g1, HM.st h g1⟩
  have HFh : Hid _ := HF
  have HIh : Hid _ := HI
  have HEh : Hid _ := HE
  have HCh : Hid _ := HC
  have HK12 : Hid (1 ≤ k ∧ k ≤ 28) := ⟨hk1, hk2⟩
  clear h h1 g1 q37 hu hm1 hm2 hb HK HM HF HI HE HC hk1 hk2
  go_enter Tryz.func52, Tryz.ntmps52
  go_wp2_with fail
  refine Calls.mono HN.out ?_
  rintro r w2 ⟨⟨q1, S1, e1, rfl, h2⟩ | ⟨e1, rfl⟩, hg⟩
  · have H2 : Hid (St w2 p m q1 S1 A ∧ S1.blk = S.blk ∧ Gr (fun j => j = p ∨ S.blk j) w w2 ∧ Knd w2 ∧ Max w2 ∧ Iv 0 q1 S1) := ⟨h2, ends_same e1, H1.out.1.trans hg, H1.out.2.2.1.st H1.out.2.1 hg, H1.out.2.2.2.st H1.out.2.1 hg, HEh.out _ _ e1⟩
    have HR : Hid (fCarry fd k x y q S = runF fd (flK k).length 0 q1 S1) := by show _ = _; unfold fCarry; rw [e1]
    clear h2 hg e1 HN H1 cq fq
    go_wp2_with fail
    refine Calls.mono (fields_c _) ?_
    rintro r w3 ⟨rfl, hi⟩
    obtain ⟨B, hB⟩ : ∃ B, B = w2.heap.size + k := ⟨_, rfl⟩
    have hlk := fields_at hi k HK12.out.1 HK12.out.2
    rw [← hB] at hlk
    have H3 : Hid (Car w p m S A B (flK k) fd Iv (fCarry fd k x y q S) 0 w3) := by
      refine ⟨⟨q1, S1, HR.out, H2.out.2.2.2.2.2, H2.out.1.new hi.gb, H2.out.2.1⟩, H2.out.2.2.1.trans (Gr.of hi.gb (by simp)), H2.out.2.2.2.1.gb hi.gb, H2.out.2.2.2.2.1.gb hi.gb, fun j hj => ?_, ?_, ?_⟩
      · rw [hB]; exact fields_cell hi k HK12.out.1 HK12.out.2 j hj
      · rw [← H2.out.2.1]
        exact H2.out.1.far B (by omega)
      · have hs := hi.size
        have hl : FL.length = 28 := rfl
        have := HK12.out.2
        omega
    clear hi hB H2 HR
    obtain ⟨n, hn⟩ : ∃ n, n = (flK k).length := ⟨_, rfl⟩
    rw [← hn] at hlk
    have HNN : Hid (n = (flK k).length ∧ n ≤ 4) := ⟨hn, by rw [hn]; exact flK_le k HK12.out.1 HK12.out.2⟩
    clear hn
    go_wp2
    clear hlk
    go_loopw [17, 5] (fun i f wr => ∃ (j : Nat) (v : Value), j ≤ n ∧ i = .int .i64 (j : Int) ∧ f = v ∧ Hid (Car w p m S A B (flK k) fd Iv (fCarry fd k x y q S) j wr)) (fun i _ _ => n - (intOf i).toNat)
    case atStart => exact ⟨0, _, Nat.zero_le _, rfl, rfl, H3⟩
    case round =>
      obtain ⟨j, v, hj, rfl, rfl, hr⟩ := hrel
      by_cases hlt : j < n
      · have hi1 : (j : Int) < n := by omega
        have hjl : j < (flK k).length := by rw [← HNN.out.1]; exact hlt
        have hc : wr.cell? ⟨B, j, none⟩ = some (fnV ((flK k).getD j 0)) := hr.out.cell j hjl
        obtain ⟨q', S', r1, r2, r3, r4⟩ := hr.out.is
        have HX : Hid (∀ W, (callFunc ((flK k).getD j 0) #[.pointer (some ⟨p, 0, none⟩)]).run Tryz.prog W = .ok (.enter ((flK k).getD j 0) #[.pointer (some ⟨p, 0, none⟩)]) W) := fun W => HCh.out j W hjl
        have HY : Hid (Calls Tryz.prog ((flK k).getD j 0) #[.pointer (some ⟨p, 0, none⟩)] wr (StepTo wr p m q' S' A (fd j q' S'))) := HFh.out j q' S' wr hjl r2 r3 hr.out.kn hr.out.mx
        have HZ : Hid (∀ q2 S2, fd j q' S' = some (q2, S2) → ∀ w2, St w2 p m q2 S2 A → Gr (fun j => j = p ∨ S'.blk j) wr w2 → Car w p m S A B (flK k) fd Iv (fCarry fd k x y q S) (j + 1) w2) := fun q2 S2 hf w2 h2 hg => car_next hr.out hjl r1 r3 r4 hf (HIh.out j q' S' q2 S2 hjl r2 hf).1 (HIh.out j q' S' q2 S2 hjl r2 hf).2 h2 hg
        have HNo : Hid (fd j q' S' = none → fCarry fd k x y q S = none) := fun hf => by
          rw [r1, show (flK k).length - j = ((flK k).length - (j + 1)) + 1 by omega, runF, hf]
        have HGr : Hid (Gr (fun j => j = p ∨ S.blk j) w wr ∧ S'.blk = S.blk) := ⟨hr.out.gr, r4⟩
        have hw3 : wrap64 ((j : Int) + 1) = ((j + 1 : Nat) : Int) := by have := HNN.out.2; rw [IntWalk.wrap64_in _ ⟨by omega, by omega⟩]; omega
        have HMS : Hid (n - (j + 1) < n - j) := by show _ < _; omega
        clear hr r1 r2 r3 r4 H3 hjl
        generalize (flK k).getD j 0 = f at *
        unfold fnV at hc
        go_wp2_with (refine wpList_callf rfl (.tmp 21) (.tmp 22) _ rfl f (.pointer (some ⟨p, 0, none⟩)) rfl rfl (HX.out _) ?_; go_loud (refine (Calls.mono HY.out ?_); rintro r x1 ⟨⟨q2, S2, f1, rfl, k1⟩ | ⟨f1, rfl⟩, kg⟩; rotate_left; exact .inr ⟨_, rfl, ⟨rfl, .inr ⟨HNo.out f1, rfl⟩, HGr.out.1.trans (by rw [← HGr.out.2]; exact kg)⟩⟩; refine .inl ⟨_, rfl, ?_⟩; have H1 : Hid (Car w p m S A B (flK k) fd Iv (fCarry fd k x y q S) (j + 1) x1) := HZ.out q2 S2 f1 x1 k1 kg; clear f1 k1 kg; skip))
        go_roundw
        case rel => exact ⟨j + 1, _, hlt, by rw [hw3], rfl, H1⟩
        case measure => rw [hw3]; exact HMS.out
      · have hkn : j = n := by omega
        subst hkn
        have hi1 : ¬ (j : Int) < j := by omega
        have hF : Hid (∃ q' S', fCarry fd k x y q S = some (q', S') ∧ St wr p m q' S' A) := by
          obtain ⟨q', S', r1, r2, r3, r4⟩ := hr.out.is
          refine ⟨q', S', ?_, r3⟩
          rw [r1, HNN.out.1, Nat.sub_self]; rfl
        go_wp2
        go_end0
        obtain ⟨q', S', f1, f2⟩ := hF.out
        exact ⟨.inl ⟨q', S', f1, rfl, f2⟩, hr.out.gr⟩
  · exact ⟨rfl, .inr ⟨by unfold fCarry; rw [e1], rfl⟩, H1.out.1.trans hg⟩
end Go.Proofs.YtokkhhekmebakaaGreatDoor
