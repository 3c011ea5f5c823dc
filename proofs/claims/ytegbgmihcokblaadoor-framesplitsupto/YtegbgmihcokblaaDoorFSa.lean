/-
  The document's Seen and its frames in memory, and the bookkeeping of its Stream. No condition of its own.
-/
import Derived.Test.YtegbgmihcokblaaDoorFRe
import Derived.Test.YtegbgmihcokblaaDoorFWk
import Derived.Test.YtegbgmihcokblaaDoorFFi
namespace Go.Proofs.YtegbgmihcokblaaDoor
set_option linter.unusedVariables false
open Go.RowKit

/-- The document's frames in memory of their own, in blocks that F says. -/
structure GrL (F : Nat → Prop) (w : World) (v : Value) (L : List FrM) : Prop where
  own : w.ownsRow 0 43 2 v L.length (flF L)
  fv : ∀ k, v.ownBlock = some k → F k
  body : ∀ f ∈ L, Own 0 w f.u f.ys.length f.ys ∧ ∀ k, f.u.ownBlock = some k → F k ∧ v.ownBlock ≠ some k
theorem grl_nil (F : Nat → Prop) (w : World) : GrL F w (.slice none 0 0) [] := ⟨World.ownsRow_nil _ _ _ _, fun k hk => (by cases hk), fun f hf => (by cases hf)⟩
theorem GrL.gr {F G : Nat → Prop} {w w' : World} {v : Value} {L : List FrM} (h : GrL F w v L) (hg : Gr G w w') (hn : ∀ k, F k → ¬ G k) : GrL F w' v L :=
  ⟨own_gr h.own hg (fun b hb => hn b (h.fv b hb)), h.fv, fun f hf => ⟨own_gr (h.body f hf).1 hg (fun b hb => hn b ((h.body f hf).2 b hb).1), (h.body f hf).2⟩⟩
theorem Tryd.infoGFrm : (Tryd.prog.info? 43).map (fun i => (i.zero, i.size, i.bytes)) = some (some (.agg #[.int .i64 0, .slice none 0 0]), 2, 32) := by kernel_rfl
/-- One frame more. -/
theorem grl_app {N : Nat} {w W1 W2 : World} {v v' : Value} {L : List FrM} {f : FrM} (h : GrL (fun k => N ≤ k) w v L) (hN : N ≤ w.heap.size) (h1 : w.grownBy W1 none) (hb : Own w.heap.size W1 f.u f.ys.length f.ys) (hg : W1.grownBy W2 v.ownBlock) (ho : W2.ownsRow 0 43 2 v' (L.length + 1) (flF L ++ [.int .i64 f.t, f.u])) (hv : ∀ k, v'.ownBlock = some k → (v.ownBlock = some k ∨ W1.heap.size ≤ k)) :
    GrL (fun k => N ≤ k) W2 v' (L ++ [f]) := by
  have hs := h1.size
  have hG1 : Gr (fun _ => False) w W1 := Gr.of h1 (by simp)
  have hG2 : Gr (fun k => v.ownBlock = some k) W1 W2 := Gr.of hg (fun k hk => .inl hk)
  have hlo := own_lt hb
  refine ⟨by rw [List.length_append, flF_snoc]; exact ho, fun k hk => ?_, fun g hgm => ?_⟩
  · rcases hv k hk with z | z
    · exact h.fv k z
    · show N ≤ k; omega
  · rcases List.mem_append.1 hgm with z | z
    · have q := h.body g z
      refine ⟨own_gr (own_gr q.1 hG1 (fun _ _ z => z)) hG2 (fun k hk => (q.2 k hk).2), fun k hk => ⟨(q.2 k hk).1, fun e => ?_⟩⟩
      rcases hv k e with z2 | z2
      · exact (q.2 k hk).2 z2
      · have := (own_lt q.1 k hk).2; omega
    · obtain rfl : g = f := by simpa using z
      refine ⟨own_gr (own_base0 hb) hG2 (fun k hk e => ?_), fun k hk => ⟨by have := (hlo k hk).1; show N ≤ k; omega, fun e => ?_⟩⟩
      · have := (own_lt h.own k e).2; have := (hlo k hk).1; omega
      · rcases hv k e with z2 | z2
        · have := (own_lt h.own k z2).2; have := (hlo k hk).1; omega
        · have := (hlo k hk).2; omega
/-- A Seen in a block of its own. -/
def Sb (w : World) (S : Nat) (fv : Value) (p j l : Int) : Prop := Bk 38 w S #[fv, .int .i64 p, .int .i64 j, .int .i64 l]
theorem Sb.cells {w S fv p j l} (h : Sb w S fv p j l) : w.cell? ⟨S, 0, none⟩ = some fv ∧ w.cell? ⟨S, 1, none⟩ = some (.int .i64 p) ∧ w.cell? ⟨S, 2, none⟩ = some (.int .i64 j) ∧ w.cell? ⟨S, 3, none⟩ = some (.int .i64 l) := ⟨Bk.cell h 0, Bk.cell h 1, Bk.cell h 2, Bk.cell h 3⟩
theorem Sb.free {w S fv p j l} (h : Sb w S fv p j l) (i : Nat) : w.frozen? ⟨S, i, none⟩ = false := frozen_of_row w S i _ 38 h
theorem Sb.set0 {w S fv p j l} (h : Sb w S fv p j l) (v : Value) : Sb (w.setCell ⟨S, 0, none⟩ v) S v p j l := Bk.set h 0 _
theorem Sb.set1 {w S fv p j l} (h : Sb w S fv p j l) (v : Int) : Sb (w.setCell ⟨S, 1, none⟩ (.int .i64 v)) S fv v j l := Bk.set h 1 _
theorem Sb.set2 {w S fv p j l} (h : Sb w S fv p j l) (v : Int) : Sb (w.setCell ⟨S, 2, none⟩ (.int .i64 v)) S fv p v l := Bk.set h 2 _
theorem Sb.set3 {w S fv p j l} (h : Sb w S fv p j l) (v : Int) : Sb (w.setCell ⟨S, 3, none⟩ (.int .i64 v)) S fv p j v := Bk.set h 3 _
def sAt (w : World) (S : Nat) : Nat := match w.cell? ⟨S, 1, none⟩ with
  | some (.int _ v) => v.toNat
  | _ => 0
theorem sAt_is {w : World} {S : Nat} {fv : Value} {p : Nat} {j l : Int} (h : Sb w S fv (p : Nat) j l) : sAt w S = p := by unfold sAt; rw [h.cells.2.1]; simp
/-- What stands while Stream goes on: its variable, its result's cell, the frames. -/
structure StI (w wr : World) (N : Nat) (fv : Value) (L : List FrM) (p j l : Nat) : Prop where
  sb : Sb wr (N + 1) fv p j l
  rs : Sb wr N (.slice none 0 0) 0 0 0
  fr : GrL (fun k => N + 2 ≤ k) wr fv L
  bel : Below N w wr
theorem StI.sz {w wr : World} {N : Nat} {fv : Value} {L : List FrM} {p j l : Nat} (h : StI w wr N fv L p j l) : N + 2 ≤ wr.heap.size := by have := lt_of_block h.sb; omega
theorem StI.below {w wr w' : World} {N : Nat} {fv : Value} {L : List FrM} {p j l : Nat} (h : StI w wr N fv L p j l) (hb : Below wr.heap.size wr w') : StI w w' N fv L p j l :=
  ⟨Bk.below h.sb hb (lt_of_block h.sb), Bk.below h.rs hb (lt_of_block h.rs), h.fr.gr (Gr.ofB (G := fun _ => False) hb) (fun _ _ z => z), h.bel.trans (hb.mono (by have := h.sz; omega))⟩
/-- A cell of the variable is written. -/
theorem StI.keep {w wr w' : World} {N : Nat} {fv : Value} {L : List FrM} {p j l p' j' l' : Nat} (h : StI w wr N fv L p j l) (hg : Gr (fun k => k = N + 1) wr w') (hs : Sb w' (N + 1) fv p' j' l') : StI w w' N fv L p' j' l' :=
  ⟨hs, Bk.gr h.rs hg (fun z => by omega), h.fr.gr hg (fun k z e => by omega), Gr.below h.bel hg (fun k z => by omega) (by have := h.sz; omega)⟩
theorem StI.junk {w wr : World} {N : Nat} {fv : Value} {L : List FrM} {p j l : Nat} (h : StI w wr N fv L p j l) : StI w ((wr.setCell ⟨N + 1, 1, none⟩ (.int .i64 ((p : Int) + 1))).setCell ⟨N + 1, 2, none⟩ (.int .i64 ((j : Int) + 1))) N fv L (p + 1) (j + 1) l := by
  refine h.keep (((Gr.refl (fun k => k = N + 1) wr).set (N + 1) 1 rfl _).set (N + 1) 2 rfl _) ?_
  have := (h.sb.set1 ((p : Int) + 1)).set2 ((j : Int) + 1)
  push_cast
  exact this
theorem StI.lost {w wr : World} {N : Nat} {fv : Value} {L : List FrM} {p j l : Nat} (h : StI w wr N fv L p j l) : StI w (wr.setCell ⟨N + 1, 3, none⟩ (.int .i64 ((l : Int) + 1))) N fv L p j (l + 1) := by
  refine h.keep ((Gr.refl (fun k => k = N + 1) wr).set (N + 1) 3 rfl _) ?_
  have := h.sb.set3 ((l : Int) + 1)
  push_cast
  exact this
/-- What is seen so far. -/
structure SeI (most : Nat) (en : Bool) (xs : List Int) (L : List FrM) (p j l : Nat) : Prop where
  eq : fseen most en xs = Seen.add (L.map FrM.fr) j l (fseen most en (xs.drop p))
  pl : p ≤ xs.length
  lt : L.length ≤ p ∧ j ≤ p ∧ l ≤ p
theorem sei_start (most : Nat) (en : Bool) (xs : List Int) : SeI most en xs [] 0 0 0 := ⟨by rw [List.drop_zero]; exact (Seen.add_none _).symm, Nat.zero_le _, Nat.le_refl _, Nat.le_refl _, Nat.le_refl _⟩
theorem drop_ne {xs : List Int} {p : Nat} (h : p < xs.length) : xs.drop p ≠ [] := fun e => by
  have := congrArg List.length e
  rw [List.length_drop] at this
  simp at this
  omega
theorem SeI.junk {most : Nat} {en : Bool} {xs : List Int} {L : List FrM} {p j l : Nat} (h : SeI most en xs L p j l) (hp : p < xs.length) (h0 : fmeet most (xs.drop p) ≠ 0) (h40 : ¬ (fmeet most (xs.drop p) = 40 ∧ en = false)) (h44 : fmeet most (xs.drop p) ≠ 44) : SeI most en xs L (p + 1) (j + 1) l := by
  refine ⟨?_, hp, by have := h.lt; omega⟩
  rw [h.eq, fseen_step most en _ (drop_ne hp), if_neg h0, if_neg h40, if_neg h44, List.drop_drop, Seen.add_add, List.append_nil]
  rfl
theorem SeI.lost {most : Nat} {en : Bool} {xs : List Int} {L : List FrM} {p j l : Nat} (h : SeI most en xs L p j l) (hp : p < xs.length) (h44 : fmeet most (xs.drop p) = 44) : SeI most en xs L (p + 1) (j + 1) (l + 1) := by
  refine ⟨?_, hp, by have := h.lt; omega⟩
  rw [h.eq, fseen_step most en _ (drop_ne hp), if_neg (by rw [h44]; decide), if_neg (fun z => by rw [h44] at z; exact absurd z.1 (by decide)), if_pos h44, List.drop_drop, Seen.add_add, List.append_nil]
theorem SeI.found {most : Nat} {en : Bool} {xs : List Int} {L : List FrM} {p j l n : Nat} {f : FrM} (h : SeI most en xs L p j l) (hp : p < xs.length) (h0 : fmeet most (xs.drop p) = 0) (hn : flen (xs.drop p) = n) (hf : f.fr = ((xs.drop p)[2]?.getD 0, fbody (xs.drop p))) : SeI most en xs (L ++ [f]) (p + (n + 14)) j l := by
  have hl := (fbeg_ok (fmeet_ok h0).1).2.2.2.2
  rw [List.length_drop, hn] at hl
  refine ⟨?_, by omega, by have := h.lt; rw [List.length_append, List.length_singleton]; omega⟩
  rw [h.eq, fseen_step most en _ (drop_ne hp), if_pos h0, List.drop_drop, Seen.add_add, List.map_append, hn, ← hf]
  rfl
theorem fmeet_beg {most k : Nat} {ys : List Int} (h : fbeg most ys = k) (hk : k ≠ 0) : fmeet most ys = k := by unfold fmeet; rw [h, if_neg hk]
/-- What Stream answers. -/
structure StA (most : Nat) (en : Bool) (xs : List Int) (w w' : World) (fv : Value) (L : List FrM) (p j l : Nat) : Prop where
  fr : L.map FrM.fr = (fseen most en xs).frames
  at_ : p + (fseen most en xs).rest.length = xs.length
  jk : j = (fseen most en xs).junk
  ls : l = (fseen most en xs).lost
  mem : GrL (fun k => w.heap.size + 2 ≤ k) w' fv L
  bel : Below w.heap.size w w'
theorem sta_end {most : Nat} {en : Bool} {xs : List Int} {w w' : World} {fv : Value} {L : List FrM} {p j l : Nat} (h : SeI most en xs L p j l) (hp : p = xs.length) (hm : GrL (fun k => w.heap.size + 2 ≤ k) w' fv L) (hb : Below w.heap.size w w') : StA most en xs w w' fv L p j l := by
  have e := h.eq
  rw [hp, List.drop_length, fseen_nil] at e
  rw [show Seen.add (L.map FrM.fr) j l ⟨[], 0, 0, []⟩ = ⟨L.map FrM.fr, j, l, []⟩ from by unfold Seen.add; simp] at e
  exact ⟨by rw [e], by rw [e]; simpa using hp, by rw [e], by rw [e], hm, hb⟩
theorem sta_wait {most : Nat} {xs : List Int} {w w' : World} {fv : Value} {L : List FrM} {p j l : Nat} (h : SeI most false xs L p j l) (hp : p < xs.length) (h40 : fmeet most (xs.drop p) = 40) (hm : GrL (fun k => w.heap.size + 2 ≤ k) w' fv L) (hb : Below w.heap.size w w') : StA most false xs w w' fv L p j l := by
  have e := h.eq
  rw [fseen_step most false _ (drop_ne hp), if_neg (by rw [h40]; decide), if_pos ⟨h40, rfl⟩] at e
  rw [show Seen.add (L.map FrM.fr) j l ⟨[], 0, 0, xs.drop p⟩ = ⟨L.map FrM.fr, j, l, xs.drop p⟩ from by unfold Seen.add; simp] at e
  exact ⟨by rw [e], by rw [e]; show p + (xs.drop p).length = _; rw [List.length_drop]; omega, by rw [e], by rw [e], hm, hb⟩
/-- append of bytes to nothing, as one step of a drawn region. -/
theorem step_append_body {ops : Array Oper} {o : Oper} {a : Act} {w : World} {K : Act → World → Prop} {Q : Exit → Act → World → Prop} {E : Prop} (hgd : o.guard = none) (s x : Operand)
    (hop : o.op = Op.call { callee := Callee.builtin Builtin.append, args := #[s, x], argTypes := #[28, 28] }) (ad : Addr) (m c : Nat) (ys : List Int) (hs : a.eval s = .slice none 0 0) (hx : a.eval x = .slice (some ad) m c)
    (hy : Seg .u8 w (some ad) m ys) (hb : m ≤ 140737488355328)
    (hK : ∀ ua uc w', Own w.heap.size w' (.slice ua m uc) m ys → w.grownBy w' none → K (a.put o.dst (.slice ua m uc)) w') :
    if Region.wanted o (yielded ops a.tmps) = true then Oper.wp Tryd.prog o a w K Q else E := by
  by_cases h0 : m = 0
  · subst h0
    have e : ys = [] := List.eq_nil_of_length_eq_zero hy.1
    subst e
    exact step_append_none hgd s x hop ad c hs hx (fun w' hb' => hK none 0 w' (own_nil _ _) (gb_of hb'))
  · exact step_append_new hgd s x hop ad m c ys hs hx hy (by omega) hb (fun g k w' ho hb' => hK (some ⟨g, 0, none⟩) k w' ho (gb_of hb'))
end Go.Proofs.YtegbgmihcokblaaDoor
