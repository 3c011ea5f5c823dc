/-
  A Splitter between two calls and within one, as plain data: the bytes that wait, junk, lost, and the frames found. Condition: at most 2^39 bytes at once.
-/
import Derived.Test.YtbfbehjldloeoaaDoorFCk
namespace Go.Proofs.YtbfbehjldloeoaaDoor
set_option linter.unusedVariables false
open Go.RowKit

/-- A Splitter that holds ys. -/
def SS (G : Nat → Prop) (w : World) (S B : Nat) (ys : List Int) (most j l : Nat) (fv : Value) (L : List FrM) : Prop :=
  ∃ T v xs a O F u M, Inn G w S T v xs a most j l fv L O F u M ∧ xs.drop a = ys ∧ xs.length ≤ B
theorem SS.weak {G G' : Nat → Prop} {w : World} {S B : Nat} {ys : List Int} {most j l : Nat} {fv : Value} {L : List FrM} (h : SS G w S B ys most j l fv L) (hw : ∀ k, k < w.heap.size → G k → G' k) : SS G' w S B ys most j l fv L := by
  obtain ⟨T, v, xs, a, O, F, u, M, h1, h2⟩ := h
  exact ⟨T, v, xs, a, O, F, u, M, h1.weak hw, h2⟩
theorem SS.gr {G G2 : Nat → Prop} {w w' : World} {S B : Nat} {ys : List Int} {most j l : Nat} {fv : Value} {L : List FrM} (h : SS G w S B ys most j l fv L) (hg : Gr G2 w w') (hn : ∀ k, G k → ¬ G2 k) : SS G w' S B ys most j l fv L := by
  obtain ⟨T, v, xs, a, O, F, u, M, h1, h2⟩ := h
  exact ⟨T, v, xs, a, O, F, u, M, h1.gr hg hn, h2⟩
theorem cells_bk {T : TypeId} {w : World} {b : Nat} {cs : Array Value} (h : Bk T w b cs) : ∃ o, w.heap[b]? = some o ∧ o.isCells = true := ⟨_, h, rfl⟩
theorem cells_own {w : World} {B : Nat} {T : TypeId} {sz : Nat} {v : Value} {n : Nat} {xs : List Value} (h : w.ownsRow B T sz v n xs) : ∀ b, v.ownBlock = some b → ∃ o, w.heap[b]? = some o ∧ o.isCells = true := by
  intro b hb
  rcases h.2 with ⟨h1, _⟩ | ⟨g, cap, cur, e, hB, hg, _⟩
  · rw [h1] at hb; cases hb
  · rw [e] at hb; cases hb; exact ⟨_, hg, rfl⟩
/-- The very blocks of a Splitter: each is one of cells. -/
theorem SS.tight {G : Nat → Prop} {w : World} {S B : Nat} {ys : List Int} {most j l : Nat} {fv : Value} {L : List FrM} (h : SS G w S B ys most j l fv L) :
    ∃ Q : Nat → Prop, SS Q w S B ys most j l fv L ∧ (∀ k, Q k → G k ∧ k < w.heap.size) ∧ ∀ k, Q k → ∃ o, w.heap[k]? = some o ∧ o.isCells = true := by
  obtain ⟨T, v, xs, a, O, F, u, M, h1, h2⟩ := h
  have hOt : ∀ k, (k = T ∨ u.ownBlock = some k) → O k := fun k hk => hk.elim (fun e => e ▸ h1.st.oT) (h1.st.ou k)
  have hFt : ∀ k, (fv.ownBlock = some k ∨ ∃ f ∈ L, f.u.ownBlock = some k) → F k := fun k hk => hk.elim (h1.fr.fv k) (fun ⟨f, hf, e⟩ => ((h1.fr.body f hf).2 k e).1)
  refine ⟨fun k => k = S ∨ (k = T ∨ u.ownBlock = some k) ∨ v.ownBlock = some k ∨ (fv.ownBlock = some k ∨ ∃ f ∈ L, f.u.ownBlock = some k), ⟨T, v, xs, a, fun k => k = T ∨ u.ownBlock = some k, fun k => fv.ownBlock = some k ∨ ∃ f ∈ L, f.u.ownBlock = some k, u, M, ?_, h2⟩, ?_, ?_⟩
  · refine ⟨h1.sp, ⟨h1.st.bk, h1.st.ob, h1.st.om, h1.st.hM, h1.st.hx, h1.st.n1, h1.st.n2, h1.st.n3, .inl rfl, fun k hk z => h1.st.ov k hk (hOt k z), fun k hk => .inr hk⟩, ⟨h1.fr.own, fun k hk => .inl hk, fun f hf => ⟨(h1.fr.body f hf).1, fun k hk => ⟨.inr ⟨f, hf, hk⟩, ((h1.fr.body f hf).2 k hk).2⟩⟩, h1.fr.apart⟩, h1.le, fun k hk => ⟨.inr (.inl hk), (h1.go k (hOt k hk)).2⟩, fun k hk => .inr (.inr (.inl hk)), fun k hk => ⟨.inr (.inr (.inr hk)), (h1.gf k (hFt k hk)).2⟩, .inl rfl, fun z => h1.os (hOt S z), fun z => h1.fs (hFt S z), h1.vs, fun k hk z => h1.fo k (hFt k hk) (hOt k z), fun k hk z => h1.vf k hk (hFt k z)⟩
  · rintro k (rfl | hk | hk | hk)
    · exact ⟨h1.gs, lt_of_block h1.sp⟩
    · exact h1.go k (hOt k hk)
    · exact ⟨h1.gv k hk, (own_lt h1.st.ob k hk).2⟩
    · exact h1.gf k (hFt k hk)
  · rintro k (rfl | (rfl | hk) | hk | (hk | ⟨f, hf, hk⟩))
    · exact cells_bk h1.sp
    · exact cells_bk h1.st.bk
    · exact cells_own h1.st.om k hk
    · exact cells_own h1.st.ob k hk
    · exact cells_own h1.fr.own k hk
    · exact cells_own (h1.fr.body f hf).1 k hk
theorem ss_take {G : Nat → Prop} {w : World} {S B : Nat} {ys : List Int} {most j l : Nat} {fv : Value} {L : List FrM} (h : SS G w S B ys most j l fv L) (hup : ∀ k, w.heap.size ≤ k → G k) (ba : Option Addr) (bn bc : Nat) (zs : List Int) (hb : Seg .u8 w ba bn zs) (hby : Bytes zs) (hnz : ba = none → bc = 0) (hl : B + bn ≤ 549755813888) :
    Calls Tryd.prog 17 #[.pointer (some ⟨S, 0, none⟩), .slice ba bn bc] w fun r w' => r = .returned (.tuple #[]) ∧ SS G w' S (B + bn) (ys ++ zs) most j l fv L ∧ Gr G w w' := by
  obtain ⟨T, v, xs, a, O, F, u, M, h1, rfl, h3⟩ := h
  have hST : S ≠ T := fun e => h1.os (e ▸ h1.st.oT)
  refine (take_c O S T v u xs zs M a most j l fv ba bn bc w h1.sp h1.st hST h1.vs (fun e => h1.os (h1.st.ou S e)) hb hby hnz (by omega)).mono ?_
  rintro r w' ⟨⟨v', q1, q2, q3, q4⟩, q5⟩
  have hsz := q4.size
  have hvn : ∀ k, v'.ownBlock = some k → v.ownBlock = some k ∨ w.heap.size ≤ k := fun k hk => by
    rcases q3 with z | z | z
    · exact .inl (by rw [← z]; exact hk)
    · rw [z] at hk; cases hk; exact .inr (Nat.le_refl _)
    · exact .inr (z k hk)
  have hSw := lt_of_block h1.sp
  refine ⟨q5, ⟨T, v', xs ++ zs, a, fun k => O k ∧ k < w.heap.size, F, u, M, ⟨q1, q2, h1.fr.gr q4 ?_, ?_, ?_, ?_, ?_, h1.gs, fun z => h1.os z.1, h1.fs, ?_, fun k hk z => h1.fo k hk z.1, ?_⟩, ?_, ?_⟩, q4.wide ?_⟩
  · rintro k hk (rfl | rfl | z)
    · exact h1.fs hk
    · exact h1.fo k hk h1.st.oT
    · exact h1.vf k z hk
  · rw [List.length_append]; have := h1.le; omega
  · exact fun k hk => ⟨(h1.go k hk.1).1, by omega⟩
  · exact fun k hk => (hvn k hk).elim (h1.gv k) (hup k)
  · exact fun k hk => ⟨(h1.gf k hk).1, by have := (h1.gf k hk).2; omega⟩
  · exact fun e => (hvn S e).elim h1.vs (fun z => by omega)
  · exact fun k hk z => (hvn k hk).elim (fun q => h1.vf k q z) (fun q => by have := (h1.gf k z).2; omega)
  · rw [List.drop_append_of_le_length h1.le]
  · rw [List.length_append, hb.1]; omega
  · rintro k _ (rfl | rfl | z)
    · exact h1.gs
    · exact (h1.go k h1.st.oT).1
    · exact h1.gv k z
/-- What is seen of the bytes that a Splitter holds. -/
def SeenOf (L0 L : List FrM) (s : Seen) : Prop := ∃ D, L = L0 ++ D ∧ D.map FrM.fr = s.frames
theorem ss_walk {G : Nat → Prop} {w : World} {S B : Nat} {ys : List Int} {most j l : Nat} {fv : Value} {L : List FrM} (h : SS G w S B ys most j l fv L) (e : Bool) (hup : ∀ k, w.heap.size ≤ k → G k) (ht : Tab w) (h0 : ¬ G 0) (hm : most ≤ 1048576) (hl : B ≤ 549755813888) (hc : L.length ≤ 549755813888) (hj : j ≤ 1152921504606846976) (hlo : l ≤ 1152921504606846976) :
    Calls Tryd.prog 18 #[.pointer (some ⟨S, 0, none⟩), .agg (stepT e)] w fun r w' => r = .returned (.tuple #[]) ∧ (∃ fv' L', SeenOf L L' (fseen most e ys) ∧ SS G w' S B (fseen most e ys).rest most (j + (fseen most e ys).junk) (l + (fseen most e ys).lost) fv' L') ∧ Gr G w w' := by
  obtain ⟨T, v, xs, a, O, F, u, M, h1, rfl, h3⟩ := h
  refine (walk_c G S T v u xs M a most j l fv L O F e w h1 hup ht h0 hm (by omega) hc hj hlo).mono ?_
  rintro r w' ⟨⟨a', j', l', fv', L', O', F', u', M', q1, ⟨D, q2, q3, q4, q5, q6⟩, q7⟩, q8⟩
  subst q4 q5
  exact ⟨q8, ⟨fv', L', ⟨D, q2, q3⟩, T, v, xs, a', O', F', u', M', q1, q6, h3⟩, q7⟩
theorem ss_leave {G : Nat → Prop} {w : World} {S B : Nat} {ys : List Int} {most j l : Nat} {fv : Value} {L : List FrM} (h : SS G w S B ys most j l fv L) (hup : ∀ k, w.heap.size ≤ k → G k) (hl : B ≤ 549755813888) :
    Calls Tryd.prog 19 #[.pointer (some ⟨S, 0, none⟩)] w fun r w' => r = .returned (.tuple #[]) ∧ SS G w' S (2 * ys.length) ys most j l fv L ∧ Gr G w w' := by
  obtain ⟨T, v, xs, a, O, F, u, M, h1, rfl, h3⟩ := h
  refine (leave_c O S T v u xs M a most j l fv w h1.sp h1.st h1.le (by omega)).mono ?_
  rintro r w' ⟨⟨O', T', v', u', xs', M', a', q1, q2, q3, q4, q5, q6, q7, q8⟩, q9⟩
  have hsz := q8.size
  have hSw := lt_of_block h1.sp
  have q2' : Str (fun k => O' k ∧ k < w'.heap.size) w' T' v' u' xs' M' := q2.weak (fun k hk z => ⟨z, hk⟩) (fun k hk z z2 => z z2.1)
  refine ⟨q9, ⟨T', v', xs', a', fun k => O' k ∧ k < w'.heap.size, F, u', M', ⟨q1, q2', h1.fr.gr q8 (fun k hk e => h1.fs (e ▸ hk)), q3, ?_, ?_, ?_, h1.gs, ?_, h1.fs, ?_, ?_, ?_⟩, q5, ?_⟩, q8.wide (fun k _ e => e ▸ h1.gs)⟩
  · exact fun k hk => ⟨(q6 k hk.1).elim (fun z => (h1.go k z).1) (hup k), hk.2⟩
  · exact fun k hk => (q7 k hk).elim (h1.gv k) (hup k)
  · exact fun k hk => ⟨(h1.gf k hk).1, by have := (h1.gf k hk).2; omega⟩
  · exact fun z => (q6 S z.1).elim h1.os (fun q => by omega)
  · exact fun e => (q7 S e).elim h1.vs (fun q => by omega)
  · exact fun k hk z => (q6 k z.1).elim (h1.fo k hk) (fun q => by have := (h1.gf k hk).2; omega)
  · exact fun k hk z => (q7 k hk).elim (fun q => h1.vf k q z) (fun q => by have := (h1.gf k z).2; omega)
  · rw [← q5, List.length_drop]; omega
/-- What a call hands out: the frames, in memory of their own. -/
theorem ss_hand {G : Nat → Prop} {w : World} {S B : Nat} {ys : List Int} {most j l : Nat} {fv : Value} {L : List FrM} (h : SS G w S B ys most j l fv L) :
    Calls Tryd.prog 20 #[.pointer (some ⟨S, 0, none⟩)] w fun r w' => ∃ fa fc, fv = .slice fa L.length fc ∧ r = .returned fv ∧ (∃ Q F : Nat → Prop, SS Q w' S B ys most j l (.slice none 0 0) [] ∧ FrL F w' fv L ∧ (∀ k, Q k → G k ∧ k < w'.heap.size) ∧ (∀ k, F k → G k ∧ k < w'.heap.size) ∧ ∀ k, F k → ¬ Q k) ∧ Gr G w w' := by
  obtain ⟨T, v, xs, a, O, F, u, M, h1, rfl, h3⟩ := h
  obtain ⟨fa, fc, hfv⟩ := (own_shape h1.fr.own).1
  have hsp := h1.sp
  rw [hfv] at hsp
  refine (handOut_c S T a xs.length most j l fa L.length fc w hsp).mono ?_
  rintro r w' ⟨q1, q2, q3⟩
  have hG : Gr (fun k => k = S) w w' := Gr.of q3 (fun k hk => .inl (by cases hk; rfl))
  have hsz := hG.size
  have hSw := lt_of_block h1.sp
  refine ⟨fa, fc, hfv, by rw [q1, hfv], ⟨fun k => k = S ∨ O k ∨ v.ownBlock = some k, F, ⟨T, v, xs, a, O, fun _ => False, u, M, ⟨q2, h1.st.gr hG ?_, frl_nil _ _, h1.le, ?_, fun k hk => .inr (.inr hk), fun k hk => hk.elim, .inl rfl, h1.os, fun z => z, h1.vs, fun k hk => hk.elim, fun k _ z => z⟩, rfl, h3⟩, h1.fr.gr hG (fun k hk e => h1.fs (e ▸ hk)), ?_, ?_, ?_⟩, hG.wide (fun k _ e => e ▸ h1.gs)⟩
  · rintro k (z | z) rfl
    · exact h1.os z
    · exact h1.vs z
  · exact fun k hk => ⟨.inr (.inl hk), by have := (h1.go k hk).2; omega⟩
  · rintro k (rfl | z | z)
    · exact ⟨h1.gs, by omega⟩
    · exact ⟨(h1.go k z).1, by have := (h1.go k z).2; omega⟩
    · exact ⟨h1.gv k z, by have := (own_lt h1.st.ob k z).2; omega⟩
  · exact fun k hk => ⟨(h1.gf k hk).1, by have := (h1.gf k hk).2; omega⟩
  · rintro k hk (rfl | z | z)
    · exact h1.fs hk
    · exact h1.fo k hk z
    · exact h1.vf k z hk
theorem ss_new {w w' : World} {S T most : Nat} (h : Sp w' S T 0 0 most 0 0 (.slice none 0 0)) (ht : Bk 49 w' T #[.slice none 0 0, .slice none 0 0]) (h1 : w.heap.size ≤ T) (h2 : T < S) : SS (fun k => w.heap.size ≤ k) w' S 0 [] most 0 0 (.slice none 0 0) [] := by
  have hT := lt_of_block ht
  refine ⟨T, .slice none 0 0, [], 0, fun k => k = T, fun _ => False, .slice none 0 0, 0, ⟨h, ⟨ht, own_nil _ _, World.ownsRow_nil _ _ _ _, .inl rfl, ?_, by simp [Value.ownBlock], by simp [Value.ownBlock], fun k hk => (by cases hk), rfl, fun k hk => (by cases hk), fun k hk => (by cases hk)⟩, frl_nil _ _, Nat.le_refl _, fun k hk => ⟨by rw [hk]; exact h1, by rw [hk]; exact hT⟩, fun k hk => (by cases hk), fun k hk => hk.elim, by show w.heap.size ≤ S; omega, fun e => by have e' : S = T := e; omega, fun z => z, by simp [Value.ownBlock], fun k hk => hk.elim, fun k hk => (by cases hk)⟩, rfl, Nat.le_refl _⟩
  intro i hi
  simp at hi
/-- A Splitter that has seen all that it can. -/
def Idle (most : Nat) (ys : List Int) : Prop := fseen most false ys = ⟨[], 0, 0, ys⟩
theorem idle_rest (most : Nat) (xs : List Int) : Idle most (fseen most false xs).rest := by
  have h := fseen_app most _ xs (Nat.le_refl _) []
  rw [List.append_nil, List.append_nil] at h
  generalize fseen most false xs = s at h ⊢
  obtain ⟨f, j, l, r⟩ := s
  unfold Idle
  simp only at h ⊢
  generalize fseen most false r = s2 at h ⊢
  obtain ⟨f2, j2, l2, r2⟩ := s2
  simp only [Seen.add, Seen.mk.injEq] at h
  obtain ⟨e1, e2, e3, e4⟩ := h
  have e5 : f2 = [] := by have := congrArg List.length e1; rw [List.length_append] at this; exact List.length_eq_zero_iff.1 (by omega)
  have e6 : j2 = 0 := by omega
  have e7 : l2 = 0 := by omega
  rw [e5, e6, e7, ← e4]
theorem idle_nil (most : Nat) : Idle most [] := fseen_nil most false
end Go.Proofs.YtbfbehjldloeoaaDoor
