/-
  A Splitter with all that it holds, as plain data, and its steps. Condition: at most 2^40 bytes and frames.
-/
import Derived.Test.YtbfbehjldloeoaaDoorFTk
namespace Go.Proofs.YtbfbehjldloeoaaDoor
set_option linter.unusedVariables false
open Go.RowKit

/-- A Splitter in memory, with the frames that it has found: all blocks are G's. -/
structure Inn (G : Nat → Prop) (w : World) (S T : Nat) (v : Value) (xs : List Int) (a most j l : Nat) (fv : Value) (L : List FrM) (O F : Nat → Prop) (u : Value) (M : Nat) : Prop where
  sp : Sp w S T (a : Nat) (xs.length : Nat) (most : Nat) (j : Nat) (l : Nat) fv
  st : Str O w T v u xs M
  fr : FrL F w fv L
  le : a ≤ xs.length
  go : ∀ k, O k → G k ∧ k < w.heap.size
  gv : ∀ k, v.ownBlock = some k → G k
  gf : ∀ k, F k → G k ∧ k < w.heap.size
  gs : G S
  os : ¬ O S
  fs : ¬ F S
  vs : v.ownBlock ≠ some S
  fo : ∀ k, F k → ¬ O k
  vf : ∀ k, v.ownBlock = some k → ¬ F k
theorem Inn.weak {G G' : Nat → Prop} {w : World} {S T : Nat} {v : Value} {xs : List Int} {a most j l : Nat} {fv : Value} {L : List FrM} {O F : Nat → Prop} {u : Value} {M : Nat} (h : Inn G w S T v xs a most j l fv L O F u M) (hw : ∀ k, k < w.heap.size → G k → G' k) : Inn G' w S T v xs a most j l fv L O F u M :=
  { h with go := fun k hk => ⟨hw k (h.go k hk).2 (h.go k hk).1, (h.go k hk).2⟩, gv := fun k hk => hw k (own_lt h.st.ob k hk).2 (h.gv k hk), gf := fun k hk => ⟨hw k (h.gf k hk).2 (h.gf k hk).1, (h.gf k hk).2⟩, gs := hw S (lt_of_block h.sp) h.gs }
/-- What lies elsewhere may change. -/
theorem Inn.gr {G G2 : Nat → Prop} {w w' : World} {S T : Nat} {v : Value} {xs : List Int} {a most j l : Nat} {fv : Value} {L : List FrM} {O F : Nat → Prop} {u : Value} {M : Nat} (h : Inn G w S T v xs a most j l fv L O F u M) (hg : Gr G2 w w') (hn : ∀ k, G k → ¬ G2 k) : Inn G w' S T v xs a most j l fv L O F u M :=
  { h with sp := Sp.gr h.sp hg (hn S h.gs), st := h.st.gr hg (fun k hk => hk.elim (fun z => hn k (h.go k z).1) (fun z => hn k (h.gv k z))), fr := h.fr.gr hg (fun k hk => hn k (h.gf k hk).1), go := fun k hk => ⟨(h.go k hk).1, Nat.lt_of_lt_of_le (h.go k hk).2 hg.size⟩, gf := fun k hk => ⟨(h.gf k hk).1, Nat.lt_of_lt_of_le (h.gf k hk).2 hg.size⟩ }
theorem inn_meets {G : Nat → Prop} {w : World} {S T : Nat} {v : Value} {xs : List Int} {a most j l : Nat} {fv : Value} {L : List FrM} {O F : Nat → Prop} {u : Value} {M : Nat} (h : Inn G w S T v xs a most j l fv L O F u M) (hup : ∀ k, w.heap.size ≤ k → G k) (ht : Tab w) (h0 : ¬ G 0) (hm : most ≤ 1048576) (hl : xs.length ≤ 1099511627776) :
    Calls Tryd.prog 33 #[.pointer (some ⟨S, 0, none⟩)] w fun r w' => r = .returned (.int .i64 ((fmeet most (xs.drop a) : Nat) : Int)) ∧ (∃ O' u' M', Inn G w' S T v xs a most j l fv L O' F u' M') ∧ Gr G w w' := by
  have hz : ¬ O 0 := fun z => h0 (h.go 0 z).1
  refine (meets_c O S T v u xs M a most j l fv w h.sp h.st h.os ht hz h.le hm hl).mono ?_
  rintro r w' ⟨q1, u', M', q2, q3⟩
  have hSw := lt_of_block h.sp
  have hsz := q3.size
  refine ⟨q1, ⟨fun k => (O k ∨ w.heap.size ≤ k) ∧ k < w'.heap.size, u', M', ?_⟩, q3.wide (fun k _ hk => (h.go k hk).1)⟩
  refine ⟨Sp.gr h.sp q3 h.os, q2.weak (fun k hk z => ⟨z, hk⟩) (fun k hk z z2 => z z2.1), h.fr.gr q3 (fun k hk => h.fo k hk), h.le, fun k hk => ⟨hk.1.elim (fun z => (h.go k z).1) (hup k), hk.2⟩, h.gv, fun k hk => ⟨(h.gf k hk).1, by have := (h.gf k hk).2; omega⟩, h.gs, fun z => z.1.elim h.os (fun q => by omega), h.fs, h.vs, fun k hk z => z.1.elim (h.fo k hk) (fun q => by have := (h.gf k hk).2; omega), h.vf⟩
theorem inn_find {G : Nat → Prop} {w : World} {S T : Nat} {v : Value} {xs : List Int} {a most j l : Nat} {fv : Value} {L : List FrM} {O F : Nat → Prop} {u : Value} {M : Nat} (h : Inn G w S T v xs a most j l fv L O F u M) (hup : ∀ k, w.heap.size ≤ k → G k) (hm : most ≤ 1048576) (hl : xs.length ≤ 1099511627776) (hc : L.length ≤ 1099511627776) (hf : fmeet most (xs.drop a) = 0) :
    Calls Tryd.prog 28 #[.pointer (some ⟨S, 0, none⟩)] w fun r w' => r = .returned (.bool true) ∧ (∃ fv' f F', f.fr = ((xs.drop a)[2]?.getD 0, fbody (xs.drop a)) ∧ Inn G w' S T v xs (a + (flen (xs.drop a) + 14)) most j l fv' (L ++ [f]) O F' u M) ∧ Gr G w w' := by
  refine (find_c O F S T v u xs M a most j l fv L w h.sp h.st h.fr h.fs h.vf (fun z => h.fo T z h.st.oT) h.le hm hl hc hf).mono ?_
  rintro r w' ⟨q1, ⟨fv', f, q2, q3, q4⟩, q5⟩
  have hSw := lt_of_block h.sp
  have hsz := q5.size
  have hfl : flen (xs.drop a) + 14 ≤ (xs.drop a).length := (fbeg_ok (fmeet_ok hf).1).2.2.2.2
  rw [List.length_drop] at hfl
  refine ⟨q1, ⟨fv', f, fun k => (F k ∨ w.heap.size ≤ k) ∧ k < w'.heap.size, q2, ?_⟩, q5.wide (fun k _ hk => hk.elim (fun e => e ▸ h.gs) (fun z => (h.gf k (h.fr.fv k z)).1))⟩
  refine ⟨q3, h.st.gr q5 (fun k hk z => ?_), q4.weak (fun k hk z => ⟨z, hk⟩), by omega, fun k hk => ⟨(h.go k hk).1, by have := (h.go k hk).2; omega⟩, h.gv, fun k hk => ⟨hk.1.elim (fun z => (h.gf k z).1) (hup k), hk.2⟩, h.gs, h.os, fun z => z.1.elim h.fs (fun q => by omega), h.vs, fun k hk z => hk.1.elim (fun q => h.fo k q z) (fun q => by have := (h.go k z).2; omega), fun k hk z => z.1.elim (h.vf k hk) (fun q => by have := (own_lt h.st.ob k hk).2; omega)⟩
  rcases z with e | e
  · rcases hk with q | q
    · exact h.os (e ▸ q)
    · exact h.vs (e ▸ q)
  · rcases hk with q | q
    · exact h.fo k (h.fr.fv k e) q
    · exact h.vf k q (h.fr.fv k e)
theorem inn_set {G : Nat → Prop} {w w' : World} {S T : Nat} {v : Value} {xs : List Int} {a a' most j j' l l' : Nat} {fv : Value} {L : List FrM} {O F : Nat → Prop} {u : Value} {M : Nat} (h : Inn G w S T v xs a most j l fv L O F u M) (hs : Sp w' S T (a' : Nat) (xs.length : Nat) (most : Nat) (j' : Nat) (l' : Nat) fv) (hg : w.grownBy w' (some S)) (ha : a' ≤ xs.length) :
    Inn G w' S T v xs a' most j' l' fv L O F u M ∧ Gr G w w' := by
  have hG : Gr (fun k => k = S) w w' := Gr.of hg (fun k hk => .inl (by cases hk; rfl))
  have hsz := hg.size
  refine ⟨⟨hs, h.st.gr hG (fun k hk e => ?_), h.fr.gr hG (fun k hk e => h.fs (e ▸ hk)), ha, fun k hk => ⟨(h.go k hk).1, by have := (h.go k hk).2; omega⟩, h.gv, fun k hk => ⟨(h.gf k hk).1, by have := (h.gf k hk).2; omega⟩, h.gs, h.os, h.fs, h.vs, h.fo, h.vf⟩, hG.wide (fun k _ e => e ▸ h.gs)⟩
  rcases hk with q | q
  · exact h.os (e ▸ q)
  · exact h.vs (e ▸ q)
theorem inn_skip {G : Nat → Prop} {w : World} {S T : Nat} {v : Value} {xs : List Int} {a most j l : Nat} {fv : Value} {L : List FrM} {O F : Nat → Prop} {u : Value} {M : Nat} (h : Inn G w S T v xs a most j l fv L O F u M) (hl : xs.length ≤ 1099511627776) (ha : a < xs.length) (hj : j ≤ 4611686018427387904) :
    Calls Tryd.prog 21 #[.pointer (some ⟨S, 0, none⟩)] w fun r w' => r = .returned (.bool true) ∧ Inn G w' S T v xs (a + 1) most (j + 1) l fv L O F u M ∧ Gr G w w' := by
  refine (skip_c S T a xs.length most j l fv w h.sp ⟨by omega, by omega⟩ ⟨by omega, by omega⟩).mono ?_
  rintro r w' ⟨q1, q2, q3⟩
  exact ⟨q1, inn_set h (by push_cast; exact q2) q3 ha⟩
theorem inn_lose {G : Nat → Prop} {w : World} {S T : Nat} {v : Value} {xs : List Int} {a most j l : Nat} {fv : Value} {L : List FrM} {O F : Nat → Prop} {u : Value} {M : Nat} (h : Inn G w S T v xs a most j l fv L O F u M) (hl : xs.length ≤ 1099511627776) (ha : a < xs.length) (hj : j ≤ 4611686018427387904) (hlo : l ≤ 4611686018427387904) :
    Calls Tryd.prog 30 #[.pointer (some ⟨S, 0, none⟩)] w fun r w' => r = .returned (.bool true) ∧ Inn G w' S T v xs (a + 1) most (j + 1) (l + 1) fv L O F u M ∧ Gr G w w' := by
  refine (lose_c S T a xs.length most j l fv w h.sp ⟨by omega, by omega⟩ ⟨by omega, by omega⟩ ⟨by omega, by omega⟩).mono ?_
  rintro r w' ⟨q1, q2, q3⟩
  exact ⟨q1, inn_set h (by push_cast; exact q2) q3 ha⟩
/-- How far the walk has come: what is seen of the rest, and what was found, junk and lost till there. -/
def WI (most : Nat) (e : Bool) (xs : List Int) (a0 j0 l0 : Nat) (L0 : List FrM) (a j l : Nat) (L : List FrM) : Prop :=
  ∃ D jd ld, L = L0 ++ D ∧ j = j0 + jd ∧ l = l0 + ld ∧ fseen most e (xs.drop a0) = Seen.add (D.map FrM.fr) jd ld (fseen most e (xs.drop a))
theorem wi_start (most : Nat) (e : Bool) (xs : List Int) (a j l : Nat) (L : List FrM) : WI most e xs a j l L a j l L := ⟨[], 0, 0, by simp, rfl, rfl, (Seen.add_none _).symm⟩
theorem wi_find {most : Nat} {e : Bool} {xs : List Int} {a0 j0 l0 a j l : Nat} {L0 L : List FrM} {f : FrM} (h : WI most e xs a0 j0 l0 L0 a j l L) (ha : a < xs.length) (hf : fmeet most (xs.drop a) = 0) (hr : f.fr = ((xs.drop a)[2]?.getD 0, fbody (xs.drop a))) : WI most e xs a0 j0 l0 L0 (a + (flen (xs.drop a) + 14)) j l (L ++ [f]) := by
  obtain ⟨D, jd, ld, rfl, rfl, rfl, h4⟩ := h
  refine ⟨D ++ [f], jd, ld, by rw [List.append_assoc], rfl, rfl, ?_⟩
  have hne : xs.drop a ≠ [] := fun z => by have := congrArg List.length z; simp at this; omega
  rw [h4, fseen_step most e (xs.drop a) hne, if_pos hf, Seen.add_add, List.map_append, List.drop_drop, Nat.add_zero, Nat.add_zero]
  rw [show [f].map FrM.fr = [((xs.drop a)[2]?.getD 0, fbody (xs.drop a))] from by rw [← hr]; rfl]
theorem wi_skip {most : Nat} {e : Bool} {xs : List Int} {a0 j0 l0 a j l : Nat} {L0 L : List FrM} (h : WI most e xs a0 j0 l0 L0 a j l L) (ha : a < xs.length) (h0 : fmeet most (xs.drop a) ≠ 0) (h4 : ¬ (fmeet most (xs.drop a) = 40 ∧ e = false)) (h5 : fmeet most (xs.drop a) ≠ 44) : WI most e xs a0 j0 l0 L0 (a + 1) (j + 1) l L := by
  obtain ⟨D, jd, ld, rfl, rfl, rfl, h6⟩ := h
  refine ⟨D, jd + 1, ld, rfl, rfl, rfl, ?_⟩
  have hne : xs.drop a ≠ [] := fun z => by have := congrArg List.length z; simp at this; omega
  rw [h6, fseen_step most e (xs.drop a) hne, if_neg h0, if_neg h4, if_neg h5, Seen.add_add, List.drop_drop, List.append_nil]
  rfl
theorem wi_lose {most : Nat} {e : Bool} {xs : List Int} {a0 j0 l0 a j l : Nat} {L0 L : List FrM} (h : WI most e xs a0 j0 l0 L0 a j l L) (ha : a < xs.length) (h5 : fmeet most (xs.drop a) = 44) : WI most e xs a0 j0 l0 L0 (a + 1) (j + 1) (l + 1) L := by
  obtain ⟨D, jd, ld, rfl, rfl, rfl, h6⟩ := h
  refine ⟨D, jd + 1, ld + 1, rfl, rfl, rfl, ?_⟩
  have hne : xs.drop a ≠ [] := fun z => by have := congrArg List.length z; simp at this; omega
  rw [h6, fseen_step most e (xs.drop a) hne, if_neg (by omega), if_neg (fun z => by omega), if_pos h5, Seen.add_add, List.drop_drop, List.append_nil]
/-- The walk's end. -/
def WE (most : Nat) (e : Bool) (xs : List Int) (a0 j0 l0 : Nat) (L0 : List FrM) (a j l : Nat) (L : List FrM) : Prop :=
  ∃ D, L = L0 ++ D ∧ D.map FrM.fr = (fseen most e (xs.drop a0)).frames ∧ j = j0 + (fseen most e (xs.drop a0)).junk ∧ l = l0 + (fseen most e (xs.drop a0)).lost ∧ xs.drop a = (fseen most e (xs.drop a0)).rest
theorem we_all {most : Nat} {e : Bool} {xs : List Int} {a0 j0 l0 a j l : Nat} {L0 L : List FrM} (h : WI most e xs a0 j0 l0 L0 a j l L) (ha : ¬ a < xs.length) : WE most e xs a0 j0 l0 L0 a j l L := by
  obtain ⟨D, jd, ld, rfl, rfl, rfl, h6⟩ := h
  have hn : xs.drop a = [] := List.drop_eq_nil_of_le (by omega)
  rw [hn, fseen_nil] at h6
  refine ⟨D, rfl, ?_, ?_, ?_, ?_⟩ <;> rw [h6]
  · simp [Seen.add]
  · simp [Seen.add]
  · simp [Seen.add]
  · rw [hn]; rfl
theorem we_wait {most : Nat} {xs : List Int} {a0 j0 l0 a j l : Nat} {L0 L : List FrM} (h : WI most false xs a0 j0 l0 L0 a j l L) (ha : a < xs.length) (h4 : fmeet most (xs.drop a) = 40) : WE most false xs a0 j0 l0 L0 a j l L := by
  obtain ⟨D, jd, ld, rfl, rfl, rfl, h6⟩ := h
  have hne : xs.drop a ≠ [] := fun z => by have := congrArg List.length z; simp at this; omega
  rw [fseen_step most false (xs.drop a) hne, if_neg (by omega), if_pos ⟨h4, rfl⟩] at h6
  refine ⟨D, rfl, ?_, ?_, ?_, ?_⟩ <;> rw [h6]
  · simp [Seen.add]
  · simp [Seen.add]
  · simp [Seen.add]
  · rfl
theorem fmeet_six (most : Nat) (xs : List Int) : fmeet most xs = 0 ∨ fmeet most xs = 40 ∨ fmeet most xs = 41 ∨ fmeet most xs = 42 ∨ fmeet most xs = 43 ∨ fmeet most xs = 44 := by
  unfold fmeet fbeg
  repeat' split
  all_goals simp
end Go.Proofs.YtbfbehjldloeoaaDoor
