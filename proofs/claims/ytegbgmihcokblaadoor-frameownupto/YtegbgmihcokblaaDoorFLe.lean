/-
  Frames that came in, behind frames of one's own; what a Splitter finds of frames that were laid down behind other bytes. No condition of its own.
-/
import Derived.Test.YtegbgmihcokblaaDoorFLd
import Derived.Laws.OwnMore
namespace Go.Proofs.YtegbgmihcokblaaDoor
set_option linter.unusedVariables false
open Go.RowKit Go.WideShapes Go.ChangeShapes

theorem Frs.below {w w' : World} {a : Option Addr} {n : Nat} {X : List FrM} (h : Frs w a n X) (hb : Below w.heap.size w w') : Frs w' a n X := by
  refine ⟨h.1, fun f hf => (h.2.1 f hf).below hb, ?_⟩
  rcases h.2.2 with h0 | ⟨b, off, ha, hlt, hr⟩
  · exact .inl h0
  · have := hb.size
    exact .inr ⟨b, off, ha, by omega, fun i v hv => (hb.cell (p := ⟨b, off + i, none⟩) hlt).trans (hr i v hv)⟩
theorem frb_one {w : World} {f : FrM} (h : FrB w f) : f.u.oneCell' = true := by
  obtain ⟨ua, uc, e, _⟩ := h.sg
  rw [e]; rfl
theorem wpList_moreF {ops : Array Oper} {rest : List Oper} {o : Oper} {a : Act} {Q : Exit → Act → World → Prop} (hgd : o.guard = none) (s x : Operand)
    (ho : o.op = .call { callee := .builtin .append, args := #[s, x], argTypes := #[31, 31] }) (w : World) (B : Nat) (v : Value) (S X : List FrM) (xa : Option Addr) (n xc : Nat) (hs : a.eval s = v) (hx : a.eval x = .slice xa n xc) (h : w.ownsRow B 42 2 v S.length (flF S)) (hX : Frs w xa n X) (hnz : xa = none → xc = 0) (hn : (S.length + n) * 32 ≤ 140737488355328) (hB : B ≤ w.heap.size)
    (K : ∀ v' w', w'.ownsRow B 42 2 v' (S ++ X).length (flF (S ++ X)) → w.grownBy w' v.ownBlock → (v'.ownBlock = v.ownBlock ∨ v'.ownBlock = some w.heap.size) → wpList Tryd.prog ops Q rest (a.put o.dst v') w') :
    wpList Tryd.prog ops Q (o :: rest) a w := by
  obtain ⟨i, hi, hz, h4, h5⟩ := info_parts' Tryd.infoFrm
  have hl := hX.1
  cases xa with
  | none =>
    have hc0 := hnz rfl
    have hn0 : n = 0 := by
      rcases hX.2.2 with h0 | ⟨b, off, ha, _⟩
      · exact h0
      · cases ha
    subst hc0 hn0
    have hX0 : X = [] := List.length_eq_zero_iff.1 hl
    subst hX0
    refine wpList_append_own_none hgd s x 31 ho B 42 i 2 Tryd.underlying31 hi v S.length (flF S) hs h hx ?_
    exact K v w (by rw [List.append_nil]; exact h) ⟨rfl, rfl, rfl, Nat.le_refl _, fun _ _ _ => rfl⟩ (.inl rfl)
  | some ad =>
    refine wpList_append_own_at _ hgd s x 31 ho B 42 i (.agg #[.int .i64 0, .slice none 0 0]) 2 32 Tryd.underlying31 hi hz h4 h5 rfl (by decide) v S.length (flF S) hs h ad n xc (flF X) hx (by rw [flF_len, hl]) (fun j v' hv' => ?_) (fun y hy => ?_) (by unfold maxLen; omega) (by omega) hB ?_
    · rcases hX.2.2 with h0 | ⟨b, off, ha, _, hc⟩
      · have := (List.getElem?_eq_some_iff.1 hv').1
        rw [flF_len] at this
        omega
      · cases ha
        rw [add_plain]
        exact hc j v' hv'
    · unfold flF at hy
      obtain ⟨f, hf, hu⟩ := List.mem_flatMap.1 hy
      simp only [List.mem_cons, List.not_mem_nil, or_false] at hu
      rcases hu with rfl | rfl
      · rfl
      · exact frb_one (hX.2.1 f hf)
    · intro v' w' k1 k2 _ k4
      exact K v' w' (by rw [List.length_append, flF_app, hl]; exact k1) k2 k4
/-- A list of one frame that was just made. -/
theorem own_newF (w : World) (B : Nat) (t : Int) (u : Value) (ys : List Int) (hB : B ≤ w.heap.size) : (w.alloc (.cells #[.int .i64 t, u] 42)).ownsRow B 42 2 (.slice (some ⟨w.heap.size, 0, none⟩) 1 1) [(⟨t, ys, u⟩ : FrM)].length (flF [⟨t, ys, u⟩]) :=
  World.ownsRow_lit w #[.int .i64 t, u] 1 hB (by decide) rfl
theorem rdl_of {w : World} {B : Nat} {v : Value} {L : List FrM} (h : w.ownsRow B 42 2 v L.length (flF L)) (hf : ∀ f ∈ L, FrB w f) : RdL w v L := ⟨own_base0 h, fun f z => by
  obtain ⟨ua, uc, e, hs, _⟩ := (hf f z).sg
  exact ⟨ua, uc, e, hs⟩⟩
theorem fseen_encs (most : Nat) (S : List FrM) (h : ∀ f ∈ S, fkeep most f = true) (ys : List Int) : fseen most false (fencs S ++ ys) = Seen.add (S.map FrM.fr) 0 0 (fseen most false ys) := by
  induction S with
  | nil => exact (Seen.add_none _).symm
  | cons f S ih =>
    have hk := h f (by simp)
    unfold fkeep at hk
    rw [Bool.and_eq_true] at hk
    have hm : 1 ≤ f.t ∧ f.t ≤ 255 ∧ f.ys.length ≤ 1048576 := of_decide_eq_true hk.1
    have hle : f.ys.length ≤ most := of_decide_eq_true hk.2
    have e : fencs (f :: S) = fenc f.t f.ys ++ fencs S := rfl
    rw [e, List.append_assoc, fseen_found most false f.t f.ys _ hm.1 hm.2.1 hm.2.2 hle, ih (fun g hg => h g (by simp [hg])), Seen.add_add]
    rfl
theorem fseen_laid (most : Nat) (S : List FrM) (h : ∀ f ∈ S, fkeep most f = true) (js : List Int) (hj : ∀ z ∈ js, z ≠ 72) : fseen most false (js ++ fencs S) = ⟨S.map FrM.fr, js.length, 0, []⟩ := by
  have e := fseen_encs most S h []
  rw [List.append_nil, fseen_nil] at e
  rw [fseen_junk most false js _ hj, e]
  simp [Seen.add]
theorem fencs_bytes (most : Nat) (S : List FrM) (h : ∀ f ∈ S, fkeep most f = true) (hb : ∀ f ∈ S, Bytes f.ys) : Bytes (fencs S) := by
  induction S with
  | nil => exact fun i hi => absurd hi (by simp [fencs])
  | cons f S ih =>
    have hk := h f (by simp)
    unfold fkeep at hk
    rw [Bool.and_eq_true] at hk
    have hm : 1 ≤ f.t ∧ f.t ≤ 255 ∧ f.ys.length ≤ 1048576 := of_decide_eq_true hk.1
    exact bytes_append (fenc_bytes (by omega) (by omega) (hb f (by simp))) (ih (fun g hg => h g (by simp [hg])) (fun g hg => hb g (by simp [hg])))
theorem fgood_keep (most : Nat) (L : List FrM) : ∀ f ∈ fgood most L, fkeep most f = true ∧ f ∈ L := fun f hf => by
  unfold fgood at hf
  exact ⟨(List.mem_filter.1 hf).2, (List.mem_filter.1 hf).1⟩
theorem fsz_frsW (X : List FrM) : fsz X ≤ 14 * frsW X := by
  induction X with
  | nil => simp [fsz]
  | cons f X ih => unfold fsz frsW at *; simp; omega
end Go.Proofs.YtegbgmihcokblaaDoor
