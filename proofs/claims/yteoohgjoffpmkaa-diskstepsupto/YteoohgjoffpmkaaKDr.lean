/-
  What disk's Size, Read, Pending, Acts, Free, Down answer, and what Fail and Start do. Condition: a name has at most 2^47 bytes.
-/
import Derived.Test.YteoohgjoffpmkaaKDt
import Derived.Laws.Small
namespace Go.Proofs.Yteoohgjoffpmkaa
open Go.RowKit
set_option linter.unusedVariables false

theorem DkM.below {G : Nat → Prop} {w w' : World} {g D} (h : DkM G w g D) (hb : Below w.heap.size w w') : DkM G w' g D := h.gr (G' := fun _ => False) (Gr.ofB hb) (fun _ _ z => z)
/-- What is asked of a file: how it is answered. -/
def flE (D : Dk) (n : ByteArray) : Int := if rdE D [n] ≠ 0 then rdE D [n] else if (D.seen n).isSome then 0 else 121
def flX (D : Dk) (n : ByteArray) : List Int := if rdE D [n] ≠ 0 then [] else (D.seen n).getD []
theorem find_any {w : World} {g s l st V U vs Os Ol Od D n r x1} (h : DkI w g s l st V U vs Os Ol Od D) (hx : FindA w V D n r x1) : ∃ a c, r = .returned (.tuple #[.slice a (flX D n).length c, .int .i64 (flE D n)]) ∧ Seg .u8 x1 a (flX D n).length (flX D n) ∧ (a = none → c = 0) := by
  by_cases he : rdE D [n] = 0
  · cases hs : D.seen n with
    | none =>
      have e1 : flX D n = [] := by simp [flX, hs]
      have e2 : flE D n = 121 := by simp [flE, he, hs]
      rw [e1, e2]
      exact ⟨none, 0, find_not h hx he hs, ⟨rfl, .inl rfl⟩, fun _ => rfl⟩
    | some xs =>
      have e1 : flX D n = xs := by simp [flX, he, hs]
      have e2 : flE D n = 0 := by simp [flE, he, hs]
      rw [e1, e2]
      rcases hx.2 with q | q | ⟨_, v, q2, q3⟩
      · exact absurd he q.1
      · rw [hs] at q; cases q.2.1
      · obtain ⟨zs, q5, q4, _⟩ := (h.below hx.1).seen.is n v q2
        rw [hs] at q5; cases q5
        obtain ⟨a2, c2, rfl, h4, h5, _⟩ := q4.seg
        exact ⟨a2, c2, q3, h4, h5⟩
  · have e1 : flX D n = [] := by simp [flX, he]
    have e2 : flE D n = rdE D [n] := by simp [flE, he]
    rw [e1, e2]
    exact ⟨none, 0, find_bad hx he, ⟨rfl, .inl rfl⟩, fun _ => rfl⟩
theorem sizeA_c {G : Nat → Prop} (n : ByteArray) (w : World) (g : Nat) (D : Dk) (h : DkM G w g D) (hl : n.size ≤ 140737488355328) :
    Calls Try.prog 72 #[.pointer (some ⟨g, 0, none⟩), .string n] w fun r w' => r = .returned (.tuple #[.int .i64 ((flX D n).length : Int), .int .i64 (flE D n)]) ∧ Below w.heap.size w w' := by
  obtain ⟨s, l, st, V, U, vs, Os, Ol, Od, h, hG⟩ := h
  have HR : Hid (Calls Try.prog 65 #[.pointer (some ⟨g, 0, none⟩), .string n] w (FindA w V D n)) := findA_c n w h hl
  have HF : Hid (∀ r x1, FindA w V D n r x1 → ∃ a c, r = .returned (.tuple #[.slice a (flX D n).length c, .int .i64 (flE D n)])) := fun r x1 hx => by obtain ⟨a, c, e, _⟩ := find_any h hx; exact ⟨a, c, e⟩
  clear h hG hl
  generalize flE D n = E at HF
  generalize (flX D n).length = m at HF
  go_enter Try.func72, Try.ntmps72
  go_wp2_with (go_at_call 65; go_must (refine (Calls.mono HR.out ?_)); rintro r x1 hx; have H1 : Hid (Below w.heap.size w x1) := hx.1; obtain ⟨a2, c2, hrr⟩ := HF.out r x1 hx; subst hrr; clear hx)
  go_ret2
  exact ⟨rfl, H1.out⟩
theorem readA_c {G : Nat → Prop} (n : ByteArray) (w : World) (g : Nat) (D : Dk) (h : DkM G w g D) (hd : Dok D) (hl : n.size ≤ 140737488355328) :
    Calls Try.prog 30 #[.pointer (some ⟨g, 0, none⟩), .string n] w fun r w' => ∃ a c, r = .returned (.tuple #[.slice a (flX D n).length c, .int .i64 (flE D n)]) ∧ Own w.heap.size w' (.slice a (flX D n).length c) (flX D n).length (flX D n) ∧ Below w.heap.size w w' := by
  obtain ⟨s, l, st, V, U, vs, Os, Ol, Od, h, hG⟩ := h
  have HR : Hid (Calls Try.prog 65 #[.pointer (some ⟨g, 0, none⟩), .string n] w (FindA w V D n)) := findA_c n w h hl
  have HF : Hid (∀ r x1, FindA w V D n r x1 → ∃ a c, r = .returned (.tuple #[.slice a (flX D n).length c, .int .i64 (flE D n)]) ∧ Seg .u8 x1 a (flX D n).length (flX D n) ∧ (a = none → c = 0)) := fun r x1 hx => find_any h hx
  have hln : (flX D n).length ≤ 67108864 := by
    unfold flX
    split
    · simp
    · cases hs : D.seen n with
      | none => simp
      | some xs => exact (hd.bnd n xs hs).1
  have HLN : Hid ((flX D n).length ≤ 140737488355328) := by show _ ≤ _; omega
  have HZ : Hid (flE D n ≠ 0 → flX D n = []) := by
    show _ → _
    intro he
    unfold flE at he
    unfold flX
    by_cases h1 : rdE D [n] = 0
    · rw [if_neg (by simpa using h1)] at he ⊢
      cases hs : D.seen n with
      | none => rfl
      | some xs => rw [hs] at he; simp at he
    · rw [if_pos h1]
  clear h hG hl hd hln
  by_cases he : flE D n = 0
  · rw [he] at HF ⊢
    clear he HZ
    obtain ⟨X, hX⟩ : ∃ X, X = flX D n := ⟨_, rfl⟩
    rw [← hX] at HF HLN ⊢
    clear hX
    go_enter Try.func30, Try.ntmps30
    go_wp2_with (first
      | (go_at_call 65; go_must (refine (Calls.mono HR.out ?_)); rintro r x1 hx; obtain ⟨a2, c2, hrr, k2, k3⟩ := HF.out r x1 hx; have H1 : Hid (Below w.heap.size w x1 ∧ Seg .u8 x1 a2 X.length X ∧ (a2 = none → c2 = 0)) := ⟨hx.1, k2, k3⟩; subst hrr; clear hx k2 k3)
      | (go_at_call 39; go_must (refine (Calls.mono (kclone_c a2 X.length c2 X _ H1.out.2.1 HLN.out H1.out.2.2) ?_)); rintro r x2 ⟨a', c', rfl, k1, k2⟩; have H2 : Hid (Own w.heap.size x2 (.slice a' X.length c') X.length X ∧ Below w.heap.size w x2) := ⟨k1.base H1.out.1.size, H1.out.1.trans ⟨k2.os, k2.tape, k2.output, k2.size, fun j hj => k2.block j (Nat.lt_of_lt_of_le hj H1.out.1.size)⟩⟩; clear k1 k2))
    go_ret2
    exact ⟨a', c', rfl, H2.out.1, H2.out.2⟩
  · have e1 := HZ.out he
    rw [e1] at HF ⊢
    obtain ⟨E, hE⟩ : ∃ E, E = flE D n := ⟨_, rfl⟩
    have hb : (E == 0) = false := by rw [hE]; simpa using he
    rw [← hE] at HF ⊢
    clear hE he e1 HZ HLN
    go_enter Try.func30, Try.ntmps30
    go_wp2_with (go_at_call 65; go_must (refine (Calls.mono HR.out ?_)); rintro r x1 hx; obtain ⟨a2, c2, hrr, k2, k3⟩ := HF.out r x1 hx; have H1 : Hid (Below w.heap.size w x1) := hx.1; subst hrr; clear hx k2 k3)
    go_ret2
    exact ⟨none, 0, rfl, own_nil _ _, H1.out⟩
theorem made_m {G : Nat → Prop} {w : World} {g : Nat} {D : Dk} (h : DkM G w g D) : Calls Try.prog 53 #[.pointer (some ⟨g, 0, none⟩)] w fun r w' => r = .returned (.bool true) ∧ w' = w := by
  obtain ⟨s, l, st, V, U, vs, Os, Ol, Od, h, hG⟩ := h
  exact madeA_c g _ s w h.bk rfl
theorem DkM.cells {G : Nat → Prop} {w : World} {g : Nat} {D : Dk} (h : DkM G w g D) : w.cell? ⟨g, 1, none⟩ = some (.int .i64 (D.free : Int)) ∧ w.cell? ⟨g, 5, none⟩ = some (.int .i64 (scnts D.steps : Int)) ∧ w.cell? ⟨g, 6, none⟩ = some (.int .i64 (D.acts : Int)) ∧ w.cell? ⟨g, 8, none⟩ = some (.bool D.down) := by
  obtain ⟨s, l, st, V, U, vs, Os, Ol, Od, h, hG⟩ := h
  exact ⟨Bk.cell h.bk 1, Bk.cell h.bk 5, Bk.cell h.bk 6, Bk.cell h.bk 8⟩
theorem pendingA_c {G : Nat → Prop} (w : World) (g : Nat) (D : Dk) (h : DkM G w g D) : Calls Try.prog 19 #[.pointer (some ⟨g, 0, none⟩)] w fun r w' => r = .returned (.int .i64 (scnts D.steps : Int)) ∧ w' = w := by
  have HM : Hid _ := made_m h
  obtain ⟨_, c5, _, _⟩ := h.cells
  clear h
  go_enter Try.func19, Try.ntmps19
  go_wp2_with (go_at_call 53; go_must (refine (Calls.mono HM.out ?_)); rintro r wq ⟨rfl, hq⟩; obtain rfl := hq.symm; clear hq)
  go_ret
  exact ⟨rfl, rfl⟩
theorem actsA_c {G : Nat → Prop} (w : World) (g : Nat) (D : Dk) (h : DkM G w g D) : Calls Try.prog 50 #[.pointer (some ⟨g, 0, none⟩)] w fun r w' => r = .returned (.int .i64 (D.acts : Int)) ∧ w' = w := by
  have HM : Hid _ := made_m h
  obtain ⟨_, _, c6, _⟩ := h.cells
  clear h
  go_enter Try.func50, Try.ntmps50
  go_wp2_with (go_at_call 53; go_must (refine (Calls.mono HM.out ?_)); rintro r wq ⟨rfl, hq⟩; obtain rfl := hq.symm; clear hq)
  go_ret
  exact ⟨rfl, rfl⟩
theorem freeA_c {G : Nat → Prop} (w : World) (g : Nat) (D : Dk) (h : DkM G w g D) : Calls Try.prog 27 #[.pointer (some ⟨g, 0, none⟩)] w fun r w' => r = .returned (.int .i64 (D.free : Int)) ∧ w' = w := by
  have HM : Hid _ := made_m h
  obtain ⟨c1, _, _, _⟩ := h.cells
  clear h
  go_enter Try.func27, Try.ntmps27
  go_wp2_with (go_at_call 53; go_must (refine (Calls.mono HM.out ?_)); rintro r wq ⟨rfl, hq⟩; obtain rfl := hq.symm; clear hq)
  go_ret
  exact ⟨rfl, rfl⟩
theorem downA_c {G : Nat → Prop} (w : World) (g : Nat) (D : Dk) (h : DkM G w g D) : Calls Try.prog 25 #[.pointer (some ⟨g, 0, none⟩)] w fun r w' => r = .returned (.bool D.down) ∧ w' = w := by
  have HM : Hid _ := made_m h
  obtain ⟨_, _, _, c8⟩ := h.cells
  clear h
  generalize D.down = dn at c8
  go_enter Try.func25, Try.ntmps25
  go_wp2_with (go_at_call 53; go_must (refine (Calls.mono HM.out ?_)); rintro r wq ⟨rfl, hq⟩; obtain rfl := hq.symm; clear hq)
  go_ret
  exact ⟨rfl, rfl⟩
/-- A number of the disk is laid. -/
theorem DkM.num {G : Nat → Prop} {w : World} {g : Nat} {D : Dk} (h : DkM G w g D) (D' : Dk) (i : Nat) (v : Value) (h1 : D'.seen = D.seen) (h2 : D'.last = D.last) (h3 : D'.steps = D.steps) (hc : ∀ s l st, (dcells D.room D.free (some s) (some l) st (scnts D.steps) D.acts D.fail D.down).setIfInBounds i v = dcells D'.room D'.free (some s) (some l) st (scnts D'.steps) D'.acts D'.fail D'.down) : DkM G (w.setCell ⟨g, i, none⟩ v) g D' ∧ Gr G w (w.setCell ⟨g, i, none⟩ v) ∧ w.frozen? ⟨g, i, none⟩ = false := by
  obtain ⟨s, l, st, V, U, vs, Os, Ol, Od, h, hG⟩ := h
  refine ⟨⟨s, l, st, V, U, vs, Os, Ol, Od, (h.j.set i v).i D' (hc s l st) h3.symm h1.symm h2.symm, hG⟩, (Gr.refl G w).set g i (hG g (.inl rfl)) v, frozen_of_row w g i _ _ h.bk⟩
theorem startA_c {G : Nat → Prop} (w : World) (g : Nat) (D : Dk) (h : DkM G w g D) : Calls Try.prog 16 #[.pointer (some ⟨g, 0, none⟩)] w fun r w' => r = .returned (.tuple #[]) ∧ DkM G w' g { D with down := false } ∧ Gr G w w' := by
  have HM : Hid _ := made_m h
  obtain ⟨_, _, _, c8⟩ := h.cells
  obtain ⟨k1, k2, f8⟩ := h.num { D with down := false } 8 (.bool false) rfl rfl rfl (fun s l st => rfl)
  have HF : Hid (DkM G (w.setCell ⟨g, 8, none⟩ (.bool false)) g { D with down := false } ∧ Gr G w (w.setCell ⟨g, 8, none⟩ (.bool false))) := ⟨k1, k2⟩
  clear h k1 k2
  go_enter Try.func16, Try.ntmps16
  go_wp2_with (go_at_call 53; go_must (refine (Calls.mono HM.out ?_)); rintro r wq ⟨rfl, hq⟩; obtain rfl := hq.symm; clear hq)
  go_end0
  exact ⟨rfl, HF.out⟩
/-- What Fail leaves. -/
def faD (D : Dk) (n : Int) : Dk := if D.down then D else { D with fail := n.toNat }
theorem failA_c {G : Nat → Prop} (n : Int) (w : World) (g : Nat) (D : Dk) (h : DkM G w g D) : Calls Try.prog 17 #[.pointer (some ⟨g, 0, none⟩), .int .i64 n] w fun r w' => r = .returned (.tuple #[]) ∧ DkM G w' g (faD D n) ∧ Gr G w w' := by
  have HM : Hid _ := made_m h
  obtain ⟨_, _, _, c8⟩ := h.cells
  cases hdn : D.down with
  | true =>
    rw [hdn] at c8
    have HF : Hid (DkM G w g (faD D n)) := by rw [show faD D n = D by simp [faD, hdn]]; exact h
    clear h hdn
    go_enter Try.func17, Try.ntmps17
    go_wp2_with (go_at_call 53; go_must (refine (Calls.mono HM.out ?_)); rintro r wq ⟨rfl, hq⟩; obtain rfl := hq.symm; clear hq)
    refine bodyPost_ret (results_none rfl _ _ _) rfl ?_
    exact ⟨rfl, HF.out, Gr.refl _ _⟩
  | false =>
    rw [hdn] at c8
    have c7 : ∃ v, w.cell? ⟨g, 7, none⟩ = some (.int .i64 v) := by
      obtain ⟨s, l, st, V, U, vs, Os, Ol, Od, h, hG⟩ := h
      exact ⟨_, Bk.cell h.bk 7⟩
    obtain ⟨v7, c7⟩ := c7
    obtain ⟨k1, k2, f7⟩ := h.num (faD D n) 7 (.int .i64 (n.toNat : Int)) (by simp [faD, hdn]) (by simp [faD, hdn]) (by simp [faD, hdn]) (fun s l st => by simp only [faD, hdn]; rfl)
    have HF : Hid (DkM G (w.setCell ⟨g, 7, none⟩ (.int .i64 (n.toNat : Int))) g (faD D n) ∧ Gr G w (w.setCell ⟨g, 7, none⟩ (.int .i64 (n.toNat : Int)))) := ⟨k1, k2⟩
    clear h k1 k2 hdn
    by_cases q : n < 0
    · have e : (n.toNat : Int) = 0 := by omega
      rw [e] at HF
      clear e
      go_enter Try.func17, Try.ntmps17
      go_wp2_with (go_at_call 53; go_must (refine (Calls.mono HM.out ?_)); rintro r wq ⟨rfl, hq⟩; obtain rfl := hq.symm; clear hq)
      go_end0
      exact ⟨rfl, HF.out⟩
    · have e : (n.toNat : Int) = n := by omega
      rw [e] at HF
      clear e
      go_enter Try.func17, Try.ntmps17
      go_wp2_with (go_at_call 53; go_must (refine (Calls.mono HM.out ?_)); rintro r wq ⟨rfl, hq⟩; obtain rfl := hq.symm; clear hq)
      go_end0
      exact ⟨rfl, HF.out⟩
end Go.Proofs.Yteoohgjoffpmkaa
