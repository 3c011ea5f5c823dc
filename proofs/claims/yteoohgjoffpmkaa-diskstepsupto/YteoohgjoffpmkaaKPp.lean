/-
  What is done with a disk, as plain data: one thing, many; how its numbers grow. No condition of its own.
-/
import Derived.Test.YteoohgjoffpmkaaKAd
import Derived.Test.YteoohgjoffpmkaaKOq
namespace Go.Proofs.Yteoohgjoffpmkaa
open Go.RowKit
set_option linter.unusedVariables false

/-- What an act comes to. -/
def Dop.r (o : Dop) (D : Dk) : Int × Dk := acR D o.k o.s o.t o.d o.z
/-- The disk behind one thing that the law's play does. -/
def OpT (D : Dk) (o : Dop) (D' : Dk) : Prop :=
  if 1 ≤ o.k ∧ o.k ≤ 6 then D' = (o.r D).2 else if o.kd = 7 then D' = faD D o.n else if o.kd = 8 then (D.down = true → D' = D) ∧ (D.down = false → D'.room = D.room ∧ D'.seen = sfirst D.last D.steps o.n.toNat ∧ D'.last = D'.seen ∧ D'.steps = [] ∧ D'.acts = D.acts ∧ D'.fail = 0 ∧ D'.down = true) else if o.kd = 9 then D' = { D with down := false } else D' = D
def PlR : Dk → List Dop → Dk → Prop
  | D, [], D' => D' = D
  | D, o :: X, D' => ∃ D1, OpT D o D1 ∧ PlR D1 X D'
theorem PlR.snoc {D : Dk} {X : List Dop} {D1 D2 : Dk} {o : Dop} (h : PlR D X D1) (k : OpT D1 o D2) : PlR D (X ++ [o]) D2 := by
  induction X generalizing D with
  | nil =>
    obtain rfl : D1 = D := h
    exact ⟨D2, k, rfl⟩
  | cons p X ih =>
    obtain ⟨D3, h1, h2⟩ := h
    exact ⟨D3, h1, ih h2⟩
/-- The numbers of a disk behind so many things. -/
structure Dsz (j : Nat) (D : Dk) : Prop where
  a : D.acts ≤ j
  f : D.fail ≤ 9223372036854775807
  c : scnts D.steps ≤ j * 67108864
  l : D.steps.length ≤ j
theorem wf_bounds {n : Int} (h : (Lit.int .i64 n).wf = true) : -9223372036854775808 ≤ n ∧ n ≤ 9223372036854775807 := by
  have h2 : (decide (IntKind.i64.min ≤ n) && decide (n ≤ IntKind.i64.max)) = true := h
  rw [Bool.and_eq_true] at h2
  have e1 : IntKind.i64.min = -9223372036854775808 := by decide
  have e2 : IntKind.i64.max = 9223372036854775807 := by decide
  have h3 := of_decide_eq_true h2.1
  have h4 := of_decide_eq_true h2.2
  rw [e1] at h3
  rw [e2] at h4
  exact ⟨h3, h4⟩
theorem Dsz.sm {j D} (h : Dsz j D) (hj : j ≤ 4294967296) : Dsm D := by
  obtain ⟨h1, h2, h3, h4⟩ := h
  exact ⟨by omega, h2, by omega, by omega⟩
theorem Dsz.more {j i D} (h : Dsz j D) (hj : j ≤ i) : Dsz i D :=
  ⟨Nat.le_trans h.a hj, h.f, Nat.le_trans h.c (Nat.mul_le_mul_right _ hj), Nat.le_trans h.l hj⟩
theorem Dsz.of {j D D'} (h : Dsz j D) (h1 : D'.acts ≤ D.acts) (h2 : D'.fail ≤ 9223372036854775807) (h3 : D'.steps = D.steps) : Dsz (j + 1) D' :=
  ⟨Nat.le_trans h1 (Nat.le_succ_of_le h.a), h2, by rw [h3]; exact (h.more (Nat.le_succ j)).c, by rw [h3]; exact (h.more (Nat.le_succ j)).l⟩
theorem Dsz.bg {j D} (h : Dsz j D) (need : Int) : (bgD D need).acts ≤ j + 1 ∧ (bgD D need).fail ≤ 9223372036854775807 ∧ (bgD D need).steps = D.steps := by
  obtain ⟨h1, h2, h3, h4⟩ := h
  unfold bgD
  split
  · exact ⟨by omega, h2, rfl⟩
  · exact ⟨by show D.acts + 1 ≤ _; omega, by show D.fail - 1 ≤ _; omega, rfl⟩
theorem Dsz.do {j D} (h : Dsz j D) (need : Int) (p : Stp) (f : Nat) (hp : scnt p ≤ 67108864) : Dsz (j + 1) (doD (bgD D need) p f) := by
  obtain ⟨h1, h2, h3, h4⟩ := h
  obtain ⟨b1, b2, b3⟩ := Dsz.bg ⟨h1, h2, h3, h4⟩ need
  refine ⟨b1, b2, ?_, ?_⟩
  · show scnts ((bgD D need).steps ++ [p]) ≤ _
    rw [b3, scnts_snoc]; omega
  · show ((bgD D need).steps ++ [p]).length ≤ _
    rw [b3, List.length_append, List.length_singleton]; omega
theorem Dsz.bg' {j D} (h : Dsz j D) (need : Int) : Dsz (j + 1) (bgD D need) := by
  obtain ⟨b1, b2, b3⟩ := h.bg need
  exact ⟨b1, b2, by rw [b3]; exact (h.more (Nat.le_succ j)).c, by rw [b3]; exact (h.more (Nat.le_succ j)).l⟩
/-- The forms of what an act comes to. -/
theorem acR_cases (D : Dk) (o : Dop) : (∃ e, o.r D = (e, D)) ∨ (∃ e need, o.r D = (e, bgD D need)) ∨ (∃ need p f, o.r D = (0, doD (bgD D need) p f) ∧ (scnt p = 1 ∨ (scnt p : Int) = need) ∧ bgE D need = 0) ∨ (¬ (1 ≤ o.k ∧ o.k ≤ 5) ∧ o.r D = (0, { bgD D 0 with last := D.seen, steps := [] }) ∧ rdE D [] = 0 ∧ bgE D 0 = 0) := by
  obtain ⟨k, s, t, d, z, kd, n⟩ := o
  show (∃ e, acR D k s t d z = (e, D)) ∨ (∃ e need, acR D k s t d z = (e, bgD D need)) ∨ (∃ need p f, acR D k s t d z = (0, doD (bgD D need) p f) ∧ _ ∧ _) ∨ _
  unfold acR
  split
  · unfold crR
    split
    · exact .inl ⟨_, rfl⟩
    split
    · exact .inl ⟨_, rfl⟩
    split
    · exact .inr (.inl ⟨_, _, rfl⟩)
    · rename_i hb
      exact .inr (.inr (.inl ⟨_, _, _, rfl, .inl rfl, by simpa using hb⟩))
  split
  · unfold apR
    split
    · exact .inl ⟨_, rfl⟩
    split
    · exact .inl ⟨_, rfl⟩
    split
    · exact .inr (.inl ⟨_, _, rfl⟩)
    split
    · exact .inr (.inl ⟨_, _, rfl⟩)
    · rename_i hb _
      exact .inr (.inr (.inl ⟨_, _, _, rfl, .inr rfl, by simpa using hb⟩))
  split
  · unfold ctR
    split
    · exact .inl ⟨_, rfl⟩
    split
    · exact .inl ⟨_, rfl⟩
    split
    · exact .inl ⟨_, rfl⟩
    split
    · exact .inr (.inl ⟨_, _, rfl⟩)
    · rename_i hb
      exact .inr (.inr (.inl ⟨_, _, _, rfl, .inl rfl, by simpa using hb⟩))
  split
  · unfold rnR
    split
    · exact .inl ⟨_, rfl⟩
    split
    · exact .inl ⟨_, rfl⟩
    split
    · exact .inr (.inl ⟨_, _, rfl⟩)
    · rename_i hb
      exact .inr (.inr (.inl ⟨_, _, _, rfl, .inl rfl, by simpa using hb⟩))
  split
  · unfold rmR
    split
    · exact .inl ⟨_, rfl⟩
    split
    · exact .inl ⟨_, rfl⟩
    split
    · exact .inr (.inl ⟨_, _, rfl⟩)
    · rename_i hb
      exact .inr (.inr (.inl ⟨_, _, _, rfl, .inl rfl, by simpa using hb⟩))
  · rename_i h1 h2 h3 h4 h5
    unfold syR
    split
    · exact .inl ⟨_, rfl⟩
    split
    · exact .inr (.inl ⟨_, _, rfl⟩)
    · rename_i ha hb
      exact .inr (.inr (.inr ⟨fun z => by
        simp only at z
        omega, by simp [Dop.r, acR, h1, h2, h3, h4, h5, syR, ha, hb], by simpa using ha, by simpa using hb⟩))
theorem Dsz.act {j D} (h : Dsz j D) (hd : Dok D) (o : Dop) : Dsz (j + 1) (o.r D).2 := by
  rcases acR_cases D o with ⟨e, q⟩ | ⟨e, need, q⟩ | ⟨need, p, f, q, hp, hb⟩ | ⟨_, q, _, _⟩ <;> rw [q]
  · exact h.more (Nat.le_succ _)
  · exact h.bg' need
  · refine h.do need p f ?_
    rcases hp with hp | hp
    · omega
    · have h1 := bg_ok hb
      obtain ⟨n, _, h2⟩ := hd.tot
      have h3 := hd.room
      omega
  · obtain ⟨b1, b2, b3⟩ := h.bg 0
    exact ⟨b1, b2, Nat.zero_le _, Nat.zero_le _⟩
theorem dsz_op {j D D'} {o : Dop} (h : Dsz j D) (hd : Dok D) (ho : o.ok) (k : OpT D o D') : Dsz (j + 1) D' := by
  unfold OpT at k
  split at k
  · rw [k]; exact h.act hd o
  split at k
  · rw [k]
    unfold faD
    split
    · exact h.more (Nat.le_succ _)
    · have hw := (wf_bounds ho.2.2).2
      exact h.of (Nat.le_refl _) (by show o.n.toNat ≤ _; omega) rfl
  split at k
  · cases hdn : D.down with
    | true => rw [k.1 hdn]; exact h.more (Nat.le_succ _)
    | false =>
      obtain ⟨_, _, _, q1, q2, q3, _⟩ := k.2 hdn
      exact ⟨by rw [q2]; exact Nat.le_succ_of_le h.a, by rw [q3]; exact Nat.zero_le _, by rw [q1]; exact Nat.zero_le _, by rw [q1]; exact Nat.zero_le _⟩
  split at k
  · rw [k]; exact h.of (Nat.le_refl _) h.f rfl
  · rw [k]; exact h.more (Nat.le_succ _)
end Go.Proofs.Yteoohgjoffpmkaa
