/-
  Two disks beside each other, and the lists of files that were told so far; disks that are alike but for their count of acts. Condition: at most 2^31 things so far.
-/
import Derived.Test.YteoohgjoffpmkaaKNf
namespace Go.Proofs.Yteoohgjoffpmkaa
open Go.RowKit
set_option linter.unusedVariables false

/-- Two disks, and lists of files that are kept. -/
def Ty (w : World) (g h N : Nat) (Ls : List (Value × List FiM)) (D E : Dk) (W : World) : Prop :=
  ∃ (S G T : Nat → Prop) (i j : Nat), DkM G W g D ∧ DkM T W h E ∧ (∀ k, G k → (w.heap.size ≤ k ∧ k < W.heap.size) ∧ ¬ T k) ∧ (∀ k, T k → w.heap.size ≤ k ∧ k < W.heap.size) ∧ (∀ k, S k → k < W.heap.size ∧ ¬ G k ∧ ¬ T k) ∧ Below w.heap.size w W ∧ (Dok D ∧ Dok E) ∧ (Dsz i D ∧ Dsz j E ∧ i ≤ N ∧ j ≤ N) ∧ ∀ p ∈ Ls, FiL S W p.1 p.2 ∧ p.2.length ≤ 67108864
theorem Ty.swap {w g h N Ls D E W} (hh : Ty w g h N Ls D E W) : Ty w h g N Ls E D W := by
  obtain ⟨S, G, T, i, j, h1, h2, h3, h4, h5, h6, h7, h8, h9⟩ := hh
  exact ⟨S, T, G, j, i, h2, h1, fun k hk => ⟨h4 k hk, fun z => (h3 k z).2 hk⟩, fun k hk => (h3 k hk).1, fun k hk => ⟨(h5 k hk).1, (h5 k hk).2.2, (h5 k hk).2.1⟩, h6, ⟨h7.2, h7.1⟩, ⟨h8.2.1, h8.1, h8.2.2.2, h8.2.2.1⟩, h9⟩
theorem Ty.ok {w g h N Ls D E W} (hh : Ty w g h N Ls D E W) : Dok D := by obtain ⟨S, G, T, i, j, h1, h2, h3, h4, h5, h6, h7, h8, h9⟩ := hh; exact h7.1
theorem Ty.bel {w g h N Ls D E W} (hh : Ty w g h N Ls D E W) : Below w.heap.size w W := by obtain ⟨S, G, T, i, j, h1, h2, h3, h4, h5, h6, h7, h8, h9⟩ := hh; exact h6
theorem Ty.less {w g h N Ls Ls' D E W} (hh : Ty w g h N Ls D E W) (hs : ∀ p ∈ Ls', p ∈ Ls) : Ty w g h N Ls' D E W := by
  obtain ⟨S, G, T, i, j, h1, h2, h3, h4, h5, h6, h7, h8, h9⟩ := hh
  exact ⟨S, G, T, i, j, h1, h2, h3, h4, h5, h6, h7, h8, fun p hp => h9 p (hs p hp)⟩
theorem Ty.more {w g h N M Ls D E W} (hh : Ty w g h N Ls D E W) (hn : N ≤ M) : Ty w g h M Ls D E W := by
  obtain ⟨S, G, T, i, j, h1, h2, h3, h4, h5, h6, h7, h8, h9⟩ := hh
  exact ⟨S, G, T, i, j, h1, h2, h3, h4, h5, h6, h7, ⟨h8.1, h8.2.1, by omega, by omega⟩, h9⟩
theorem Ty.gone {w g h N Ls D E W w'} (hh : Ty w g h N Ls D E W) (hb : Below W.heap.size W w') : Ty w g h N Ls D E w' := by
  obtain ⟨S, G, T, i, j, h1, h2, h3, h4, h5, h6, h7, h8, h9⟩ := hh
  have z := hb.size
  exact ⟨S, G, T, i, j, h1.below hb, h2.below hb, fun k hk => ⟨⟨(h3 k hk).1.1, by have := (h3 k hk).1.2; omega⟩, (h3 k hk).2⟩, fun k hk => ⟨(h4 k hk).1, by have := (h4 k hk).2; omega⟩, fun k hk => ⟨by have := (h5 k hk).1; omega, (h5 k hk).2⟩, h6.trans (hb.mono h6.size), h7, h8, fun p hp => ⟨(h9 p hp).1.below hb, (h9 p hp).2⟩⟩
/-- One more list. -/
theorem Ty.add {w g h N Ls D E W w'} {v : Value} {L : List FiM} (hh : Ty w g h N Ls D E W) (hb : Below W.heap.size W w') (hv : FiL (fun k => W.heap.size ≤ k) w' v L) (hl : L.length ≤ 67108864) : Ty w g h N ((v, L) :: Ls) D E w' := by
  have hz := hb.size
  obtain ⟨S, G, T, i, j, h1, h2, h3, h4, h5, h6, h7, h8, h9⟩ := hh
  refine ⟨fun k => S k ∨ (W.heap.size ≤ k ∧ k < w'.heap.size), G, T, i, j, h1.below hb, h2.below hb, fun k hk => ⟨⟨(h3 k hk).1.1, by have := (h3 k hk).1.2; omega⟩, (h3 k hk).2⟩, fun k hk => ⟨(h4 k hk).1, by have := (h4 k hk).2; omega⟩, fun k hk => ?_, h6.trans (hb.mono h6.size), h7, h8, fun p hp => ?_⟩
  · rcases hk with hk | hk
    · exact ⟨by have := (h5 k hk).1; omega, (h5 k hk).2⟩
    · exact ⟨hk.2, fun z => by have := (h3 k z).1.2; omega, fun z => by have := (h4 k z).2; omega⟩
  · rcases List.mem_cons.1 hp with rfl | hp
    · exact ⟨hv.weak (fun k hk z => .inr ⟨z, hk⟩), hl⟩
    · exact ⟨((h9 p hp).1.below hb).weak (fun k _ z => .inl z), (h9 p hp).2⟩
theorem ty_act {w W W2 : World} {g h N : Nat} {Ls} {D E : Dk} (o : Dop) (hh : Ty w g h N Ls D E W) (hb : Below W.heap.size W W2) (ho : o.sm) (hN : N ≤ 4294967296) :
    Calls Try.prog 28 #[.pointer (some ⟨g, 0, none⟩), .agg #[.int .i64 o.k, .string o.s, .string o.t, .string o.d, .int .i64 o.z]] W2 fun r w' => r = .returned (.tuple #[.int .i64 (o.r D).1, .bool true]) ∧ Ty w g h (N + 1) Ls (o.r D).2 E w' ∧ W2.heap.size ≤ w'.heap.size ∧ ∀ k, W.heap.size ≤ k → k < W2.heap.size → w'.heap[k]? = W2.heap[k]? := by
  obtain ⟨S, G, T, i, j, h1, h2, h3, h4, h5, h6, h7, h8, h9⟩ := hh
  have z0 := hb.size
  have z9 := h6.size
  refine Calls.mono (actD_c g D o.k o.s o.t o.d o.z W2 (h1.below hb) h7.1 (h8.1.sm (by omega)) (fun k hk => by have := (h3 k hk).1.2; omega) ho.2 (wf_bounds ho.1.2.1)) ?_
  rintro r w' ⟨rfl, k1, k2, k3⟩
  have z1 := k2.size
  refine ⟨rfl, ⟨S, _, T, i + 1, j, k1, (h2.below hb).gr k2 (fun k hk z => (h3 k z).2 hk), fun k hk => ?_, fun k hk => ⟨(h4 k hk).1, by have := (h4 k hk).2; omega⟩, fun k hk => ⟨by have := (h5 k hk).1; omega, fun z => ?_, (h5 k hk).2.2⟩, ?_, ⟨k3, h7.2⟩, ⟨h8.1.act h7.1 o, h8.2.1, by omega, by omega⟩, fun p hp => ⟨((h9 p hp).1.below hb).gr k2 (fun k hk => (h5 k hk).2.1), (h9 p hp).2⟩⟩, z1, fun k hk1 hk2 => ?_⟩
  · rcases hk with hk | hk
    · exact ⟨⟨(h3 k hk).1.1, by have := (h3 k hk).1.2; omega⟩, (h3 k hk).2⟩
    · exact ⟨⟨by omega, hk.2⟩, fun z => by have := (h4 k z).2; omega⟩
  · rcases z with z | z
    · exact (h5 k hk).2.1 z
    · have := (h5 k hk).1; omega
  · exact k2.below (h6.trans (hb.mono h6.size)) (fun k hk => (h3 k hk).1.1) (by omega)
  · exact k2.block k hk2 (fun z => by have := (h3 k z).1.2; omega)
theorem ty_files {w W : World} {g h N : Nat} {Ls} {D E : Dk} (hh : Ty w g h N Ls D E W) : Calls Try.prog 20 #[.pointer (some ⟨g, 0, none⟩)] W fun r w' => ∃ a n c L, r = .returned (.slice a n c) ∧ Lst D.seen (L.map FiM.p) ∧ Ty w g h N ((.slice a n c, L) :: Ls) D E w' := by
  have h0 := hh
  obtain ⟨S, G, T, i, j, h1, h2, h3, h4, h5, h6, h7, h8, h9⟩ := hh
  refine Calls.mono (filesA_c W g D h1 h7.1) ?_
  rintro r w' ⟨v, L, rfl, k1, k2, k3⟩
  obtain ⟨a, c, rfl, _⟩ := k2.read
  obtain ⟨m, t1, t2⟩ := h7.1.tot
  have t3 := h7.1.room
  have hl := lst_len k1 t1 h7.1.bnd
  rw [List.length_map] at hl
  exact ⟨a, _, c, L, rfl, k1, h0.add k3 k2 (by omega)⟩
theorem ty_left {w W : World} {g h N : Nat} {Ls} {D E : Dk} (keep : Int) (hh : Ty w g h N Ls D E W) (hk1 : -9223372036854775808 ≤ keep) (hk2 : keep ≤ 9223372036854775807) (hN : N ≤ 4294967296) : Calls Try.prog 22 #[.pointer (some ⟨g, 0, none⟩), .int .i64 keep] W fun r w' => ∃ a n c L, r = .returned (.slice a n c) ∧ Lst (sfirst D.last D.steps keep.toNat) (L.map FiM.p) ∧ Ty w g h N ((.slice a n c, L) :: Ls) D E w' := by
  have h0 := hh
  obtain ⟨S, G, T, i, j, h1, h2, h3, h4, h5, h6, h7, h8, h9⟩ := hh
  refine Calls.mono (leftA_c keep W g D h1 h7.1 hk1 hk2 (h8.1.sm (by omega))) ?_
  rintro r w' ⟨v, L, rfl, k1, k2, k3⟩
  obtain ⟨a, c, rfl, _⟩ := k2.read
  obtain ⟨m, t1, t2, t4⟩ := h7.1.all keep.toNat
  have t3 := h7.1.room
  have hl := lst_len k1 t1 t4
  rw [List.length_map] at hl
  exact ⟨a, _, c, L, rfl, k1, h0.add k3 k2 (by omega)⟩
theorem ty_equal {w W : World} {g h N : Nat} {Ls} {D E : Dk} {u v : Value} {A B : List FiM} (hh : Ty w g h N Ls D E W) (hA : (u, A) ∈ Ls) (hB : (v, B) ∈ Ls) : Calls Try.prog 21 #[u, v] W fun r w' => r = .returned (.bool (decide (A.map FiM.p = B.map FiM.p))) ∧ Ty w g h N Ls D E w' := by
  have h0 := hh
  obtain ⟨S, G, T, i, j, h1, h2, h3, h4, h5, h6, h7, h8, h9⟩ := hh
  obtain ⟨a1, a2⟩ := h9 _ hA
  obtain ⟨b1, b2⟩ := h9 _ hB
  refine Calls.mono (eq_fil a1 b1 (Nat.le_trans a2 (by decide)) (Nat.le_trans b2 (by decide))) ?_
  rintro r w' ⟨rfl, k⟩
  exact ⟨rfl, h0.gone k⟩
theorem ty_pending {w W : World} {g h N : Nat} {Ls} {D E : Dk} (hh : Ty w g h N Ls D E W) : Calls Try.prog 19 #[.pointer (some ⟨g, 0, none⟩)] W fun r w' => r = .returned (.int .i64 (scnts D.steps : Int)) ∧ w' = W := by
  obtain ⟨S, G, T, i, j, h1, h2, h3, h4, h5, h6, h7, h8, h9⟩ := hh
  exact pendingA_c W g D h1
theorem ty_free {w W : World} {g h N : Nat} {Ls} {D E : Dk} (hh : Ty w g h N Ls D E W) : Calls Try.prog 27 #[.pointer (some ⟨g, 0, none⟩)] W fun r w' => r = .returned (.int .i64 (D.free : Int)) ∧ w' = W := by
  obtain ⟨S, G, T, i, j, h1, h2, h3, h4, h5, h6, h7, h8, h9⟩ := hh
  exact freeA_c W g D h1
/-- Files that are laid on a disk one by one. -/
theorem enum_snoc {F : ByteArray → Option (List Int)} {L : List (ByteArray × List Int)} (h : Enum F L) (s : ByteArray) (xs : List Int) (hs : F s = none) : Enum (fset F s (some xs)) (L ++ [(s, xs)]) := by
  have hn : ∀ ys, (s, ys) ∉ L := fun ys hy => by rw [(h.2 s ys).2 hy] at hs; cases hs
  refine ⟨?_, fun t ys => ?_⟩
  · rw [List.map_append, List.nodup_append]
    refine ⟨h.1, by simp, fun a ha b hb e => ?_⟩
    simp at hb
    subst hb
    subst e
    obtain ⟨⟨t, ys⟩, hp, rfl⟩ := List.mem_map.1 ha
    exact hn ys hp
  · by_cases e : t = s
    · subst e
      rw [fset_same]
      constructor
      · intro q; cases q; simp
      · intro q
        rcases List.mem_append.1 q with q | q
        · exact absurd q (hn ys)
        · simp at q; rw [q]
    · rw [fset_other _ _ _ _ e, h.2 t ys, List.mem_append]
      constructor
      · exact .inl
      · rintro (q | q)
        · exact q
        · simp at q; exact absurd q.1 e
theorem nw_take {F : ByteArray → Option (List Int)} {L : List (ByteArray × List Int)} {room n : Nat} (h : Enum F L) (hn : ∀ s xs, F s = some xs → nmB s = true) (ht : n = totL L) (hr : n ≤ room) (j : Nat) (hj : j ≤ L.length) : (nwR room (L.take j)).1 = 0 ∧ Enum (nwR room (L.take j)).2.1 (L.take j) ∧ (nwR room (L.take j)).2.2 + totL (L.take j) = room := by
  induction j with
  | zero => exact ⟨rfl, ⟨by simp, by simp [nwR]⟩, by simp [nwR, totL]⟩
  | succ j ih =>
    obtain ⟨h1, h2, h3⟩ := ih (by omega)
    obtain ⟨⟨s, xs⟩, hp⟩ : ∃ p, L[j]? = some p := ⟨_, List.getElem?_eq_getElem (by omega)⟩
    have e : L.take (j + 1) = L.take j ++ [(s, xs)] := by rw [List.take_add_one, hp]; rfl
    have hFs : F s = some xs := (h.2 s xs).2 (List.mem_of_getElem? hp)
    have hno : (nwR room (L.take j)).2.1 s = none := by
      cases hq : (nwR room (L.take j)).2.1 s with
      | none => rfl
      | some ys =>
        exfalso
        have hm := (h2.2 s ys).1 hq
        have hnd := h.1
        have e2 : L = L.take j ++ L.drop j := (List.take_append_drop j L).symm
        rw [e2, List.map_append, List.nodup_append] at hnd
        refine hnd.2.2 s (List.mem_map.2 ⟨_, hm, rfl⟩) s (List.mem_map.2 ⟨(s, xs), ?_, rfl⟩) rfl
        have : (L.drop j)[0]? = some (s, xs) := by rw [List.getElem?_drop]; exact hp
        exact List.mem_of_getElem? this
    have htl : totL (L.take (j + 1)) = totL (L.take j) + (s.size + xs.length) := by rw [e, totL_app]; simp [totL]
    have htot : totL (L.take (j + 1)) ≤ totL L := by
      have := totL_app (L.take (j + 1)) (L.drop (j + 1))
      rw [List.take_append_drop] at this
      omega
    have hst : nwR room (L.take (j + 1)) = (0, fset (nwR room (L.take j)).2.1 s (some xs), (nwR room (L.take j)).2.2 - (s.size + xs.length)) := by
      rw [e, nwR_snoc]
      unfold nwS
      rw [if_neg (by rw [h1]; simp), if_neg (by rw [hn s xs hFs]; simp), if_neg (by rw [hno]; simp), if_neg (by show ¬ _ < s.size + xs.length; omega)]
    rw [hst]
    refine ⟨rfl, ?_, by rw [htl]; show (nwR room (L.take j)).2.2 - (s.size + xs.length) + _ = room; omega⟩
    rw [e]
    exact enum_snoc h2 s xs hno
theorem enum_inj {F G : ByteArray → Option (List Int)} {L : List (ByteArray × List Int)} (h : Enum F L) (k : Enum G L) : F = G := by
  funext s
  cases hs : F s with
  | none =>
    cases hg : G s with
    | none => rfl
    | some xs => rw [(h.2 s xs).2 ((k.2 s xs).1 hg)] at hs; cases hs
  | some xs => exact ((k.2 s xs).2 ((h.2 s xs).1 hs)).symm
/-- New of a disk's files makes a disk of these files. -/
theorem nw_same {D : Dk} (h : Dok D) {L : List (ByteArray × List Int)} (hL : Lst D.seen L) : nwR D.room L = (0, D.seen, D.free) := by
  obtain ⟨n, t1, t2⟩ := h.tot
  have e := hL.size t1
  obtain ⟨q1, q2, q3⟩ := nw_take (room := D.room) hL.1 h.nm e (by omega) L.length (Nat.le_refl _)
  rw [List.take_length] at q1 q2 q3
  have e1 := enum_inj q2 hL.1
  have e2 : (nwR D.room L).2.2 = D.free := by omega
  exact Prod.ext q1 (Prod.ext e1 e2)
/-- Alike but for the count of acts. -/
def Tw (D E : Dk) : Prop := E = { D with acts := E.acts }
theorem tw_bg {D : Dk} (a : Nat) (need : Int) : ∃ b, bgD { D with acts := a } need = { bgD D need with acts := b } := by
  unfold bgD
  by_cases h : (D.free : Int) < need
  · rw [if_pos h, if_pos h]; exact ⟨a, rfl⟩
  · rw [if_neg h, if_neg h]; exact ⟨a + 1, rfl⟩
theorem tw_do {D : Dk} (a : Nat) (need : Int) (p : Stp) (f : Nat) : ∃ b, doD (bgD { D with acts := a } need) p f = { doD (bgD D need) p f with acts := b } := by
  obtain ⟨b, e⟩ := tw_bg (D := D) a need
  rw [e]
  exact ⟨b, rfl⟩
theorem tw_act (D : Dk) (a : Nat) (o : Dop) : ∃ b, o.r { D with acts := a } = ((o.r D).1, { (o.r D).2 with acts := b }) := by
  obtain ⟨k, s, t, d, z, kd, n⟩ := o
  show ∃ b, acR { D with acts := a } k s t d z = ((acR D k s t d z).1, { (acR D k s t d z).2 with acts := b })
  have hr : ∀ S, rdE { D with acts := a } S = rdE D S := fun S => rfl
  have hb : ∀ need, bgE { D with acts := a } need = bgE D need := fun need => rfl
  unfold acR
  by_cases h1 : k = 1
  · simp only [if_pos h1]
    unfold crR
    rw [hr, hb]
    by_cases q1 : rdE D [s] ≠ 0
    · simp only [if_pos q1]; exact ⟨a, rfl⟩
    by_cases q2 : (D.seen s).isSome = true
    · simp only [if_neg q1, if_pos q2]; exact ⟨a, rfl⟩
    by_cases q3 : bgE D s.size ≠ 0
    · simp only [if_neg q1, if_neg q2, if_pos q3]
      obtain ⟨b, e⟩ := tw_bg (D := D) a s.size
      exact ⟨b, by rw [e]⟩
    · simp only [if_neg q1, if_neg q2, if_neg q3]
      obtain ⟨b, e⟩ := tw_do (D := D) a s.size ⟨1, s, s, [], 0⟩ (D.free - s.size)
      exact ⟨b, by rw [e]⟩
  by_cases h2 : k = 2
  · simp only [if_neg h1, if_pos h2]
    unfold apR
    rw [hr, hb]
    by_cases q1 : rdE D [s] ≠ 0
    · simp only [if_pos q1]; exact ⟨a, rfl⟩
    by_cases q2 : D.seen s = none
    · simp only [if_neg q1, if_pos q2]; exact ⟨a, rfl⟩
    obtain ⟨b, e⟩ := tw_bg (D := D) a (sb d).length
    by_cases q3 : bgE D (sb d).length ≠ 0
    · simp only [if_neg q1, if_neg q2, if_pos q3]
      exact ⟨b, by rw [e]⟩
    by_cases q4 : (sb d).length = 0
    · simp only [if_neg q1, if_neg q2, if_neg q3, if_pos q4]
      exact ⟨b, by rw [e]⟩
    · simp only [if_neg q1, if_neg q2, if_neg q3, if_neg q4]
      obtain ⟨b, e⟩ := tw_do (D := D) a (sb d).length ⟨2, s, s, sb d, 0⟩ (D.free - (sb d).length)
      exact ⟨b, by rw [e]⟩
  by_cases h3 : k = 3
  · simp only [if_neg h1, if_neg h2, if_pos h3]
    unfold ctR
    rw [hr]
    by_cases q1 : rdE D [s] ≠ 0
    · simp only [if_pos q1]; exact ⟨a, rfl⟩
    simp only [if_neg q1]
    cases hs : D.seen s with
    | none => exact ⟨a, rfl⟩
    | some xs =>
      simp only [hb]
      by_cases q2 : z < 0 ∨ (xs.length : Int) < z
      · simp only [if_pos q2]; exact ⟨a, rfl⟩
      by_cases q3 : bgE D (z - xs.length) ≠ 0
      · simp only [if_neg q2, if_pos q3]
        obtain ⟨b, e⟩ := tw_bg (D := D) a (z - xs.length)
        exact ⟨b, by rw [e]⟩
      · simp only [if_neg q2, if_neg q3]
        obtain ⟨b, e⟩ := tw_do (D := D) a (z - xs.length) ⟨3, s, s, [], z.toNat⟩ (D.free + (xs.length - z.toNat))
        exact ⟨b, by rw [e]⟩
  by_cases h4 : k = 4
  · simp only [if_neg h1, if_neg h2, if_neg h3, if_pos h4]
    have hrn : rnN { D with acts := a } s t = rnN D s t := rfl
    unfold rnR
    rw [hr, hrn, hb]
    by_cases q1 : rdE D [s, t] ≠ 0
    · simp only [if_pos q1]; exact ⟨a, rfl⟩
    by_cases q2 : D.seen s = none
    · simp only [if_neg q1, if_pos q2]; exact ⟨a, rfl⟩
    by_cases q3 : bgE D (rnN D s t) ≠ 0
    · simp only [if_neg q1, if_neg q2, if_pos q3]
      obtain ⟨b, e⟩ := tw_bg (D := D) a (rnN D s t)
      exact ⟨b, by rw [e]⟩
    · simp only [if_neg q1, if_neg q2, if_neg q3]
      obtain ⟨b, e⟩ := tw_do (D := D) a (rnN D s t) ⟨4, s, t, [], 0⟩ ((D.free : Int) - rnN D s t).toNat
      exact ⟨b, by rw [e]⟩
  by_cases h5 : k = 5
  · simp only [if_neg h1, if_neg h2, if_neg h3, if_neg h4, if_pos h5]
    unfold rmR
    rw [hr]
    by_cases q1 : rdE D [s] ≠ 0
    · simp only [if_pos q1]; exact ⟨a, rfl⟩
    simp only [if_neg q1]
    cases hs : D.seen s with
    | none => exact ⟨a, rfl⟩
    | some xs =>
      simp only [hb]
      by_cases q3 : bgE D (-((s.size : Int) + xs.length)) ≠ 0
      · simp only [if_pos q3]
        obtain ⟨b, e⟩ := tw_bg (D := D) a (-((s.size : Int) + xs.length))
        exact ⟨b, by rw [e]⟩
      · simp only [if_neg q3]
        obtain ⟨b, e⟩ := tw_do (D := D) a (-((s.size : Int) + xs.length)) ⟨5, s, s, [], 0⟩ (D.free + (s.size + xs.length))
        exact ⟨b, by rw [e]⟩
  · simp only [if_neg h1, if_neg h2, if_neg h3, if_neg h4, if_neg h5]
    unfold syR
    rw [hr, hb]
    by_cases q1 : rdE D [] ≠ 0
    · simp only [if_pos q1]; exact ⟨a, rfl⟩
    obtain ⟨b, e⟩ := tw_bg (D := D) a 0
    by_cases q3 : bgE D 0 ≠ 0
    · simp only [if_neg q1, if_pos q3]
      exact ⟨b, by rw [e]⟩
    · simp only [if_neg q1, if_neg q3]
      exact ⟨b, by rw [e]⟩
theorem Tw.act {D E : Dk} (h : Tw D E) (o : Dop) : (o.r E).1 = (o.r D).1 ∧ Tw (o.r D).2 (o.r E).2 := by
  obtain ⟨b, e⟩ := tw_act D E.acts o
  have h' : E = { D with acts := E.acts } := h
  rw [← h'] at e
  rw [e]
  exact ⟨rfl, rfl⟩
theorem sy_acts {w W : World} {g : Nat} {Ls} {D : Dk} (h : Sy w g 2097153 Ls D W) : D.acts ≤ 4294967296 := by
  obtain ⟨S, j, h1, h2, _⟩ := h
  have := h1.sz.a
  omega
theorem opT_room {D D' : Dk} {o : Dop} (h : OpT D o D') : D'.room = D.room := by
  have hb : ∀ need, (bgD D need).room = D.room := fun need => by
    unfold bgD
    split <;> rfl
  unfold OpT at h
  split at h
  · rw [h]
    rcases acR_cases D o with ⟨e, q⟩ | ⟨e, need, q⟩ | ⟨need, p, f, q, _⟩ | ⟨_, q, _⟩ <;> rw [q]
    · exact hb need
    · exact hb need
    · exact hb 0
  split at h
  · rw [h]; unfold faD; split <;> rfl
  split at h
  · cases hd : D.down with
    | true => rw [h.1 hd]
    | false => exact (h.2 hd).1
  split at h <;> rw [h]
theorem play_room {D D' : Dk} {X : List Dop} (h : PlR D X D') : D'.room = D.room := by
  induction X generalizing D with
  | nil => obtain rfl : D' = D := h; rfl
  | cons o X ih =>
    obtain ⟨D1, h1, h2⟩ := h
    exact (ih h2).trans (opT_room h1)
end Go.Proofs.Yteoohgjoffpmkaa
