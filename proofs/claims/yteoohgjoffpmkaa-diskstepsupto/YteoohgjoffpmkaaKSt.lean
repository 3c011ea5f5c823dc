/-
  A disk in the midst of a law, beside what is kept: what each call does. Condition: at most 2^31 things so far.
-/
import Derived.Test.YteoohgjoffpmkaaKOn
import Derived.Test.YteoohgjoffpmkaaKEr
namespace Go.Proofs.Yteoohgjoffpmkaa
open Go.RowKit
set_option linter.unusedVariables false

/-- A disk that lies above w, in none of the blocks of S. -/
def St (w : World) (S : Nat → Prop) (g j : Nat) (D : Dk) (W : World) : Prop :=
  ∃ G, DkM G W g D ∧ (∀ k, G k → w.heap.size ≤ k ∧ k < W.heap.size) ∧ (∀ k, S k → k < W.heap.size ∧ ¬ G k) ∧ Below w.heap.size w W ∧ Dok D ∧ Dsz j D
/-- What lies in S stays. -/
def Kp (w : World) (S : Nat → Prop) (W w' : World) : Prop := ∃ G, Gr G W w' ∧ (∀ k, S k → ¬ G k) ∧ (∀ k, G k → w.heap.size ≤ k)
theorem Kp.fil {w : World} {S : Nat → Prop} {W w' : World} {v L} (h : Kp w S W w') (k : FiL S W v L) : FiL S w' v L := by
  obtain ⟨G, h1, h2, _⟩ := h
  exact k.gr h1 h2
theorem Kp.dk {w : World} {S T : Nat → Prop} {W w' : World} {g D} (h : Kp w S W w') (k : DkM T W g D) (hs : ∀ k, T k → S k) : DkM T w' g D := by
  obtain ⟨G, h1, h2, _⟩ := h
  exact k.gr h1 (fun k hk => h2 k (hs k hk))
theorem Kp.ofB {w : World} {S : Nat → Prop} {W w' : World} (h : Below W.heap.size W w') : Kp w S W w' := ⟨fun _ => False, Gr.ofB h, fun _ _ z => z, fun _ z => z.elim⟩
theorem Kp.trans {w : World} {S : Nat → Prop} {a b c : World} (h : Kp w S a b) (k : Kp w S b c) : Kp w S a c := by
  obtain ⟨G, h1, h2, h3⟩ := h
  obtain ⟨G', k1, k2, k3⟩ := k
  exact ⟨fun k => G k ∨ G' k, (h1.wide (fun k _ z => .inl z)).then k1 (fun i _ z => .inr z), fun k hk z => z.elim (h2 k hk) (k2 k hk), fun k z => z.elim (h3 k) (k3 k)⟩
theorem Kp.dops {w : World} {S : Nat → Prop} {W w' : World} {a n X} (h : Kp w S W w') (k : DOps W a n X) (hs : 0 < n → ∀ b o s, a = some ⟨b, o, s⟩ → b < w.heap.size ∨ S b) : DOps w' a n X := by
  obtain ⟨G, h1, h2, h3⟩ := h
  refine ⟨k.1, k.2.1, ?_⟩
  by_cases h0 : n = 0
  · exact .inl h0
  rcases k.2.2 with h0 | ⟨b, off, ha, hlt, hr⟩
  · exact .inl h0
  · have hn : ¬ G b := fun z => by
      rcases hs (by omega) b off none ha with q | q
      · have := h3 b z; omega
      · exact h2 b q z
    exact .inr ⟨b, off, ha, Nat.lt_of_lt_of_le hlt h1.size, fun i o ho j v hv => (World.cell?_of_block (w := W) (w' := w') (a := ⟨b, off + i * 7 + j, none⟩) (h1.block b hlt hn)).trans (hr i o ho j v hv)⟩
theorem Kp.size {w : World} {S : Nat → Prop} {W w' : World} (h : Kp w S W w') : W.heap.size ≤ w'.heap.size := by
  obtain ⟨G, h1, _⟩ := h
  exact h1.size
theorem st_go {w W w' : World} {S G : Nat → Prop} {g i : Nat} {D' : Dk} (h2 : ∀ k, G k → w.heap.size ≤ k ∧ k < W.heap.size) (h3 : ∀ k, S k → k < W.heap.size ∧ ¬ G k) (h4 : Below w.heap.size w W) (k1 : DkM (fun k => G k ∨ (W.heap.size ≤ k ∧ k < w'.heap.size)) w' g D') (k2 : Gr G W w') (k3 : Dok D') (k4 : Dsz i D') : St w S g i D' w' ∧ Kp w S W w' := by
  have z1 := h4.size
  have z2 := k2.size
  refine ⟨⟨_, k1, fun k hk => ?_, fun k hk => ⟨by have := (h3 k hk).1; omega, fun z => ?_⟩, ?_, k3, k4⟩, G, k2, fun k hk => (h3 k hk).2, fun k hk => (h2 k hk).1⟩
  · rcases hk with hk | hk
    · have := h2 k hk; omega
    · omega
  · rcases z with z | z
    · exact (h3 k hk).2 z
    · have := (h3 k hk).1; omega
  · exact k2.below h4 (fun k hk => (h2 k hk).1) z1
theorem St.gone {w W w' : World} {S : Nat → Prop} {g j : Nat} {D : Dk} (hs : St w S g j D W) (hb : Below W.heap.size W w') : St w S g j D w' := by
  obtain ⟨G, h1, h2, h3, h4, h5, h6⟩ := hs
  have z := hb.size
  exact ⟨G, h1.below hb, fun k hk => ⟨(h2 k hk).1, by have := (h2 k hk).2; omega⟩, fun k hk => ⟨by have := (h3 k hk).1; omega, (h3 k hk).2⟩, h4.trans (hb.mono h4.size), h5, h6⟩
theorem St.add {w W w' : World} {S : Nat → Prop} {g j : Nat} {D : Dk} (hs : St w S g j D W) (hb : Below W.heap.size W w') : St w (fun k => S k ∨ (W.heap.size ≤ k ∧ k < w'.heap.size)) g j D w' := by
  obtain ⟨G, h1, h2, h3, h4, h5, h6⟩ := hs
  have z := hb.size
  refine ⟨G, h1.below hb, fun k hk => ⟨(h2 k hk).1, by have := (h2 k hk).2; omega⟩, fun k hk => ?_, h4.trans (hb.mono h4.size), h5, h6⟩
  rcases hk with hk | hk
  · exact ⟨by have := (h3 k hk).1; omega, (h3 k hk).2⟩
  · exact ⟨hk.2, fun z => by have := (h2 k z).2; omega⟩
theorem St.ok {w W : World} {S : Nat → Prop} {g j : Nat} {D : Dk} (h : St w S g j D W) : Dok D := by obtain ⟨G, h1, h2, h3, h4, h5, h6⟩ := h; exact h5
theorem St.sz {w W : World} {S : Nat → Prop} {g j : Nat} {D : Dk} (h : St w S g j D W) : Dsz j D := by obtain ⟨G, h1, h2, h3, h4, h5, h6⟩ := h; exact h6
theorem St.bel {w W : World} {S : Nat → Prop} {g j : Nat} {D : Dk} (h : St w S g j D W) : Below w.heap.size w W := by obtain ⟨G, h1, h2, h3, h4, h5, h6⟩ := h; exact h4
theorem St.weak {w W : World} {S S' : Nat → Prop} {g j : Nat} {D : Dk} (h : St w S g j D W) (hs : ∀ k, S' k → S k) : St w S' g j D W := by
  obtain ⟨G, h1, h2, h3, h4⟩ := h
  exact ⟨G, h1, h2, fun k hk => h3 k (hs k hk), h4⟩
/-- What play makes of a disk. -/
theorem st_play {w W : World} {S : Nat → Prop} {g j : Nat} {D : Dk} {a : Option Addr} {n : Nat} (cap : Nat) {X : List Dop} (h : St w S g j D W) (hX : DOps W a n X) (ha : 0 < n → ∀ b o s, a = some ⟨b, o, s⟩ → b < w.heap.size ∨ S b) (hsm : ∀ o ∈ X, o.sm) (hn : n ≤ 1073741824) (hj : j ≤ 1073741824) :
    Calls Try.prog 15 #[.pointer (some ⟨g, 0, none⟩), .slice a n cap] W fun r w' => r = .returned (.tuple #[]) ∧ ∃ D', PlR D X D' ∧ St w S g (j + n) D' w' ∧ Kp w S W w' := by
  obtain ⟨G, h1, h2, h3, h4, h5, h6⟩ := h
  refine Calls.mono (play_c g j D a n cap X W h1 h5 h6 (fun k hk => (h2 k hk).2) hX (fun hp b o s e z => ?_) hsm hn hj) ?_
  · rcases ha hp b o s e with q | q
    · have := (h2 b z).1; omega
    · exact (h3 b q).2 z
  · rintro r w' ⟨rfl, D', k1, k2⟩
    have z1 := h4.size
    have z2 := k2.gr.size
    refine ⟨rfl, D', k1, ⟨_, k2.m, fun k hk => ?_, fun k hk => ⟨by have := (h3 k hk).1; omega, fun z => ?_⟩, k2.gr.below h4 (fun k hk => (h2 k hk).1) z1, k2.ok, k2.sz⟩, G, k2.gr, fun k hk => (h3 k hk).2, fun k hk => (h2 k hk).1⟩
    · rcases hk with hk | hk
      · have := h2 k hk; omega
      · omega
    · rcases z with z | z
      · exact (h3 k hk).2 z
      · have := (h3 k hk).1; omega
theorem st_works (room : Nat) (w W : World) (h1 : 8 ≤ room) (h2 : room ≤ 67108864) (hw : Below w.heap.size w W) (S : Nat → Prop) (hS : ∀ k, S k → k < W.heap.size) : Calls Try.prog 14 #[.int .i64 (room : Int)] W fun r w' => ∃ g, r = .returned (.pointer (some ⟨g, 0, none⟩)) ∧ St w S g 2 (dkW room) w' ∧ Below W.heap.size W w' := by
  refine Calls.mono (works_c room W h1 h2) ?_
  rintro r w' ⟨g, rfl, k⟩
  have hb : Below W.heap.size W w' := ⟨k.gr.os, k.gr.tape, k.gr.output, k.gr.size, fun i hi => k.gr.block i hi (fun z => z)⟩
  have z1 := hw.size
  exact ⟨g, rfl, ⟨_, k.m, fun q hq => by rcases hq with hq | hq; exact hq.elim; omega, fun q hq => ⟨by have := hS q hq; have := hb.size; omega, fun z => by rcases z with z | z; exact z; have := hS q hq; omega⟩, hw.trans (hb.mono z1), k.ok, k.sz⟩, hb⟩
theorem st_start {w W : World} {S : Nat → Prop} {g j : Nat} {D : Dk} (h : St w S g j D W) : Calls Try.prog 16 #[.pointer (some ⟨g, 0, none⟩)] W fun r w' => r = .returned (.tuple #[]) ∧ St w S g j { D with down := false } w' ∧ Kp w S W w' := by
  obtain ⟨G, h1, h2, h3, h4, h5, h6⟩ := h
  refine Calls.mono (startA_c W g D h1) ?_
  rintro r w' ⟨rfl, k1, k2⟩
  refine ⟨rfl, ⟨G, k1, fun k hk => ⟨(h2 k hk).1, Nat.lt_of_lt_of_le (h2 k hk).2 k2.size⟩, fun k hk => ⟨Nat.lt_of_lt_of_le (h3 k hk).1 k2.size, (h3 k hk).2⟩, k2.below h4 (fun k hk => (h2 k hk).1) h4.size, start_ok h5, ⟨h6.a, h6.f, h6.c, h6.l⟩⟩, G, k2, fun k hk => (h3 k hk).2, fun k hk => (h2 k hk).1⟩
theorem st_fail {w W : World} {S : Nat → Prop} {g j : Nat} {D : Dk} (h : St w S g j D W) : Calls Try.prog 17 #[.pointer (some ⟨g, 0, none⟩), .int .i64 0] W fun r w' => r = .returned (.tuple #[]) ∧ St w S g j (faD D 0) w' ∧ Kp w S W w' := by
  obtain ⟨G, h1, h2, h3, h4, h5, h6⟩ := h
  refine Calls.mono (failA_c 0 W g D h1) ?_
  rintro r w' ⟨rfl, k1, k2⟩
  refine ⟨rfl, ⟨G, k1, fun k hk => ⟨(h2 k hk).1, Nat.lt_of_lt_of_le (h2 k hk).2 k2.size⟩, fun k hk => ⟨Nat.lt_of_lt_of_le (h3 k hk).1 k2.size, (h3 k hk).2⟩, k2.below h4 (fun k hk => (h2 k hk).1) h4.size, faD_ok h5 0, ?_⟩, G, k2, fun k hk => (h3 k hk).2, fun k hk => (h2 k hk).1⟩
  unfold faD
  split
  · exact h6
  · exact ⟨h6.a, Nat.zero_le _, h6.c, h6.l⟩
theorem st_sync {w W : World} {S : Nat → Prop} {g j : Nat} {D : Dk} (h : St w S g j D W) (hj : j ≤ 4294967296) : Calls Try.prog 18 #[.pointer (some ⟨g, 0, none⟩)] W fun r w' => r = .returned (.int .i64 (syR D).1) ∧ St w S g (j + 1) (syR D).2 w' ∧ Kp w S W w' := by
  obtain ⟨G, h1, h2, h3, h4, h5, h6⟩ := h
  refine Calls.mono (syncA_c W g D h1 h5 (h6.sm hj)) ?_
  rintro r w' ⟨rfl, k1, k2, k3⟩
  have hz : Dsz (j + 1) (syR D).2 := h6.act h5 ⟨0, .empty, .empty, .empty, 0, 0, 0⟩
  exact ⟨rfl, st_go h2 h3 h4 k1 k2 k3 hz⟩
theorem st_act {w W : World} {S : Nat → Prop} {g j : Nat} {D : Dk} (o : Dop) (h : St w S g j D W) (ho : o.sm) (hj : j ≤ 4294967296) : Calls Try.prog 28 #[.pointer (some ⟨g, 0, none⟩), .agg #[.int .i64 o.k, .string o.s, .string o.t, .string o.d, .int .i64 o.z]] W fun r w' => r = .returned (.tuple #[.int .i64 (o.r D).1, .bool true]) ∧ St w S g (j + 1) (o.r D).2 w' ∧ Kp w S W w' := by
  obtain ⟨G, h1, h2, h3, h4, h5, h6⟩ := h
  refine Calls.mono (actD_c g D o.k o.s o.t o.d o.z W h1 h5 (h6.sm hj) (fun k hk => (h2 k hk).2) ho.2 (wf_bounds ho.1.2.1)) ?_
  rintro r w' ⟨rfl, k1, k2, k3⟩
  exact ⟨rfl, st_go h2 h3 h4 k1 k2 k3 (h6.act h5 o)⟩
theorem st_crash {w W : World} {S : Nat → Prop} {g j : Nat} {D : Dk} (keep : Int) (h : St w S g j D W) (hk1 : -9223372036854775808 ≤ keep) (hk2 : keep ≤ 9223372036854775807) (hj : j ≤ 4294967296) : Calls Try.prog 24 #[.pointer (some ⟨g, 0, none⟩), .int .i64 keep] W fun r w' => r = .returned (.tuple #[]) ∧ ∃ D', OpT D ⟨0, .empty, .empty, .empty, 0, 8, keep⟩ D' ∧ St w S g (j + 1) D' w' ∧ Kp w S W w' := by
  obtain ⟨G, h1, h2, h3, h4, h5, h6⟩ := h
  refine Calls.mono (crashA_c keep W g D h1 h5 (h6.sm hj) hk1 hk2) ?_
  rintro r w' ⟨rfl, D', k1, k2, k3, k4, k5⟩
  have hop : OpT D ⟨0, .empty, .empty, .empty, 0, 8, keep⟩ D' := by
    unfold OpT
    rw [if_neg (by simp), if_neg (by simp), if_pos rfl]
    exact ⟨k4, k5⟩
  have hz : Dsz (j + 1) D' := by
    cases hdn : D.down with
    | true => rw [k4 hdn]; exact h6.more (Nat.le_succ _)
    | false =>
      obtain ⟨_, _, _, q1, q2, q3, _⟩ := k5 hdn
      exact ⟨by rw [q2]; exact Nat.le_succ_of_le h6.a, by rw [q3]; exact Nat.zero_le _, by rw [q1]; exact Nat.zero_le _, by rw [q1]; exact Nat.zero_le _⟩
  exact ⟨rfl, D', hop, st_go h2 h3 h4 k1 k2 k3 hz⟩
/-- Files that are told: kept from now on. -/
theorem st_files {w W : World} {S : Nat → Prop} {g j : Nat} {D : Dk} (h : St w S g j D W) : Calls Try.prog 20 #[.pointer (some ⟨g, 0, none⟩)] W fun r w' => ∃ v L, r = .returned v ∧ Lst D.seen (L.map FiM.p) ∧ FiL (fun k => W.heap.size ≤ k ∧ k < w'.heap.size) w' v L ∧ St w (fun k => S k ∨ (W.heap.size ≤ k ∧ k < w'.heap.size)) g j D w' ∧ Below W.heap.size W w' := by
  have h0 := h
  obtain ⟨G, h1, h2, h3, h4, h5, h6⟩ := h
  refine Calls.mono (filesA_c W g D h1 h5) ?_
  rintro r w' ⟨v, L, rfl, k1, k2, k3⟩
  exact ⟨v, L, rfl, k1, k2.weak (fun k hk z => ⟨z, hk⟩), h0.add k3, k3⟩
theorem st_left {w W : World} {S : Nat → Prop} {g j : Nat} {D : Dk} (keep : Int) (h : St w S g j D W) (hk1 : -9223372036854775808 ≤ keep) (hk2 : keep ≤ 9223372036854775807) (hj : j ≤ 4294967296) : Calls Try.prog 22 #[.pointer (some ⟨g, 0, none⟩), .int .i64 keep] W fun r w' => ∃ v L, r = .returned v ∧ Lst (sfirst D.last D.steps keep.toNat) (L.map FiM.p) ∧ FiL (fun k => W.heap.size ≤ k ∧ k < w'.heap.size) w' v L ∧ St w (fun k => S k ∨ (W.heap.size ≤ k ∧ k < w'.heap.size)) g j D w' ∧ Below W.heap.size W w' := by
  have h0 := h
  obtain ⟨G, h1, h2, h3, h4, h5, h6⟩ := h
  refine Calls.mono (leftA_c keep W g D h1 h5 hk1 hk2 (h6.sm hj)) ?_
  rintro r w' ⟨v, L, rfl, k1, k2, k3⟩
  exact ⟨v, L, rfl, k1, k2.weak (fun k hk z => ⟨z, hk⟩), h0.add k3, k3⟩
theorem st_pending {w W : World} {S : Nat → Prop} {g j : Nat} {D : Dk} (h : St w S g j D W) : Calls Try.prog 19 #[.pointer (some ⟨g, 0, none⟩)] W fun r w' => r = .returned (.int .i64 (scnts D.steps : Int)) ∧ w' = W := by
  obtain ⟨G, h1, _⟩ := h
  exact pendingA_c W g D h1
theorem st_free {w W : World} {S : Nat → Prop} {g j : Nat} {D : Dk} (h : St w S g j D W) : Calls Try.prog 27 #[.pointer (some ⟨g, 0, none⟩)] W fun r w' => r = .returned (.int .i64 (D.free : Int)) ∧ w' = W := by
  obtain ⟨G, h1, _⟩ := h
  exact freeA_c W g D h1
theorem st_down {w W : World} {S : Nat → Prop} {g j : Nat} {D : Dk} (h : St w S g j D W) : Calls Try.prog 25 #[.pointer (some ⟨g, 0, none⟩)] W fun r w' => r = .returned (.bool D.down) ∧ w' = W := by
  obtain ⟨G, h1, _⟩ := h
  exact downA_c W g D h1
/-- Two lists of files are compared. -/
theorem lst_len {F : ByteArray → Option (List Int)} {L : List (ByteArray × List Int)} {n : Nat} (h : Lst F L) (ht : Tot F n) (hb : bnd F) : L.length ≤ n := by
  rw [h.size ht]
  exact totL_len (fun p hp => (nm_size (hb p.1 p.2 ((h.1.2 p.1 p.2).2 hp)).2).1)
theorem eq_fil {S T : Nat → Prop} {W : World} {u v : Value} {A B : List FiM} (hA : FiL S W u A) (hB : FiL T W v B) (hn : A.length ≤ 1099511627776) (hn2 : B.length ≤ 1099511627776) :
    Calls Try.prog 21 #[u, v] W fun r w' => r = .returned (.bool (decide (A.map FiM.p = B.map FiM.p))) ∧ Below W.heap.size W w' := by
  obtain ⟨a, ca, rfl, ra, _⟩ := hA.read
  obtain ⟨b, cb, rfl, rb, _⟩ := hB.read
  exact equal_c A B a b ca cb W ra rb hn hn2 (fun f hf => (hA.body f hf).2) (fun f hf => (hB.body f hf).2)
end Go.Proofs.Yteoohgjoffpmkaa
