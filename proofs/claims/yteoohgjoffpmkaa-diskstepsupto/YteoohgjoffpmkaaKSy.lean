/-
  A disk in the midst of a law, and the lists of files that were told so far: what each call does. Condition: at most 2^31 things so far.
-/
import Derived.Test.YteoohgjoffpmkaaKSt
namespace Go.Proofs.Yteoohgjoffpmkaa
open Go.RowKit
set_option linter.unusedVariables false

/-- A disk, and lists of files that are kept. -/
def Sy (w : World) (g N : Nat) (Ls : List (Value × List FiM)) (D : Dk) (W : World) : Prop :=
  ∃ S j, St w S g j D W ∧ j ≤ N ∧ ∀ p ∈ Ls, FiL S W p.1 p.2 ∧ p.2.length ≤ 67108864
theorem Sy.ok {w g N Ls D W} (h : Sy w g N Ls D W) : Dok D := by obtain ⟨S, j, h1, _⟩ := h; exact h1.ok
theorem Sy.bel {w g N Ls D W} (h : Sy w g N Ls D W) : Below w.heap.size w W := by obtain ⟨S, j, h1, _⟩ := h; exact h1.bel
theorem Sy.gone {w g N Ls D W w'} (h : Sy w g N Ls D W) (hb : Below W.heap.size W w') : Sy w g N Ls D w' := by
  obtain ⟨S, j, h1, h2, h3⟩ := h
  exact ⟨S, j, h1.gone hb, h2, fun p hp => ⟨(h3 p hp).1.below hb, (h3 p hp).2⟩⟩
theorem Sy.less {w g N Ls Ls' D W} (h : Sy w g N Ls D W) (hs : ∀ p ∈ Ls', p ∈ Ls) : Sy w g N Ls' D W := by
  obtain ⟨S, j, h1, h2, h3⟩ := h
  exact ⟨S, j, h1, h2, fun p hp => h3 p (hs p hp)⟩
theorem Sy.more {w g N M Ls D W} (h : Sy w g N Ls D W) (hn : N ≤ M) : Sy w g M Ls D W := by
  obtain ⟨S, j, h1, h2, h3⟩ := h
  exact ⟨S, j, h1, by omega, h3⟩
theorem sy_works (room : Nat) (w : World) (h1 : 8 ≤ room) (h2 : room ≤ 67108864) : Calls Try.prog 14 #[.int .i64 (room : Int)] w fun r w' => ∃ g, r = .returned (.pointer (some ⟨g, 0, none⟩)) ∧ Sy w g 2 [] (dkW room) w' := by
  refine Calls.mono (st_works room w w h1 h2 (Below.refl _ _) (fun _ => False) (fun _ z => z.elim)) ?_
  rintro r w' ⟨g, rfl, k, _⟩
  exact ⟨g, rfl, _, 2, k, Nat.le_refl _, fun p hp => by cases hp⟩
/-- play of things that came in. -/
theorem sy_play {w W : World} {g N : Nat} {Ls : List (Value × List FiM)} {D : Dk} {a : Option Addr} {n : Nat} (cap : Nat) {X : List Dop} (h : Sy w g N Ls D W) (hX : DOps w a n X) (hsm : ∀ o ∈ X, o.sm) (hn : n ≤ 1073741824) (hj : N ≤ 1073741824) :
    Calls Try.prog 15 #[.pointer (some ⟨g, 0, none⟩), .slice a n cap] W fun r w' => r = .returned (.tuple #[]) ∧ ∃ D', PlR D X D' ∧ Sy w g (N + n) Ls D' w' := by
  obtain ⟨S, j, h1, h2, h3⟩ := h
  have hX2 := hX.below h1.bel
  refine Calls.mono (st_play (a := a) cap h1 hX2 (fun hp b o s e => ?_) hsm hn (by omega)) ?_
  · rcases hX.2.2 with h0 | ⟨b', off, ha, hb, _⟩
    · omega
    · rw [ha] at e; cases e; exact .inl hb
  · rintro r w' ⟨rfl, D', k1, k2, k3⟩
    exact ⟨rfl, D', k1, S, _, k2, by omega, fun p hp => ⟨k3.fil (h3 p hp).1, (h3 p hp).2⟩⟩
/-- only, and play of what it answers. -/
theorem sy_only {w W : World} {g N : Nat} {Ls : List (Value × List FiM)} {D : Dk} {a : Option Addr} {n : Nat} (cap : Nat) {X : List Dop} (h : Sy w g N Ls D W) (hX : DOps w a n X) (hsm : ∀ o ∈ X, o.sm) (hn : n ≤ 1073741824) (hj : N ≤ 1073741000) :
    Calls Try.prog 23 #[.slice a n cap] W fun r w' => ∃ b m c Y, r = .returned (.slice b m c) ∧ (∀ o ∈ Y, o.few) ∧ Sy w g N Ls D w' ∧ Calls Try.prog 15 #[.pointer (some ⟨g, 0, none⟩), .slice b m c] w' fun r w2 => r = .returned (.tuple #[]) ∧ ∃ D', PlR D Y D' ∧ Sy w g (N + 60) Ls D' w2 := by
  obtain ⟨S, j, h1, h2, h3⟩ := h
  have hX2 := hX.below h1.bel
  refine Calls.mono (only_c a n cap X W hX2 hsm hn) ?_
  rintro r w' ⟨v, Y, rfl, k⟩
  obtain ⟨b, c, rfl, q1, q2⟩ := own_dops k.own k.few
  have k2 := k.len
  refine ⟨b, _, c, Y, rfl, k.few, ⟨S, j, h1.gone k.bel, h2, fun p hp => ⟨(h3 p hp).1.below k.bel, (h3 p hp).2⟩⟩, ?_⟩
  refine Calls.mono (st_play (a := b) c (h1.add k.bel) q1 (fun hp b' o s e => .inr (.inr (q2 b' o s e))) (fun o ho => (k.few o ho).1) (by omega) (by omega)) ?_
  rintro r w2 ⟨rfl, D', y1, y2, y3⟩
  exact ⟨rfl, D', y1, _, _, y2, by omega, fun p hp => ⟨y3.fil (((h3 p hp).1.below k.bel).weak (fun k _ z => .inl z)), (h3 p hp).2⟩⟩
theorem sy_start {w W : World} {g N : Nat} {Ls} {D : Dk} (h : Sy w g N Ls D W) : Calls Try.prog 16 #[.pointer (some ⟨g, 0, none⟩)] W fun r w' => r = .returned (.tuple #[]) ∧ Sy w g N Ls { D with down := false } w' := by
  obtain ⟨S, j, h1, h2, h3⟩ := h
  refine Calls.mono (st_start h1) ?_
  rintro r w' ⟨rfl, k1, k2⟩
  exact ⟨rfl, S, j, k1, h2, fun p hp => ⟨k2.fil (h3 p hp).1, (h3 p hp).2⟩⟩
theorem sy_fail {w W : World} {g N : Nat} {Ls} {D : Dk} (h : Sy w g N Ls D W) : Calls Try.prog 17 #[.pointer (some ⟨g, 0, none⟩), .int .i64 0] W fun r w' => r = .returned (.tuple #[]) ∧ Sy w g N Ls (faD D 0) w' := by
  obtain ⟨S, j, h1, h2, h3⟩ := h
  refine Calls.mono (st_fail h1) ?_
  rintro r w' ⟨rfl, k1, k2⟩
  exact ⟨rfl, S, j, k1, h2, fun p hp => ⟨k2.fil (h3 p hp).1, (h3 p hp).2⟩⟩
theorem sy_sync {w W : World} {g N : Nat} {Ls} {D : Dk} (h : Sy w g N Ls D W) (hj : N ≤ 4294967296) : Calls Try.prog 18 #[.pointer (some ⟨g, 0, none⟩)] W fun r w' => r = .returned (.int .i64 (syR D).1) ∧ Sy w g (N + 1) Ls (syR D).2 w' := by
  obtain ⟨S, j, h1, h2, h3⟩ := h
  refine Calls.mono (st_sync h1 (by omega)) ?_
  rintro r w' ⟨rfl, k1, k2⟩
  exact ⟨rfl, S, _, k1, by omega, fun p hp => ⟨k2.fil (h3 p hp).1, (h3 p hp).2⟩⟩
theorem sy_crash {w W : World} {g N : Nat} {Ls} {D : Dk} (keep : Int) (h : Sy w g N Ls D W) (hk1 : -9223372036854775808 ≤ keep) (hk2 : keep ≤ 9223372036854775807) (hj : N ≤ 4294967296) : Calls Try.prog 24 #[.pointer (some ⟨g, 0, none⟩), .int .i64 keep] W fun r w' => r = .returned (.tuple #[]) ∧ ∃ D', OpT D ⟨0, .empty, .empty, .empty, 0, 8, keep⟩ D' ∧ Sy w g (N + 1) Ls D' w' := by
  obtain ⟨S, j, h1, h2, h3⟩ := h
  refine Calls.mono (st_crash keep h1 hk1 hk2 (by omega)) ?_
  rintro r w' ⟨rfl, D', hop, k1, k2⟩
  exact ⟨rfl, D', hop, S, _, k1, by omega, fun p hp => ⟨k2.fil (h3 p hp).1, (h3 p hp).2⟩⟩
theorem sy_files {w W : World} {g N : Nat} {Ls} {D : Dk} (h : Sy w g N Ls D W) : Calls Try.prog 20 #[.pointer (some ⟨g, 0, none⟩)] W fun r w' => ∃ a n c L, r = .returned (.slice a n c) ∧ Lst D.seen (L.map FiM.p) ∧ Sy w g N ((.slice a n c, L) :: Ls) D w' := by
  obtain ⟨S, j, h1, h2, h3⟩ := h
  refine Calls.mono (st_files h1) ?_
  rintro r w' ⟨v, L, rfl, k1, k2, k3, k4⟩
  obtain ⟨a, c, rfl, _⟩ := k2.read
  obtain ⟨m, t1, t2⟩ := h1.ok.tot
  have t3 := h1.ok.room
  have hl := lst_len k1 t1 h1.ok.bnd
  rw [List.length_map] at hl
  refine ⟨a, _, c, L, rfl, k1, _, j, k3, h2, fun p hp => ?_⟩
  rcases List.mem_cons.1 hp with rfl | hp
  · exact ⟨k2.weak (fun k _ z => .inr z), by show L.length ≤ _; omega⟩
  · exact ⟨((h3 p hp).1.below k4).weak (fun k _ z => .inl z), (h3 p hp).2⟩
theorem sy_left {w W : World} {g N : Nat} {Ls} {D : Dk} (keep : Int) (h : Sy w g N Ls D W) (hk1 : -9223372036854775808 ≤ keep) (hk2 : keep ≤ 9223372036854775807) (hj : N ≤ 4294967296) : Calls Try.prog 22 #[.pointer (some ⟨g, 0, none⟩), .int .i64 keep] W fun r w' => ∃ a n c L, r = .returned (.slice a n c) ∧ Lst (sfirst D.last D.steps keep.toNat) (L.map FiM.p) ∧ Sy w g N ((.slice a n c, L) :: Ls) D w' := by
  obtain ⟨S, j, h1, h2, h3⟩ := h
  refine Calls.mono (st_left keep h1 hk1 hk2 (by omega)) ?_
  rintro r w' ⟨v, L, rfl, k1, k2, k3, k4⟩
  obtain ⟨a, c, rfl, _⟩ := k2.read
  obtain ⟨m, t1, t2, t4⟩ := h1.ok.all keep.toNat
  have t3 := h1.ok.room
  have hl := lst_len k1 t1 t4
  rw [List.length_map] at hl
  refine ⟨a, _, c, L, rfl, k1, _, j, k3, h2, fun p hp => ?_⟩
  rcases List.mem_cons.1 hp with rfl | hp
  · exact ⟨k2.weak (fun k _ z => .inr z), by show L.length ≤ _; omega⟩
  · exact ⟨((h3 p hp).1.below k4).weak (fun k _ z => .inl z), (h3 p hp).2⟩
theorem sy_equal {w W : World} {g N : Nat} {Ls} {D : Dk} {u v : Value} {A B : List FiM} (h : Sy w g N Ls D W) (hA : (u, A) ∈ Ls) (hB : (v, B) ∈ Ls) : Calls Try.prog 21 #[u, v] W fun r w' => r = .returned (.bool (decide (A.map FiM.p = B.map FiM.p))) ∧ Sy w g N Ls D w' := by
  have h0 := h
  obtain ⟨S, j, h1, h2, h3⟩ := h
  obtain ⟨a1, a2⟩ := h3 _ hA
  obtain ⟨b1, b2⟩ := h3 _ hB
  refine Calls.mono (eq_fil a1 b1 (Nat.le_trans a2 (by decide)) (Nat.le_trans b2 (by decide))) ?_
  rintro r w' ⟨rfl, k⟩
  exact ⟨rfl, h0.gone k⟩
theorem sy_pending {w W : World} {g N : Nat} {Ls} {D : Dk} (h : Sy w g N Ls D W) : Calls Try.prog 19 #[.pointer (some ⟨g, 0, none⟩)] W fun r w' => r = .returned (.int .i64 (scnts D.steps : Int)) ∧ w' = W := by
  obtain ⟨S, j, h1, _⟩ := h
  exact st_pending h1
theorem sy_down {w W : World} {g N : Nat} {Ls} {D : Dk} (h : Sy w g N Ls D W) : Calls Try.prog 25 #[.pointer (some ⟨g, 0, none⟩)] W fun r w' => r = .returned (.bool D.down) ∧ w' = W := by
  obtain ⟨S, j, h1, _⟩ := h
  exact st_down h1
theorem sy_cnt {w W : World} {g N : Nat} {Ls} {D : Dk} (h : Sy w g N Ls D W) : scnts D.steps ≤ N * 67108864 := by
  obtain ⟨S, j, h1, h2, _⟩ := h
  exact Nat.le_trans h1.sz.c (Nat.mul_le_mul_right _ h2)
end Go.Proofs.Yteoohgjoffpmkaa
