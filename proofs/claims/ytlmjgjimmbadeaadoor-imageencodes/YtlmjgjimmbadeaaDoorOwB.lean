/-
  Lists of one's own, each in memory apart from the others': what stays when one of them grows; two laws for append. No condition of its own.
-/
import Derived.Test.YtlmjgjimmbadeaaDoorOwA
namespace Go.Proofs.YtlmjgjimmbadeaaDoor
open Go.RowKit
set_option linter.unusedVariables false

def upd {α : Type} (f : Nat → α) (i : Nat) (x : α) : Nat → α := fun j => if j = i then x else f j
theorem upd_at {α : Type} (f : Nat → α) (i : Nat) (x : α) : upd f i x i = x := if_pos rfl
theorem upd_ne {α : Type} (f : Nat → α) (i : Nat) (x : α) {j : Nat} (h : j ≠ i) : upd f i x j = f j := if_neg h
/-- n lists V, each with what became of it, U: the bytes of each; no two share a block, and none lies in a block of D. -/
structure Fam (B : Nat) (w : World) (D : Nat → Prop) (n : Nat) (V U : Nat → Value) (l m : Nat → Nat) (X Z : Nat → List Int) : Prop where
  v : ∀ i, i < n → Own B w (V i) (l i) (X i)
  u : ∀ i, i < n → Own B w (U i) (m i) (Z i)
  apart : ∀ i j g, i < n → j < n → i ≠ j → ((V i).ownBlock = some g ∨ (U i).ownBlock = some g) → (V j).ownBlock ≠ some g ∧ (U j).ownBlock ≠ some g
  off : ∀ i g, i < n → ((V i).ownBlock = some g ∨ (U i).ownBlock = some g) → ¬ D g
theorem Fam.lt {B w D n V U l m X Z} (h : Fam B w D n V U l m X Z) {i g : Nat} (hi : i < n) (hg : (V i).ownBlock = some g ∨ (U i).ownBlock = some g) : B ≤ g ∧ g < w.heap.size := by
  rcases hg with hg | hg
  · exact (h.v i hi).lo g hg
  · exact (h.u i hi).lo g hg
/-- What is done elsewhere. -/
theorem Fam.gb {B w w' D n V U l m X Z} {row : Option Nat} (h : Fam B w D n V U l m X Z) (hg : w.grownBy w' row) (hr : ∀ g, row = some g → D g ∨ w.heap.size ≤ g) : Fam B w' D n V U l m X Z := by
  have hne : ∀ i g, i < n → ((V i).ownBlock = some g ∨ (U i).ownBlock = some g) → row ≠ some g := fun i g hi hb e => by
    rcases hr g e with q | q
    · exact h.off i g hi hb q
    · have := (h.lt hi hb).2; omega
  exact ⟨fun i hi => (h.v i hi).grown hg (fun g e => hne i g hi (.inl e)), fun i hi => (h.u i hi).grown hg (fun g e => hne i g hi (.inr e)), h.apart, h.off⟩
/-- What is done with one of them. -/
theorem Fam.step {B w w' D n V U l m X Z i U' m' X' Z'} {row : Option Nat} (h : Fam B w D n V U l m X Z) (hi : i < n) (hg : w.grownBy w' row) (hr : ∀ g, row = some g → (V i).ownBlock = some g ∨ (U i).ownBlock = some g)
    (hV : Own B w' (V i) (l i) X') (hU : Own B w' U' m' Z') (hat : ∀ g, U'.ownBlock = some g → (V i).ownBlock = some g ∨ (U i).ownBlock = some g ∨ w.heap.size ≤ g) (hD : ∀ g, D g → g < w.heap.size) :
    Fam B w' D n V (upd U i U') l (upd m i m') (upd X i X') (upd Z i Z') := by
  refine ⟨fun j hj => ?_, fun j hj => ?_, fun j k g hj hk hjk hb => ?_, fun j g hj hb => ?_⟩
  · by_cases e : j = i
    · subst e; rw [upd_at]; exact hV
    · rw [upd_ne _ _ _ e]
      exact (h.v j hj).grown hg (fun g e1 e2 => (h.apart i j g hi hj (fun q => e q.symm) (hr g e2)).1 e1)
  · by_cases e : j = i
    · subst e; rw [upd_at, upd_at, upd_at]; exact hU
    · rw [upd_ne _ _ _ e, upd_ne _ _ _ e, upd_ne _ _ _ e]
      exact (h.u j hj).grown hg (fun g e1 e2 => (h.apart i j g hi hj (fun q => e q.symm) (hr g e2)).2 e1)
  · by_cases e : j = i
    · subst e
      rw [upd_at] at hb
      rw [upd_ne _ _ _ (fun q => hjk q.symm)]
      have hb' : (V j).ownBlock = some g ∨ (U j).ownBlock = some g ∨ w.heap.size ≤ g := by
        rcases hb with q | q
        · exact .inl q
        · exact hat g q
      rcases hb' with q | q | q
      · exact h.apart j k g hj hk hjk (.inl q)
      · exact h.apart j k g hj hk hjk (.inr q)
      · exact ⟨fun r => by have := (h.lt hk (.inl r)).2; omega, fun r => by have := (h.lt hk (.inr r)).2; omega⟩
    · rw [upd_ne _ _ _ e] at hb
      have ha := h.lt hj hb
      by_cases e2 : k = i
      · subst e2
        rw [upd_at]
        have := h.apart j k g hj hk hjk hb
        refine ⟨this.1, fun r => ?_⟩
        rcases hat g r with q | q | q
        · exact this.1 q
        · exact this.2 q
        · omega
      · rw [upd_ne _ _ _ e2]
        exact h.apart j k g hj hk hjk hb
  · by_cases e : j = i
    · subst e
      rw [upd_at] at hb
      have hb' : (V j).ownBlock = some g ∨ (U j).ownBlock = some g ∨ w.heap.size ≤ g := by
        rcases hb with q | q
        · exact .inl q
        · exact hat g q
      rcases hb' with q | q | q
      · exact h.off j g hj (.inl q)
      · exact h.off j g hj (.inr q)
      · intro r; have := hD g r; omega
    · rw [upd_ne _ _ _ e] at hb
      exact h.off j g hj hb
/-- A list that is the beginning of another one in its block. -/
theorem Own.cut {B w g l c m xs zs} (h : Own B w (.slice (some ⟨g, 0, none⟩) m c) m zs) (hl : l ≤ m) (hx : zs.take l = xs) : Own B w (.slice (some ⟨g, 0, none⟩) l c) l xs := by
  have hzl : zs.length = m := by have := h.1; simpa using this
  subst hx
  refine ⟨by simp; omega, .inr ?_⟩
  rcases h.2 with ⟨h', _⟩ | ⟨g', cap', cur, h', hB, hg, hn, hm, hsz, htake⟩
  · simp at h'
  · simp only [Value.slice.injEq, Option.some.injEq, Addr.mk.injEq, and_true, true_and] at h'
    obtain ⟨rfl, rfl⟩ := h'
    refine ⟨g, c, cur, rfl, hB, hg, by omega, hm, hsz, ?_⟩
    rw [Nat.mul_one] at htake ⊢
    rw [List.map_take, ← htake, List.take_take, Nat.min_eq_left hl]
/-- append onto a list of one's own, by its ways: nil; room; no room. -/
theorem run_app (w : World) (ty : TypeId) (B n : Nat) (v : Value) (xs : List Int) (hown : Own B w v n xs) (ad : Addr) (m c : Nat) (ys : List Int) (hy : Seg .u8 w (some ad) m ys) (hm : 0 < m) (hb : n + m ≤ 140737488355328) (hB : B ≤ w.heap.size) :
    ∃ v' w', (Builtin.append_ #[27, 27] ty #[v, .slice (some ad) m c]).run Tryd.prog w = .ok v' w' ∧ Own B w' v' (n + m) (xs ++ ys) ∧
      ((∃ g cap, v = .slice (some ⟨g, 0, none⟩) n cap ∧ v' = .slice (some ⟨g, 0, none⟩) (n + m) cap ∧ w.grownBy w' (some g)) ∨ (∃ cap, v' = .slice (some ⟨w.heap.size, 0, none⟩) (n + m) cap ∧ w.grownBy w' none)) := by
  obtain ⟨i, hi, hz, h4, h5⟩ := info_parts Tryd.infoU8
  have hl : (ys.map (Value.int .u8)).length = m * i.size := by rw [List.length_map, hy.1, h4, Nat.mul_one]
  have hone : ∀ u ∈ ys.map (Value.int .u8), u.oneCell' = true := by
    intro u hu; obtain ⟨z, _, rfl⟩ := List.mem_map.1 hu; rfl
  obtain ⟨v', w', hr, ho, hg, _, hat⟩ := run_append_own_at (P := Tryd.prog) w B 27 ty 5 i (.int .u8 0) 1 1 Tryd.underlying27 hi hz h4 h5 rfl (by decide) v n (xs.map (Value.int .u8)) hown ad m c (ys.map (Value.int .u8)) (by rw [hl, h4]) (seg_news' hy ad rfl) hone (by unfold maxLen; omega) (by omega) hB
  have ho' : Own B w' v' (n + m) (xs ++ ys) := by unfold Own; rw [List.map_append]; exact ho
  refine ⟨v', w', hr, ho', ?_⟩
  have hlen : xs.length = n := by have := hown.1; simpa using this
  rcases hown.2 with ⟨rfl, rfl⟩ | ⟨g, cap, cur, rfl, hBg, hgb, hn, hcm, hsz, htake⟩
  · right
    obtain ⟨g', c', e1, _, _⟩ := ho'.form (by omega)
    subst e1
    rcases hat with q | q
    · cases q
    · have q' : g' = w.heap.size := Option.some.inj q
      subst q'
      exact ⟨c', rfl, hg⟩
  · by_cases hroom : n + m ≤ cap
    · left
      have hrr := run_append_room (P := Tryd.prog) w 27 ty 5 i Tryd.underlying27 hi g n cap cur hgb ad m c (ys.map (Value.int .u8)) hl (seg_news' hy ad rfl) hone hroom (by rw [hl, h4, hsz]; omega)
      rw [hr] at hrr
      injection hrr with e1 e2
      subst e1
      exact ⟨g, cap, rfl, rfl, hg⟩
    · right
      have hrr := run_append_grow (P := Tryd.prog) w 27 ty 5 i (.int .u8 0) Tryd.underlying27 hi hz ⟨g, 0, none⟩ n cap (xs.map (Value.int .u8)) (by rw [List.length_map, hlen, h4, Nat.mul_one]) (hown.cells (g := g) rfl) ad m c (ys.map (Value.int .u8)) hl (seg_news' hy ad rfl) (by omega) (by omega) (growslice_fits (by omega) (by rw [h5]; omega))
      rw [hr] at hrr
      injection hrr with e1 e2
      subst e1 e2
      exact ⟨_, rfl, gb_trans (gb_drewN (World.grownBy.refl w none) 1) (World.grownBy_alloc _ _ _)⟩
/-- One byte more behind what became of a list: what the list holds stays. -/
theorem both_app {B : Nat} {w w' : World} {V U U' : Value} {l m : Nat} {X Z : List Int} (hV : Own B w V l X) (hU2 : Own B w' U m Z) (hrel : U.ownBlock = V.ownBlock → U = .slice none 0 0 ∨ ∃ g c, V = .slice (some ⟨g, 0, none⟩) l c ∧ U = .slice (some ⟨g, 0, none⟩) m c) (hlm : l ≤ m) (hX : Z.take l = X) (hg : w.grownBy w' U.ownBlock)
    (hs : (∃ g cap, U = .slice (some ⟨g, 0, none⟩) m cap ∧ U' = .slice (some ⟨g, 0, none⟩) (m + 1) cap) ∨ (∃ g cap, U' = .slice (some ⟨g, 0, none⟩) (m + 1) cap ∧ w.heap.size ≤ g)) :
    Own B w' V l X ∧ (U'.ownBlock = V.ownBlock → U' = .slice none 0 0 ∨ ∃ g c, V = .slice (some ⟨g, 0, none⟩) l c ∧ U' = .slice (some ⟨g, 0, none⟩) (m + 1) c) ∧ (∀ g, U'.ownBlock = some g → U.ownBlock = some g ∨ w.heap.size ≤ g) := by
  have hVo : Own B w' V l X := by
    by_cases e : U.ownBlock = V.ownBlock
    · rcases hrel e with q | ⟨g, c, q1, q2⟩
      · refine hV.grown hg (fun g' e1 e2 => ?_)
        rw [q] at e2; cases e2
      · subst q1 q2
        exact hU2.cut hlm hX
    · exact hV.grown hg (fun g' e1 e2 => e (by rw [e1]; exact e2))
  refine ⟨hVo, fun e => ?_, fun g' e => ?_⟩
  · rcases hs with ⟨g, cap, rfl, rfl⟩ | ⟨gn, cap, rfl, hgn⟩
    · rcases hrel e with q | ⟨g', c', q1, q2⟩
      · cases q
      · simp only [Value.slice.injEq, Option.some.injEq, Addr.mk.injEq, and_true, true_and] at q2
        obtain ⟨rfl, rfl⟩ := q2
        exact .inr ⟨g, cap, q1, rfl⟩
    · have := hV.lo gn e.symm; omega
  · rcases hs with ⟨g, cap, rfl, rfl⟩ | ⟨gn, cap, rfl, hgn⟩
    · exact .inl e
    · have e' : gn = g' := Option.some.inj e
      exact .inr (by omega)
/-- What may become of memory while one byte is laid behind u. -/
def RA (B : Nat) (u : Value) (M : Nat) (Z : List Int) (y : Int) (W W' : World) : Prop :=
  W.grownBy W' u.ownBlock ∧ (Own B W u M Z → Own B W' u M Z) ∧ ∀ g c, Own B W (.slice (some ⟨g, 0, none⟩) (M + 1) c) (M + 1) (Z ++ [y]) → Own B W' (.slice (some ⟨g, 0, none⟩) (M + 1) c) (M + 1) (Z ++ [y])
theorem ra_rr {B : Nat} {u : Value} {M : Nat} {Z : List Int} {y : Int} (W : World) : RA B u M Z y W W := ⟨⟨rfl, rfl, rfl, Nat.le_refl _, fun _ _ _ => rfl⟩, fun h => h, fun _ _ h => h⟩
theorem ra_trans {B : Nat} {u : Value} {M : Nat} {Z : List Int} {y : Int} (a b c : World) (h : RA B u M Z y a b) (k : RA B u M Z y b c) : RA B u M Z y a c :=
  ⟨gb_trans h.1 k.1, fun q => k.2.1 (h.2.1 q), fun g c q => k.2.2 g c (h.2.2 g c q)⟩
theorem ra_gb {B : Nat} {u : Value} {M : Nat} {Z : List Int} {y : Int} {W W' : World} (h : W.grownBy W' none) : RA B u M Z y W W' :=
  ⟨gb_wide h _, fun q => q.grown h (fun _ _ e => by cases e), fun g c q => q.grown h (fun _ _ e => by cases e)⟩
theorem ra_drew {B : Nat} {u : Value} {M : Nat} {Z : List Int} {y : Int} (W : World) : RA B u M Z y W W.drew := ra_gb (gb_drewN (World.grownBy.refl W none) 1)
theorem own_size {B w g M N c d} {xs zs : List Int} (h : Own B w (.slice (some ⟨g, 0, none⟩) M c) M xs) (k : Own B w (.slice (some ⟨g, 0, none⟩) N d) N zs) : c = d := by
  rcases h.2 with ⟨h', _⟩ | ⟨g1, c1, cur1, e1, _, b1, _, _, s1, _⟩
  · simp at h'
  rcases k.2 with ⟨h', _⟩ | ⟨g2, c2, cur2, e2, _, b2, _, _, s2, _⟩
  · simp at h'
  simp only [Value.slice.injEq, Option.some.injEq, Addr.mk.injEq, and_true, true_and] at e1 e2
  obtain ⟨rfl, rfl⟩ := e1
  obtain ⟨rfl, rfl⟩ := e2
  rw [b1] at b2
  injection b2 with b3
  injection b3 with b4
  subst b4
  omega
theorem ph_app1 {ops : Array Oper} {o : Oper} {A : Act} {W : World} {K : Act → World → Prop} {Q : Exit → Act → World → Prop} {E : Prop} (hgd : Region.wanted o (yielded ops A.tmps) = true) (s x : Operand)
    (ho : o.op = .call { callee := .builtin .append, args := #[s, x], argTypes := #[27, 27] }) (N B M : Nat) (u : Value) (Z : List Int) (y : Int) (hs : A.eval s = u) (hown : Own B W u M Z) (b : Nat)
    (hx : A.eval x = .slice (some ⟨b, 0, none⟩) 1 1) (hsg : Seg .u8 W (some ⟨b, 0, none⟩) 1 [y]) (hb : M + 1 ≤ 140737488355328) (hB : B ≤ W.heap.size) (hN : N ≤ W.heap.size)
    (h : ∀ g c W', RA B u M Z y W W' → Own B W' (.slice (some ⟨g, 0, none⟩) (M + 1) c) (M + 1) (Z ++ [y]) → ((∃ g' cap, u = .slice (some ⟨g', 0, none⟩) M cap ∧ (Value.slice (some ⟨g, 0, none⟩) (M + 1) c) = .slice (some ⟨g', 0, none⟩) (M + 1) cap) ∨ (∃ g' cap, (Value.slice (some ⟨g, 0, none⟩) (M + 1) c) = .slice (some ⟨g', 0, none⟩) (M + 1) cap ∧ N ≤ g')) → K (A.put o.dst (.slice (some ⟨g, 0, none⟩) (M + 1) c)) W') :
    if Region.wanted o (yielded ops A.tmps) = true then Oper.wp Tryd.prog o A W K Q else E := by
  rw [if_pos hgd]
  obtain ⟨v', w', hr, h1, h2⟩ := run_app W o.type B M u Z hown ⟨b, 0, none⟩ 1 1 [y] hsg (by omega) hb hB
  obtain ⟨g, c, hv', _, _⟩ := h1.form (by omega)
  subst hv'
  unfold Oper.wp execOp
  simp only [ho, resolve, invoke, builtin, Sem.run_bind, Sem.run_pure, Result.andThen_ok, List.map_toArray, List.map_cons, List.map_nil, hs, hx, hr]
  have hzl : Z.length = M := by have := hown.1; simpa using this
  rcases h2 with ⟨g2, cap, e1, e2, e3⟩ | ⟨cap, e2, e3⟩
  · refine h g c w' ⟨by rw [e1]; exact e3, fun _ => ?_, fun g3 c3 q => ?_⟩ h1 (.inl ⟨g2, cap, e1, e2⟩)
    · rw [e2] at h1
      rw [e1]
      exact h1.cut (by omega) (by rw [List.take_append_of_le_length (by omega), List.take_of_length_le (by omega)])
    · by_cases e : g3 = g2
      · subst e
        rw [e1] at hown
        have := own_size q hown
        subst this
        rw [e2] at h1; exact h1
      · exact q.grown e3 (fun g' e4 e5 => by cases e4; cases e5; exact e rfl)
  · refine h g c w' (ra_gb e3) h1 (.inr ⟨W.heap.size, cap, e2, hN⟩)
theorem step_mark {ops : Array Oper} {o : Oper} {a : Act} {w : World} {K : Act → World → Prop} {Q : Exit → Act → World → Prop} {E : Prop} (hgd : o.guard = none) (x y : Operand) (ty : Array TypeId) (ho : o.op = .call { callee := .value (.func 45), args := #[x, y], argTypes := ty }) (i k : Nat)
    (hx : a.eval x = .int .i64 (i : Int)) (hy : a.eval y = .int .i64 (k : Int)) (hi : i ≤ 1048576) (hk : k ≤ 140737488355328) (h : K (a.put o.dst (.int .u8 (mrk i k))) w) : if Region.wanted o (yielded ops a.tmps) = true then Oper.wp Tryd.prog o a w K Q else E := by
  have hwt : Region.wanted o (yielded ops a.tmps) = true := by simp [Region.wanted, hgd]
  rw [if_pos hwt]
  have hc : (callFunc 45 #[Value.int .i64 (i : Int), .int .i64 (k : Int)]).run Tryd.prog w = .ok (.enter 45 #[.int .i64 (i : Int), .int .i64 (k : Int)]) w := by kernel_rfl
  have e1 : a.eval (.func 45) = .func (.func 45) #[] #[] := rfl
  have hr : (execOp a.eval o).run Tryd.prog w = .ok (.enter 45 #[.int .i64 (i : Int), .int .i64 (k : Int)]) w := by simp [execOp, ho, resolve, Deferred.ofValue, invoke, e1, hx, hy, hc]
  unfold Oper.wp
  rw [hr]
  refine Calls.mono (mark_c i k hi hk w) ?_
  rintro e w' ⟨rfl, rfl⟩
  exact h
end Go.Proofs.YtlmjgjimmbadeaaDoor
