/-
  A message on its way out: the pass as memory holds it, nowhere or into a Writer; what must and num answer, or give up by panic. Condition: what is laid down takes at most 2^47 bytes.
  What the pass's num answers on a message's way out, or gives up by panic. Condition: what is laid down takes at most 2^47 bytes.
  What the pass's plain numbers (epoch, since, attempt, number, seq, level, upto) come to. Condition: what is laid down takes at most 2^47 bytes.
-/
import Derived.Test.YtokkhhekmebakaaGreatDoorRows
import Derived.Test.YtokkhhekmebakaaGreatDoorWInt
import Derived.Test.YtokkhhekmebakaaGreatDoorNilW
namespace Go.Proofs.YtokkhhekmebakaaGreatDoor
open Go.RowKit
set_option linter.unusedVariables false

theorem bk_setA {T w b cs} (h : Bk T w b cs) (i : Nat) (v : Value) : Bk T (w.setCell ⟨b, i, none⟩ v) b (cs.setIfInBounds i v) := by
  unfold Bk at h ⊢
  simp only [World.setCell, Array.getElem?_modify]
  rw [if_pos trivial, h]; rfl
theorem WS.chlt {w g ys e fs} (h : WS w g ys e fs) : ∀ k ∈ fs, k < w.heap.size := by
  obtain ⟨d, ps, u, cs, _, h2, _⟩ := h
  exact h2.lt
/-- The panic of a field that may not be. -/
def pan : List PanicEntry := [{ v := .iface 51 (.int .i64 151), recovered := false }]
theorem emust_so (w : World) : Calls Tryz.prog 42 #[.bool true] w fun r w' => r = .returned (.tuple #[]) ∧ w' = w := by
  go_enter Tryz.func42, Tryz.ntmps42
  go_wp2
  go_end0
  exact ⟨rfl, rfl⟩
theorem emust_no (w : World) : Calls Tryz.prog 42 #[.bool false] w fun r w' => r = .panicked pan ∧ w' = w := by
  go_enter Tryz.func42, Tryz.ntmps42
  go_wp2
  exact ⟨rfl, rfl, rfl⟩

/-- Where a body goes: nowhere (k = 0), or into a Writer (k = 1) that has taken xs. -/
structure Wy where
  k : Nat
  g : Nat
  xs : List Int
def Wy.inn (S : Wy) : Option Addr := none
def Wy.out (S : Wy) : Option Addr := if S.k = 1 then some ⟨S.g, 0, none⟩ else none
/-- What else lies in memory is no part of the Writer: A. -/
def Wy.ok (S : Wy) (w : World) (A : Nat → Prop) : Prop := S.k = 0 ∨ S.k = 1 ∧ ¬ A S.g ∧ ∃ fs, WS w S.g S.xs 0 fs ∧ ∀ j ∈ fs, ¬ A j
def Wy.blk (S : Wy) (j : Nat) : Prop := S.k ≠ 0 ∧ j = S.g
def Wy.more (S : Wy) (ys : List Int) : Wy := if S.k = 1 then { S with xs := S.xs ++ ys } else S
/-- A number carried. -/
def Wy.num (S : Wy) (x lo hi : Int) : Option (Int × Wy) := if lo ≤ x ∧ x ≤ hi then some (x, S.more (enc x.toNat)) else none
/-- Room for so many bytes more. -/
def Wy.room (S : Wy) (n : Nat) : Prop := S.xs.length + n ≤ 140737488355328

/-- The pass: m is given, q was carried so far. -/
structure St (w : World) (p : Nat) (m q : Array Value) (S : Wy) (A : Nat → Prop) : Prop where
  bk : Bk 117 w p (m ++ q ++ #[.pointer S.inn, .pointer S.out])
  m37 : m.size = 37
  q37 : q.size = 37
  ok : S.ok w A
  ap : A p
  lt : ∀ j, A j → j < w.heap.size
  lo : ∀ j, j < 3 → A j
  p3 : 3 ≤ p
theorem St.cellM {w p m q S A} (h : St w p m q S A) (i : Nat) (hi : i < 37) : w.cell? ⟨p, i, none⟩ = m[i]? := by
  rw [h.bk.cell i, Array.append_assoc, Array.getElem?_append_left (by rw [h.m37]; exact hi)]
theorem St.cellQ {w p m q S A} (h : St w p m q S A) (i : Nat) (hi : i < 37) : w.cell? ⟨p, 37 + i, none⟩ = q[i]? := by
  rw [h.bk.cell, Array.append_assoc, Array.getElem?_append_right (by rw [h.m37]; omega), h.m37, Nat.add_sub_cancel_left, Array.getElem?_append_left (by rw [h.q37]; exact hi)]
theorem St.cellI {w p m q S A} (h : St w p m q S A) : w.cell? ⟨p, 74, none⟩ = some (.pointer S.inn) := by
  have e : (m ++ q).size = 74 := by rw [Array.size_append, h.m37, h.q37]
  rw [h.bk.cell, Array.getElem?_append_right (by rw [e]; exact Nat.le_refl _), e]; rfl
theorem St.cellO {w p m q S A} (h : St w p m q S A) : w.cell? ⟨p, 75, none⟩ = some (.pointer S.out) := by
  have e : (m ++ q).size = 74 := by rw [Array.size_append, h.m37, h.q37]
  rw [h.bk.cell, Array.getElem?_append_right (by rw [e]; omega), e]; rfl
theorem St.free {w p m q S A} (h : St w p m q S A) (i : Nat) : w.frozen? ⟨p, i, none⟩ = false := frozen_of_row w p i _ _ h.bk
theorem Wy.ok_gr {S : Wy} {w w' : World} {A : Nat → Prop} {G : Nat → Prop} (h : S.ok w A) (hg : Gr G w w') (hG : ∀ j, j < w.heap.size → G j → A j) : S.ok w' A := by
  rcases h with h | ⟨h, h1, fs, h2, h3⟩
  · exact .inl h
  · exact .inr ⟨h, h1, fs, h2.gr hg (fun z => h1 (hG _ h2.lt z)) (fun j hj z => h3 j hj (hG j (h2.chlt j hj) z)), h3⟩
theorem St.gr {w w' p m q S A} {G : Nat → Prop} (h : St w p m q S A) (hg : Gr G w w') (hp : ¬ G p) (hG : ∀ j, j < w.heap.size → G j → A j) : St w' p m q S A :=
  ⟨h.bk.gr hg hp, h.m37, h.q37, Wy.ok_gr h.ok hg hG, h.ap, fun j hj => Nat.lt_of_lt_of_le (h.lt j hj) hg.size, h.lo, h.p3⟩
theorem St.new {w w' p m q S A} (h : St w p m q S A) (hg : w.grownBy w' none) : St w' p m q S A := h.gr (G := fun _ => False) (Gr.of hg (by simp)) (by simp) (by simp)
/-- A field stored. -/
theorem St.put {w p m q S A} (h : St w p m q S A) (i : Nat) (hi : i < 37) (v : Value) : St (w.setCell ⟨p, 37 + i, none⟩ v) p m (q.setIfInBounds i v) S A := by
  have hg : Gr (fun k => k = p) w (w.setCell ⟨p, 37 + i, none⟩ v) := Gr.of (grownBy_cell w p (37 + i) v) (fun k hk => by cases hk; exact .inl rfl)
  refine ⟨?_, h.m37, by rw [Array.size_setIfInBounds]; exact h.q37, Wy.ok_gr h.ok hg (fun j _ e => by rw [e]; exact h.ap), h.ap, fun j hj => Nat.lt_of_lt_of_le (h.lt j hj) hg.size, h.lo, h.p3⟩
  have e : (m ++ q ++ #[Value.pointer S.inn, .pointer S.out]).setIfInBounds (37 + i) v = m ++ q.setIfInBounds i v ++ #[.pointer S.inn, .pointer S.out] := by
    apply Array.ext_getElem?
    intro j
    have e1 := h.m37
    have e2 := h.q37
    have e3 : (#[Value.pointer S.inn, .pointer S.out] : Array Value).size = 2 := rfl
    simp only [Array.getElem?_setIfInBounds, Array.getElem?_append, Array.size_append, Array.size_setIfInBounds, e1, e2, e3]
    by_cases hj : 37 + i = j
    · subst hj
      rw [if_pos rfl, if_pos (by omega), if_pos (by omega), if_neg (by omega), if_pos (by omega), if_pos (by omega)]
    · rw [if_neg hj]
      by_cases h1 : j < 37
      · rw [if_pos (by omega), if_pos h1, if_pos (by omega), if_pos h1]
      · by_cases h2 : j < 37 + 37
        · rw [if_pos h2, if_neg h1, if_pos h2, if_neg h1, if_neg (by omega)]
        · rw [if_neg h2, if_neg h2]
  rw [← e]
  exact bk_setA h.bk (37 + i) v
/-- Where a field's work leaves the program's own variables: as they were. -/
theorem St.glob {w w' p m q S A} (h : St w p m q S A) (hg : Gr (fun j => j = p ∨ S.blk j) w w') (j : Nat) (hj : j < 3) (hs : j < w.heap.size) : w'.heap[j]? = w.heap[j]? :=
  hg.block j hs (fun z => by
    rcases z with z | ⟨z, z1⟩
    · have := h.p3; omega
    · rcases h.ok with y | ⟨_, y, _⟩
      · exact z y
      · exact y (z1 ▸ h.lo j hj))
/-- A new block beside. -/
theorem St.apart {w p m q S A} (h : St w p m q S A) {w' : World} (hg : w.grownBy w' none) (hl : w.heap.size < w'.heap.size) : St w' p m q S (fun j => A j ∨ j = w.heap.size) := by
  have h' := h.new hg
  refine ⟨h'.bk, h.m37, h.q37, ?_, .inl h.ap, fun j hj => by rcases hj with hj | hj; exact h'.lt j hj; omega, fun j hj => .inl (h.lo j hj), h.p3⟩
  rcases h.ok with z | ⟨z, z1, fs, z2, z3⟩
  · exact .inl z
  · refine .inr ⟨z, fun c => ?_, fs, z2.new hg, fun j hj c => ?_⟩
    · rcases c with c | c
      · exact z1 c
      · have := z2.lt; omega
    · rcases c with c | c
      · exact z3 j hj c
      · have := z2.chlt j hj; omega
/-- Fewer blocks held apart. -/
theorem St.less {w p m q S A} {A' : Nat → Prop} (h : St w p m q S A) (ha : ∀ j, A' j → A j) (hp : A' p) (hlo : ∀ j, j < 3 → A' j) : St w p m q S A' := by
  refine ⟨h.bk, h.m37, h.q37, ?_, hp, fun j hj => h.lt j (ha j hj), hlo, h.p3⟩
  rcases h.ok with z | ⟨z, z1, fs, z2, z3⟩
  · exact .inl z
  · exact .inr ⟨z, fun c => z1 (ha _ c), fs, z2, fun j hj c => z3 j hj (ha j c)⟩

theorem wie_ok {x most : Int} (h0 : 0 ≤ x) (h1 : x ≤ most) : wie x most = 0 := by
  unfold wie
  rw [if_neg (by omega), if_neg (by omega)]
/-- A number into the Writer, if there is one. -/
theorem oint_c {w p m q S A} (x most : Int) (h : St w p m q S A) (h0 : 0 ≤ x) (h1 : x ≤ most) (hm : most ≤ 9223372036854775807) (hb : S.room 10) :
    Calls Tryz.prog 161 #[.pointer S.out, .int .i64 x, .int .i64 most] w fun r w' => r = .returned (.tuple #[]) ∧ St w' p m q (S.more (enc x.toNat)) A ∧ Gr S.blk w w' := by
  rcases h.ok with z | ⟨z, z1, fs, z2, z3⟩
  · have e1 : S.out = none := by unfold Wy.out; rw [if_neg (by omega)]
    have e2 : S.more (enc x.toNat) = S := by unfold Wy.more; rw [if_neg (by omega)]
    rw [e1, e2]
    refine (nint_c x most w).mono ?_
    rintro r w' ⟨rfl, rfl⟩
    exact ⟨rfl, h, Gr.refl _ _⟩
  · have e1 : S.out = some ⟨S.g, 0, none⟩ := by unfold Wy.out; rw [if_pos z]
    have e2 : S.more (enc x.toNat) = { S with xs := S.xs ++ enc x.toNat } := by unfold Wy.more; rw [if_pos z]
    rw [e1]
    refine (wint_c S.g S.xs 0 x most fs w z2 (by omega) hb).mono ?_
    rintro r w' ⟨rfl, h2⟩
    rw [wie_ok h0 h1, show ferr 0 0 = 0 from rfl, show wadd 0 S.xs (enc x.toNat) = S.xs ++ enc x.toNat from rfl] at h2
    obtain ⟨fs', g1, g2, g3⟩ := h2
    have hg : Gr S.blk w w' := g2.wide (fun k _ hk => ⟨by omega, hk⟩)
    refine ⟨rfl, ⟨?_, h.m37, h.q37, ?_, h.ap, fun j hj => Nat.lt_of_lt_of_le (h.lt j hj) hg.size, h.lo, h.p3⟩, hg⟩
    · have b := h.bk.gr g2 (fun e => z1 (e ▸ h.ap))
      rw [e2]
      exact b
    · rw [e2]
      refine .inr ⟨z, z1, fs', g1, fun j hj c => ?_⟩
      rcases g3 j hj with d | d
      · exact z3 j d c
      · have := h.lt j c; omega
/-- What a step of the pass that answers a number comes to. -/
def NumTo (w : World) (p : Nat) (m q : Array Value) (S : Wy) (A : Nat → Prop) (R : Option (Int × Wy)) (r : Ending) (w' : World) : Prop :=
  ((∃ v S', R = some (v, S') ∧ r = .returned (.int .i64 v) ∧ St w' p m q S' A) ∨ (R = none ∧ r = .panicked pan)) ∧ Gr S.blk w w'
theorem num_c {w p m q S A} (x lo hi : Int) (h : St w p m q S A) (h0 : 0 ≤ lo) (hm : hi ≤ 9223372036854775807) (hb : S.room 10) :
    Calls Tryz.prog 122 #[.pointer (some ⟨p, 0, none⟩), .int .i64 x, .int .i64 lo, .int .i64 hi] w fun r w' => NumTo w p m q S A (S.num x lo hi) r w' := by
  have cI : w.cell? ⟨p, 74, none⟩ = some (.pointer none) := h.cellI
  have cO := h.cellO
  have HM : Hid _ := emust_so w
  have HN : Hid _ := emust_no w
  have HO : Hid (0 ≤ x → x ≤ hi → _) := fun a b => oint_c x hi h a b hm hb
  have HS : Hid (S.num x lo hi = _) := rfl
  clear h hb hm
  by_cases h1 : lo ≤ x
  · have h3 : 0 ≤ x := by omega
    by_cases h2 : x ≤ hi
    · have HR : Hid (S.num x lo hi = some (x, S.more (enc x.toNat))) := by show _ = _; unfold Wy.num; rw [if_pos ⟨h1, h2⟩]
      have HO' : Hid _ := HO.out h3 h2
      clear HO HN
      go_enter Tryz.func122, Tryz.ntmps122
      go_wp2_with (first
        | (go_at_call 42; go_must (refine (Calls.mono HM.out ?_)); rintro r wq ⟨rfl, hq⟩; obtain rfl := hq.symm; clear hq)
        | (go_at_call 161; go_must (refine (Calls.mono HO'.out ?_)); rintro r w2 ⟨rfl, h5, h6⟩; have H2 : Hid (St w2 p m q (S.more (enc x.toNat)) A ∧ Gr S.blk w w2) := ⟨h5, h6⟩; clear h5 h6))
      go_ret
      exact ⟨.inl ⟨_, _, HR.out, rfl, H2.out.1⟩, H2.out.2⟩
    · have HR : Hid (S.num x lo hi = none) := by show _ = _; unfold Wy.num; rw [if_neg (fun z => h2 z.2)]
      clear HO HM
      go_enter Tryz.func122, Tryz.ntmps122
      go_wp2_with (go_at_call 42; go_must (refine (Calls.mono HN.out ?_)); rintro r wq ⟨rfl, hq⟩; obtain rfl := hq.symm; clear hq)
      exact ⟨rfl, .inr ⟨HR.out, rfl⟩, Gr.refl _ _⟩
  · have HR : Hid (S.num x lo hi = none) := by show _ = _; unfold Wy.num; rw [if_neg (fun z => h1 z.1)]
    clear HO HM
    go_enter Tryz.func122, Tryz.ntmps122
    go_wp2_with (go_at_call 42; go_must (refine (Calls.mono HN.out ?_)); rintro r wq ⟨rfl, hq⟩; obtain rfl := hq.symm; clear hq)
    exact ⟨rfl, .inr ⟨HR.out, rfl⟩, Gr.refl _ _⟩

/-- What a field comes to. -/
def StepTo (w : World) (p : Nat) (m q : Array Value) (S : Wy) (A : Nat → Prop) (R : Option (Array Value × Wy)) (r : Ending) (w' : World) : Prop :=
  ((∃ q' S', R = some (q', S') ∧ r = .returned (.tuple #[]) ∧ St w' p m q' S' A) ∨ (R = none ∧ r = .panicked pan)) ∧ Gr (fun j => j = p ∨ S.blk j) w w'
/-- A number stored. -/
def fN (i : Nat) (lo hi x : Int) (q : Array Value) (S : Wy) : Option (Array Value × Wy) :=
  match S.num x lo hi with
  | some (v, S') => some (q.setIfInBounds i (.int .i64 v), S')
  | none => none
theorem q_some {w p m q S A} (h : St w p m q S A) (i : Nat) (hi : i < 37) : ∃ u, q[i]? = some u := ⟨q[i]'(by rw [h.q37]; exact hi), by simp [h.q37, hi]⟩
theorem blk_wide {S : Wy} {p : Nat} {w w' : World} (h : Gr S.blk w w') : Gr (fun j => j = p ∨ S.blk j) w w' := h.wide (fun _ _ h => .inr h)
theorem put_gr {w w2 : World} {p k : Nat} {S : Wy} (h : Gr S.blk w w2) (v : Value) : Gr (fun j => j = p ∨ S.blk j) w (w2.setCell ⟨p, k, none⟩ v) :=
  (blk_wide h).trans (Gr.of (grownBy_cell w2 p k v) (fun j hj => by cases hj; exact .inl (.inl rfl)))
theorem fN_some {i lo hi x q S v S'} (h : Wy.num S x lo hi = some (v, S')) : fN i lo hi x q S = some (q.setIfInBounds i (.int .i64 v), S') := by unfold fN; rw [h]
theorem fN_none {i lo hi x q S} (h : Wy.num S x lo hi = none) : fN i lo hi x q S = none := by unfold fN; rw [h]
theorem epoch_c {w p m q S A} (x : Int) (hm : m[3]? = some (.int .i64 x)) (h : St w p m q S A) (hb : S.room 10) : Calls Tryz.prog 129 #[.pointer (some ⟨p, 0, none⟩)] w fun r w' => StepTo w p m q S A (fN 3 1 1099511627776 x q S) r w' := by
  have c := (h.cellM 3 (by omega)).trans hm
  have HN : Hid _ := num_c x 1 1099511627776 h (by omega) (by omega) hb
  clear h hb hm
  go_enter Tryz.func129, Tryz.ntmps129
  go_wp2_with fail
  refine Calls.mono HN.out ?_
  rintro r w2 ⟨⟨v, S', e1, rfl, h2⟩ | ⟨e1, rfl⟩, hg⟩
  · obtain ⟨u, hu⟩ := q_some h2 3 (by omega)
    have cq : w2.cell? ⟨p, 40, none⟩ = some u := (h2.cellQ 3 (by omega)).trans hu
    have fq : w2.frozen? ⟨p, 40, none⟩ = false := h2.free 40
    have H2 : Hid _ := h2.put 3 (by omega) (.int .i64 v)
    have H3 : Hid _ := put_gr (p := p) (k := 40) hg (.int .i64 v)
    have H4 : Hid _ := fN_some (i := 3) (q := q) e1
    clear h2 hg e1 hu
    go_wp2
    go_end0
    exact ⟨.inl ⟨_, _, H4.out, rfl, H2.out⟩, H3.out⟩
  · exact ⟨rfl, .inr ⟨fN_none e1, rfl⟩, blk_wide hg⟩
theorem since_c {w p m q S A} (x : Int) (hm : m[3]? = some (.int .i64 x)) (h : St w p m q S A) (hb : S.room 10) : Calls Tryz.prog 134 #[.pointer (some ⟨p, 0, none⟩)] w fun r w' => StepTo w p m q S A (fN 3 0 1099511627776 x q S) r w' := by
  have c := (h.cellM 3 (by omega)).trans hm
  have HN : Hid _ := num_c x 0 1099511627776 h (by omega) (by omega) hb
  clear h hb hm
  go_enter Tryz.func134, Tryz.ntmps134
  go_wp2_with fail
  refine Calls.mono HN.out ?_
  rintro r w2 ⟨⟨v, S', e1, rfl, h2⟩ | ⟨e1, rfl⟩, hg⟩
  · obtain ⟨u, hu⟩ := q_some h2 3 (by omega)
    have cq : w2.cell? ⟨p, 40, none⟩ = some u := (h2.cellQ 3 (by omega)).trans hu
    have fq : w2.frozen? ⟨p, 40, none⟩ = false := h2.free 40
    have H2 : Hid _ := h2.put 3 (by omega) (.int .i64 v)
    have H3 : Hid _ := put_gr (p := p) (k := 40) hg (.int .i64 v)
    have H4 : Hid _ := fN_some (i := 3) (q := q) e1
    clear h2 hg e1 hu
    go_wp2
    go_end0
    exact ⟨.inl ⟨_, _, H4.out, rfl, H2.out⟩, H3.out⟩
  · exact ⟨rfl, .inr ⟨fN_none e1, rfl⟩, blk_wide hg⟩
theorem attempt_c {w p m q S A} (x : Int) (hm : m[4]? = some (.int .i64 x)) (h : St w p m q S A) (hb : S.room 10) : Calls Tryz.prog 140 #[.pointer (some ⟨p, 0, none⟩)] w fun r w' => StepTo w p m q S A (fN 4 1 1152921504606846976 x q S) r w' := by
  have c := (h.cellM 4 (by omega)).trans hm
  have HN : Hid _ := num_c x 1 1152921504606846976 h (by omega) (by omega) hb
  clear h hb hm
  go_enter Tryz.func140, Tryz.ntmps140
  go_wp2_with fail
  refine Calls.mono HN.out ?_
  rintro r w2 ⟨⟨v, S', e1, rfl, h2⟩ | ⟨e1, rfl⟩, hg⟩
  · obtain ⟨u, hu⟩ := q_some h2 4 (by omega)
    have cq : w2.cell? ⟨p, 41, none⟩ = some u := (h2.cellQ 4 (by omega)).trans hu
    have fq : w2.frozen? ⟨p, 41, none⟩ = false := h2.free 41
    have H2 : Hid _ := h2.put 4 (by omega) (.int .i64 v)
    have H3 : Hid _ := put_gr (p := p) (k := 41) hg (.int .i64 v)
    have H4 : Hid _ := fN_some (i := 4) (q := q) e1
    clear h2 hg e1 hu
    go_wp2
    go_end0
    exact ⟨.inl ⟨_, _, H4.out, rfl, H2.out⟩, H3.out⟩
  · exact ⟨rfl, .inr ⟨fN_none e1, rfl⟩, blk_wide hg⟩
theorem number_c {w p m q S A} (x : Int) (hm : m[6]? = some (.int .i64 x)) (h : St w p m q S A) (hb : S.room 10) : Calls Tryz.prog 127 #[.pointer (some ⟨p, 0, none⟩)] w fun r w' => StepTo w p m q S A (fN 6 1 1152921504606846976 x q S) r w' := by
  have c := (h.cellM 6 (by omega)).trans hm
  have HN : Hid _ := num_c x 1 1152921504606846976 h (by omega) (by omega) hb
  clear h hb hm
  go_enter Tryz.func127, Tryz.ntmps127
  go_wp2_with fail
  refine Calls.mono HN.out ?_
  rintro r w2 ⟨⟨v, S', e1, rfl, h2⟩ | ⟨e1, rfl⟩, hg⟩
  · obtain ⟨u, hu⟩ := q_some h2 6 (by omega)
    have cq : w2.cell? ⟨p, 43, none⟩ = some u := (h2.cellQ 6 (by omega)).trans hu
    have fq : w2.frozen? ⟨p, 43, none⟩ = false := h2.free 43
    have H2 : Hid _ := h2.put 6 (by omega) (.int .i64 v)
    have H3 : Hid _ := put_gr (p := p) (k := 43) hg (.int .i64 v)
    have H4 : Hid _ := fN_some (i := 6) (q := q) e1
    clear h2 hg e1 hu
    go_wp2
    go_end0
    exact ⟨.inl ⟨_, _, H4.out, rfl, H2.out⟩, H3.out⟩
  · exact ⟨rfl, .inr ⟨fN_none e1, rfl⟩, blk_wide hg⟩
theorem seq_c {w p m q S A} (x : Int) (hm : m[7]? = some (.int .i64 x)) (h : St w p m q S A) (hb : S.room 10) : Calls Tryz.prog 137 #[.pointer (some ⟨p, 0, none⟩)] w fun r w' => StepTo w p m q S A (fN 7 0 1152921504606846976 x q S) r w' := by
  have c := (h.cellM 7 (by omega)).trans hm
  have HN : Hid _ := num_c x 0 1152921504606846976 h (by omega) (by omega) hb
  clear h hb hm
  go_enter Tryz.func137, Tryz.ntmps137
  go_wp2_with fail
  refine Calls.mono HN.out ?_
  rintro r w2 ⟨⟨v, S', e1, rfl, h2⟩ | ⟨e1, rfl⟩, hg⟩
  · obtain ⟨u, hu⟩ := q_some h2 7 (by omega)
    have cq : w2.cell? ⟨p, 44, none⟩ = some u := (h2.cellQ 7 (by omega)).trans hu
    have fq : w2.frozen? ⟨p, 44, none⟩ = false := h2.free 44
    have H2 : Hid _ := h2.put 7 (by omega) (.int .i64 v)
    have H3 : Hid _ := put_gr (p := p) (k := 44) hg (.int .i64 v)
    have H4 : Hid _ := fN_some (i := 7) (q := q) e1
    clear h2 hg e1 hu
    go_wp2
    go_end0
    exact ⟨.inl ⟨_, _, H4.out, rfl, H2.out⟩, H3.out⟩
  · exact ⟨rfl, .inr ⟨fN_none e1, rfl⟩, blk_wide hg⟩
theorem level_c {w p m q S A} (x : Int) (hm : m[28]? = some (.int .i64 x)) (h : St w p m q S A) (hb : S.room 10) : Calls Tryz.prog 144 #[.pointer (some ⟨p, 0, none⟩)] w fun r w' => StepTo w p m q S A (fN 28 0 3 x q S) r w' := by
  have c := (h.cellM 28 (by omega)).trans hm
  have HN : Hid _ := num_c x 0 3 h (by omega) (by omega) hb
  clear h hb hm
  go_enter Tryz.func144, Tryz.ntmps144
  go_wp2_with fail
  refine Calls.mono HN.out ?_
  rintro r w2 ⟨⟨v, S', e1, rfl, h2⟩ | ⟨e1, rfl⟩, hg⟩
  · obtain ⟨u, hu⟩ := q_some h2 28 (by omega)
    have cq : w2.cell? ⟨p, 65, none⟩ = some u := (h2.cellQ 28 (by omega)).trans hu
    have fq : w2.frozen? ⟨p, 65, none⟩ = false := h2.free 65
    have H2 : Hid _ := h2.put 28 (by omega) (.int .i64 v)
    have H3 : Hid _ := put_gr (p := p) (k := 65) hg (.int .i64 v)
    have H4 : Hid _ := fN_some (i := 28) (q := q) e1
    clear h2 hg e1 hu
    go_wp2
    go_end0
    exact ⟨.inl ⟨_, _, H4.out, rfl, H2.out⟩, H3.out⟩
  · exact ⟨rfl, .inr ⟨fN_none e1, rfl⟩, blk_wide hg⟩
end Go.Proofs.YtokkhhekmebakaaGreatDoor
