/-
  What the Opener's six takes answer, said in one way: the part is whole, or waits for more, or is wrong. Condition: a list that can be read, of at most 2^46 bytes.
-/
import Derived.Test.YtcdgfghcmeadgaaDoorIOr
import Derived.Test.YtcdgfghcmeadgaaDoorFb
namespace Go.Proofs.YtcdgfghcmeadgaaDoor
open Go.RowKit
set_option linter.unusedVariables false

/-- An Opener that waits for a part. -/
structure OW (o : Opn) (part : Nat) (seq : Int) (n : Nat) (X : List Rwi) : Prop where
  pt : o.part = (part : Int)
  sq : 2 ≤ part → o.seq = seq
  lf : 3 ≤ part → o.left = ((n - X.length : Nat) : Int)
  ah : o.ahead = ahd X X.length
  er : o.err = 0
  rs : o.rest = none
  ls : o.least = 0
def Opn.told (o : Opn) : Value := .slice o.ta o.tn o.tc
/-- Rows that were told. -/
def Tol (B : Nat) (w : World) (o : Opn) (Z : List Rwi) : Prop := o.tn = Z.length ∧ w.ownsRow B 48 3 o.told Z.length (flI Z)
theorem Tol.nil {B : Nat} {w : World} {o : Opn} (h1 : o.ta = none) (h2 : o.tn = 0) (h3 : o.tc = 0) : Tol B w o [] := ⟨h2, by unfold Opn.told; rw [h1, h2, h3]; exact ⟨rfl, .inl ⟨rfl, rfl⟩⟩⟩
theorem Tol.grew {B : Nat} {w w' : World} {o o' : Opn} {Z : List Rwi} {g : Nat} (h : Tol B w o Z) (hg : w.grownBy w' (some g)) (hgB : g < B) (e1 : o'.ta = o.ta) (e2 : o'.tn = o.tn) (e3 : o'.tc = o.tc) : Tol B w' o' Z := by
  refine ⟨by rw [e2]; exact h.1, ?_⟩
  have : o'.told = o.told := by unfold Opn.told; rw [e1, e2, e3]
  rw [this]
  exact own_grewI h.2 hg (fun b hb e => by have := (own_lo2 h.2 b hb).1; have := Option.some.inj e; omega)
theorem own_weak {B C : Nat} {w : World} {v : Value} {n : Nat} {xs : List Value} (h : w.ownsRow C 48 3 v n xs) (hBC : B ≤ C) : w.ownsRow B 48 3 v n xs := by
  refine ⟨h.1, ?_⟩
  rcases h.2 with h0 | ⟨g, cap, cur, e, hB, r⟩
  · exact .inl h0
  · exact .inr ⟨g, cap, cur, e, Nat.le_trans hBC hB, r⟩
/-- What a take answers. -/
def TakeA (ys : List Int) (part p : Nat) (seq : Int) (n : Nat) (X : List Rwi) (o : Opn) (g : Nat) (w : World) (r : Ending) (w' : World) : Prop :=
  w.grownBy w' (some g) ∧ ∃ D o' p', p ≤ p' ∧ OpB w' g o' ∧ (∀ B Z, g < B → B ≤ w.heap.size → Tol B w o Z → (part = 3 → Z = []) → Tol B w' o' (Z ++ D)) ∧ o'.part = (part : Int) ∧ o'.ahead = ahd (X ++ D) (X ++ D).length ∧ o'.sum = o.sum ∧ o'.size = o.size ∧ o'.ended = o.ended ∧ (part ≠ 3 → D = [] ∧ o'.ta = o.ta ∧ o'.tn = o.tn ∧ o'.tc = o.tc) ∧
    ((∃ seq' n', r = .returned (.tuple #[.int .i64 ((p' - p : Nat) : Int), .bool true]) ∧ Pre ys (part + 1) p' seq' n' (X ++ D) ∧ (2 ≤ part + 1 → o'.seq = seq') ∧ (3 ≤ part + 1 → o'.left = ((n' - (X ++ D).length : Nat) : Int)) ∧ o'.err = 0 ∧ o'.rest = none ∧ o'.least = 0 ∧ part < 5) ∨
     (r = .returned (.tuple #[.int .i64 ((p' - p : Nat) : Int), .bool false]) ∧ Pre ys part p' seq n (X ++ D) ∧ Waits ys part p' n (X ++ D) ∧ (2 ≤ part → o'.seq = seq) ∧ (3 ≤ part → o'.left = ((n - (X ++ D).length : Nat) : Int)) ∧ o'.err = 0 ∧ o'.rest = none ∧ o'.least = (if part = 3 then (nd (ys.drop p') : Int) else 0)) ∨
     (∃ e, r = .panicked (chnE e) ∧ Pre ys part p' seq n (X ++ D) ∧ Wrong ys part p' seq n (X ++ D) e ∧ o'.err = e ∧ o'.rest = none))
theorem tol_same {g : Nat} {w w' : World} {o o' : Opn} {part : Nat} (hg : w.grownBy w' (some g)) (e1 : o'.ta = o.ta) (e2 : o'.tn = o.tn) (e3 : o'.tc = o.tc) : ∀ B Z, g < B → B ≤ w.heap.size → Tol B w o Z → (part = 3 → Z = []) → Tol B w' o' (Z ++ []) := fun B Z h1 h2 h3 _ => by rw [List.append_nil]; exact h3.grew hg h1 e1 e2 e3
theorem tk0 (g : Nat) (o : Opn) (a : Option Addr) (m c : Nat) (ys : List Int) (p : Nat) (seq : Int) (n : Nat) (X : List Rwi) (w : World) (h : OpB w g o) (hw : OW o 0 seq n X) (hpre : Pre ys 0 p seq n X) (hx : Seg .u8 w a m (ys.drop p)) (hb : Bytes ys) (hmc : m ≤ c) :
    Calls Tryd.prog 122 #[.pointer (some ⟨g, 0, none⟩), .slice a m c] w fun r w' => TakeA ys 0 p seq n X o g w r w' := by
  obtain rfl := hpre.h0 rfl
  rw [List.drop_zero] at hx
  have hml : ys.length = m := hx.1
  have hah : o.ahead = ahd (X ++ []) (X ++ []).length := by rw [List.append_nil]; exact hw.ah
  have good : ∀ w', w.grownBy w' none → 4 ≤ m → ys.take 4 = mark4 → TakeA ys 0 0 seq n X o g w (.returned (.tuple #[.int .i64 4, .bool true])) w' := fun w' hg h4 hm =>
    ⟨gb_wide hg _, [], o, 4, by omega, opb_gb h hg, tol_same (gb_wide hg _) rfl rfl rfl, hw.pt, hah, rfl, rfl, rfl, fun _ => ⟨rfl, rfl, rfl, rfl⟩, .inl ⟨seq, n, rfl, by rw [List.append_nil]; exact hpre.mark (by omega) hm, fun z => by omega, fun z => by omega, hw.er, hw.rs, hw.ls, by omega⟩⟩
  have wait : ∀ w', w.grownBy w' none → m < 4 → ys.take m = mark4.take m → TakeA ys 0 0 seq n X o g w (.returned (.tuple #[.int .i64 0, .bool false])) w' := fun w' hg h4 hm =>
    ⟨gb_wide hg _, [], o, 0, by omega, opb_gb h hg, tol_same (gb_wide hg _) rfl rfl rfl, hw.pt, hah, rfl, rfl, rfl, fun _ => ⟨rfl, rfl, rfl, rfl⟩, .inr (.inl ⟨rfl, by rw [List.append_nil]; exact hpre, .inl ⟨rfl, by omega, by rw [hml, ← hm, List.take_of_length_le (by omega)]⟩, fun z => by omega, fun z => by omega, hw.er, hw.rs, by rw [if_neg (by decide)]; exact hw.ls⟩)⟩
  have bad : ∀ w' k, OpB w' g { o with err := 92, rest := none } → w.grownBy w' (some g) → k ≤ 4 → k ≤ m → ys.take k ≠ mark4.take k → TakeA ys 0 0 seq n X o g w (.panicked (chnE 92)) w' := fun w' k ho hg h4 hk hm =>
    ⟨hg, [], _, 0, by omega, ho, tol_same hg rfl rfl rfl, hw.pt, hah, rfl, rfl, rfl, fun _ => ⟨rfl, rfl, rfl, rfl⟩, .inr (.inr ⟨92, rfl, by rw [List.append_nil]; exact hpre, .inl ⟨rfl, ⟨k, h4, by omega, hm⟩, rfl⟩, rfl, rfl⟩)⟩
  rcases Nat.lt_or_ge m 4 with h4 | h4
  · by_cases hm : ys.take m = mark4.take m
    · exact (omark_w g o a m c ys w h hx hb hmc h4 (decide_eq_true hm)).mono fun r w' ⟨e, hg⟩ => by rw [e]; exact wait w' hg h4 hm
    · exact (omark_n3 g o a m c ys w h hx hb hmc h4 (decide_eq_false hm)).mono fun r w' ⟨e, ho, hg⟩ => by rw [e]; exact bad w' m ho hg (by omega) (Nat.le_refl _) hm
  · rcases Nat.lt_or_ge 4 m with h5 | h5
    · by_cases hm : ys.take 4 = mark4.take 4
      · exact (omark_s5 g o a m c ys w h hx hb hmc h5 (decide_eq_true hm)).mono fun r w' ⟨e, hg⟩ => by rw [e]; exact good w' hg h4 hm
      · exact (omark_n5 g o a m c ys w h hx hb hmc h5 (decide_eq_false hm)).mono fun r w' ⟨e, ho, hg⟩ => by rw [e]; exact bad w' 4 ho hg (by omega) h4 hm
    · obtain rfl : m = 4 := by omega
      by_cases hm : ys.take 4 = mark4.take 4
      · exact (omark_s4 g o a 0 c ys w h hx hb hmc (decide_eq_true hm)).mono fun r w' ⟨e, hg⟩ => by rw [e]; exact good w' hg h4 hm
      · exact (omark_n4 g o a 0 c ys w h hx hb hmc (decide_eq_false hm)).mono fun r w' ⟨e, ho, hg⟩ => by rw [e]; exact bad w' 4 ho hg (by omega) h4 hm
theorem ri_zero {xs : List Int} (hx : Bytes xs) {most : Int} (he : (ri xs 0 most).2.2 ≠ 0) : (ri xs 0 most).2.1 = 0 := ((ri_bd hx 0 (Nat.zero_le _) most).2.2.2.2 he).2
theorem tk1 (g : Nat) (o : Opn) (a : Option Addr) (m c : Nat) (ys : List Int) (p : Nat) (seq : Int) (n : Nat) (X : List Rwi) (w : World) (h : OpB w g o) (hw : OW o 1 seq n X) (hpre : Pre ys 1 p seq n X) (hx : Seg .u8 w a m (ys.drop p)) (hb : Bytes ys) (hnz : a = none → c = 0) (hmc : m ≤ c) :
    Calls Tryd.prog 123 #[.pointer (some ⟨g, 0, none⟩), .slice a m c] w fun r w' => TakeA ys 1 p seq n X o g w r w' := by
  have hah : o.ahead = ahd (X ++ []) (X ++ []).length := by rw [List.append_nil]; exact hw.ah
  refine (oseq_c g o a m c _ w h hx (bytes_drop hb p) hnz hmc).mono ?_
  rintro r w' ⟨h1, h2, hg⟩
  rw [ri_ten] at h1 h2
  have hbd := ri_took (p := p) hb (most := 1152921504606846976)
  by_cases hE : (ri (ys.drop p) 0 1152921504606846976).2.2 = 0
  · obtain ⟨e1, e2⟩ := h1 (.inl hE)
    rw [hE] at e1
    exact ⟨hg, [], _, p + (ri (ys.drop p) 0 1152921504606846976).2.1, by omega, e2, tol_same hg rfl rfl rfl, hw.pt, hah, rfl, rfl, rfl, fun _ => ⟨rfl, rfl, rfl, rfl⟩, .inl ⟨_, n, by rw [e1, Nat.add_sub_cancel_left]; rfl, by rw [List.append_nil]; exact hpre.seq hb hE, fun _ => rfl, fun z => by omega, hw.er, hw.rs, hw.ls, by omega⟩⟩
  · by_cases h3 : (ri (ys.drop p) 0 1152921504606846976).2.2 = 30
    · obtain ⟨e1, e2⟩ := h1 (.inr h3)
      rw [h3, ri_zero (bytes_drop hb p) hE] at e1
      exact ⟨hg, [], _, p, Nat.le_refl _, e2, tol_same hg rfl rfl rfl, hw.pt, hah, rfl, rfl, rfl, fun _ => ⟨rfl, rfl, rfl, rfl⟩, .inr (.inl ⟨by rw [e1, Nat.sub_self]; rfl, by rw [List.append_nil]; exact hpre, .inr (.inl ⟨rfl, h3⟩), fun z => by omega, fun z => by omega, hw.er, hw.rs, by rw [if_neg (by decide)]; exact hw.ls⟩)⟩
    · obtain ⟨e1, e2⟩ := h2 ⟨hE, h3⟩
      exact ⟨hg, [], _, p, Nat.le_refl _, e2, tol_same hg rfl rfl rfl, hw.pt, hah, rfl, rfl, rfl, fun _ => ⟨rfl, rfl, rfl, rfl⟩, .inr (.inr ⟨92, e1, by rw [List.append_nil]; exact hpre, .inr (.inl ⟨rfl, h3, hE, rfl⟩), rfl, rfl⟩)⟩
theorem tk2 (g : Nat) (o : Opn) (a : Option Addr) (m c : Nat) (ys : List Int) (p : Nat) (seq : Int) (n : Nat) (X : List Rwi) (w : World) (h : OpB w g o) (hw : OW o 2 seq n X) (hpre : Pre ys 2 p seq n X) (hx : Seg .u8 w a m (ys.drop p)) (hb : Bytes ys) (hnz : a = none → c = 0) (hmc : m ≤ c) :
    Calls Tryd.prog 124 #[.pointer (some ⟨g, 0, none⟩), .slice a m c] w fun r w' => TakeA ys 2 p seq n X o g w r w' := by
  have hX := hpre.x0 (by omega)
  subst hX
  have hah : o.ahead = ahd (([] : List Rwi) ++ []) (([] : List Rwi) ++ []).length := hw.ah
  refine (ocount_c g o a m c _ w h hx (bytes_drop hb p) hnz hmc).mono ?_
  rintro r w' ⟨h1, h2, hg⟩
  rw [ri_ten] at h1 h2
  by_cases hE : (ri (ys.drop p) 0 1048576).2.2 = 0
  · obtain ⟨e1, e2⟩ := h1 (.inl hE)
    rw [hE] at e1
    obtain ⟨_, b2, _⟩ := ri_took (p := p) hb hE
    exact ⟨hg, [], _, p + (ri (ys.drop p) 0 1048576).2.1, by omega, e2, tol_same hg rfl rfl rfl, hw.pt, hah, rfl, rfl, rfl, fun _ => ⟨rfl, rfl, rfl, rfl⟩, .inl ⟨seq, _, by rw [e1, Nat.add_sub_cancel_left]; rfl, hpre.count hb hE, fun _ => hw.sq (Nat.le_refl _), fun _ => by show (ri (ys.drop p) 0 1048576).1 = (((ri (ys.drop p) 0 1048576).1.toNat - 0 : Nat) : Int); omega, hw.er, hw.rs, hw.ls, by omega⟩⟩
  · by_cases h3 : (ri (ys.drop p) 0 1048576).2.2 = 30
    · obtain ⟨e1, e2⟩ := h1 (.inr h3)
      rw [h3, ri_zero (bytes_drop hb p) hE] at e1
      exact ⟨hg, [], _, p, Nat.le_refl _, e2, tol_same hg rfl rfl rfl, hw.pt, hah, rfl, rfl, rfl, fun _ => ⟨rfl, rfl, rfl, rfl⟩, .inr (.inl ⟨by rw [e1, Nat.sub_self]; rfl, hpre, .inr (.inr (.inl ⟨rfl, h3⟩)), fun z => hw.sq z, fun z => by omega, hw.er, hw.rs, by rw [if_neg (by decide)]; exact hw.ls⟩)⟩
    · obtain ⟨e1, e2⟩ := h2 ⟨hE, h3⟩
      exact ⟨hg, [], _, p, Nat.le_refl _, e2, tol_same hg rfl rfl rfl, hw.pt, hah, rfl, rfl, rfl, fun _ => ⟨rfl, rfl, rfl, rfl⟩, .inr (.inr ⟨92, e1, hpre, .inr (.inr (.inl ⟨rfl, h3, hE, rfl⟩)), rfl, rfl⟩)⟩
theorem tk3 (g : Nat) (o : Opn) (a : Option Addr) (m c : Nat) (ys : List Int) (p : Nat) (seq : Int) (n : Nat) (X : List Rwi) (w : World) (h : OpB w g o) (hw : OW o 3 seq n X) (ht1 : o.ta = none) (ht2 : o.tn = 0) (ht3 : o.tc = 0) (hpre : Pre ys 3 p seq n X) (hx : Seg .u8 w a m (ys.drop p)) (hb : Bytes ys) (hnz : a = none → c = 0) (hmc : m ≤ c) (hm : m ≤ 70368744177664) (hag : ∀ b o s, a = some ⟨b, o, s⟩ → b ≠ g) :
    Calls Tryd.prog 125 #[.pointer (some ⟨g, 0, none⟩), .slice a m c] w fun r w' => TakeA ys 3 p seq n X o g w r w' := by
  refine (orows_c g o a m c ys p seq n X w h (hw.sq (by omega)) (hw.lf (Nat.le_refl _)) hw.ah ht1 ht2 ht3 hpre hx hb hnz hmc hm hag).mono ?_
  rintro r w' ⟨D, p', ta, tc, q1, q2, q3, q4, q5⟩
  have told : ∀ o' : Opn, o'.ta = ta → o'.tn = D.length → o'.tc = tc → ∀ B Z, g < B → B ≤ w.heap.size → Tol B w o Z → ((3 : Nat) = 3 → Z = []) → Tol B w' o' (Z ++ D) := fun o' e1 e2 e3 B Z _ hB _ hZ => by
    rw [hZ rfl, List.nil_append]
    refine ⟨e2, ?_⟩
    unfold Opn.told
    rw [e1, e2, e3]
    exact own_weak q3 hB
  rcases q5 with ⟨hn, e, ho⟩ | ⟨hn, he, e, ho⟩ | ⟨hn, e, ho⟩
  · exact ⟨q4, D, _, p', q2, ho, told _ rfl rfl rfl, hw.pt, rfl, rfl, rfl, rfl, fun z => absurd rfl z, .inl ⟨seq, n, e, q1.rows hn, fun _ => hw.sq (by omega), fun _ => by show (0 : Int) = _; omega, hw.er, hw.rs, hw.ls, by omega⟩⟩
  · exact ⟨q4, D, _, p', q2, ho, told _ rfl rfl rfl, hw.pt, rfl, rfl, rfl, rfl, fun z => absurd rfl z, .inr (.inl ⟨e, q1, .inr (.inr (.inr (.inl ⟨rfl, hn, he⟩))), fun _ => hw.sq (by omega), fun _ => rfl, hw.er, hw.rs, by rw [if_pos rfl]⟩)⟩
  · exact ⟨q4, D, _, p', q2, ho, told _ rfl rfl rfl, hw.pt, rfl, rfl, rfl, rfl, fun z => absurd rfl z, .inr (.inr ⟨92, e, q1, hn, rfl, rfl⟩)⟩
theorem tk4 (g : Nat) (o : Opn) (a : Option Addr) (m c : Nat) (ys : List Int) (p : Nat) (seq : Int) (n : Nat) (X : List Rwi) (w : World) (h : OpB w g o) (hw : OW o 4 seq n X) (hs : o.sum = Cr.W (Cr.sum (ys.take p))) (hpre : Pre ys 4 p seq n X) (hx : Seg .u8 w a m (ys.drop p)) (hb : Bytes ys) :
    Calls Tryd.prog 126 #[.pointer (some ⟨g, 0, none⟩), .slice a m c] w fun r w' => TakeA ys 4 p seq n X o g w r w' := by
  have hah : o.ahead = ahd (X ++ []) (X ++ []).length := by rw [List.append_nil]; exact hw.ah
  have hlf : o.left = ((n - (X ++ []).length : Nat) : Int) := by rw [List.append_nil]; exact hw.lf (by omega)
  have hml : ys.length - p = m := by rw [← List.length_drop]; exact hx.1
  have hle := hpre.le
  rcases Nat.lt_or_ge m 4 with h4 | h4
  · refine (osum_w g a m c w h4).mono fun r w' ⟨e, hg⟩ => ?_
    exact ⟨gb_wide hg _, [], o, p, Nat.le_refl _, opb_gb h hg, tol_same (gb_wide hg _) rfl rfl rfl, hw.pt, hah, rfl, rfl, rfl, fun _ => ⟨rfl, rfl, rfl, rfl⟩, .inr (.inl ⟨by rw [e, Nat.sub_self]; rfl, by rw [List.append_nil]; exact hpre, .inr (.inr (.inr (.inr (.inl ⟨rfl, by omega⟩)))), fun _ => hw.sq (by omega), fun _ => hlf, hw.er, hw.rs, by rw [if_neg (by decide)]; exact hw.ls⟩)⟩
  · by_cases hm : (ys.drop p).take 4 = Cr.by4 (Cr.sum (ys.take p))
    · refine (osum_so g o a m c _ _ w h hs hx (bytes_drop hb p) h4 (decide_eq_true hm)).mono fun r w' ⟨e, hg⟩ => ?_
      exact ⟨gb_wide hg _, [], o, p + 4, by omega, opb_gb h hg, tol_same (gb_wide hg _) rfl rfl rfl, hw.pt, hah, rfl, rfl, rfl, fun _ => ⟨rfl, rfl, rfl, rfl⟩, .inl ⟨seq, n, by rw [e, Nat.add_sub_cancel_left]; rfl, by rw [List.append_nil]; exact hpre.sum (by omega) hm, fun _ => hw.sq (by omega), fun _ => hlf, hw.er, hw.rs, hw.ls, by omega⟩⟩
    · refine (osum_no g o a m c _ _ w h hs hx (bytes_drop hb p) h4 (decide_eq_false hm)).mono fun r w' ⟨e, ho, hg⟩ => ?_
      exact ⟨hg, [], _, p, Nat.le_refl _, ho, tol_same hg rfl rfl rfl, hw.pt, hah, rfl, rfl, rfl, fun _ => ⟨rfl, rfl, rfl, rfl⟩, .inr (.inr ⟨93, e, by rw [List.append_nil]; exact hpre, .inr (.inr (.inr (.inr (.inl ⟨rfl, by omega, hm, rfl⟩)))), rfl, rfl⟩)⟩
theorem tk5 (g : Nat) (o : Opn) (a : Option Addr) (m c : Nat) (ys : List Int) (p : Nat) (seq : Int) (n : Nat) (X : List Rwi) (w : World) (h : OpB w g o) (hw : OW o 5 seq n X) (hpre : Pre ys 5 p seq n X) (hx : Seg .u8 w a m (ys.drop p)) :
    Calls Tryd.prog 127 #[.pointer (some ⟨g, 0, none⟩), .slice a m c] w fun r w' => TakeA ys 5 p seq n X o g w r w' := by
  have hah : o.ahead = ahd (X ++ []) (X ++ []).length := by rw [List.append_nil]; exact hw.ah
  have hlf : o.left = ((n - (X ++ []).length : Nat) : Int) := by rw [List.append_nil]; exact hw.lf (by omega)
  have hml : ys.length - p = m := by rw [← List.length_drop]; exact hx.1
  have hle := hpre.le
  rcases Nat.eq_zero_or_pos m with h0 | h0
  · subst h0
    refine (onothing_so g a c w).mono fun r w' ⟨e, hq⟩ => ?_
    subst hq
    exact ⟨World.grownBy.refl _ _, [], o, p, Nat.le_refl _, h, tol_same (World.grownBy.refl _ _) rfl rfl rfl, hw.pt, hah, rfl, rfl, rfl, fun _ => ⟨rfl, rfl, rfl, rfl⟩, .inr (.inl ⟨by rw [e, Nat.sub_self]; rfl, by rw [List.append_nil]; exact hpre, .inr (.inr (.inr (.inr (.inr ⟨rfl, by omega⟩)))), fun _ => hw.sq (by omega), fun _ => hlf, hw.er, hw.rs, by rw [if_neg (by decide)]; exact hw.ls⟩)⟩
  · refine (onothing_no g o a m c h0 w h).mono fun r w' ⟨e, ho, hg⟩ => ?_
    exact ⟨hg, [], _, p, Nat.le_refl _, ho, tol_same hg rfl rfl rfl, hw.pt, hah, rfl, rfl, rfl, fun _ => ⟨rfl, rfl, rfl, rfl⟩, .inr (.inr ⟨92, e, by rw [List.append_nil]; exact hpre, .inr (.inr (.inr (.inr (.inr ⟨rfl, by omega, rfl⟩)))), rfl, rfl⟩)⟩
end Go.Proofs.YtcdgfghcmeadgaaDoor
