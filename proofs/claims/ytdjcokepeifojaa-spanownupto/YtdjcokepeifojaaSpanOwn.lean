/-
  Proved: for every two lists of ranges and every list of numbers whose parts, together, are at most 1048576, hawserlaw06.SpanOwn answers true: the lists that are answered have memory of their own, spare room too, whatever is asked and written between. Condition: that bound.
-/
import Derived.Test.YtdjcokepeifojaaRows
import Derived.Test.YtdjcokepeifojaaNFe
import Derived.Test.YtdjcokepeifojaaNMm
import Derived.Test.YtdjcokepeifojaaNAw
import Derived.Test.YtdjcokepeifojaaNRg
import Derived.Test.YtdjcokepeifojaaNSm
import Derived.Test.YtdjcokepeifojaaNLv
import Derived.Test.YtdjcokepeifojaaNIn
import Derived.Test.YtdjcokepeifojaaNRo
import Derived.WalkKit
import Derived.ProofKit
import Derived.OpenShut
import Derived.ShutString
import Derived.ChangeOld
import Derived.Below
import Derived.Lib.SmallJoins
import Derived.JoinedCond
namespace Go.Proofs.Ytdjcokepeifojaa.spanOwn
open Go.ChangeShapes Go.WideShapes Go.ChangeAt Go.RowKit
set_option linter.unusedVariables false

theorem own : ownKnob Try.prog.godebug = none := by kernel_rfl
theorem laidOut : laidOutB Try.prog = true := by kernel_rfl

/-- What the walk is told of a slice of integers that came in. -/
def IsRow (k : IntKind) (R : Nat) (w : World) (a : Option Addr) (len cap : Nat) (zs : List Int) : Prop :=
  (a = none ∧ len = 0 ∧ cap = 0 ∧ zs = []) ∨
  ∃ x, a = some x ∧ len ≤ cap ∧ cap ≤ R ∧ zs.length = cap ∧ (∀ i, i < zs.length → w.cell? (x.add i) = some (.int k (zs.getD i 0))) ∧ ∀ n ∈ zs, (Lit.int k n).wf = true

def u64v (X : List Int) : List Value := X.map (Value.int .u64)
theorem row_u64 {R : Nat} {w : World} {a : Option Addr} {len cap : Nat} {zs : List Int} (h : IsRow .u64 R w a len cap zs) : ∃ X : List Int, X.length = len ∧ Cells w a (u64v X) ∧ len ≤ R ∧ ∀ x ∈ X, 0 ≤ x := by
  rcases h with ⟨rfl, rfl, rfl, rfl⟩ | ⟨x, rfl, hl, hc, hz, hcell, hwf⟩
  · exact ⟨[], rfl, .inl rfl, Nat.zero_le _, fun _ h => by cases h⟩
  · refine ⟨zs.take len, by rw [List.length_take]; omega, ?_, Nat.le_trans hl hc, fun x hx => ?_⟩
    · by_cases h0 : len = 0
      · subst h0; exact .inl (by simp [u64v])
      · right
        obtain ⟨b, off, spot⟩ := x
        have c0 := hcell 0 (by omega)
        have hspot : spot = none := by simpa [Addr.add] using World.cell?_spot c0
        subst hspot
        rw [Go.WideShapes.add_plain] at c0
        refine ⟨b, off, rfl, ?_, fun j u hu => ?_⟩
        · rcases Nat.lt_or_ge b w.heap.size with h1 | h1
          · exact h1
          · simp [World.cell?, h1] at c0
        · have hj : j < (zs.take len).length := by
            rcases Nat.lt_or_ge j (zs.take len).length with h1 | h1
            · exact h1
            · rw [List.getElem?_eq_none (by simpa [u64v] using h1)] at hu; cases hu
          rw [List.length_take] at hj
          have := hcell j (by omega)
          rw [Go.WideShapes.add_plain] at this
          rw [this, ← hu]
          have hj2 : j < zs.length := by omega
          have hj3 : j < len := by omega
          simp [u64v, hj3, hj2]
    · have := hwf x (List.mem_of_mem_take hx)
      exact (wf_u64 this).1
theorem cells_u64 {w : World} {a : Option Addr} {X : List Int} (h : Cells w a (u64v X)) (i : Nat) (hi : i < X.length) : ∃ b o, a = some ⟨b, o, none⟩ ∧ w.cell? ⟨b, o + i, none⟩ = some (.int .u64 (X.getD i 0)) := by
  rcases h with h | ⟨b, o, rfl, hb, hc⟩
  · have := congrArg List.length h; simp [u64v] at this; simp [this] at hi
  · exact ⟨b, o, rfl, hc i _ (by simp [u64v, hi])⟩
theorem gb_of_own {w1 w2 w3 : World} {v : Value} {n : Nat} {xs : List Value} {e : TypeId} {size : Nat} (h : w1.grownBy w2 none) (ho : w2.ownsRow w1.heap.size e size v n xs) (hg : w2.grownBy w3 v.ownBlock) : w1.grownBy w3 none :=
  below_gb (((gb_below h)).trans (gb_own ho hg h.size))
theorem own_keep {w w' : World} {B : Nat} {v : Value} {n : Nat} {xs : List Value} {e : TypeId} {size : Nat} (h : w.ownsRow B e size v n xs) (hk : ∀ k, v.ownBlock = some k → w'.heap[k]? = w.heap[k]?) : w'.ownsRow B e size v n xs := by
  refine ⟨h.1, ?_⟩
  rcases h.2 with h0 | ⟨g, cap, cur, rfl, hB, hg, r⟩
  · exact .inl h0
  · exact .inr ⟨g, cap, cur, rfl, hB, (hk g rfl).trans hg, r⟩
def e0 : Ent := ⟨nilV, 0, []⟩
/-- What holds between two rounds. -/
structure Rnd (B : Nat) (w : World) (hv nv : Value) (k : Nat) (R : List Rg) (H N : List Ent) : Prop where
  hb : Hb B w hv nv H N
  hh : w.ownsRow B 24 1 hv (5 * k) (H.map (·.v))
  nn : w.ownsRow B 22 1 nv k (N.map (·.v))
  hl : H.length = 5 * k
  nl : N.length = k
  le : ∀ e ∈ H ++ N, e.n ≤ 1073741823
  at3 : ∀ q, q < 5 * k → q % 5 = 0 ∨ q % 5 = 3 → (H.getD q e0).n = R.length ∧ (H.getD q e0).xs = flR R
theorem rnd_none (B : Nat) (w : World) (R : List Rg) (h : B ≤ w.heap.size) : Rnd B w nilV nilV 0 R [] [] :=
  ⟨⟨(fun e h => by cases h), (fun e h => by cases h), ⟨_, _, own_none _ _ _ _⟩, ⟨_, _, own_none _ _ _ _⟩, by simp [Ndis, Value.ownBlock], h⟩, own_none _ _ _ _, own_none _ _ _ _, rfl, rfl, (fun e h => by cases h), fun q h => by omega⟩
theorem own_far {w : World} {B : Nat} {hv nv : Value} {H N : List Ent} (h : Hb B w hv nv H N) : Ndis hv nv := (List.pairwise_cons.1 h.ap).1 nv (by simp)
/-- What holds amid a round. -/
structure Mid (w4 w : World) (hv nv : Value) (q : Nat) (H N H' N' : List Ent) : Prop where
  hb : Hb w4.heap.size w hv nv H' N'
  hh : w.ownsRow w4.heap.size 24 1 hv (5 * q) (H.map (·.v))
  nn : w.ownsRow w4.heap.size 22 1 nv q (N.map (·.v))
  gb : w4.grownBy w none
theorem Mid.insH {w4 w w' hv nv q H N N'} {D C : List Ent} (h : Mid w4 w hv nv q H N (H ++ (D ++ C)) N') (hg : w.grownBy w' none) {v : Value} {n : Nat} {xs : List Value} (ho : w'.ownsRow w.heap.size 39 2 v n xs) : Mid w4 w' hv nv q H N (H ++ (D ++ ⟨v, n, xs⟩ :: C)) N' :=
  ⟨by
    have := Hb.insH (A := H ++ D) (C := C) (e := ⟨v, n, xs⟩) (by rw [List.append_assoc]; exact h.hb) hg ho
    rwa [List.append_assoc] at this, own_gb h.hh hg, own_gb h.nn hg, gb_trans h.gb hg⟩
theorem Mid.addN {w4 w w' hv nv q H N H' N'} (h : Mid w4 w hv nv q H N H' N') (hg : w.grownBy w' none) {v : Value} {n : Nat} {xs : List Value} (ho : w'.ownsRow w.heap.size 3 1 v n xs) : Mid w4 w' hv nv q H N H' (N' ++ [⟨v, n, xs⟩]) :=
  ⟨h.hb.addN (e := ⟨v, n, xs⟩) hg ho, own_gb h.hh hg, own_gb h.nn hg, gb_trans h.gb hg⟩
theorem Rnd.mid {w4 w : World} {hv nv : Value} {q : Nat} {R : List Rg} {H N : List Ent} (h : Rnd w4.heap.size w hv nv q R H N) (hg : w4.grownBy w none) : Mid w4 w hv nv q H N (H ++ ([] ++ [])) N :=
  ⟨by rw [List.append_nil, List.append_nil]; exact h.hb, h.hh, h.nn, hg⟩
theorem at_new {v : Value} {g n c m : Nat} (h : v.ownBlock = some g ∨ m ≤ g) : (Value.slice (some ⟨g, 0, none⟩) n c).ownBlock = v.ownBlock ∨ ∃ g', (Value.slice (some ⟨g, 0, none⟩) n c).ownBlock = some g' ∧ m ≤ g' := by
  rcases h with h | h
  · exact .inl h.symm
  · exact .inr ⟨g, rfl, h⟩
/-- What holds between the two rows' growing. -/
structure Mid2 (w4 w : World) (hv nv : Value) (q : Nat) (N H' N' : List Ent) (xs : List Value) : Prop where
  hb : Hb w4.heap.size w hv nv H' N'
  hh : w.ownsRow w4.heap.size 24 1 hv (5 * q + 5) xs
  nn : w.ownsRow w4.heap.size 22 1 nv q (N.map (·.v))
  gb : w4.grownBy w none
theorem Mid.rowH {w4 w w' hv nv q H N H' N' g c xs} (h : Mid w4 w hv nv q H N H' N') (hg : w.grownBy w' hv.ownBlock) (ho : w'.ownsRow w4.heap.size 24 1 (.slice (some ⟨g, 0, none⟩) (5 * q + 5) c) (5 * q + 5) xs) (hat : hv.ownBlock = some g ∨ w.heap.size ≤ g) : Mid2 w4 w' (.slice (some ⟨g, 0, none⟩) (5 * q + 5) c) nv q N H' N' xs :=
  ⟨h.hb.rowH hg ho (at_new hat), ho, own_gro h.nn hg (fun g e1 e2 => own_far h.hb g e2 e1), gb_of_own h.gb h.hh hg⟩
theorem Mid2.rowN {w4 wo w w' : World} {hvo nvo hv nv : Value} {q : Nat} {H N R g c e1 e2 e3 e4 e5 e6} (hr : Rnd w4.heap.size wo hvo nvo q R H N) (h : Mid2 w4 w hv nv q N (H ++ [e1, e2, e3, e4, e5]) (N ++ [e6]) (H.map (·.v) ++ [e1.v, e2.v, e3.v, e4.v, e5.v])) (hg : w.grownBy w' nv.ownBlock) (ho : w'.ownsRow w4.heap.size 22 1 (.slice (some ⟨g, 0, none⟩) (q + 1) c) (q + 1) (N.map (·.v) ++ [e6.v])) (hat : nv.ownBlock = some g ∨ w.heap.size ≤ g)
    (k1 : e1.n = R.length ∧ e1.xs = flR R) (k4 : e4.n = R.length ∧ e4.xs = flR R) (hle : ∀ e ∈ [e1, e2, e3, e4, e5, e6], e.n ≤ 1073741823) :
    Rnd w4.heap.size w' hv (.slice (some ⟨g, 0, none⟩) (q + 1) c) (q + 1) R (H ++ [e1, e2, e3, e4, e5]) (N ++ [e6]) ∧ w4.grownBy w' none := by
  have hb := h.hb.rowN hg ho (at_new hat)
  refine ⟨⟨hb, ?_, ?_, ?_, ?_, fun e he => ?_, fun p hp hm => ?_⟩, gb_of_own h.gb h.nn hg⟩
  · rw [show 5 * (q + 1) = 5 * q + 5 by omega, List.map_append]
    exact own_gro h.hh hg (fun g e1 e2 => own_far h.hb g e1 e2)
  · rw [List.map_append]; exact ho
  · rw [List.length_append, hr.hl]; rfl
  · rw [List.length_append, hr.nl]; rfl
  · simp only [List.mem_append, List.mem_cons, List.not_mem_nil, or_false] at he hle
    rcases he with (he | he) | (he | he)
    · exact hr.le e (List.mem_append.2 (.inl he))
    · refine hle e ?_
      rcases he with h | h | h | h | h
      · exact .inl h
      · exact .inr (.inl h)
      · exact .inr (.inr (.inl h))
      · exact .inr (.inr (.inr (.inl h)))
      · exact .inr (.inr (.inr (.inr (.inl h))))
    · exact hr.le e (List.mem_append.2 (.inr he))
    · exact hle e (.inr (.inr (.inr (.inr (.inr he)))))
  · have hl := hr.hl
    by_cases h5 : p < 5 * q
    · have e : (H ++ [e1, e2, e3, e4, e5]).getD p e0 = H.getD p e0 := by
        rw [getD_at _ _ (by rw [List.length_append]; omega), getD_at _ _ (by omega), List.getElem_append_left (by omega)]
      rw [e]; exact hr.at3 p h5 hm
    · rcases (show p = 5 * q ∨ p = 5 * q + 3 by omega) with e | e
      · have e2 : (H ++ [e1, e2, e3, e4, e5]).getD p e0 = e1 := by
          rw [getD_at _ _ (by rw [List.length_append]; simp; omega), List.getElem_append_right (by omega)]
          simp [show p - H.length = 0 by omega]
        rw [e2]; exact k1
      · have e2 : (H ++ [e1, e2, e3, e4, e5]).getD p e0 = e4 := by
          rw [getD_at _ _ (by rw [List.length_append]; simp; omega), List.getElem_append_right (by omega)]
          simp [show p - H.length = 3 by omega]
        rw [e2]; exact k4
theorem six_le {m : Nat} {e1 e2 e3 e4 e5 e6 : Ent} (h1 : e1.n ≤ m) (h2 : e2.n ≤ m) (h3 : e3.n ≤ m) (h4 : e4.n ≤ m) (h5 : e5.n ≤ m) (h6 : e6.n ≤ m) : ∀ e ∈ [e1, e2, e3, e4, e5, e6], e.n ≤ m := fun e he => by
  simp only [List.mem_cons, List.not_mem_nil, or_false] at he
  rcases he with rfl | rfl | rfl | rfl | rfl | rfl <;> assumption
theorem Rnd.at0 {B : Nat} {w : World} {hv nv : Value} {R : List Rg} {H N : List Ent} (h : Rnd B w hv nv 2 R H N) (q : Nat) (hq : q < 10) (hm : q % 5 = 0 ∨ q % 5 = 3) : ∃ a c, (H.getD q e0).v = .slice a R.length c ∧ Cells w a (flR R) ∧ (a = none → c = 0) ∧ R.length ≤ 1073741823 := by
  obtain ⟨h1, h2⟩ := h.at3 q hq hm
  have hl := h.hl
  have hm2 : H.getD q e0 ∈ H := by rw [getD_at _ _ (by omega)]; exact List.getElem_mem _
  have ho := h.hb.h _ hm2
  have hle := h.le _ (List.mem_append.2 (.inl hm2))
  rw [h1, h2] at ho
  rw [h1] at hle
  obtain ⟨a, c, e, hc, _, hn, _⟩ := own_cells ho
  exact ⟨a, c, e, hc, hn, hle⟩
theorem Rnd.cell {B : Nat} {w : World} {nv : Value} {R : List Rg} {H N : List Ent} {g c : Nat} (h : Rnd B w (.slice (some ⟨g, 0, none⟩) 10 c) nv 2 R H N) (q : Nat) (hq : q < 10) : w.cell? ⟨g, q, none⟩ = some (H.getD q e0).v := by
  have hl := h.hl
  rw [World.ownsRow.cellAt h.hh q (by omega), getD_at _ _ (by omega)]
  simp [show q < H.length by omega]
theorem apart_rnd {w4 wr w1 w : World} {ha na : Option Addr} {hc nc : Nat} {R : List Rg} {H N : List Ent} (h : Rnd w4.heap.size wr (.slice ha 10 hc) (.slice na 2 nc) 2 R H N) (hw : w4.grownBy wr none) {v : Value} {n : Nat} {xs : List Value} (ho : w1.ownsRow wr.heap.size 39 2 v n xs) (hg : wr.grownBy w1 none) (hg2 : w1.grownBy w none) :
    Calls Try.prog 15 #[.slice ha 10 hc, .slice na 2 nc] w fun r w' => r = .returned (.bool true) ∧ w4.grownBy w' none ∧ w'.ownsRow wr.heap.size 39 2 v n xs := by
  have hb := (h.hb.gb hg).gb hg2
  have hg3 := gb_trans hg hg2
  have ho2 := own_gb ho hg2
  have hl := h.hl
  have nl := h.nl
  have ap := hb.ap_of (F := fun k => v.ownBlock = some k) (by rw [hl]; exact own_gb h.hh hg3) (by rw [nl]; exact own_gb h.nn hg3) (fun k e => (own_lo ho2 k e).2) (fun v' hv' k e z => by
    have := (h.hb.lt v' hv' k z).2
    have := (own_lo ho k e).1
    omega)
  have hll : ∀ q, q < H.length + N.length → ((H ++ N).getD q ⟨nilV, 0, []⟩).n ≤ 1073741823 := fun q hq => h.le _ (by rw [getD_at _ _ (by rw [List.length_append]; omega)]; exact List.getElem_mem _)
  rw [hl, nl] at ap hll
  refine (apart_c _ w w4.heap.size 10 2 ha na hc nc _ _ _ ap (by omega) (by omega) hll).mono ?_
  rintro r w' ⟨rfl, h1, h2⟩
  exact ⟨rfl, below_gb ((gb_below (gb_trans hw hg3)).trans h1), own_keep ho2 h2⟩
set_option maxRecDepth 20000 in
set_option maxHeartbeats 4000000 in
theorem walk (a : Option Addr) (ca : Nat) (X : List Rg) (b : Option Addr) (cb : Nat) (Y : List Rg) (c : Option Addr) (len cap : Nat) (zs : List Int) (w : World) (x0 : Cells w a (flR X)) (hlc : X.length ≤ ca) (hcm : ca ≤ maxLen) (hnz : a = none → ca = 0) (hy : X.length ≤ 1048576) (y0 : Cells w b (flR Y)) (hlc2 : Y.length ≤ cb) (hcm2 : cb ≤ maxLen) (hnz2 : b = none → cb = 0) (hy2 : Y.length ≤ 1048576) (z0 : IsRow .u64 1048576 w c len cap zs) :
    Calls Try.prog 4 #[.slice a X.length ca, .slice b Y.length cb, .slice c len cap] w fun e w' => e = .returned (.bool true) ∧ Below w.heap.size w w' := by
  obtain ⟨Z, hZl, hZc, hZr, hZ0⟩ := row_u64 z0
  have HZ : Hid (Z.length = len ∧ Cells w c (u64v Z) ∧ ∀ x ∈ Z, 0 ≤ x) := ⟨hZl, hZc, hZ0⟩
  have HX : Hid (Cells w a (flR X)) := x0
  have HY : Hid (Cells w b (flR Y)) := y0
  have HNZ : Hid ((a = none → ca = 0) ∧ (b = none → cb = 0)) := ⟨hnz, hnz2⟩
  have HAW : Hid _ := awake_c w
  have HNm : Hid (∀ (a : Option Addr) (c : Nat) (w : World), Cells w a (flR ((kT, qT) :: X)) → Calls Try.prog 11 #[.slice a (1 + X.length) c] w fun e w' => ∃ v, e = .returned v ∧ w'.ownsRow w.heap.size 39 2 v (nfm ((kT, qT) :: X)).length (flR (nfm ((kT, qT) :: X))) ∧ (nfm ((kT, qT) :: X)).length ≤ 4194304 ∧ w.grownBy w' none) := fun a c w h => by
    have := normal_c ((kT, qT) :: X) a c w h (by simp; omega)
    rw [List.length_cons, Nat.add_comm] at this
    refine this.mono ?_
    rintro e w' ⟨v, R, rfl, h1, h2, h3, h4, h5⟩
    have e := nfm_is h2 h3 (by simpa using (by omega : R.length ≤ 2 * (X.length + 1) + 1))
    subst e
    exact ⟨v, rfl, h1, by omega, h5⟩
  have HMe : Hid (∀ (a b : Option Addr) (c d : Nat) (w : World), Cells w a (flR ((kT, qT) :: X)) → Cells w b (flR Y) → Calls Try.prog 12 #[.slice a (1 + X.length) c, .slice b Y.length d] w fun e w' => ∃ v R, e = .returned v ∧ w'.ownsRow w.heap.size 39 2 v R.length (flR R) ∧ R.length ≤ 1073741823 ∧ w.grownBy w' none) := fun a b c d w h k => by
    have := meet_c ((kT, qT) :: X) Y a b c d w h k (by simp; omega)
    rw [List.length_cons, Nat.add_comm] at this
    refine this.mono ?_
    rintro e w' ⟨v, R, rfl, h1, h2, h3, h4, h5⟩
    exact ⟨v, R, rfl, h1, by omega, h5⟩
  have HMi : Hid (∀ (a b : Option Addr) (c d : Nat) (w : World), Cells w a (flR ((kT, qT) :: X)) → Cells w b (flR Y) → Calls Try.prog 13 #[.slice a (1 + X.length) c, .slice b Y.length d] w fun e w' => ∃ v R, e = .returned v ∧ w'.ownsRow w.heap.size 39 2 v R.length (flR R) ∧ R.length ≤ 1073741823 ∧ w.grownBy w' none) := fun a b c d w h k => by
    have := minus_c ((kT, qT) :: X) Y a b c d w h k (by simp; omega)
    rw [List.length_cons, Nat.add_comm] at this
    refine this.mono ?_
    rintro e w' ⟨v, R, rfl, h1, h2, h3, h4, h5⟩
    exact ⟨v, R, rfl, h1, by omega, h5⟩
  have HRa : Hid (∀ (K : List Int) (a : Option Addr) (c : Nat) (w : World), Cells w a (i64s (3 :: K)) → (∀ x ∈ K, 0 ≤ x ∧ x < 256) → K.length ≤ 1048576 → Calls Try.prog 6 #[.int .i64 2, .slice a (K.length + 1) c] w fun e w' => ∃ v R, e = .returned (.tuple #[v, .int .i64 0]) ∧ w'.ownsRow w.heap.size 39 2 v R.length (flR R) ∧ 0 < R.length ∧ R.length ≤ 1073741823 ∧ w.grownBy w' none) := fun K a c w h hK hl => by
    have hE : rgE 2 (3 :: K) = 0 := rgE_yes (D := 2) (by omega) (by omega) fun x hx => by
      rw [show nbk (2 : Nat) = 256 from by decide +kernel]
      rcases List.mem_cons.1 hx with rfl | hx
      · omega
      · exact hK x hx
    refine (ranges_c 2 (3 :: K) a c w h (by simp; omega)).mono ?_
    rintro e w' ⟨v, R, rfl, h1, h2, h3, h4, h5, h6⟩
    rw [hE]
    exact ⟨v, R, rfl, h1, own3_some (X := 3 :: K) (h3 hE) (by simp), by omega, h6⟩
  have HBu : Hid (∀ (a : Option Addr) (c : Nat) (w : World), Cells w a (flR ((kT, qT) :: X)) → Calls Try.prog 7 #[.int .i64 2, .slice a (1 + X.length) c] w fun e w' => ∃ v, ∃ M : List Int, e = .returned (.tuple #[v, .int .i64 0]) ∧ w'.ownsRow w.heap.size 3 1 v M.length (i64s M) ∧ 0 < M.length ∧ M.length ≤ 1073741823 ∧ w.grownBy w' none) := fun a c w h => by
    have := buckets_c 2 ((kT, qT) :: X) a c w h (by simp; omega)
    rw [List.length_cons, Nat.add_comm] at this
    refine this.mono ?_
    rintro e w' ⟨v, rfl, h1, h2⟩
    exact ⟨v, _, by rw [show dE 2 = 0 from by decide +kernel], h1, kq_bmt X, by have := bmt_le ((kT, qT) :: X); omega, h2⟩
  obtain ⟨R, hR⟩ : ∃ R, R = nfm ((kT, qT) :: X) := ⟨_, rfl⟩
  rw [← hR] at HNm
  obtain ⟨NR, hNR⟩ : ∃ n, n = R.length := ⟨_, rfl⟩
  rw [← hNR] at HNm
  have HNR : Hid (NR = R.length) := hNR
  have HEq : Hid (∀ (a b : Option Addr) (c d : Nat) (w : World), NR ≤ 1073741823 → Cells w a (flR R) → Cells w b (flR R) → Calls Try.prog 14 #[.slice a NR c, .slice b NR d] w fun e w' => e = .returned (.bool true) ∧ w.grownBy w' none) := fun a b c d w h h1 h2 => by
    have := equal_c R R a b c d w h1 h2 (by omega) (by omega)
    rw [hNR]
    simpa using this
  have HFX : Hid (flR ((kT, qT) :: X) = #[Value.string kT, Value.string qT].toList ++ flR X ∧ (flR X).length = X.length * 2 ∧ (flR Y).length = Y.length * 2 ∧ ∀ u ∈ flR X ++ flR Y, u.oneCell' = true) := ⟨rfl, flR_len _, flR_len _, fun u hu => by
    rcases List.mem_append.1 hu with hu | hu <;> exact flR_one _ u hu⟩
  generalize flR ((kT, qT) :: X) = FX at *
  obtain ⟨L, hL⟩ : ∃ L, L = X.length := ⟨_, rfl⟩
  obtain ⟨M, hM⟩ : ∃ M, M = Y.length := ⟨_, rfl⟩
  rw [← hL] at hlc hy HNm HMe HMi HBu HFX ⊢
  rw [← hM] at hlc2 hy2 HMe HMi HFX ⊢
  clear x0 y0 z0 hnz hnz2 hL hM hR hZl hZc hZ0 hNR
  go_enter Try.func4, Try.ntmps4
  go_wp2_with (first
    | (go_at_call 5; go_must (refine (Calls.mono HAW.out ?_)); rintro e w1 ⟨rfl, h⟩; have H1 : Hid (w.grownBy w1 none) := h; clear h))
  have HS : Hid ((w1.alloc (.cells #[.int .i64 3] 3)).ownsRow w.heap.size 3 1 (.slice (some ⟨w1.heap.size, 0, none⟩) 1 1) 1 (i64s (3 :: [])) ∧ w.grownBy (w1.alloc (.cells #[.int .i64 3] 3)) none) := ⟨own_base (own_lit w1 3 1 1 #[.int .i64 3] rfl (by decide)) H1.out.size, gb_trans H1.out (gb_alloc _ _)⟩
  go_loopw [7, 8] (fun v i wr => ∃ (k : Nat) (K : List Int), k ≤ len ∧ i = .int .i64 (k : Int) ∧ Hid (wr.ownsRow w.heap.size 3 1 v (k + 1) (i64s (3 :: K)) ∧ K.length = k ∧ (∀ x ∈ K, 0 ≤ x ∧ x < 256) ∧ w.grownBy wr none)) (fun _ i _ => len - (intOf i).toNat)
  case atStart => exact ⟨0, [], Nat.zero_le _, rfl, HS.out.1, rfl, (fun x h => by cases h), HS.out.2⟩
  case round =>
    clear HS
    obtain ⟨k, K, hk, rfl, HK⟩ := hrel
    by_cases hlt : k < len
    · obtain ⟨bb, oo, hab, hc⟩ := cells_u64 (HZ.out.2.1.gb HK.out.2.2.2) k (by have := HZ.out.1; omega)
      have hz0 : 0 ≤ Z.getD k 0 := HZ.out.2.2 _ (by have := HZ.out.1; rw [getD_at _ _ (by omega)]; exact List.getElem_mem _)
      have hci : (k : Int) < (len : Int) := by omega
      generalize Z.getD k 0 = x at *
      subst hab
      have HK1 : Hid (w.ownsRow w.heap.size 3 1 nilV 0 []) := own_none _ _ _ _
      have hx1 : 0 ≤ x % 256 ∧ x % 256 < 256 := by omega
      have HXM : Hid (0 ≤ x % 256 ∧ x % 256 < 256) := hx1
      go_wp2_with (first
        | (at_builtin; go_must (refine wpList_lit rfl _ _ 22 rfl w.heap.size 3 _ 1 8 Try.underlying22 infoInt rfl (by decide) wr #[.int .i64 (x % 256)] rfl _ (k + 1) (i64s (3 :: K)) rfl HK.out.1 rfl rfl (by simp [Value.oneCell']) (by unfold maxLen; omega) (by omega) HK.out.2.2.2.size ?_); intro g6 cap6 w6 ho6 hb6 _ _ _; have H6 : Hid (w6.ownsRow w.heap.size 3 1 (.slice (some ⟨g6, 0, none⟩) (k + 1 + 1) cap6) (k + 1 + 1) (i64s (3 :: (K ++ [x % 256]))) ∧ w.grownBy w6 none) := ⟨(by rw [show i64s (3 :: (K ++ [x % 256])) = i64s (3 :: K) ++ (#[Value.int .i64 (x % 256)] : Array Value).toList from by simp [i64s]]; exact ho6), below_gb ((gb_below HK.out.2.2.2).trans hb6)⟩; clear ho6 hb6))
      exact ⟨⟨k + 1, K ++ [x % 256], by omega, by simp, H6.out.1, by rw [List.length_append, HK.out.2.1]; rfl, fun y hy => by
        rcases List.mem_append.1 hy with hy | hy
        · exact HK.out.2.2.1 y hy
        · rw [List.mem_singleton.1 hy]; exact HXM.out, H6.out.2⟩, by simp [intOf]; omega⟩
    · obtain rfl : k = len := by omega
      obtain ⟨an, cn, hv7, hcn, -⟩ := own_cells HK.out.1
      subst hv7
      have HN3 : Hid (Cells wr an (i64s (3 :: K)) ∧ w.grownBy wr none) := ⟨hcn, HK.out.2.2.2⟩
      have HRb : Hid (∀ (w : World), Cells w an (i64s (3 :: K)) → Calls Try.prog 6 #[.int .i64 2, .slice an (k + 1) cn] w fun e w' => ∃ v R, e = .returned (.tuple #[v, .int .i64 0]) ∧ w'.ownsRow w.heap.size 39 2 v R.length (flR R) ∧ 0 < R.length ∧ R.length ≤ 1073741823 ∧ w.grownBy w' none) := fun w h => by
        have := HRa.out K an cn w h HK.out.2.2.1 (by rw [HK.out.2.1]; exact hZr)
        rwa [HK.out.2.1] at this
      have HLIT : Hid ((wr.alloc (.cells #[.string kT, .string qT] 39)).ownsRow wr.heap.size 39 2 (.slice (some ⟨wr.heap.size, 0, none⟩) 1 1) 1 #[Value.string kT, Value.string qT].toList) := own_lit wr 39 2 1 _ rfl (by decide)
      clear HK hcn HRa
      go_wp2_with (first
        | ((fail_if_success (have zz := H3)); at_builtin; go_must (refine wpList_cat rfl _ _ 24 rfl wr.heap.size 39 _ 2 32 Try.underlying24 infoRange rfl (by decide) (.slice (some ⟨wr.heap.size, 0, none⟩) 1 1) 1 _ rfl HLIT.out a L ca (flR X) rfl HNZ.out.1 HFX.out.2.1 (HX.out.gb (gb_trans HN3.out.2 (gb_alloc _ _))) (fun u hu => HFX.out.2.2.2 u (List.mem_append.2 (.inl hu))) (by unfold maxLen; omega) (by omega) (gb_alloc _ _).size ?_); intro v3 w3 ho3 hb3 _; rw [← HFX.out.1] at ho3; obtain ⟨a3, c3, rfl, hc3, -⟩ := own_cells ho3; have h3 := below_gb ((gb_below (gb_alloc wr (.cells #[.string kT, .string qT] 39))).trans hb3); have H3 : Hid (Cells w3 a3 FX ∧ Cells w3 an (i64s (3 :: K)) ∧ w.grownBy w3 none) := ⟨hc3, HN3.out.1.gb h3, gb_trans HN3.out.2 h3⟩; clear ho3 hb3 hc3 h3)
        | ((fail_if_success (have zz := H4)); have zz := H3; clear zz; at_builtin; go_must (refine wpList_cat rfl _ _ 24 rfl w3.heap.size 39 _ 2 32 Try.underlying24 infoRange rfl (by decide) (.slice none 0 0) 0 [] rfl (own_none _ _ _ _) b M cb (flR Y) rfl HNZ.out.2 HFX.out.2.2.1 (HY.out.gb H3.out.2.2) (fun u hu => HFX.out.2.2.2 u (List.mem_append.2 (.inr hu))) (by unfold maxLen; omega) (by omega) (Nat.le_refl _) ?_); intro v4 w4 ho4 hb4 _; rw [Nat.zero_add, List.nil_append] at ho4; obtain ⟨a4, c4, rfl, hc4, -⟩ := own_cells ho4; have h4 := below_gb hb4; have H4 : Hid (Cells w4 a3 FX ∧ Cells w4 a4 (flR Y) ∧ Cells w4 an (i64s (3 :: K)) ∧ w.grownBy w4 none) := ⟨H3.out.1.gb h4, hc4, H3.out.2.1.gb h4, gb_trans H3.out.2.2 h4⟩; clear ho4 hb4 hc4 h4))
      clear HLIT HN3 H3
      go_loopw [9, 10, 13] (fun hv nv i wr => ∃ (q : Nat) (H N : List Ent), q ≤ 2 ∧ i = .int .i64 (q : Int) ∧ Hid (Rnd w4.heap.size wr hv nv q R H N ∧ w4.grownBy wr none)) (fun _ _ i _ => 2 - (intOf i).toNat)
      case atStart => exact ⟨0, [], [], by omega, rfl, rnd_none _ _ _ (Nat.le_refl _), gb_refl _⟩
      case round =>
        obtain ⟨q, H, N, hq, rfl, HR⟩ := hrel
        by_cases hlt : q < 2
        · have hci : (q : Int) < 2 := by omega
          go_wp2_with (first
            | (go_at_call 6; go_must (refine (Calls.mono (HRb.out wr (H4.out.2.2.1.gb HR.out.2)) ?_)); go_must (rintro e w5 ⟨v5, S, rfl, h1, h2, h3, h4⟩); go_must (obtain ⟨a5, c5, rfl, -⟩ := own_cells h1); go_must (obtain ⟨NS, hNS⟩ : ∃ n, n = S.length := ⟨_, rfl⟩); go_must (rw [← hNS] at h1 h2 h3 ⊢); go_must (have q5 : ((NS : Int) == 0) = false := by rw [beq_eq_false_iff_ne]; omega); go_must (have H5 : Hid (Mid w4 w5 u9 u10 q H N (H ++ [⟨.slice a5 NS c5, NS, flR S⟩]) N ∧ NS ≤ 1073741823) := ⟨(HR.out.1.mid HR.out.2).insH (D := []) (C := []) h4 h1, h3⟩); go_must (clear h1 h2 h3 h4 hNS))
            | (go_at_call 7; go_must (refine (Calls.mono (HBu.out a3 c3 w5 (H4.out.1.gb H5.out.1.gb)) ?_)); go_must (rintro e w6 ⟨v6, MM, rfl, h1, h2, h3, h4⟩); go_must (obtain ⟨a6, c6, rfl, -⟩ := own_cells h1); go_must (obtain ⟨NM, hNM⟩ : ∃ n, n = MM.length := ⟨_, rfl⟩); go_must (rw [← hNM] at h1 h2 h3 ⊢); go_must (have q6 : ((NM : Int) == 0) = false := by rw [beq_eq_false_iff_ne]; omega); go_must (have H6 : Hid (Mid w4 w6 u9 u10 q H N (H ++ [_]) (N ++ [⟨.slice a6 NM c6, NM, i64s MM⟩]) ∧ NM ≤ 1073741823) := ⟨H5.out.1.addN h4 h1, h3⟩); go_must (clear h1 h2 h3 h4 hNM))
            | ((fail_if_success (have zz := H7)); go_at_call 11; go_must (refine (Calls.mono (HNm.out a3 c3 w6 (H4.out.1.gb H6.out.1.gb)) ?_)); go_must (rintro e w7 ⟨v7, rfl, h1, h2, h3⟩); go_must (obtain ⟨a7, c7, rfl, -⟩ := own_cells h1); go_must (have H7 : Hid (Mid w4 w7 u9 u10 q H N (H ++ [⟨.slice a7 NR c7, NR, flR R⟩, _]) (N ++ [_]) ∧ NR ≤ 4194304) := ⟨Mid.insH (D := []) (C := [_]) H6.out.1 h3 h1, h2⟩); go_must (clear h1 h2 h3))
            | (go_at_call 12; go_must (refine (Calls.mono (HMe.out a3 a4 c3 c4 w7 (H4.out.1.gb H7.out.1.gb) (H4.out.2.1.gb H7.out.1.gb)) ?_)); go_must (rintro e w8 ⟨v8, S8, rfl, h1, h2, h3⟩); go_must (obtain ⟨a8, c8, rfl, -⟩ := own_cells h1); go_must (obtain ⟨N8, hN8⟩ : ∃ n, n = S8.length := ⟨_, rfl⟩); go_must (rw [← hN8] at h1 h2 ⊢); go_must (have H8 : Hid (Mid w4 w8 u9 u10 q H N (H ++ [_, ⟨.slice a8 N8 c8, N8, flR S8⟩, _]) (N ++ [_]) ∧ N8 ≤ 1073741823) := ⟨Mid.insH (D := [_]) (C := [_]) H7.out.1 h3 h1, h2⟩); go_must (clear h1 h2 h3 hN8))
            | (go_at_call 13; go_must (refine (Calls.mono (HMi.out a3 a4 c3 c4 w8 (H4.out.1.gb H8.out.1.gb) (H4.out.2.1.gb H8.out.1.gb)) ?_)); go_must (rintro e w9 ⟨v9, S9, rfl, h1, h2, h3⟩); go_must (obtain ⟨a9, c9, rfl, -⟩ := own_cells h1); go_must (obtain ⟨N9, hN9⟩ : ∃ n, n = S9.length := ⟨_, rfl⟩); go_must (rw [← hN9] at h1 h2 ⊢); go_must (have H9 : Hid (Mid w4 w9 u9 u10 q H N (H ++ [_, _, ⟨.slice a9 N9 c9, N9, flR S9⟩, _]) (N ++ [_]) ∧ N9 ≤ 1073741823) := ⟨Mid.insH (D := [_, _]) (C := [_]) H8.out.1 h3 h1, h2⟩); go_must (clear h1 h2 h3 hN9))
            | (have zz := H9; clear zz; go_at_call 11; go_must (refine (Calls.mono (HNm.out a3 c3 w9 (H4.out.1.gb H9.out.1.gb)) ?_)); go_must (rintro e w10 ⟨v10, rfl, h1, h2, h3⟩); go_must (obtain ⟨a10, c10, rfl, -⟩ := own_cells h1); go_must (have H10 : Hid (Mid w4 w10 u9 u10 q H N (H ++ [_, _, _, ⟨.slice a10 NR c10, NR, flR R⟩, _]) (N ++ [_])) := Mid.insH (D := [_, _, _]) (C := [_]) H9.out.1 h3 h1); go_must (clear h1 h2 h3))
            | ((fail_if_success (have zz := H11)); have zz := H10; clear zz; at_builtin; go_must (refine wpList_litN rfl _ _ 36 rfl w4.heap.size 24 _ 1 24 5 (by decide) Try.underlying36 infoRgs rfl (by decide) w10 #[.slice a7 NR c7, .slice a8 N8 c8, .slice a9 N9 c9, .slice a10 NR c10, .slice a5 NS c5] rfl u9 (5 * q) (H.map (·.v)) rfl H10.out.hh rfl rfl (by simp [Value.oneCell']) (by unfold maxLen; omega) (by omega) H10.out.hb.sz ?_); go_must (intro g11 c11 w11 h1 h2 h3); go_must (have H11 : Hid _ := H10.out.rowH h2 h1 h3); go_must (clear h1 h2 h3))
            | (have zz := H11; clear zz; at_builtin; go_must (refine wpList_litN rfl _ _ 37 rfl w4.heap.size 22 _ 1 24 1 (by decide) Try.underlying37 infoInts rfl (by decide) w11 #[.slice a6 NM c6] rfl u10 q (N.map (·.v)) rfl H11.out.nn rfl rfl (by simp [Value.oneCell']) (by unfold maxLen; omega) (by omega) H11.out.hb.sz ?_); go_must (intro g12 c12 w12 h1 h2 h3); go_must (have H12 : Hid _ := Mid2.rowN HR.out.1 H11.out h2 h1 h3 ⟨HNR.out, rfl⟩ ⟨HNR.out, rfl⟩ (six_le (Nat.le_trans H7.out.2 (by decide)) H8.out.2 H9.out.2 (Nat.le_trans H7.out.2 (by decide)) H5.out.2 H6.out.2)); go_must (clear h1 h2 h3)))
          case roundEnd => exact ⟨⟨q + 1, _, _, by omega, by simp, H12.out.1, H12.out.2⟩, by simp [intOf]; omega⟩
        · obtain rfl : q = 2 := by omega
          have hr2 := HR.out.1
          obtain ⟨g9, c9, e9⟩ := (own_shape (show wr.ownsRow w4.heap.size 24 1 u9 10 (H.map (·.v)) from hr2.hh)).2 (by omega)
          obtain ⟨g10, c10, e10⟩ := (own_shape hr2.nn).2 (by omega)
          subst e9 e10
          obtain ⟨p0, k0, f0, hc0, n0, hle⟩ := hr2.at0 0 (by omega) (by omega)
          obtain ⟨p3, k3, f3, hc3, -⟩ := hr2.at0 3 (by omega) (by omega)
          obtain ⟨p5, k5, f5, hc5, -⟩ := hr2.at0 5 (by omega) (by omega)
          have cc0 := hr2.cell 0 (by omega)
          have cc3 := hr2.cell 3 (by omega)
          have cc5 := hr2.cell 5 (by omega)
          rw [f0, ← HNR.out] at cc0
          rw [f3, ← HNR.out] at cc3
          rw [f5, ← HNR.out] at cc5
          rw [← HNR.out] at hle
          have HP : Hid (Cells wr p0 (flR R) ∧ Cells wr p3 (flR R) ∧ Cells wr p5 (flR R) ∧ (p0 = none → k0 = 0) ∧ (flR R).length = NR * 2 ∧ NR ≤ 1073741823) := ⟨hc0, hc3, hc5, n0, by rw [flR_len, HNR.out], hle⟩
          have HRR : Hid (Rnd w4.heap.size wr (.slice (some ⟨g9, 0, none⟩) 10 c9) (.slice (some ⟨g10, 0, none⟩) 2 c10) 2 R H N) := hr2
          clear hr2 f0 f3 f5 hc0 hc3 hc5 n0 HRb HMe HMi HBu
          go_wp2_with (first
            | (at_builtin; go_must (refine wpList_cat rfl _ _ 24 rfl wr.heap.size 39 _ 2 32 Try.underlying24 infoRange rfl (by decide) (.slice none 0 0) 0 [] rfl (own_none _ _ _ _) p0 NR k0 (flR R) rfl HP.out.2.2.2.1 HP.out.2.2.2.2.1 HP.out.1 (flR_one R) (by unfold maxLen; omega) (by omega) (Nat.le_refl _) ?_); intro v13 w13 ho hb _; rw [Nat.zero_add, List.nil_append] at ho; obtain ⟨a13, c13, rfl, hc, -⟩ := own_cells ho; have hg := below_gb hb; have d3 : w13.cell? ⟨g9, 3, none⟩ = some (.slice p3 NR k3) := cell_kept hg cc3; have H13 : Hid (w13.ownsRow wr.heap.size 39 2 (.slice a13 NR c13) NR (flR R) ∧ Cells w13 a13 (flR R) ∧ wr.grownBy w13 none) := ⟨ho, hc, hg⟩; clear ho hc hb hg)
            | ((fail_if_success (have zz := H14)); go_at_call 14; go_must (refine (Calls.mono (HEq.out p3 a13 k3 c13 w13 HP.out.2.2.2.2.2 (HP.out.2.1.gb H13.out.2.2) H13.out.2.1) ?_)); rintro e w14 ⟨rfl, h⟩; have d5 : w14.cell? ⟨g9, 5, none⟩ = some (.slice p5 NR k5) := cell_kept (gb_trans H13.out.2.2 h) cc5; have H14 : Hid (w13.grownBy w14 none) := h; clear h)
            | ((fail_if_success (have zz := H15)); have zz := H14; clear zz; go_at_call 14; go_must (refine (Calls.mono (HEq.out p5 a13 k5 c13 w14 HP.out.2.2.2.2.2 ((HP.out.2.2.1.gb H13.out.2.2).gb H14.out) (H13.out.2.1.gb H14.out)) ?_)); rintro e w15 ⟨rfl, h⟩; have H15 : Hid (w13.grownBy w15 none) := gb_trans H14.out h; clear h)
            | (go_at_call 15; go_must (refine (Calls.mono (apart_rnd HRR.out HR.out.2 H13.out.1 H13.out.2.2 H15.out) ?_)); rintro e w16 ⟨rfl, h1, h2⟩; have H16 : Hid (w4.grownBy w16 none ∧ Cells w16 a13 (flR R)) := ⟨h1, by obtain ⟨x, y, e, hc, -⟩ := own_cells h2; cases e; exact hc⟩; clear h1 h2)
            | (go_at_call 11; go_must (refine (Calls.mono (HNm.out a3 c3 w16 (H4.out.1.gb H16.out.1)) ?_)); rintro e w17 ⟨v17, rfl, h1, h2, h3⟩; obtain ⟨a17, c17, rfl, hc, -⟩ := own_cells h1; have H17 : Hid (Cells w17 a17 (flR R) ∧ Cells w17 a13 (flR R) ∧ w4.grownBy w17 none) := ⟨hc, H16.out.2.gb h3, gb_trans H16.out.1 h3⟩; clear h1 h2 h3 hc)
            | (have zz := H17; clear zz; go_at_call 14; go_must (refine (Calls.mono (HEq.out a17 a13 c17 c13 w17 HP.out.2.2.2.2.2 H17.out.1 H17.out.2.1) ?_)); rintro e w18 ⟨rfl, h⟩; have H18 : Hid (w.grownBy w18 none) := gb_trans H4.out.2.2.2 (gb_trans H17.out.2.2 h); clear h))
          go_ret
          exact ⟨rfl, gb_below H18.out⟩

theorem bulk_len {H : Type} (l : List (DataW H)) : l.length ≤ Rows.uptoBulkAll l := by
  induction l with
  | nil => simp
  | cons d r ih =>
    have : 1 ≤ Rows.uptoBulk d := by
      cases d with
      | lit x => cases x <;> simp [Rows.uptoBulk]
      | _ => simp [Rows.uptoBulk]
    simp only [Rows.uptoBulkAll, List.length_cons]; omega
theorem bulk_mem {H : Type} {d : DataW H} {l : List (DataW H)} (h : d ∈ l) : Rows.uptoBulk d ≤ Rows.uptoBulkAll l := by
  induction l with
  | nil => cases h
  | cons x r ih =>
    simp only [Rows.uptoBulkAll]
    rcases List.mem_cons.1 h with rfl | h
    · omega
    · have := ih h; omega
theorem bulk_slice {H : Type} {ds : List (DataW H)} {d : DataW H} {l r : List (DataW H)} (hk : Rows.uptoSmall H ds = true) (hd : d ∈ ds) (e : d = .slice l r) : l.length + r.length ≤ 1048576 := by
  have h0 : Rows.uptoBulkAll ds ≤ 1048576 := of_decide_eq_true hk
  have h1 := bulk_mem hd
  have h3 := bulk_len l
  have h4 := bulk_len r
  rw [e] at h1
  simp only [Rows.uptoBulk] at h1
  omega

set_option maxRecDepth 100000 in
theorem lifted (os : Os) (started : os.Started) (H : Type) (enc : TypeId × Value → H) (F : Stop.Interp) :
    ReturnsInHanded {} Try.checked os 4 .any ((Rows.OpenSpec.upto Rows.spanOwnSpec).pre6 enc Try.prog Try.f4 Rows.spanOwnUptoRow.domain false) (((Rows.OpenSpec.upto Rows.spanOwnSpec).at F).post enc Try.prog Try.f4 false true false false) := by
  refine returnsInHanded_of_cond (C := Try.checked) (s := Rows.OpenSpec.upto Rows.spanOwnSpec) (k := Rows.uptoSmall) rfl own started (by kernel_rfl) Try.func4
    (OpenSpec.witness (enc := enc) (C := Try.checked) (s := Rows.OpenSpec.upto Rows.spanOwnSpec) (k := Rows.uptoSmall) rfl false ⟨#[], #[.slice none 0 0, .slice none 0 0, .slice none 0 0], []⟩ 8 (by kernel_rfl) (by kernel_rfl) (by kernel_rfl)
      (x := ([.nil, .nil, .nil], [], [])) (by kernel_rfl) rfl (by kernel_rfl)) ?_
  intro W base args ds gs before hval0 hW hcnd hk _
  have hval : ∀ (j : Nat) t v, Try.f4.params[j]? = some t → args[j]? = some v → Value.okWide Try.prog W .any base t v := hval0
  have hW' := hW
  obtain ⟨p, q, hA0, hV, rfl, hfz, hnd⟩ := hW
  have hA : DataW.TrodAll enc Try.prog W 0 (fun _ => true) true Try.f4.params.toList args.toList ds p := hA0
  rw [Try.params4] at hA hval
  obtain ⟨v0, vs0, d0, ds0, p0, q0, hargs, rfl, rfl, h0, r0⟩ := trodAll_cons hA
  obtain ⟨v1, vs1, d1, ds1, p1, q1, rfl, rfl, rfl, h1, r1⟩ := trodAll_cons r0
  obtain ⟨v2, vs2, d2, ds2, p2, q2, rfl, rfl, rfl, h2, r2⟩ := trodAll_cons r1
  obtain ⟨rfl, rfl, rfl⟩ := trodAll_nil r2
  obtain rfl : args = #[v0, v1, v2] := by cases args; simp_all
  obtain ⟨rfl, rfl⟩ := trodVars_none hV
  have k0 := h0
  have lt0 : ∀ x ∈ p0, x.block < W.heap.size := by obtain ⟨m, hm⟩ := k0; exact DataW.trod_lt m _ _ _ hm
  obtain ⟨a0, n0, cap0, X0, rfl, x0, ln0, lc0, cm0, nz0, y0⟩ : ∃ a n cap A, v0 = .slice a n cap ∧ Cells W a (flR A) ∧ A.length = n ∧ n ≤ cap ∧ cap ≤ maxLen ∧ (a = none → cap = 0) ∧ n ≤ 1048576 := by
    obtain ⟨sa, sl, sc, hv⟩ := okWide_slice Try.underlying24 (hval 0 24 v0 rfl rfl)
    obtain ⟨a, n, cap, X, h1, h2, h3, h4, h5, h6, h7⟩ := rgs_open sa sl sc hv h0
    have hAll : Rows.uptoBulkAll _ ≤ 1048576 := of_decide_eq_true hk
    exact ⟨a, n, cap, X, h1, h2, h3, h4, h5, h6, Nat.le_trans h7 (Nat.le_trans (bulk_mem (show d0 ∈ _ by simp)) hAll)⟩
  subst ln0
  have k1 := h1
  have lt1 : ∀ x ∈ p1, x.block < W.heap.size := by obtain ⟨m, hm⟩ := k1; exact DataW.trod_lt m _ _ _ hm
  obtain ⟨a1, n1, cap1, X1, rfl, x1, ln1, lc1, cm1, nz1, y1⟩ : ∃ a n cap A, v1 = .slice a n cap ∧ Cells W a (flR A) ∧ A.length = n ∧ n ≤ cap ∧ cap ≤ maxLen ∧ (a = none → cap = 0) ∧ n ≤ 1048576 := by
    obtain ⟨sa, sl, sc, hv⟩ := okWide_slice Try.underlying24 (hval 1 24 v1 rfl rfl)
    obtain ⟨a, n, cap, X, h1, h2, h3, h4, h5, h6, h7⟩ := rgs_open sa sl sc hv h1
    have hAll : Rows.uptoBulkAll _ ≤ 1048576 := of_decide_eq_true hk
    exact ⟨a, n, cap, X, h1, h2, h3, h4, h5, h6, Nat.le_trans h7 (Nat.le_trans (bulk_mem (show d1 ∈ _ by simp)) hAll)⟩
  subst ln1
  have k2 := h2
  have lt2 : ∀ x ∈ p2, x.block < W.heap.size := by obtain ⟨m, hm⟩ := k2; exact DataW.trod_lt m _ _ _ hm
  obtain ⟨a2, len2, cap2, z2, rfl, x2⟩ : ∃ a len cap zs, v2 = .slice a len cap ∧ IsRow .u64 1048576 W a len cap zs := by
    obtain ⟨sa, sl, sc, rfl⟩ := okWide_slice Try.underlying34 (hval 2 34 v2 rfl rfl)
    obtain ⟨fuel, hf⟩ := h2
    rcases open_ints Try.underlying34 Try.underlying35 (by kernel_rfl) hf with ⟨hcs, _⟩ | ⟨x, l, c, zs, hcs, _, hl, hm, hz, hx, hcell, hwz⟩
    · simp [Value.cells] at hcs; obtain ⟨rfl, rfl, rfl⟩ := hcs
      exact ⟨none, 0, 0, [], rfl, .inl ⟨rfl, rfl, rfl, rfl⟩⟩
    · simp [Value.cells] at hcs; obtain ⟨rfl, rfl, rfl⟩ := hcs
      have hz' : zs.length = sc := by simpa using hz
      have hd : d2 = _ := congrArg Prod.fst hx
      have hb := bulk_slice hk (show d2 ∈ _ by simp) hd
      simp only [lits, List.length_map, List.length_take, List.length_drop] at hb
      exact ⟨some x, sl, sc, zs, rfl, .inr ⟨_, rfl, hl, by omega, hz', hcell, hwz⟩⟩
  clear hA0 hval0
  refine (walk a0 cap0 X0 a1 cap1 X1 a2 len2 cap2 z2 W x0 lc0 cm0 nz0 y0 x1 lc1 cm1 nz1 y1 x2).mono fun e W' ⟨he, bel⟩ => ?_
  subst he
  exact ⟨_, rfl, _, _, _, [], _, [], hW', trodAll_mk1 (shut_bool Try.underlying4 _), (trodAll_cons_mk (Below.trod laidOut (by kernel_rfl) (of_decide_eq_true (by kernel_rfl)) k0 bel lt0) (trodAll_cons_mk (Below.trod laidOut (by kernel_rfl) (of_decide_eq_true (by kernel_rfl)) k1 bel lt1) (trodAll_cons_mk (Below.trod laidOut (by kernel_rfl) (of_decide_eq_true (by kernel_rfl)) k2 bel lt2) trodAll_mk0))), rfl, bel.frame _, fun h => by cases h⟩

theorem over : Rows.spanOwnUptoRow.holds Try.pinned (Rows.OpenSpec.upto Rows.spanOwnSpec) :=
  OpenClaim.holds_of_cond 4 Try.f4 rfl rfl rfl rfl rfl rfl rfl ⟨rfl, rfl, rfl, rfl, rfl⟩ rfl rfl rfl rfl rfl (by kernel_rfl) Try.func4 (by kernel_rfl)
    (of_decide_eq_true (by kernel_rfl)) (by unfold Func.isWrapper; first | (rw [if_pos (by decide +kernel)]; kernel_rfl) | (rw [if_neg (by decide +kernel)]; exact ⟨rfl, rfl⟩))
    (fun os started H enc _ F => lifted os started H enc F)

end Go.Proofs.Ytdjcokepeifojaa.spanOwn
namespace Go.Proofs.Ytdjcokepeifojaa
theorem spanOwn_holds : Rows.SpanOwnUptoSaid := spanOwn.over
#print axioms spanOwn_holds
end Go.Proofs.Ytdjcokepeifojaa
