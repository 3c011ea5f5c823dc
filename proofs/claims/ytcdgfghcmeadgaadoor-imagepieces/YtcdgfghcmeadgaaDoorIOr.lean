/-
  What the Opener's takeRows answers: the rows that are whole, and whether there are all, or a panic where one is wrong. Condition: a list that can be read, of at most 2^46 bytes.
-/
import Derived.Test.YtcdgfghcmeadgaaDoorIOq
import Derived.Test.YtcdgfghcmeadgaaDoorIJd
import Derived.Test.YtcdgfghcmeadgaaDoorRLm
import Derived.Test.YtcdgfghcmeadgaaDoorIRo
namespace Go.Proofs.YtcdgfghcmeadgaaDoor
open Go.RowKit
set_option linter.unusedVariables false

def Opn.rws (o : Opn) (L : Int) (ah : ByteArray) (ta : Option Addr) (tn tc : Nat) : Opn := { o with left := L, ahead := ah, ta := ta, tn := tn, tc := tc }
theorem rws_self (o : Opn) (L : Int) (A : ByteArray) (h1 : o.left = L) (h2 : o.ahead = A) (h3 : o.ta = none) (h4 : o.tn = 0) (h5 : o.tc = 0) : o.rws L A none 0 0 = o := by
  obtain ⟨a, b, c, d, e, f, g, h, i, j, k, l, m⟩ := o
  simp only at h1 h2 h3 h4 h5
  subst h1 h2 h3 h4 h5
  rfl
/-- A measure read off memory. -/
def lAt (w : World) (g : Nat) : Nat := match w.cell? ⟨g, 9, none⟩ with
  | some (.int _ v) => v.toNat
  | _ => 0
theorem lAt_is {w : World} {g : Nat} {o : Opn} (h : OpB w g o) : lAt w g = o.left.toNat := by
  have : w.cell? ⟨g, 9, none⟩ = some (.int .i64 o.left) := Bk.cell h 9
  unfold lAt
  rw [this]
theorem rr_at {ys : List Int} {p0 p : Nat} (h : p0 ≤ p) : rr (ys.drop p0) (p - p0) = ((rr ys p).1, (rr ys p).2.1 - p0, (rr ys p).2.2) := by
  have := rr_shift ys p0 (p - p0)
  rw [show p0 + (p - p0) = p from by omega] at this
  rw [this]
  simp
theorem rr_fail {ys : List Int} {p : Nat} (h : (rr ys p).2.2 ≠ 0) : (rr ys p).2.1 = p := by
  unfold rr at h ⊢
  split <;> rename_i h1
  · rfl
  · rw [if_neg h1] at h
    split <;> rename_i h2
    · rfl
    · rw [if_neg h2] at h
      split <;> rename_i h3
      · rfl
      · rw [if_neg h3] at h
        split <;> rename_i h4
        · rfl
        · rw [if_neg h4] at h; exact absurd rfl h
theorem rr_ge {ys : List Int} (hx : Bytes ys) {p : Nat} (hp : p ≤ ys.length) : p ≤ (rr ys p).2.1 := by
  have b1 := rt_bd hx p hp 1024
  have b2 := rt_bd hx _ b1.1 65536
  have b3 := ri_bd hx _ b2.1 1152921504606846976
  unfold rr
  split
  · exact Nat.le_refl _
  · split
    · exact Nat.le_refl _
    · split
      · exact Nat.le_refl _
      · split
        · exact Nat.le_refl _
        · show p ≤ (ri ys (rt ys (rt ys p 1024).2.1 65536).2.1 1152921504606846976).2.1
          omega
/-- How far the rows have come. -/
structure TR (ys : List Int) (p0 g q : Nat) (a' : Option Addr) (m cap' : Nat) (seq : Int) (n : Nat) (X : List Rwi) (o : Opn) (w wr : World) (D : List Rwi) (p : Nat) (ta : Option Addr) (tc : Nat) : Prop where
  pre : Pre ys 3 p seq n (X ++ D)
  ge : p0 ≤ p
  rs : RS wr q a' m cap' (ys.drop p0) 0 (p - p0)
  ob : OpB wr g (o.rws ((n - (X ++ D).length : Nat) : Int) (ahd (X ++ D) (X ++ D).length) ta D.length tc)
  own : wr.ownsRow w.heap.size 48 3 (.slice ta D.length tc) D.length (flI D)
  gb : w.grownBy wr (some g)
  far : ∀ b, (Value.slice ta D.length tc).ownBlock = some b → b ≠ q ∧ (∀ bb o s, a' = some ⟨bb, o, s⟩ → b ≠ bb)
/-- What takeRows answers. -/
def RowsA (ys : List Int) (p0 g : Nat) (seq : Int) (n : Nat) (X : List Rwi) (o : Opn) (w : World) (r : Ending) (w' : World) : Prop :=
  ∃ D p' ta tc, Pre ys 3 p' seq n (X ++ D) ∧ p0 ≤ p' ∧ w'.ownsRow w.heap.size 48 3 (.slice ta D.length tc) D.length (flI D) ∧ w.grownBy w' (some g) ∧
    (((X ++ D).length = n ∧ r = .returned (.tuple #[.int .i64 ((p' - p0 : Nat) : Int), .bool true]) ∧ OpB w' g (o.rws 0 (ahd (X ++ D) (X ++ D).length) ta D.length tc)) ∨
     ((X ++ D).length < n ∧ (rr ys p').2.2 = 30 ∧ r = .returned (.tuple #[.int .i64 ((p' - p0 : Nat) : Int), .bool false]) ∧ OpB w' g { (o.rws ((n - (X ++ D).length : Nat) : Int) (ahd (X ++ D) (X ++ D).length) ta D.length tc) with least := (nd (ys.drop p') : Int) }) ∨
     (Wrong ys 3 p' seq n (X ++ D) 92 ∧ r = .panicked (chnE 92) ∧ OpB w' g { (o.rws ((n - (X ++ D).length : Nat) : Int) (ahd (X ++ D) (X ++ D).length) ta D.length tc) with err := 92, rest := none }))
theorem own_lo2 {B : Nat} {w : World} {v : Value} {n : Nat} {xs : List Value} (h : w.ownsRow B 48 3 v n xs) : ∀ b, v.ownBlock = some b → B ≤ b ∧ b < w.heap.size := by
  intro b hb
  rcases h.2 with ⟨h1, _⟩ | ⟨g, cap, cur, e, hB, hg, _⟩
  · rw [h1] at hb; cases hb
  · rw [e] at hb; cases hb; exact ⟨hB, lt_of_block hg⟩
theorem ob_rel {w W : World} {g : Nat} {o : Opn} {v : Value} {B : Nat} (h : OpB w g o) (hg : w.grownBy W v.ownBlock) (hB : ∀ b, v.ownBlock = some b → B ≤ b) (hgB : g < B) : OpB W g o := Bk.grew h hg (fun e => by have := hB g e; omega)
theorem bk_range3 {w : World} {N : Nat} {x y z : Value} (h : Bk 48 w N #[x, y, z]) : w.rangeAt N 0 [x, y, z] := fun i v hv => by
  rw [Nat.zero_add, Bk.cell h i]
  simpa using hv
theorem range_gb {w w' : World} {M : Nat} {vs : List Value} {row : Option Nat} (h : w.rangeAt M 0 vs) (hg : w.grownBy w' row) (hne : row ≠ some M) (hl : M < w.heap.size) : w'.rangeAt M 0 vs := fun i v hv => by
  have e := hg.block M hl hne.symm
  have := h i v hv
  simp only [World.cell?, e] at this ⊢
  exact this
theorem range_new3 (w : World) (x y z : Value) : (w.alloc (.cells #[x, y, z] 48)).rangeAt w.heap.size 0 [x, y, z] := bk_range3 (blk_new w 48 #[x, y, z]).1
theorem seg_gG {w w' : World} {a : Option Addr} {m g : Nat} {xs : List Int} (h : Seg .u8 w a m xs) (hg : w.grownBy w' (some g)) (hag : ∀ b o s, a = some ⟨b, o, s⟩ → b ≠ g) : Seg .u8 w' a m xs := h.grew hg (fun k e b o s hb => by cases e; exact hag b o s hb)
/-- What stands while a row is being laid behind the others. -/
structure TRX (ys : List Int) (p0 g q : Nat) (a' : Option Addr) (m cap' : Nat) (w w1 wr : World) (D : List Rwi) (r : Rwi) (P G C N : Nat) (o' : Opn) : Prop where
  rs : RS wr q a' m cap' (ys.drop p0) 0 P
  ob : OpB wr g o'
  own : wr.ownsRow w.heap.size 48 3 (.slice (some ⟨G, 0, none⟩) (D.length + 1) C) (D.length + 1) (flI D ++ r.cells)
  gb : w.grownBy wr (some g)
  row : wr.cell? ⟨N, 0, none⟩ = some (.string r.k)
  hN : w.heap.size ≤ N
  hG : w.heap.size ≤ G ∧ G ≠ q ∧ (∀ bb o s, a' = some ⟨bb, o, s⟩ → G ≠ bb)
  sz : w1.heap.size ≤ wr.heap.size
theorem TRX.set {ys : List Int} {p0 g q : Nat} {a' : Option Addr} {m cap' : Nat} {w w1 wr : World} {D : List Rwi} {r : Rwi} {P G C N : Nat} {o' o2 : Opn} (h : TRX ys p0 g q a' m cap' w w1 wr D r P G C N o') (i : Nat) (v : Value) (he : o'.cells.setIfInBounds i v = o2.cells) (hgw : g < w.heap.size) (hq : w.heap.size ≤ q ∧ (∀ b o s, a' = some ⟨b, o, s⟩ → w.heap.size ≤ b ∧ b < w1.heap.size) ∧ q < w1.heap.size) :
    TRX ys p0 g q a' m cap' w w1 (wr.setCell ⟨g, i, none⟩ v) D r P G C N o2 := by
  have hc := grownBy_cell wr g i v
  have hN := h.hN
  refine ⟨h.rs.other hc (fun e => by have := Option.some.inj e; omega) (fun k e b o s hb => by cases e; have := (hq.2.1 b o s hb).1; omega), ?_, own_grewI h.own hc (fun b hb e => by have h1 : G = b := Option.some.inj hb; have h2 : g = b := Option.some.inj e; have := h.hG.1; omega), gb_trans h.gb hc, ?_, h.hN, h.hG, Nat.le_trans h.sz hc.size⟩
  · have := Bk.setO h.ob i v
    rw [he] at this
    exact this
  · rw [← h.row]
    have hne : (⟨N, 0, none⟩ : Addr).block ≠ g := by show N ≠ g; omega
    have hlt : N < wr.heap.size := by
      rcases Nat.lt_or_ge N wr.heap.size with z | z
      · exact z
      · have := h.row; simp [World.cell?, z] at this
    simp only [World.cell?, hc.block N hlt (fun e => hne (Option.some.inj e))]
theorem trx_of {ys : List Int} {p0 g q : Nat} {a' : Option Addr} {m cap' : Nat} {w w1 wr W9 W1 : World} {D : List Rwi} {kk vv : ByteArray} {nn : Int} {P G C N : Nat} {oD : Opn} {ta : Option Addr} {tc : Nat}
    (A3 : RS W9 q a' m cap' (ys.drop p0) 0 P ∧ OpB W9 g oD ∧ W9.ownsRow w.heap.size 48 3 (.slice ta D.length tc) D.length (flI D) ∧ w.grownBy W9 (some g) ∧ Bk 48 W9 N #[.string kk, .string vv, .int .i64 nn] ∧ wr.heap.size ≤ N)
    (hq : w.heap.size ≤ q ∧ (∀ b o s, a' = some ⟨b, o, s⟩ → w.heap.size ≤ b ∧ b < w1.heap.size) ∧ q < w1.heap.size) (far : ∀ b, (Value.slice ta D.length tc).ownBlock = some b → b ≠ q ∧ (∀ bb o s, a' = some ⟨bb, o, s⟩ → b ≠ bb)) (h1r : w1.heap.size ≤ wr.heap.size) (hgw : g < w.heap.size) (hwN : w.heap.size ≤ wr.heap.size)
    (hNB : ∀ b, (Value.slice ta D.length tc).ownBlock = some b → b ≠ N) (hg : W9.grownBy W1 (Value.slice ta D.length tc).ownBlock) (ho7 : W1.ownsRow w.heap.size 48 3 (.slice (some ⟨G, 0, none⟩) (D.length + 1) C) (D.length + 1) (flI D ++ [.string kk, .string vv, .int .i64 nn])) (hG7 : (Value.slice ta D.length tc).ownBlock = some G ∨ W9.heap.size ≤ G) :
    TRX ys p0 g q a' m cap' w w1 (W1.setCell ⟨g, 11, none⟩ (.slice (some ⟨G, 0, none⟩) (D.length + 1) C)) D ⟨kk, vv, nn⟩ P G C N { oD with ta := some ⟨G, 0, none⟩, tn := D.length + 1, tc := C } := by
  have hlo := own_lo2 A3.2.2.1
  have hNW : N < W9.heap.size := lt_of_block A3.2.2.2.2.1
  have hg1 : RS W1 q a' m cap' (ys.drop p0) 0 P := A3.1.other hg (fun e => (far q e).1 rfl) (fun k e b o s hb => (far k e).2 b o s hb |>.symm)
  have h0 : TRX ys p0 g q a' m cap' w w1 W1 D ⟨kk, vv, nn⟩ P G C N oD := by
    refine ⟨hg1, ob_rel A3.2.1 hg (fun b hb => (hlo b hb).1) hgw, ho7, ?_, ?_, by omega, ?_, ?_⟩
    · exact ⟨hg.os.trans A3.2.2.2.1.os, hg.tape.trans A3.2.2.2.1.tape, hg.output.trans A3.2.2.2.1.output, Nat.le_trans A3.2.2.2.1.size hg.size, fun i hi hn => (hg.block i (Nat.lt_of_lt_of_le hi A3.2.2.2.1.size) (fun e => by have := (hlo i e.symm).1; omega)).trans (A3.2.2.2.1.block i hi hn)⟩
    · have := Bk.cell (A3.2.2.2.2.1.grew hg (fun e => hNB N e rfl)) 0
      exact this
    · rcases hG7 with z | z
      · exact ⟨(hlo G z).1, (far G z).1, (far G z).2⟩
      · have h1 := A3.2.2.2.1.size
        refine ⟨by omega, fun e => ?_, fun bb o s hb e => ?_⟩
        · have := lt_of_block A3.1.rdr; omega
        · have := (hq.2.1 bb o s hb).2
          omega
    · exact Nat.le_trans h1r (by have := hg.size; omega)
  exact h0.set 11 _ rfl hgw hq
theorem tr_next {ys : List Int} {p0 g q : Nat} {a' : Option Addr} {m cap' : Nat} {seq : Int} {n : Nat} {X : List Rwi} {o : Opn} {w w1 wr wz : World} {D : List Rwi} {kk vv : ByteArray} {nn : Int} {P G C N L p : Nat} {oD : Opn} {ta : Option Addr} {tc : Nat}
    (h : TRX ys p0 g q a' m cap' w w1 wz D ⟨kk, vv, nn⟩ P G C N { oD with ta := some ⟨G, 0, none⟩, tn := D.length + 1, tc := C, ahead := kk, left := (L : Int) - 1 })
    (hp : Pre ys 3 p seq n (X ++ D) ∧ p0 ≤ p ∧ (X ++ D).length < n ∧ (⟨kk, vv, nn⟩ : Rwi) = rowAt ys p ∧ (0 : Int) = (rr ys p).2.2 ∧ P = (rr ys p).2.1 - p0 ∧ w1.heap.size ≤ wr.heap.size ∧ L = n - (X ++ D).length ∧ oD = o.rws (L : Int) (ahd (X ++ D) (X ++ D).length) ta D.length tc ∧ lAt wr g = L)
    (hF : true = fwI (rowAt ys p) (ahd (X ++ D) (X ++ D).length) seq) (hb : Bytes ys) (hL : 0 < L) :
    TR ys p0 g q a' m cap' seq n X o w wz (D ++ [⟨kk, vv, nn⟩]) (rr ys p).2.1 (some ⟨G, 0, none⟩) C ∧ w1.heap.size ≤ wz.heap.size ∧ lAt wz g = L - 1 := by
  obtain ⟨p1, p2, p3, p4, p5, p6, p7, p8, p9, _⟩ := hp
  have hl : (D ++ [(⟨kk, vv, nn⟩ : Rwi)]).length = D.length + 1 := by simp
  have hx1 : X ++ (D ++ [(⟨kk, vv, nn⟩ : Rwi)]) = (X ++ D) ++ [⟨kk, vv, nn⟩] := by rw [List.append_assoc]
  have hxl : ((X ++ D) ++ [(⟨kk, vv, nn⟩ : Rwi)]).length = (X ++ D).length + 1 := by rw [List.length_append]; rfl
  refine ⟨⟨?_, ?_, ?_, ?_, ?_, h.gb, ?_⟩, h.sz, ?_⟩
  · rw [hx1, p4]
    exact p1.row hb p3 p5.symm hF.symm
  · exact Nat.le_trans p2 (rr_ge hb p1.le)
  · rw [← p6]; exact h.rs
  · have z := h.ob
    rw [p9] at z
    rw [hx1, hl, hxl]
    have e1 : ahd ((X ++ D) ++ [(⟨kk, vv, nn⟩ : Rwi)]) ((X ++ D).length + 1) = kk := by
      show (rAt ((X ++ D) ++ [(⟨kk, vv, nn⟩ : Rwi)]) (X ++ D).length).k = kk
      rw [rAt_last]
    rw [e1]
    have e2 : ((n - ((X ++ D).length + 1) : Nat) : Int) = (L : Int) - 1 := by omega
    rw [e2]
    exact z
  · rw [hl, flI_snoc]; exact h.own
  · intro b hb2
    have : G = b := Option.some.inj hb2
    subst this
    exact h.hG.2
  · rw [lAt_is h.ob]
    show ((L : Int) - 1).toNat = L - 1
    omega
set_option maxRecDepth 20000 in
set_option maxHeartbeats 4000000 in
theorem orows_c (g : Nat) (o : Opn) (a : Option Addr) (m c : Nat) (ys : List Int) (p0 : Nat) (seq : Int) (n : Nat) (X : List Rwi) (w : World) (h : OpB w g o) (hq : o.seq = seq) (hl : o.left = ((n - X.length : Nat) : Int)) (ha : o.ahead = ahd X X.length) (ht1 : o.ta = none) (ht2 : o.tn = 0) (ht3 : o.tc = 0)
    (hpre : Pre ys 3 p0 seq n X) (hx : Seg .u8 w a m (ys.drop p0)) (hb : Bytes ys) (hnz : a = none → c = 0) (hmc : m ≤ c) (hm : m ≤ 70368744177664) (hag : ∀ b o s, a = some ⟨b, o, s⟩ → b ≠ g) :
    Calls Tryd.prog 125 #[.pointer (some ⟨g, 0, none⟩), .slice a m c] w fun r w' => RowsA ys p0 g seq n X o w r w' := by
  have hgw : g < w.heap.size := lt_of_block h
  have hml : (ys.drop p0).length = m := hx.1
  have HNW : Hid (Calls Tryd.prog 51 #[.slice a m c] w fun r w' => ∃ q a' cap', r = .returned (.pointer (some ⟨q, 0, none⟩)) ∧ RS w' q a' m cap' (ys.drop p0) 0 0 ∧ w.heap.size ≤ q ∧ (∀ b o s, a' = some ⟨b, o, s⟩ → w.heap.size ≤ b ∧ b < w'.heap.size) ∧ w.grownBy w' none) := new_c2 a m c _ w hx (bytes_drop hb p0) (by omega) hnz
  have HC : Hid (Bytes ys ∧ Seg .u8 w a m (ys.drop p0) ∧ (a = none → c = 0) ∧ m ≤ c ∧ (∀ b o s, a = some ⟨b, o, s⟩ → b ≠ g) ∧ o.seq = seq ∧ Pre ys 3 p0 seq n X) := ⟨hb, hx, hnz, hmc, hag, hq, hpre⟩
  have HO : Hid (OpB w g (o.rws ((n - (X ++ []).length : Nat) : Int) (ahd (X ++ []) (X ++ []).length) none 0 0)) := by
    rw [List.append_nil]
    have e : o.rws ((n - X.length : Nat) : Int) (ahd X X.length) none 0 0 = o := by
      exact rws_self o _ _ hl ha ht1 ht2 ht3
    rw [e]
    exact h
  clear h hl ha ht1 ht2 ht3 hpre hx hb hnz hag hq
  go_enter Tryd.func125, Tryd.ntmps125
  go_wp2_with (go_at_call 51; go_must (refine (Calls.mono HNW.out ?_)); rintro r w1 ⟨q, a', cap', rfl, h1, h2, h3, h4⟩; have H1 : Hid (RS w1 q a' m cap' (ys.drop p0) 0 0 ∧ w.heap.size ≤ q ∧ (∀ b o s, a' = some ⟨b, o, s⟩ → w.heap.size ≤ b ∧ b < w1.heap.size) ∧ w.grownBy w1 none ∧ q < w1.heap.size) := ⟨h1, h2, h3, h4, lt_of_block h1.rdr⟩; clear h1 h2 h3 h4)
  have HRQ : Hid (w.heap.size ≤ q ∧ (∀ b o s, a' = some ⟨b, o, s⟩ → w.heap.size ≤ b ∧ b < w1.heap.size) ∧ q < w1.heap.size) := ⟨H1.out.2.1, H1.out.2.2.1, H1.out.2.2.2.2⟩
  go_loopw [13] (fun _ wr => ∃ D p ta tc, Hid (TR ys p0 g q a' m cap' seq n X o w wr D p ta tc ∧ w1.heap.size ≤ wr.heap.size)) (fun _ wr => lAt wr g)
  case atStart => exact ⟨[], p0, none, 0, ⟨by rw [List.append_nil]; exact HC.out.2.2.2.2.2.2, Nat.le_refl _, by rw [Nat.sub_self]; exact H1.out.1, opb_gb HO.out H1.out.2.2.2.1, ⟨rfl, .inl ⟨rfl, rfl⟩⟩, gb_wide H1.out.2.2.2.1 _, fun b hb => by cases hb⟩, Nat.le_refl _⟩
  case round =>
    obtain ⟨D, p, ta, tc, HT⟩ := hrel
    clear H1 HO HNW
    obtain ⟨L, hL⟩ : ∃ L, L = n - (X ++ D).length := ⟨_, rfl⟩
    have hpn := (HT.out.1.pre.nn (Nat.le_refl _))
    have k9 : wr.cell? ⟨g, 9, none⟩ = some (.int .i64 (L : Int)) := by rw [hL]; exact Bk.cell HT.out.1.ob 9
    by_cases hlt : (X ++ D).length < n
    · have hL0 : 0 < L := by omega
      have hL1 : (0 : Int) < (L : Int) := by omega
      have hL2 : L ≤ 1048576 := by omega
      have hD2 : D.length < 1048576 := by have z := hlt; rw [List.length_append] at z; omega
      obtain ⟨kk, hkk⟩ : ∃ s, s = strOfNums (rr ys p).1.1 := ⟨_, rfl⟩
      obtain ⟨vv, hvv⟩ : ∃ s, s = strOfNums (rr ys p).1.2.1 := ⟨_, rfl⟩
      obtain ⟨nn, hnn⟩ : ∃ s, s = (rr ys p).1.2.2 := ⟨_, rfl⟩
      obtain ⟨e', he'⟩ : ∃ s, s = (rr ys p).2.2 := ⟨_, rfl⟩
      obtain ⟨P, hP⟩ : ∃ s, s = (rr ys p).2.1 - p0 := ⟨_, rfl⟩
      have hrow : (⟨kk, vv, nn⟩ : Rwi) = rowAt ys p := by unfold rowAt; rw [hkk, hvv, hnn]
      obtain ⟨oD, hoD⟩ : ∃ oD, oD = o.rws (L : Int) (ahd (X ++ D) (X ++ D).length) ta D.length tc := ⟨_, rfl⟩
      have hob : OpB wr g oD := by rw [hoD, hL]; exact HT.out.1.ob
      have HR : Hid (Calls Tryd.prog 83 #[.pointer (some ⟨q, 0, none⟩)] wr fun r w' => r = .returned (.agg #[.string kk, .string vv, .int .i64 nn]) ∧ RS w' q a' m cap' (ys.drop p0) e' P ∧ wr.grownBy w' (some q)) := by
        have z := row_ok q a' m cap' (ys.drop p0) (p - p0) wr HT.out.1.rs
        rw [rr_at HT.out.1.ge] at z
        rw [hkk, hvv, hnn, he', hP]
        exact z
      have HM : Hid (∀ W, wr.grownBy W (some q) → OpB W g oD ∧ W.ownsRow w.heap.size 48 3 (.slice ta D.length tc) D.length (flI D) ∧ w.grownBy W (some g)) := fun W hg =>
        ⟨Bk.grew hob hg (fun e => by have := Option.some.inj e; have := HRQ.out.1; omega), own_grewI HT.out.1.own hg (fun b hb e => (HT.out.1.far b hb).1 (Option.some.inj e).symm), gb_above HT.out.1.gb hg HRQ.out.1⟩
      have hone : ∀ (k v : ByteArray) (n : Int), (#[Value.string k, .string v, .int .i64 n]).all (·.oneCell') = true := fun k v n => by simp [Value.oneCell']
      have HPRE : Hid (Pre ys 3 p seq n (X ++ D) ∧ p0 ≤ p ∧ (X ++ D).length < n ∧ (⟨kk, vv, nn⟩ : Rwi) = rowAt ys p ∧ e' = (rr ys p).2.2 ∧ P = (rr ys p).2.1 - p0 ∧ w1.heap.size ≤ wr.heap.size ∧ L = n - (X ++ D).length ∧ oD = o.rws (L : Int) (ahd (X ++ D) (X ++ D).length) ta D.length tc ∧ lAt wr g = L) := ⟨HT.out.1.pre, HT.out.1.ge, hlt, hrow, he', hP, HT.out.2, hL, hoD, by rw [lAt_is hob, hoD]; show ((L : Int)).toNat = L; omega⟩
      have HWR : Hid (w.heap.size ≤ wr.heap.size) := HT.out.1.gb.size
      have HFAR : Hid (∀ b, (Value.slice ta D.length tc).ownBlock = some b → b ≠ q ∧ (∀ bb o s, a' = some ⟨bb, o, s⟩ → b ≠ bb)) := HT.out.1.far
      have HS : Hid (oD.ahead = ahd (X ++ D) (X ++ D).length ∧ oD.seq = seq ∧ oD.ta = ta ∧ oD.tn = D.length ∧ oD.tc = tc ∧ oD.left = (L : Int)) := by rw [hoD]; exact ⟨rfl, HC.out.2.2.2.2.2.1, rfl, rfl, rfl, rfl⟩
      clear HT hob hkk hvv hnn he' hP hrow hoD hL hpn
      go_wp2_with (first
        | ((fail_if_success (have z := A1)); go_at_call 83; go_must (refine (Calls.mono HR.out ?_)); rintro r x1 ⟨rfl, h1, h2⟩; have A1 : Hid (RS x1 q a' m cap' (ys.drop p0) e' P ∧ OpB x1 g oD ∧ x1.ownsRow w.heap.size 48 3 (.slice ta D.length tc) D.length (flI D) ∧ w.grownBy x1 (some g) ∧ wr.heap.size ≤ x1.heap.size) := ⟨h1, (HM.out x1 h2).1, (HM.out x1 h2).2.1, (HM.out x1 h2).2.2, h2.size⟩; clear h1 h2)
        | ((fail_if_success (have z := A2)); have z := A1; clear z; refine wpList_store_bk 48 rfl (.tmp 7) (.tmp 23) rfl infoRwI x1.heap.size _ #[.string kk, .string vv, .int .i64 nn] rfl rfl (heap_new x1 _) rfl rfl (hone _ _ _) ?_; intro x2 h1 h2; have hg2 : x1.grownBy x2 none := gb_newer (World.grownBy_alloc x1 _ _) h2 (Nat.le_refl _); have A2 : Hid (RS x2 q a' m cap' (ys.drop p0) e' P ∧ OpB x2 g oD ∧ x2.ownsRow w.heap.size 48 3 (.slice ta D.length tc) D.length (flI D) ∧ w.grownBy x2 (some g) ∧ Bk 48 x2 x1.heap.size #[.string kk, .string vv, .int .i64 nn] ∧ wr.heap.size ≤ x1.heap.size) := ⟨A1.out.1.new hg2, opb_gb A1.out.2.1 hg2, own_grewI A1.out.2.2.1 hg2 (by simp), gb_trans A1.out.2.2.2.1 (gb_wide hg2 _), h1, A1.out.2.2.2.2⟩; clear h1 h2 hg2))
      have HNB : Hid (∀ b, (Value.slice ta D.length tc).ownBlock = some b → b < x1.heap.size) := fun b hb => (own_lo2 A1.out.2.2.1 b hb).2
      have HNB2 : Hid (w.heap.size ≤ wr.heap.size) := HWR.out
      generalize x1.heap.size = N at A2 HNB ⊢
      clear A1 HR HM hone k9
      by_cases h30 : e' = 30
      · subst h30
        have hPp : P = p - p0 := by
          have := HPRE.out
          rw [this.2.2.2.2.2.1, rr_fail (by rw [← this.2.2.2.2.1]; decide)]
        have HTH : Hid (Calls Tryd.prog 130 #[.pointer (some ⟨g, 0, none⟩), .pointer (some ⟨q, 0, none⟩)] x2 fun r w' => r = .returned (.bool (30 == 0)) ∧ w' = x2) := othere_so g q 30 _ _ x2 A2.out.1.rdr (.inr rfl)
        have hPm : P ≤ m := A2.out.1.le
        have hsl : ∀ W, (Instr.slice 27 (.slice a m c) (some (.int .i64 (P : Int))) none none).run Tryd.prog W = .ok (.slice (cutI a c P) (m - P) (c - P)) W := sliceL a m c P P rfl hPm
        have hdr : (ys.drop p0).drop P = ys.drop p := by rw [List.drop_drop, hPp, show p0 + (p - p0) = p from by have := HPRE.out.2.1; omega]
        have HND : Hid (Calls Tryd.prog 131 #[.slice (cutI a c P) (m - P) (c - P)] x2 fun r w' => r = .returned (.int .i64 (nd (ys.drop p) : Int)) ∧ x2.grownBy w' none) := by
          rw [← hdr]
          refine needs_c _ _ _ _ x2 (seg_cutI (seg_gG HC.out.2.1 A2.out.2.2.2.1 HC.out.2.2.2.2.1) P hmc) (bytes_drop (bytes_drop HC.out.1 p0) P) (fun z => ?_) (by omega) (by omega)
          have := HC.out.2.2.1 (cutI_none z)
          omega
        have k6 : ∀ W, x2.grownBy W none → W.cell? ⟨g, 6, none⟩ = some (.int .i64 oD.least) ∧ W.frozen? ⟨g, 6, none⟩ = false := fun W hg => ⟨Bk.cell (opb_gb A2.out.2.1 hg) 6, frozen_of_row W g 6 _ _ (opb_gb A2.out.2.1 hg)⟩
        replace k6 : Hid _ := k6
        replace hPp : Hid _ := hPp
        clear hdr
        go_wp2_with (first
          | (go_at_call 130; go_must (refine (Calls.mono HTH.out ?_)); rintro r wq ⟨rfl, hq⟩; obtain rfl := hq.symm; clear hq)
          | ((fail_if_success (have z := A3)); go_at_call 98; go_must (refine (Calls.mono (at_c q 30 _ _ _ A2.out.1.rdr) ?_)); rintro r wq ⟨rfl, hq⟩; obtain rfl := hq.symm; clear hq)
          | ((fail_if_success (have z := A3)); go_at_call 131; go_must (refine (Calls.mono HND.out ?_)); rintro r x3 ⟨rfl, h3⟩; have hk6 := (k6.out x3 h3).1; have hf6 := (k6.out x3 h3).2; have A3 : Hid (x2.grownBy x3 none) := h3; have A4 : Hid (RS (x3.setCell ⟨g, 6, none⟩ (.int .i64 (nd (ys.drop p) : Int))) q a' m cap' (ys.drop p0) 30 P ∧ OpB (x3.setCell ⟨g, 6, none⟩ (.int .i64 (nd (ys.drop p) : Int))) g { oD with least := (nd (ys.drop p) : Int) } ∧ (x3.setCell ⟨g, 6, none⟩ (.int .i64 (nd (ys.drop p) : Int))).ownsRow w.heap.size 48 3 (.slice ta D.length tc) D.length (flI D) ∧ w.grownBy (x3.setCell ⟨g, 6, none⟩ (.int .i64 (nd (ys.drop p) : Int))) (some g)) := ⟨(A2.out.1.new h3).other (grownBy_cell x3 g 6 _) (fun e => by have := Option.some.inj e; have := HRQ.out.1; omega) (fun k e b o s hb => by cases e; have := (HRQ.out.2.1 b o s hb).1; omega), Bk.setO (opb_gb A2.out.2.1 h3) 6 _, own_grewI (own_grewI A2.out.2.2.1 h3 (by simp)) (grownBy_cell x3 g 6 _) (fun b hb e => by have := (own_lo2 A2.out.2.2.1 b hb).1; have := Option.some.inj e; omega), gb_trans A2.out.2.2.2.1 (gb_trans (gb_wide h3 _) (grownBy_cell x3 g 6 _))⟩; clear h3)
          | (have z := A4; clear z; go_at_call 98; go_must (refine (Calls.mono (at_c q 30 _ _ _ A4.out.1.rdr) ?_)); rintro r wq ⟨rfl, hq⟩; obtain rfl := hq.symm; clear hq))
        go_ret2
        refine ⟨D, p, ta, tc, HPRE.out.1, HPRE.out.2.1, A4.out.2.2.1, A4.out.2.2.2, .inr (.inl ⟨HPRE.out.2.2.1, HPRE.out.2.2.2.2.1.symm, by rw [← hPp.out]; rfl, ?_⟩)⟩
        have z := A4.out.2.1
        rw [HPRE.out.2.2.2.2.2.2.2.2.1, HPRE.out.2.2.2.2.2.2.2.1] at z
        exact z
      by_cases h00 : e' = 0
      · subst h00
        have HTH : Hid (Calls Tryd.prog 130 #[.pointer (some ⟨g, 0, none⟩), .pointer (some ⟨q, 0, none⟩)] x2 fun r w' => r = .returned (.bool (0 == 0)) ∧ w' = x2) := othere_so g q 0 _ _ x2 A2.out.1.rdr (.inl rfl)
        obtain ⟨F, hF⟩ : ∃ F, F = fwI ⟨kk, vv, nn⟩ (ahd (X ++ D) (X ++ D).length) seq := ⟨_, rfl⟩
        obtain ⟨AH, hAH⟩ : ∃ AH, AH = ahd (X ++ D) (X ++ D).length := ⟨_, rfl⟩
        have HFW : Hid (∀ W, Calls Tryd.prog 44 #[.agg #[.string kk, .string vv, .int .i64 nn], .string AH, .int .i64 seq] W fun r w' => r = .returned (.bool F) ∧ W.grownBy w' none) := fun W => by rw [hF, hAH]; exact follows_c kk vv nn _ seq W
        have HK8 : Hid (∀ W, x2.grownBy W none → W.cell? ⟨g, 10, none⟩ = some (.string AH) ∧ W.cell? ⟨g, 8, none⟩ = some (.int .i64 seq) ∧ W.rangeAt N 0 [.string kk, .string vv, .int .i64 nn]) := fun W hg => ⟨by rw [hAH, ← HS.out.1]; exact Bk.cell (opb_gb A2.out.2.1 hg) 10, by rw [← HS.out.2.1]; exact Bk.cell (opb_gb A2.out.2.1 hg) 8, bk_range3 (A2.out.2.2.2.2.1.grew hg (by simp))⟩
        have HFX : Hid (F = fwI (rowAt ys p) (ahd (X ++ D) (X ++ D).length) seq) := by rw [← HPRE.out.2.2.2.1]; exact hF
        clear hF hAH
        cases F with
        | false =>
          go_wp2_with (go_at_call 130; go_must (refine (Calls.mono HTH.out ?_)); rintro r wq ⟨rfl, hq⟩; obtain rfl := hq.symm; clear hq)
          refine wp_region_lastR (fun a b => World.grownBy a b none) (fun _ _ _ h k => gb_trans h k) ⟨rfl, rfl, rfl, Nat.le_refl _, fun _ _ _ => rfl⟩ 11 rfl (by kernel_rfl) [38, 39, 40, 41, 42, 43, 44, 45, 46, 47, 48, 49] [[], [], [], [2], [3], [4], [], [6], [7], [8], [1, 5, 9], [0, 10]] (by kernel_rfl) (by kernel_rfl) [fun u W => u = .pointer (some ⟨g, 0, none⟩), fun u W => u = .agg #[.string kk, .string vv, .int .i64 nn], fun u W => u = .pointer (some ⟨g, 0, none⟩), fun u W => u = .pointer (some ⟨g, 0, none⟩), fun u W => u = .pointer (some ⟨g, 10, none⟩), fun u W => u = .string AH, fun u W => u = .pointer (some ⟨g, 0, none⟩), fun u W => u = .pointer (some ⟨g, 0, none⟩), fun u W => u = .pointer (some ⟨g, 8, none⟩), fun u W => u = .int .i64 seq, fun u W => u = .bool false] ?stable ?step ?last
          case stable =>
            intro i v W W' h hg
            match i, h with
            | 0, h => exact h
            | 1, h => exact h
            | 2, h => exact h
            | 3, h => exact h
            | 4, h => exact h
            | 5, h => exact h
            | 6, h => exact h
            | 7, h => exact h
            | 8, h => exact h
            | 9, h => exact h
            | 10, h => exact h
            | i + 11, h => exact trivial
          case step =>
            intro f W A hA hg i o hin ho hu K hK
            match i, hin, ho, hu, hK with
            | 0, hin, ho, hu, hK =>
              cases ho
              have e0 : A.eval (.tmp 0) = .pointer (some ⟨g, 0, none⟩) := ev_out hA 0 rfl
              exact ph_move _ rfl rfl (.pointer (some ⟨g, 0, none⟩)) e0 (hK _ _ (gb_rr W _) rfl)
            | 1, hin, ho, hu, hK =>
              cases ho
              have e7 : A.eval (.tmp 7) = .pointer (some ⟨N, 0, none⟩) := ev_out hA 7 rfl
              exact ph_load rfl 48 _ rfl Tryd.underlying48 rfl N 0 [.string kk, .string vv, .int .i64 nn] (by kernel_rfl) e7 ((HK8.out W hg).2.2) (hK _ _ (gb_rr W _) rfl)
            | 2, hin, ho, hu, hK =>
              cases ho
              have e0 : A.eval (.tmp 0) = .pointer (some ⟨g, 0, none⟩) := ev_out hA 0 rfl
              exact ph_move _ rfl rfl (.pointer (some ⟨g, 0, none⟩)) e0 (hK _ _ (gb_rr W _) rfl)
            | 3, hin, ho, hu, hK =>
              cases ho
              have e40 : A.eval (.tmp 40) = .pointer (some ⟨g, 0, none⟩) := (ev_in hA 40 2 rfl rfl rfl).trans (show f 2 = .pointer (some ⟨g, 0, none⟩) from hu 2 (by decide))
              exact ph_nil _ rfl rfl _ e40 (hK _ _ (gb_rr W _) rfl)
            | 4, hin, ho, hu, hK =>
              cases ho
              have e41 : A.eval (.tmp 41) = .pointer (some ⟨g, 0, none⟩) := (ev_in hA 41 3 rfl rfl rfl).trans (show f 3 = .pointer (some ⟨g, 0, none⟩) from hu 3 (by decide))
              exact ph_field _ _ _ rfl rfl _ (.pointer (some ⟨g, 10, none⟩)) e41 (by kernel_rfl) (hK _ _ (gb_rr W _) rfl)
            | 5, hin, ho, hu, hK =>
              cases ho
              have e42 : A.eval (.tmp 42) = .pointer (some ⟨g, 10, none⟩) := (ev_in hA 42 4 rfl rfl rfl).trans (show f 4 = .pointer (some ⟨g, 10, none⟩) from hu 4 (by decide))
              have hc : W.cell? ⟨g, 10, none⟩ = some (.string AH) := (HK8.out W hg).1
              refine ph_sem rfl rfl (r := .ok (.value (.string AH)) W) ?_ (hK _ _ (gb_rr W _) rfl)
              have eC : ∀ c, A.eval (.const c) = c := fun _ => rfl; have eF : ∀ g, A.eval (.func g) = .func (.func g) #[] #[] := fun _ => rfl; generalize A.eval = ρ at *
              clear hA hu hg
              go_simp
            | 6, hin, ho, hu, hK =>
              cases ho
              have e0 : A.eval (.tmp 0) = .pointer (some ⟨g, 0, none⟩) := ev_out hA 0 rfl
              exact ph_move _ rfl rfl (.pointer (some ⟨g, 0, none⟩)) e0 (hK _ _ (gb_rr W _) rfl)
            | 7, hin, ho, hu, hK =>
              cases ho
              have e44 : A.eval (.tmp 44) = .pointer (some ⟨g, 0, none⟩) := (ev_in hA 44 6 rfl rfl rfl).trans (show f 6 = .pointer (some ⟨g, 0, none⟩) from hu 6 (by decide))
              exact ph_nil _ rfl rfl _ e44 (hK _ _ (gb_rr W _) rfl)
            | 8, hin, ho, hu, hK =>
              cases ho
              have e45 : A.eval (.tmp 45) = .pointer (some ⟨g, 0, none⟩) := (ev_in hA 45 7 rfl rfl rfl).trans (show f 7 = .pointer (some ⟨g, 0, none⟩) from hu 7 (by decide))
              exact ph_field _ _ _ rfl rfl _ (.pointer (some ⟨g, 8, none⟩)) e45 (by kernel_rfl) (hK _ _ (gb_rr W _) rfl)
            | 9, hin, ho, hu, hK =>
              cases ho
              have e46 : A.eval (.tmp 46) = .pointer (some ⟨g, 8, none⟩) := (ev_in hA 46 8 rfl rfl rfl).trans (show f 8 = .pointer (some ⟨g, 8, none⟩) from hu 8 (by decide))
              have hc : W.cell? ⟨g, 8, none⟩ = some (.int .i64 seq) := (HK8.out W hg).2.1
              refine ph_sem rfl rfl (r := .ok (.value (.int .i64 seq)) W) ?_ (hK _ _ (gb_rr W _) rfl)
              have eC : ∀ c, A.eval (.const c) = c := fun _ => rfl; have eF : ∀ g, A.eval (.func g) = .func (.func g) #[] #[] := fun _ => rfl; generalize A.eval = ρ at *
              clear hA hu hg
              go_simp
            | 10, hin, ho, hu, hK =>
              cases ho
              have e39 : A.eval (.tmp 39) = .agg #[.string kk, .string vv, .int .i64 nn] := (ev_in hA 39 1 rfl rfl rfl).trans (show f 1 = .agg #[.string kk, .string vv, .int .i64 nn] from hu 1 (by decide))
              have e43 : A.eval (.tmp 43) = .string AH := (ev_in hA 43 5 rfl rfl rfl).trans (show f 5 = .string AH from hu 5 (by decide))
              have e47 : A.eval (.tmp 47) = .int .i64 seq := (ev_in hA 47 9 rfl rfl rfl).trans (show f 9 = .int .i64 seq from hu 9 (by decide))
              refine ph_fn 44 _ _ rfl rfl #[.agg #[.string kk, .string vv, .int .i64 nn], .string AH, .int .i64 seq] (by simp [e39, e43, e47]) (by kernel_rfl) ?_
              refine (Calls.mono (HFW.out W) ?_)
              rintro e W' ⟨rfl, hq⟩
              exact ⟨_, rfl, hK _ _ hq rfl⟩
            | i + 11, hin, ho, hu, hK => omega
          case last =>
            intro f W A hA hg hu o ho K hK
            cases ho
            have e38 : A.eval (.tmp 38) = .pointer (some ⟨g, 0, none⟩) := (ev_in hA 38 0 rfl rfl rfl).trans (show f 0 = .pointer (some ⟨g, 0, none⟩) from hu 0 (by decide))
            have e48 : A.eval (.tmp 48) = .bool false := (ev_in hA 48 10 rfl rfl rfl).trans (show f 10 = .bool false from hu 10 (by decide))
            refine ph_fnP 58 _ _ rfl rfl #[.pointer (some ⟨g, 0, none⟩), .bool false, .int .i64 92] (by simp [e38, e48]; rfl) (by kernel_rfl) ?_
            refine (Calls.mono (omust_no g oD 92 W (opb_gb A2.out.2.1 hg)) ?_)
            rintro _ W9 ⟨rfl, h9, h8⟩
            refine ⟨_, rfl, ?_⟩
            have H9 : Hid (OpB W9 g { oD with err := 92, rest := none } ∧ W9.ownsRow w.heap.size 48 3 (.slice ta D.length tc) D.length (flI D) ∧ w.grownBy W9 (some g)) := ⟨h9, own_grewI (own_grewI A2.out.2.2.1 hg (by simp)) h8 (fun b hb e => by have := (own_lo2 A2.out.2.2.1 b hb).1; have := Option.some.inj e; omega), gb_trans A2.out.2.2.2.1 (gb_trans (gb_wide hg _) h8)⟩
            clear h9 h8 hg hK hu
            subst hA
            refine ⟨rfl, D, p, ta, tc, HPRE.out.1, HPRE.out.2.1, H9.out.2.1, H9.out.2.2, .inr (.inr ⟨.inr (.inr (.inr (.inl ⟨rfl, HPRE.out.2.2.1, by rw [← HPRE.out.2.2.2.2.1]; decide, .inr HFX.out.symm, rfl⟩))), rfl, ?_⟩)⟩
            have z := H9.out.1
            rw [HPRE.out.2.2.2.2.2.2.2.2.1, HPRE.out.2.2.2.2.2.2.2.1] at z
            exact z
        | true =>
          go_wp2_with (go_at_call 130; go_must (refine (Calls.mono HTH.out ?_)); rintro r wq ⟨rfl, hq⟩; obtain rfl := hq.symm; clear hq)
          refine wp_region_lastR (fun a b => World.grownBy a b none) (fun _ _ _ h k => gb_trans h k) ⟨rfl, rfl, rfl, Nat.le_refl _, fun _ _ _ => rfl⟩ 11 rfl (by kernel_rfl) [38, 39, 40, 41, 42, 43, 44, 45, 46, 47, 48, 49] [[], [], [], [2], [3], [4], [], [6], [7], [8], [1, 5, 9], [0, 10]] (by kernel_rfl) (by kernel_rfl) [fun u W => u = .pointer (some ⟨g, 0, none⟩), fun u W => u = .agg #[.string kk, .string vv, .int .i64 nn], fun u W => u = .pointer (some ⟨g, 0, none⟩), fun u W => u = .pointer (some ⟨g, 0, none⟩), fun u W => u = .pointer (some ⟨g, 10, none⟩), fun u W => u = .string AH, fun u W => u = .pointer (some ⟨g, 0, none⟩), fun u W => u = .pointer (some ⟨g, 0, none⟩), fun u W => u = .pointer (some ⟨g, 8, none⟩), fun u W => u = .int .i64 seq, fun u W => u = .bool true] ?stable ?step ?last
          case stable =>
            intro i v W W' h hg
            match i, h with
            | 0, h => exact h
            | 1, h => exact h
            | 2, h => exact h
            | 3, h => exact h
            | 4, h => exact h
            | 5, h => exact h
            | 6, h => exact h
            | 7, h => exact h
            | 8, h => exact h
            | 9, h => exact h
            | 10, h => exact h
            | i + 11, h => exact trivial
          case step =>
            intro f W A hA hg i o hin ho hu K hK
            match i, hin, ho, hu, hK with
            | 0, hin, ho, hu, hK =>
              cases ho
              have e0 : A.eval (.tmp 0) = .pointer (some ⟨g, 0, none⟩) := ev_out hA 0 rfl
              exact ph_move _ rfl rfl (.pointer (some ⟨g, 0, none⟩)) e0 (hK _ _ (gb_rr W _) rfl)
            | 1, hin, ho, hu, hK =>
              cases ho
              have e7 : A.eval (.tmp 7) = .pointer (some ⟨N, 0, none⟩) := ev_out hA 7 rfl
              exact ph_load rfl 48 _ rfl Tryd.underlying48 rfl N 0 [.string kk, .string vv, .int .i64 nn] (by kernel_rfl) e7 ((HK8.out W hg).2.2) (hK _ _ (gb_rr W _) rfl)
            | 2, hin, ho, hu, hK =>
              cases ho
              have e0 : A.eval (.tmp 0) = .pointer (some ⟨g, 0, none⟩) := ev_out hA 0 rfl
              exact ph_move _ rfl rfl (.pointer (some ⟨g, 0, none⟩)) e0 (hK _ _ (gb_rr W _) rfl)
            | 3, hin, ho, hu, hK =>
              cases ho
              have e40 : A.eval (.tmp 40) = .pointer (some ⟨g, 0, none⟩) := (ev_in hA 40 2 rfl rfl rfl).trans (show f 2 = .pointer (some ⟨g, 0, none⟩) from hu 2 (by decide))
              exact ph_nil _ rfl rfl _ e40 (hK _ _ (gb_rr W _) rfl)
            | 4, hin, ho, hu, hK =>
              cases ho
              have e41 : A.eval (.tmp 41) = .pointer (some ⟨g, 0, none⟩) := (ev_in hA 41 3 rfl rfl rfl).trans (show f 3 = .pointer (some ⟨g, 0, none⟩) from hu 3 (by decide))
              exact ph_field _ _ _ rfl rfl _ (.pointer (some ⟨g, 10, none⟩)) e41 (by kernel_rfl) (hK _ _ (gb_rr W _) rfl)
            | 5, hin, ho, hu, hK =>
              cases ho
              have e42 : A.eval (.tmp 42) = .pointer (some ⟨g, 10, none⟩) := (ev_in hA 42 4 rfl rfl rfl).trans (show f 4 = .pointer (some ⟨g, 10, none⟩) from hu 4 (by decide))
              have hc : W.cell? ⟨g, 10, none⟩ = some (.string AH) := (HK8.out W hg).1
              refine ph_sem rfl rfl (r := .ok (.value (.string AH)) W) ?_ (hK _ _ (gb_rr W _) rfl)
              have eC : ∀ c, A.eval (.const c) = c := fun _ => rfl; have eF : ∀ g, A.eval (.func g) = .func (.func g) #[] #[] := fun _ => rfl; generalize A.eval = ρ at *
              clear hA hu hg
              go_simp
            | 6, hin, ho, hu, hK =>
              cases ho
              have e0 : A.eval (.tmp 0) = .pointer (some ⟨g, 0, none⟩) := ev_out hA 0 rfl
              exact ph_move _ rfl rfl (.pointer (some ⟨g, 0, none⟩)) e0 (hK _ _ (gb_rr W _) rfl)
            | 7, hin, ho, hu, hK =>
              cases ho
              have e44 : A.eval (.tmp 44) = .pointer (some ⟨g, 0, none⟩) := (ev_in hA 44 6 rfl rfl rfl).trans (show f 6 = .pointer (some ⟨g, 0, none⟩) from hu 6 (by decide))
              exact ph_nil _ rfl rfl _ e44 (hK _ _ (gb_rr W _) rfl)
            | 8, hin, ho, hu, hK =>
              cases ho
              have e45 : A.eval (.tmp 45) = .pointer (some ⟨g, 0, none⟩) := (ev_in hA 45 7 rfl rfl rfl).trans (show f 7 = .pointer (some ⟨g, 0, none⟩) from hu 7 (by decide))
              exact ph_field _ _ _ rfl rfl _ (.pointer (some ⟨g, 8, none⟩)) e45 (by kernel_rfl) (hK _ _ (gb_rr W _) rfl)
            | 9, hin, ho, hu, hK =>
              cases ho
              have e46 : A.eval (.tmp 46) = .pointer (some ⟨g, 8, none⟩) := (ev_in hA 46 8 rfl rfl rfl).trans (show f 8 = .pointer (some ⟨g, 8, none⟩) from hu 8 (by decide))
              have hc : W.cell? ⟨g, 8, none⟩ = some (.int .i64 seq) := (HK8.out W hg).2.1
              refine ph_sem rfl rfl (r := .ok (.value (.int .i64 seq)) W) ?_ (hK _ _ (gb_rr W _) rfl)
              have eC : ∀ c, A.eval (.const c) = c := fun _ => rfl; have eF : ∀ g, A.eval (.func g) = .func (.func g) #[] #[] := fun _ => rfl; generalize A.eval = ρ at *
              clear hA hu hg
              go_simp
            | 10, hin, ho, hu, hK =>
              cases ho
              have e39 : A.eval (.tmp 39) = .agg #[.string kk, .string vv, .int .i64 nn] := (ev_in hA 39 1 rfl rfl rfl).trans (show f 1 = .agg #[.string kk, .string vv, .int .i64 nn] from hu 1 (by decide))
              have e43 : A.eval (.tmp 43) = .string AH := (ev_in hA 43 5 rfl rfl rfl).trans (show f 5 = .string AH from hu 5 (by decide))
              have e47 : A.eval (.tmp 47) = .int .i64 seq := (ev_in hA 47 9 rfl rfl rfl).trans (show f 9 = .int .i64 seq from hu 9 (by decide))
              refine ph_fn 44 _ _ rfl rfl #[.agg #[.string kk, .string vv, .int .i64 nn], .string AH, .int .i64 seq] (by simp [e39, e43, e47]) (by kernel_rfl) ?_
              refine (Calls.mono (HFW.out W) ?_)
              rintro e W' ⟨rfl, hq⟩
              exact ⟨_, rfl, hK _ _ hq rfl⟩
            | i + 11, hin, ho, hu, hK => omega
          case last =>
            intro f W A hA hg hu o ho K hK
            cases ho
            have e38 : A.eval (.tmp 38) = .pointer (some ⟨g, 0, none⟩) := (ev_in hA 38 0 rfl rfl rfl).trans (show f 0 = .pointer (some ⟨g, 0, none⟩) from hu 0 (by decide))
            have e48 : A.eval (.tmp 48) = .bool true := (ev_in hA 48 10 rfl rfl rfl).trans (show f 10 = .bool true from hu 10 (by decide))
            refine ph_fn 58 _ _ rfl rfl #[.pointer (some ⟨g, 0, none⟩), .bool true, .int .i64 92] (by simp [e38, e48]; rfl) (by kernel_rfl) ?_
            refine (Calls.mono (omust_so g 92 W) ?_)
            rintro _ W9 ⟨rfl, hq⟩
            obtain rfl := hq.symm
            clear hq
            refine ⟨_, rfl, hK _ _ ?_⟩
            have A3 : Hid (RS W q a' m cap' (ys.drop p0) 0 P ∧ OpB W g oD ∧ W.ownsRow w.heap.size 48 3 (.slice ta D.length tc) D.length (flI D) ∧ w.grownBy W (some g) ∧ Bk 48 W N #[.string kk, .string vv, .int .i64 nn] ∧ wr.heap.size ≤ N) := ⟨A2.out.1.new hg, opb_gb A2.out.2.1 hg, own_grewI A2.out.2.2.1 hg (by simp), gb_trans A2.out.2.2.2.1 (gb_wide hg _), A2.out.2.2.2.2.1.grew hg (by simp), A2.out.2.2.2.2.2⟩
            clear hg e38 e48
            have hA2 := hA.trans (putAll_lit [(.pointer (some ⟨g, 0, none⟩)), (.agg #[.string kk, .string vv, .int .i64 nn]), (.pointer (some ⟨g, 0, none⟩)), (.pointer (some ⟨g, 0, none⟩)), (.pointer (some ⟨g, 10, none⟩)), (.string AH), (.pointer (some ⟨g, 0, none⟩)), (.pointer (some ⟨g, 0, none⟩)), (.pointer (some ⟨g, 8, none⟩)), (.int .i64 seq), (.bool true), (f 11)] (by
              intro j hj
              match j, hj with
              | 0, _ => exact hu 0 (by decide)
              | 1, _ => exact hu 1 (by decide)
              | 2, _ => exact hu 2 (by decide)
              | 3, _ => exact hu 3 (by decide)
              | 4, _ => exact hu 4 (by decide)
              | 5, _ => exact hu 5 (by decide)
              | 6, _ => exact hu 6 (by decide)
              | 7, _ => exact hu 7 (by decide)
              | 8, _ => exact hu 8 (by decide)
              | 9, _ => exact hu 9 (by decide)
              | 10, _ => exact hu 10 (by decide)
              | 11, _ => rfl
              | j + 12, hj => exact absurd hj (by simp)))
            clear hu hA
            subst hA2
            simp only [putAll, putL, List.mem_cons, List.not_mem_nil, List.idxOf_cons, Nat.reduceEqDiff, Nat.reduceBEq, Nat.reduceAdd, or_false, or_true, reduceIte, cond_true, cond_false, List.getD_cons_zero, List.getD_cons_succ, BEq.rfl]
            generalize W = W9 at *
            go_wp2_with fail
            simp only [Act.put, List.getElem_toArray, List.getElem_cons_succ, List.getElem_cons_zero, List.setIfInBounds_toArray, List.set_cons_succ, List.set_cons_zero]
            have HPRE9 : Hid ((∀ b, (Value.slice ta D.length tc).ownBlock = some b → b ≠ N) ∧ w.heap.size ≤ wr.heap.size) := ⟨fun b hb => by have := HNB.out b hb; omega, HNB2.out⟩
            clear HK8 HFW HTH A2
            have HK9 : Hid (∀ W, W9.grownBy W (Value.slice ta D.length tc).ownBlock → W.cell? ⟨g, 11, none⟩ = some (.slice ta D.length tc) ∧ W.rangeAt N 0 [.string kk, .string vv, .int .i64 nn]) := fun W hg => ⟨by have z := Bk.cell (ob_rel A3.out.2.1 hg (fun b hb => (own_lo2 A3.out.2.2.1 b hb).1) hgw) 11; rw [← HS.out.2.2.1, ← HS.out.2.2.2.1, ← HS.out.2.2.2.2.1]; exact z, bk_range3 (A3.out.2.2.2.2.1.grew hg (fun e => HPRE9.out.1 N e rfl))⟩
            have HO9 : Hid (∀ W, W9.grownBy W none → W.ownsRow w.heap.size 48 3 (.slice ta D.length tc) D.length (flI D) ∧ w.heap.size ≤ W.heap.size) := fun W hg => ⟨own_grewI A3.out.2.2.1 hg (by simp), Nat.le_trans A3.out.2.2.2.1.size hg.size⟩
            refine wp_region_lastA (fun a b => World.grownBy a b (Value.slice ta D.length tc).ownBlock) (fun a b => World.grownBy a b none) (fun a b => World.grownBy a b (Value.slice ta D.length tc).ownBlock) (fun _ _ _ h k => gb_trans h k) (fun _ _ h => gb_wide h _) (fun _ _ h => h) ⟨rfl, rfl, rfl, Nat.le_refl _, fun _ _ _ => rfl⟩ (fun _ _ _ h k => gb_trans h k) ⟨rfl, rfl, rfl, Nat.le_refl _, fun _ _ _ => rfl⟩ 10 7 rfl (by kernel_rfl) [50, 51, 52, 53, 54, 55, 56, 57, 58, 59, 100010] [[], [], [1], [2], [3], [], [5], [4, 6], [0], [8], [9, 7]] (by kernel_rfl) (by kernel_rfl) [fun u W => u = .pointer (some ⟨g, 0, none⟩), fun u W => u = .pointer (some ⟨g, 0, none⟩), fun u W => u = .pointer (some ⟨g, 0, none⟩), fun u W => u = .pointer (some ⟨g, 11, none⟩), fun u W => u = .slice ta D.length tc, fun u W => u = .agg #[.string kk, .string vv, .int .i64 nn], fun u W => ∃ M, u = .slice (some ⟨M, 0, none⟩) 1 1 ∧ W.rangeAt M 0 [.string kk, .string vv, .int .i64 nn] ∧ W9.heap.size ≤ M ∧ M < W.heap.size, fun u W => ∃ G C, u = .slice (some ⟨G, 0, none⟩) (D.length + 1) C ∧ W.ownsRow w.heap.size 48 3 (.slice (some ⟨G, 0, none⟩) (D.length + 1) C) (D.length + 1) (flI D ++ [.string kk, .string vv, .int .i64 nn]) ∧ ((Value.slice ta D.length tc).ownBlock = some G ∨ W9.heap.size ≤ G), fun u W => u = .pointer (some ⟨g, 0, none⟩), fun u W => u = .pointer (some ⟨g, 11, none⟩)] ?stable ?stableA ?step ?last
            case stable =>
              intro i v W W' h hg
              match i, h with
              | 0, h => exact h
              | 1, h => exact h
              | 2, h => exact h
              | 3, h => exact h
              | 4, h => exact h
              | 5, h => exact h
              | 6, h => obtain ⟨M, h1, h2, h3, h4⟩ := h; exact ⟨M, h1, range_gb h2 hg (by simp) h4, h3, Nat.lt_of_lt_of_le h4 hg.size⟩
              | 7, h => obtain ⟨G, C, h1, h2, h3⟩ := h; exact ⟨G, C, h1, own_grewI h2 hg (by simp), h3⟩
              | 8, h => exact h
              | 9, h => exact h
              | i + 10, h => exact trivial
            case stableA =>
              intro i v W W' hne hnu h hg
              match i, hne, h with
              | 0, _, h => exact h
              | 1, _, h => exact h
              | 2, _, h => exact h
              | 3, _, h => exact h
              | 4, _, h => exact h
              | 5, _, h => exact h
              | 6, _, h => obtain ⟨M, h1, h2, h3, h4⟩ := h; exact ⟨M, h1, range_gb h2 hg (fun e => by have := (own_lo2 A3.out.2.2.1 M e).2; omega) h4, h3, Nat.lt_of_lt_of_le h4 hg.size⟩
              | 7, hne, _ => exact absurd rfl hne
              | 8, _, h => exact h
              | 9, _, h => exact h
              | i + 10, _, h => exact trivial
            case step =>
              intro f W A hA hg i o hin ho hu K hK
              match i, hin, ho, hu, hK with
              | 0, hin, ho, hu, hK =>
                cases ho
                have e0 : A.eval (.tmp 0) = .pointer (some ⟨g, 0, none⟩) := ev_out hA 0 rfl
                exact ph_move _ rfl rfl (.pointer (some ⟨g, 0, none⟩)) e0 (hK _ _ (gb_rr W _) rfl)
              | 1, hin, ho, hu, hK =>
                cases ho
                have e0 : A.eval (.tmp 0) = .pointer (some ⟨g, 0, none⟩) := ev_out hA 0 rfl
                exact ph_move _ rfl rfl (.pointer (some ⟨g, 0, none⟩)) e0 (hK _ _ (gb_rr W _) rfl)
              | 2, hin, ho, hu, hK =>
                cases ho
                have e51 : A.eval (.tmp 51) = .pointer (some ⟨g, 0, none⟩) := (ev_in hA 51 1 rfl rfl rfl).trans (show f 1 = .pointer (some ⟨g, 0, none⟩) from hu 1 (by decide))
                exact ph_nil _ rfl rfl _ e51 (hK _ _ (gb_rr W _) rfl)
              | 3, hin, ho, hu, hK =>
                cases ho
                have e52 : A.eval (.tmp 52) = .pointer (some ⟨g, 0, none⟩) := (ev_in hA 52 2 rfl rfl rfl).trans (show f 2 = .pointer (some ⟨g, 0, none⟩) from hu 2 (by decide))
                exact ph_field _ _ _ rfl rfl _ (.pointer (some ⟨g, 11, none⟩)) e52 (by kernel_rfl) (hK _ _ (gb_rr W _) rfl)
              | 4, hin, ho, hu, hK =>
                cases ho
                have e53 : A.eval (.tmp 53) = .pointer (some ⟨g, 11, none⟩) := (ev_in hA 53 3 rfl rfl rfl).trans (show f 3 = .pointer (some ⟨g, 11, none⟩) from hu 3 (by decide))
                have hc : W.cell? ⟨g, 11, none⟩ = some (.slice ta D.length tc) := (HK9.out W hg).1
                refine ph_sem rfl rfl (r := .ok (.value (.slice ta D.length tc)) W) ?_ (hK _ _ (gb_rr W _) rfl)
                have eC : ∀ c, A.eval (.const c) = c := fun _ => rfl; have eF : ∀ g, A.eval (.func g) = .func (.func g) #[] #[] := fun _ => rfl; generalize A.eval = ρ at *
                clear hA hu hg
                go_simp
              | 5, hin, ho, hu, hK =>
                cases ho
                have e7 : A.eval (.tmp 7) = .pointer (some ⟨N, 0, none⟩) := ev_out hA 7 rfl
                exact ph_load rfl 48 _ rfl Tryd.underlying48 rfl N 0 [.string kk, .string vv, .int .i64 nn] (by kernel_rfl) e7 ((HK9.out W hg).2) (hK _ _ (gb_rr W _) rfl)
              | 6, hin, ho, hu, hK =>
                cases ho
                have e55 : A.eval (.tmp 55) = .agg #[.string kk, .string vv, .int .i64 nn] := (ev_in hA 55 5 rfl rfl rfl).trans (show f 5 = .agg #[.string kk, .string vv, .int .i64 nn] from hu 5 (by decide))
                refine ph_sem rfl rfl (r := .ok (.value (.slice (some ⟨W.heap.size, 0, none⟩) 1 1)) (W.alloc (.cells #[.string kk, .string vv, .int .i64 nn] 48))) ?_ (hK _ _ (World.grownBy_alloc _ _ _) ⟨_, rfl, range_new3 _ _ _ _, hg.size, by simp⟩)
                have eC : ∀ c, A.eval (.const c) = c := fun _ => rfl; have eF : ∀ g, A.eval (.func g) = .func (.func g) #[] #[] := fun _ => rfl; generalize A.eval = ρ at *
                clear hA hu hg hK
                go_simp
              | 7, hin, ho, hu, hK =>
                cases ho
                have e54 : A.eval (.tmp 54) = .slice ta D.length tc := (ev_in hA 54 4 rfl rfl rfl).trans (show f 4 = .slice ta D.length tc from hu 4 (by decide))
                obtain ⟨M, hv6, hr6, hm6, hl6⟩ := hu 6 (by decide)
                have e56 : A.eval (.tmp 56) = .slice (some ⟨M, 0, none⟩) 1 1 := (ev_in hA 56 6 rfl rfl rfl).trans hv6
                obtain ⟨i3, hi3, hz3, hs3, hb3⟩ := infoRow40
                refine step_append_lies _ rfl (.tmp 54) (.tmp 56) 22 rfl w.heap.size 48 i3 (.agg #[.string { data := #[] }, .string { data := #[] }, .int .i64 0]) 3 40 Tryd.underlying22 hi3 hz3 hs3 hb3 rfl (by decide) (.slice ta D.length tc) D.length (flI D) e54 (HO9.out W (hin.2 rfl)).1 ⟨M, 0, none⟩ 1 1 [.string kk, .string vv, .int .i64 nn] e56 rfl (fun j u hj => by rw [add_plainI]; exact hr6 j u hj) (by intro u hu; simp at hu; rcases hu with rfl | rfl | rfl <;> rfl) (by decide) (by unfold maxLen; omega) (by omega) (HO9.out W (hin.2 rfl)).2 _ rfl ?_
                intro G C W2 k1 k2 k3 k4
                exact hK _ _ k2 ⟨G, C, rfl, k1, k3.imp id (fun e => by rw [e]; exact hg.size)⟩
              | 8, hin, ho, hu, hK =>
                cases ho
                have e50 : A.eval (.tmp 50) = .pointer (some ⟨g, 0, none⟩) := (ev_in hA 50 0 rfl rfl rfl).trans (show f 0 = .pointer (some ⟨g, 0, none⟩) from hu 0 (by decide))
                exact ph_nil _ rfl rfl _ e50 (hK _ _ (gb_rr W _) rfl)
              | 9, hin, ho, hu, hK =>
                cases ho
                have e58 : A.eval (.tmp 58) = .pointer (some ⟨g, 0, none⟩) := (ev_in hA 58 8 rfl rfl rfl).trans (show f 8 = .pointer (some ⟨g, 0, none⟩) from hu 8 (by decide))
                exact ph_field _ _ _ rfl rfl _ (.pointer (some ⟨g, 11, none⟩)) e58 (by kernel_rfl) (hK _ _ (gb_rr W _) rfl)
              | i + 10, hin, ho, hu, hK => omega
            case last =>
              intro f W A hA hg hu o ho K hK
              cases ho
              obtain ⟨G, C, hv7, ho7, hG7⟩ := hu 7 (by decide)
              have e57 : A.eval (.tmp 57) = .slice (some ⟨G, 0, none⟩) (D.length + 1) C := (ev_in hA 57 7 rfl rfl rfl).trans hv7
              have e59 : A.eval (.tmp 59) = .pointer (some ⟨g, 11, none⟩) := (ev_in hA 59 9 rfl rfl rfl).trans (show f 9 = .pointer (some ⟨g, 11, none⟩) from hu 9 (by decide))
              have hc : W.cell? ⟨g, 11, none⟩ = some (.slice ta D.length tc) := (HK9.out W hg).1
              have hf : W.frozen? ⟨g, 11, none⟩ = false := frozen_of_row W g 11 _ _ (ob_rel A3.out.2.1 hg (fun b hb => (own_lo2 A3.out.2.2.1 b hb).1) hgw)
              refine ph_sem rfl rfl (r := .ok .skip (W.setCell ⟨g, 11, none⟩ (.slice (some ⟨G, 0, none⟩) (D.length + 1) C))) ?_ (hK _ _ ?_)
              · have eC : ∀ c, A.eval (.const c) = c := fun _ => rfl
                generalize A.eval = ρ at *
                clear hA hu hg hK
                go_simp
              have A4 : Hid (TRX ys p0 g q a' m cap' w w1 (W.setCell ⟨g, 11, none⟩ (.slice (some ⟨G, 0, none⟩) (D.length + 1) C)) D ⟨kk, vv, nn⟩ P G C N { oD with ta := some ⟨G, 0, none⟩, tn := D.length + 1, tc := C }) := trx_of A3.out HRQ.out HFAR.out HPRE.out.2.2.2.2.2.2.1 hgw HPRE9.out.2 HPRE9.out.1 hg ho7 hG7
              obtain ⟨M, hv6, _, _, _⟩ := hu 6 (by decide)
              have hA2 := hA.trans (putAll_lit [(.pointer (some ⟨g, 0, none⟩)), (.pointer (some ⟨g, 0, none⟩)), (.pointer (some ⟨g, 0, none⟩)), (.pointer (some ⟨g, 11, none⟩)), (.slice ta D.length tc), (.agg #[.string kk, .string vv, .int .i64 nn]), (.slice (some ⟨M, 0, none⟩) 1 1), (.slice (some ⟨G, 0, none⟩) (D.length + 1) C), (.pointer (some ⟨g, 0, none⟩)), (.pointer (some ⟨g, 11, none⟩)), (f 10)] (by
                intro j hj
                match j, hj with
                | 0, _ => exact hu 0 (by decide)
                | 1, _ => exact hu 1 (by decide)
                | 2, _ => exact hu 2 (by decide)
                | 3, _ => exact hu 3 (by decide)
                | 4, _ => exact hu 4 (by decide)
                | 5, _ => exact hu 5 (by decide)
                | 6, _ => exact hv6
                | 7, _ => exact hv7
                | 8, _ => exact hu 8 (by decide)
                | 9, _ => exact hu 9 (by decide)
                | 10, _ => rfl
                | j + 11, hj => exact absurd hj (by simp)))
              clear hu hA
              subst hA2
              simp only [putAll, putL, List.mem_cons, List.not_mem_nil, List.idxOf_cons, Nat.reduceEqDiff, Nat.reduceBEq, Nat.reduceAdd, or_false, or_true, reduceIte, cond_true, cond_false, List.getD_cons_zero, List.getD_cons_succ, BEq.rfl]
              clear hg ho7 hG7 hv7 e57 e59 hc hf HK9 HO9
              have c10 : (W.setCell ⟨g, 11, none⟩ (.slice (some ⟨G, 0, none⟩) (D.length + 1) C)).cell? ⟨g, 10, none⟩ = some (.string oD.ahead) := Bk.cell A4.out.ob 10
              have cN : (W.setCell ⟨g, 11, none⟩ (.slice (some ⟨G, 0, none⟩) (D.length + 1) C)).cell? ⟨N, 0, none⟩ = some (.string kk) := A4.out.row
              have f10 : (W.setCell ⟨g, 11, none⟩ (.slice (some ⟨G, 0, none⟩) (D.length + 1) C)).frozen? ⟨g, 10, none⟩ = false := frozen_of_row _ g 10 _ _ A4.out.ob
              generalize W.setCell ⟨g, 11, none⟩ (.slice (some ⟨G, 0, none⟩) (D.length + 1) C) = y1 at A4 c10 cN f10 ⊢
              have A5 : Hid (TRX ys p0 g q a' m cap' w w1 (y1.setCell ⟨g, 10, none⟩ (.string kk)) D ⟨kk, vv, nn⟩ P G C N { oD with ta := some ⟨G, 0, none⟩, tn := D.length + 1, tc := C, ahead := kk }) := A4.out.set 10 _ rfl hgw HRQ.out
              have c9 : (y1.setCell ⟨g, 10, none⟩ (.string kk)).cell? ⟨g, 9, none⟩ = some (.int .i64 (L : Int)) := by have := Bk.cell A5.out.ob 9; rw [← HS.out.2.2.2.2.2]; exact this
              have f9 : (y1.setCell ⟨g, 10, none⟩ (.string kk)).frozen? ⟨g, 9, none⟩ = false := frozen_of_row _ g 9 _ _ A5.out.ob
              have hsub : wrap64 ((L : Int) - 1) = (L : Int) - 1 := IntWalk.wrap64_in _ ⟨by omega, by omega⟩
              have hsub2 : IntKind.i64.wrap ((L : Int) - 1) = (L : Int) - 1 := IntWalk.i64_in _ ⟨by omega, by omega⟩
              go_wp2_with fail
              generalize hy2 : y1.setCell ⟨g, 10, none⟩ (.string kk) = y2 at A5 c9 f9 ⊢
              have A6 : Hid (TRX ys p0 g q a' m cap' w w1 (y2.setCell ⟨g, 9, none⟩ (.int .i64 ((L : Int) - 1))) D ⟨kk, vv, nn⟩ P G C N { oD with ta := some ⟨G, 0, none⟩, tn := D.length + 1, tc := C, ahead := kk, left := (L : Int) - 1 }) := A5.out.set 9 _ rfl hgw HRQ.out
              have A7 : Hid (TR ys p0 g q a' m cap' seq n X o w (y2.setCell ⟨g, 9, none⟩ (.int .i64 ((L : Int) - 1))) (D ++ [⟨kk, vv, nn⟩]) (rr ys p).2.1 (some ⟨G, 0, none⟩) C ∧ w1.heap.size ≤ (y2.setCell ⟨g, 9, none⟩ (.int .i64 ((L : Int) - 1))).heap.size ∧ lAt (y2.setCell ⟨g, 9, none⟩ (.int .i64 ((L : Int) - 1))) g = L - 1) := tr_next A6.out HPRE.out HFX.out HC.out.1 hL0
              clear A3 A4 A5 A6 c9 f9 c10 cN f10 hy2
              go_roundw
              case rel => exact ⟨_, _, _, _, ⟨A7.out.1, A7.out.2.1⟩⟩
              case measure => rw [A7.out.2.2, HPRE.out.2.2.2.2.2.2.2.2.2]; omega
      · have HTH : Hid _ := othere_no g q oD e' _ _ x2 A2.out.2.1 A2.out.1.rdr h00 h30
        go_wp2_with (go_at_call 130; go_must (refine (Calls.mono HTH.out ?_)); rintro r x3 ⟨rfl, h1, h2⟩; have A3 : Hid (OpB x3 g { oD with err := 92, rest := none } ∧ x2.grownBy x3 (some g)) := ⟨h1, h2⟩; clear h1 h2)
        refine ⟨rfl, D, p, ta, tc, HPRE.out.1, HPRE.out.2.1, own_grewI A2.out.2.2.1 A3.out.2 (fun b hb e => by have := (own_lo2 A2.out.2.2.1 b hb).1; have := Option.some.inj e; omega), gb_trans A2.out.2.2.2.1 A3.out.2, .inr (.inr ⟨.inr (.inr (.inr (.inl ⟨rfl, HPRE.out.2.2.1, by rw [← HPRE.out.2.2.2.2.1]; exact h30, .inl (by rw [← HPRE.out.2.2.2.2.1]; exact h00), rfl⟩))), rfl, ?_⟩)⟩
        have z := A3.out.1
        rw [HPRE.out.2.2.2.2.2.2.2.2.1, HPRE.out.2.2.2.2.2.2.2.1] at z
        exact z
    · have hL0 : L = 0 := by omega
      have k9z : wr.cell? ⟨g, 9, none⟩ = some (.int .i64 0) := by rw [k9, hL0]; rfl
      clear k9
      go_wp2_with (go_at_call 98; go_must (refine (Calls.mono (at_c q 0 _ _ _ HT.out.1.rs.rdr) ?_)); rintro r wq ⟨rfl, hq⟩; obtain rfl := hq.symm; clear hq)
      go_ret2
      exact ⟨D, p, ta, tc, HT.out.1.pre, HT.out.1.ge, HT.out.1.own, HT.out.1.gb, .inl ⟨by omega, rfl, by have := HT.out.1.ob; rw [← hL, hL0] at this; exact this⟩⟩
end Go.Proofs.YtcdgfghcmeadgaaDoor
