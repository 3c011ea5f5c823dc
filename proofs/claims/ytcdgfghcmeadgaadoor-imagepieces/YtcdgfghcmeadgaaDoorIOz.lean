/-
  The Opener between two calls of Write, and what take does with some more bytes. Condition: a list that can be read; at most 2^28 bytes in all; the table of crc lies in memory.
-/
import Derived.Test.YtcdgfghcmeadgaaDoorIOy
namespace Go.Proofs.YtcdgfghcmeadgaaDoor
open Go.RowKit
set_option linter.unusedVariables false

/-- An Opener that has read ys. -/
structure ST (ys : List Int) (O : Nat → Prop) (w : World) (g : Nat) (o : Opn) (part p : Nat) (seq : Int) (n : Nat) (X : List Rwi) (L : List (List Int)) : Prop where
  ob : OpB w g o
  pre : Pre ys part p seq n X
  wt : Waits ys part p n X
  pt : o.part = (part : Int)
  sq : 2 ≤ part → o.seq = seq
  lf : 3 ≤ part → o.left = ((n - X.length : Nat) : Int)
  ah : o.ahead = ahd X X.length
  er : o.err = 0
  ch : Chn O w o.rest L
  cb : chB L = ys.drop p
  ls : part = 3 → ∃ ys0 us, ys = ys0 ++ us ∧ p ≤ ys0.length ∧ (rr ys0 p).2.2 = 30 ∧ o.least = (nd (ys0.drop p) : Int)
  l0 : part ≠ 3 → o.least = 0
  sm : o.sum = Cr.W (Cr.sum (ys.take p))
  sz : o.size = (ys.length : Int)
  by_ : Bytes ys
/-- What take does. -/
def TkA (ys zs : List Int) (O : Nat → Prop) (X : List Rwi) (o : Opn) (g : Nat) (w : World) (r : Ending) (w' : World) : Prop :=
  w.grownBy w' (some g) ∧ ∃ part p seq n D o', OpB w' g o' ∧ Tol w.heap.size w' o' D ∧ o'.ended = o.ended ∧
    ((r = .returned (.tuple #[]) ∧ ∃ L, ST (ys ++ zs) (fun b => O b ∨ w.heap.size ≤ b) w' g o' part p seq n (X ++ D) L) ∨
     (∃ e, r = .panicked (chnE e) ∧ Pre (ys ++ zs) part p seq n (X ++ D) ∧ Wrong (ys ++ zs) part p seq n (X ++ D) e ∧ o'.err = e ∧ o'.rest = none))
theorem cast_add' (a b : Nat) : (a : Int) + (b : Int) = ((a + b : Nat) : Int) := by omega
theorem wrap_ok (x : Int) (h0 : 0 ≤ x) (h1 : x ≤ 1000000000) : wrap64 x = x ∧ IntKind.i64.wrap x = x := ⟨IntWalk.wrap64_in _ ⟨by omega, by omega⟩, IntWalk.i64_in _ ⟨by omega, by omega⟩⟩
def notU8 : Value → Bool
  | .int .u8 _ => false
  | _ => true
theorem seg_ne {w : World} {a : Option Addr} {n g : Nat} {xs : List Int} {o : Opn} (h : Seg .u8 w a n xs) (hn : 0 < n) (ho : OpB w g o) : ∀ b f s, a = some ⟨b, f, s⟩ → b ≠ g := by
  intro b f s ha e
  subst e
  rcases h.2 with h0 | ⟨b', off, ha2, _, hc⟩
  · omega
  · rw [ha] at ha2
    cases ha2
    have h1 := hc 0 hn
    rw [Nat.add_zero, Bk.cell ho f] at h1
    have hall : o.cells.toList.all notU8 = true := rfl
    have hm : Value.int .u8 (xs[0]?.getD 0) ∈ o.cells.toList := by
      have h3 : o.cells.toList[f]? = some (Value.int .u8 (xs[0]?.getD 0)) := by rw [Array.getElem?_toList]; exact h1
      exact List.mem_of_getElem? h3
    have := List.all_eq_true.1 hall _ hm
    cases this
theorem ph_fnB {P : Program} {ops : Array Oper} {o : Oper} {A : Act} {W : World} {K : Act → World → Prop} {Q : Exit → Act → World → Prop} {E : Prop} (g : FuncId) (args : Array Operand) (ty : Array TypeId) (ho : o.op = .call { callee := .value (.func g), args := args, argTypes := ty }) (hwt : Region.wanted o (yielded ops A.tmps) = true) (vs : Array Value) (hv : args.map A.eval = vs) (hc : (callFunc g vs).run P W = .ok (.enter g vs) W)
    (h : Calls P g vs W fun e W' => (∃ v, e = .returned v ∧ K (A.put o.dst v) W') ∨ (∃ c, e = .panicked c ∧ Q (.panic c) A W')) : if Region.wanted o (yielded ops A.tmps) = true then Oper.wp P o A W K Q else E := by
  refine ph_sem rfl hwt (r := .ok (.enter g vs) W) (by
    have e1 : A.eval (.func g) = .func (.func g) #[] #[] := rfl
    simp [execOp, ho, resolve, Deferred.ofValue, invoke, e1, hv, hc]) ?_
  refine Calls.mono h ?_
  rintro e W' (⟨v, rfl, hk⟩ | ⟨c, rfl, hk⟩)
  · exact hk
  · exact hk
theorem chn_pos {O : Nat → Prop} {w : World} {k : Option Addr} {L : List (List Int)} (h : Chn O w k L) (hL : L ≠ []) : 0 < (chB L).length := by
  cases L with
  | nil => exact absurd rfl hL
  | cons xs L =>
    obtain ⟨b, p, a, c, _, _, _, h4, _⟩ := h
    have := List.length_pos_iff.2 h4
    show 0 < (chB L ++ xs).length
    rw [List.length_append]
    omega
/-- While the part is not whole, more bytes that are too few make nothing whole. -/
theorem st_short {ys zs : List Int} {O : Nat → Prop} {w : World} {g : Nat} {o : Opn} {part p : Nat} {seq : Int} {n : Nat} {X : List Rwi} {L : List (List Int)} (h : ST ys O w g o part p seq n X L) (hb : Bytes (ys ++ zs)) (hl : ((chB L).length : Int) + (zs.length : Int) < o.least) :
    part = 3 ∧ Waits (ys ++ zs) part p n X ∧ (∃ ys0 us, ys ++ zs = ys0 ++ us ∧ p ≤ ys0.length ∧ (rr ys0 p).2.2 = 30 ∧ o.least = (nd (ys0.drop p) : Int)) := by
  have h3 : part = 3 := by
    rcases Classical.em (part = 3) with z | z
    · exact z
    · have := h.l0 z; omega
  subst h3
  obtain ⟨ys0, us, e1, e2, e3, e4⟩ := h.ls rfl
  have hcl : (chB L).length = ys.length - p := by rw [h.cb, List.length_drop]
  have hle := h.pre.le
  refine ⟨rfl, .inr (.inr (.inr (.inl ⟨rfl, ?_, ?_⟩))), ys0, us ++ zs, by rw [e1, List.append_assoc], e2, e3, e4⟩
  · rcases h.wt with ⟨z, _⟩ | ⟨z, _⟩ | ⟨z, _⟩ | ⟨_, z, _⟩ | ⟨z, _⟩ | ⟨z, _⟩
    · omega
    · omega
    · omega
    · exact z
    · omega
    · omega
  · rw [e1, List.append_assoc]
    have hy0 : Bytes ys0 := by
      have : ys0 = (ys ++ zs).take ys0.length := by rw [e1, List.append_assoc, List.take_left]
      rw [this]
      exact bytes_takeO hb _
    refine nd_short hy0 (us ++ zs) p e2 e3 ?_
    rw [← List.append_assoc, ← e1, List.length_append]
    rw [e4] at hl
    omega
/-- Walk came to an end, and what it left can be read. -/
structure WOk (ys : List Int) (X : List Rwi) (o : Opn) (g : Nat) (w W : World) (a : Option Addr) (m c part p : Nat) (seq : Int) (n : Nat) (D : List Rwi) (o' : Opn) : Prop where
  gb : w.grownBy W (some g)
  ob : OpB W g o'
  tol : Tol w.heap.size W o' D
  pre : Pre ys part p seq n (X ++ D)
  sz2 : o'.size = (ys.length : Int)
  en : o'.ended = o.ended
  seg : Seg .u8 W a m (ys.drop p)
  nz : a = none → c = 0
  wt : Waits ys part p n (X ++ D)
  pt : o'.part = (part : Int)
  sq : 2 ≤ part → o'.seq = seq
  lf : 3 ≤ part → o'.left = ((n - (X ++ D).length : Nat) : Int)
  ah : o'.ahead = ahd (X ++ D) (X ++ D).length
  er : o'.err = 0
  rs : o'.rest = none
  ls : o'.least = (if part = 3 then (nd (ys.drop p) : Int) else 0)
  sm : o'.sum = Cr.W (Cr.sum (ys.take p))
  ml : m ≤ 70368744177664
  sz : w.heap.size ≤ W.heap.size
  ag : m = 0 ∨ ∀ b o s, a = some ⟨b, o, s⟩ → b ≠ g
theorem WOk.grew {ys : List Int} {X : List Rwi} {o : Opn} {g : Nat} {w W W' : World} {a : Option Addr} {m c part p : Nat} {seq : Int} {n : Nat} {D : List Rwi} {o' : Opn} (h : WOk ys X o g w W a m c part p seq n D o') (hg : W.grownBy W' none) : WOk ys X o g w W' a m c part p seq n D o' :=
  ⟨gb_trans h.gb (gb_wide hg _), opb_gb h.ob hg, ⟨h.tol.1, own_grewI h.tol.2 hg (by simp)⟩, h.pre, h.sz2, h.en, h.seg.grew hg (by simp), h.nz, h.wt, h.pt, h.sq, h.lf, h.ah, h.er, h.rs, h.ls, h.sm, h.ml, Nat.le_trans h.sz hg.size, h.ag⟩
theorem cell_none {a b : World} {g i : Nat} {v : Value} (h : a.grownBy b none) (hc : a.cell? ⟨g, i, none⟩ = some v) : b.cell? ⟨g, i, none⟩ = some v := by
  have hlt : g < a.heap.size := by
    rcases Nat.lt_or_ge g a.heap.size with z | z
    · exact z
    · simp [World.cell?, z] at hc
  have e := h.block g hlt (by simp)
  simp only [World.cell?, e] at hc ⊢
  exact hc
theorem walk_split {ys zs : List Int} {O : Nat → Prop} {X : List Rwi} {o o1 : Opn} {g : Nat} {w w2 W W' : World} {a : Option Addr} {m c N C : Nat} {L : List (List Int)} {a' : Option Addr} {n' p : Nat} {r : Ending} (hlen : ys.length + m ≤ 268435456)
    (HP : ¬ O g ∧ Bytes (ys ++ zs) ∧ (a = none → c = 0) ∧ (∀ b o s, a = some ⟨b, o, s⟩ → b ≠ g) ∧ Bytes zs ∧ o.ta = none ∧ o.tn = 0 ∧ o.tc = 0 ∧ g < w.heap.size ∧ zs.length = m ∧ N = ys.length ∧ o1 = { o with size := (N : Int) + (m : Int) } ∧ C = (chB L).length)
    (A2 : OpB w2 g { o1 with rest := none, least := 0 } ∧ w.grownBy w2 (some g) ∧ Cr.Tab w2 ∧ Seg .u8 w2 a' n' ((ys ++ zs).drop p)) (hg : w2.grownBy W none) (h : WalkA (ys ++ zs) X { o1 with rest := none, least := 0 } g W r W') :
    (∃ va vm vc part1 p1 seq1 n1 D o2, r = .returned (.slice va vm vc) ∧ WOk (ys ++ zs) X o g w W' va vm vc part1 p1 seq1 n1 D o2 ∧ W.grownBy W' (some g) ∧ (W.cell? ⟨g, 5, none⟩ = some (.pointer none) → W'.cell? ⟨g, 5, none⟩ = some (.pointer none))) ∨ (∃ e, r = .panicked (chnE e) ∧ TkA ys zs O X o g w (.panicked (chnE e)) W') := by
  obtain ⟨p1, p2, p3, p4, p5, p6, p7, p8, p9, p10, p11, p12, p13⟩ := HP
  obtain ⟨h0, part1, q, seq1, n1, D, o2, h1, h2, h3, h4, h5, h6⟩ := h
  have hgw : w.grownBy W' (some g) := gb_trans A2.2.1 (gb_trans (gb_wide hg _) h0)
  have hT : Tol w.heap.size W' o2 D := ⟨h2.1, own_weak h2.2 (Nat.le_trans A2.2.1.size hg.size)⟩
  have hen : o2.ended = o.ended := by rw [h5, p12]
  rcases h6 with ⟨va, vm, vc, rfl, k1, k2, k3, k4, k5, k6, k7, k8, k9, k10, k11, k12, k13⟩ | ⟨e, rfl, k1, k2, k3⟩
  · left
    refine ⟨va, vm, vc, part1, q, seq1, n1, D, o2, rfl, ⟨hgw, h1, hT, h3, ?_, hen, k1, k2, k5, k6, k7, k8, k9, k10, k11, k12, k13, ?_, hgw.size, .inr k4⟩, h0, fun _ => ?_⟩
    · rw [h4, p12, List.length_append, p10, p11]
      show (ys.length : Int) + (m : Int) = _
      omega
    · have := k1.1
      rw [List.length_drop, List.length_append] at this
      omega
    · have := Bk.cell h1 5
      rw [this]
      show some (Value.pointer o2.rest) = _
      rw [k11]
  · exact .inr ⟨e, rfl, hgw, part1, q, seq1, n1, D, o2, h1, hT, hen, .inr ⟨e, rfl, h3, k1, k2, k3⟩⟩
theorem tk_end {ys zs : List Int} {O : Nat → Prop} {X : List Rwi} {o o1 : Opn} {g : Nat} {w W : World} {a : Option Addr} {m c N C : Nat} {L : List (List Int)} {part p : Nat} {seq : Int} {n : Nat} {va : Option Addr} {vm vc part1 p1 : Nat} {seq1 : Int} {n1 : Nat} {D : List Rwi} {o2 : Opn} {k' : Option Addr} {L' : List (List Int)}
    (HP : ¬ O g ∧ Bytes (ys ++ zs) ∧ (a = none → c = 0) ∧ (∀ b o s, a = some ⟨b, o, s⟩ → b ≠ g) ∧ Bytes zs ∧ o.ta = none ∧ o.tn = 0 ∧ o.tc = 0 ∧ g < w.heap.size ∧ zs.length = m ∧ N = ys.length ∧ o1 = { o with size := (N : Int) + (m : Int) } ∧ C = (chB L).length)
    (hs : ST ys O w g o part p seq n X L) (h : WOk (ys ++ zs) X o g w W va vm vc part1 p1 seq1 n1 D o2) (hch : Chn (fun b => O b ∨ w.heap.size ≤ b) W k' L') (hcb : chB L' = (ys ++ zs).drop p1) : TkA ys zs O X o g w (.returned (.tuple #[])) (W.setCell ⟨g, 5, none⟩ (.pointer k')) := by
  have hc := grownBy_cell W g 5 (.pointer k')
  have hob : OpB (W.setCell ⟨g, 5, none⟩ (.pointer k')) g { o2 with rest := k' } := Bk.setO h.ob 5 _
  refine ⟨gb_trans h.gb hc, part1, p1, seq1, n1, D, { o2 with rest := k' }, hob, h.tol.grew hc HP.2.2.2.2.2.2.2.2.1 rfl rfl rfl, h.en, .inl ⟨rfl, L', ?_⟩⟩
  refine ⟨hob, h.pre, h.wt, h.pt, h.sq, h.lf, h.ah, h.er, hch.keep hc (fun z e hz => ?_) L', hcb, fun e3 => ?_, fun e3 => ?_, h.sm, h.sz2, HP.2.1⟩
  · cases e
    rcases hz with z | z
    · exact HP.1 z
    · have := HP.2.2.2.2.2.2.2.2.1; omega
  · subst e3
    have hw := h.wt
    refine ⟨ys ++ zs, [], (List.append_nil _).symm, h.pre.le, ?_, ?_⟩
    · rcases hw with ⟨z, _⟩ | ⟨z, _⟩ | ⟨z, _⟩ | ⟨_, _, z⟩ | ⟨z, _⟩ | ⟨z, _⟩
      · omega
      · omega
      · omega
      · exact z
      · omega
      · omega
    · have := h.ls
      rw [if_pos rfl] at this
      exact this
  · have := h.ls
    rw [if_neg e3] at this
    exact this
theorem ojoin_nil (a : Option Addr) (n c : Nat) (w : World) : Calls Tryd.prog 93 #[.pointer none, .slice a n c] w fun r w' => r = .returned (.slice a n c) ∧ w' = w := by
  go_enter Tryd.func93, Tryd.ntmps93
  go_wp2
  go_ret
  exact ⟨rfl, rfl⟩
set_option maxRecDepth 20000 in
set_option maxHeartbeats 4000000 in
theorem otake_c (g : Nat) (o : Opn) (a : Option Addr) (m c : Nat) (ys zs : List Int) (O : Nat → Prop) (part p : Nat) (seq : Int) (n : Nat) (X : List Rwi) (L : List (List Int)) (w : World) (h : ST ys O w g o part p seq n X L) (ht1 : o.ta = none) (ht2 : o.tn = 0) (ht3 : o.tc = 0) (hO : ¬ O g) (hx : Seg .u8 w a m zs) (hb : Bytes (ys ++ zs)) (hnz : a = none → c = 0) (hmc : m ≤ c) (hm : ys.length + m ≤ 268435456) (hag : ∀ b o s, a = some ⟨b, o, s⟩ → b ≠ g) (ht : Cr.Tab w) :
    Calls Tryd.prog 57 #[.pointer (some ⟨g, 0, none⟩), .slice a m c] w fun r w' => TkA ys zs O X o g w r w' := by
  obtain ⟨C, hC⟩ : ∃ C, C = (chB L).length := ⟨_, rfl⟩
  have hCN : C ≤ ys.length := by rw [hC, h.cb, List.length_drop]; exact Nat.sub_le _ _
  have hbnd : Hid ((chB L).length + m ≤ 70368744177664) := by show _ ≤ _; rw [← hC]; omega
  obtain ⟨hsz1, hsz2⟩ := wrap_ok ((C : Int) + (m : Int)) (by omega) (by omega)
  obtain ⟨hadd, hadd2⟩ := wrap_ok ((ys.length : Int) + (m : Int)) (by omega) (by omega)
  have hgw : g < w.heap.size := lt_of_block h.ob
  have hzl : zs.length = m := hx.1
  have k3 : w.cell? ⟨g, 3, none⟩ = some (.int .i64 (ys.length : Int)) := by rw [← h.sz]; exact Bk.cell h.ob 3
  have f3 : w.frozen? ⟨g, 3, none⟩ = false := frozen_of_row w g 3 _ _ h.ob
  obtain ⟨N, hN⟩ : ∃ N, N = ys.length := ⟨_, rfl⟩
  rw [← hN] at k3
  rw [← hN] at hadd hadd2 hCN
  obtain ⟨o1, ho1⟩ : ∃ o1, o1 = { o with size := (N : Int) + (m : Int) } := ⟨_, rfl⟩
  have hc3 := grownBy_cell w g 3 (.int .i64 ((N : Int) + (m : Int)))
  obtain ⟨w1, hw1⟩ : ∃ w1, w1 = w.setCell ⟨g, 3, none⟩ (.int .i64 ((N : Int) + (m : Int))) := ⟨_, rfl⟩
  rw [← hw1] at hc3
  have hob1 : OpB w1 g o1 := by rw [hw1, ho1]; exact Bk.setO h.ob 3 _
  have HC1 : Hid (Chn O w1 o.rest L) := h.ch.keep hc3 (fun z e => by cases e; exact hO) L
  have H1 : Hid (w.grownBy w1 (some g) ∧ OpB w1 g o1 ∧ Seg .u8 w1 a m zs ∧ Cr.Tab w1) := ⟨hc3, hob1, seg_gG hx hc3 hag, tab_g ht h.ob hc3⟩
  have k5 : w1.cell? ⟨g, 5, none⟩ = some (.pointer o.rest) := by have z := Bk.cell hob1 5; rw [ho1] at z; exact z
  have k6 : w1.cell? ⟨g, 6, none⟩ = some (.int .i64 o.least) := by have z := Bk.cell hob1 6; rw [ho1] at z; exact z
  have f5 : w1.frozen? ⟨g, 5, none⟩ = false := frozen_of_row w1 g 5 _ _ hob1
  have f6 : w1.frozen? ⟨g, 6, none⟩ = false := frozen_of_row w1 g 6 _ _ hob1
  have HCL : Hid (∀ W, w1.grownBy W none → W.cell? ⟨g, 5, none⟩ = some (.pointer o.rest) ∧ W.cell? ⟨g, 6, none⟩ = some (.int .i64 o.least)) := fun W hg => ⟨cell_none hg k5, cell_none hg k6⟩
  have HS : Hid (ST ys O w g o part p seq n X L) := h
  have hbz : Bytes zs := by
    have e : zs = (ys ++ zs).drop ys.length := by rw [List.drop_left]
    rw [e]; exact bytes_drop hb _
  have HP : Hid (¬ O g ∧ Bytes (ys ++ zs) ∧ (a = none → c = 0) ∧ (∀ b o s, a = some ⟨b, o, s⟩ → b ≠ g) ∧ Bytes zs ∧ o.ta = none ∧ o.tn = 0 ∧ o.tc = 0 ∧ g < w.heap.size ∧ zs.length = m ∧ N = ys.length ∧ o1 = { o with size := (N : Int) + (m : Int) } ∧ C = (chB L).length) := ⟨hO, hb, hnz, hag, hbz, ht1, ht2, ht3, hgw, hzl, hN, ho1, hC⟩
  have HSZ : Hid (∀ nq, Calls Tryd.prog 91 #[.pointer o.rest] (w1.drewN nq) fun r w' => r = .returned (.int .i64 (C : Int)) ∧ w' = w1.drewN nq) := fun nq => by rw [hC]; exact isize_b O _ L _ (HC1.out.keep (gb_drewN (World.grownBy.refl _ none) nq) (by simp) L)
  clear hbz
  clear hx hb hnz hag ht hO h ht1 ht2 ht3 hob1 hc3 hzl hC ho1 hN
  by_cases hsh : (C : Int) + (m : Int) < o.least
  · have HWI : Hid (∀ nq, Calls Tryd.prog 92 #[.pointer o.rest, .slice a m c] (w1.drewN nq) fun r w' => ∃ k' L', r = .returned (.pointer k') ∧ Chn (fun b => O b ∨ w.heap.size ≤ b) w' k' L' ∧ chB L' = chB L ++ zs ∧ w1.grownBy w' none) := fun nq => by
      have hd := gb_drewN (World.grownBy.refl w1 none) nq
      refine (iwith_c O _ L a m c zs _ (HC1.out.keep hd (by simp) L) (H1.out.2.2.1.grew hd (by simp)) HP.out.2.2.1 hbnd.out).mono ?_
      rintro r w' ⟨k', L', q1, q2, q3, q4⟩
      refine ⟨k', L', q1, q2.weak (fun b hb => hb.imp id (fun z => ?_)) L', q3, gb_trans hd q4⟩
      have := H1.out.1.size
      exact Nat.le_trans this z
    have HE : Hid _ := st_short HS.out HP.out.2.1 (by rw [← HP.out.2.2.2.2.2.2.2.2.2.2.2.2, HP.out.2.2.2.2.2.2.2.2.2.1]; exact hsh)
    go_enter Tryd.func57, Tryd.ntmps57
    go_wp2_with fail
    rw [← hw1]
    clear hw1 k3 f3
    go_quiet (first | (go_at_call 91; refine Calls.quiet_of_same (HSZ.out _)))
    go_wp2_with (go_at_call 92; go_must (refine (Calls.mono (HWI.out _) ?_)); rintro r x1 ⟨k', L', rfl, h1, h2, h3⟩; have A1 : Hid (Chn (fun b => O b ∨ w.heap.size ≤ b) x1 k' L' ∧ chB L' = chB L ++ zs ∧ w1.grownBy x1 none) := ⟨h1, h2, h3⟩; have c5 : x1.cell? ⟨g, 5, none⟩ = some (.pointer o.rest) := (HCL.out x1 h3).1; have d5 : x1.frozen? ⟨g, 5, none⟩ = false := frozen_of_row x1 g 5 _ _ (opb_gb H1.out.2.1 h3); clear h1 h2 h3)
    refine bodyPost_ret (v := .tuple #[]) (by simp [results, Tryd.results57]) rfl ?_
    obtain ⟨p1, p2, p3, p4, p5, p6, p7, p8, p9, p10, p11, p12, p13⟩ := HP.out
    obtain ⟨rfl, s2, s3⟩ := HE.out
    have hc := grownBy_cell x1 g 5 (.pointer k')
    have hob : OpB (x1.setCell ⟨g, 5, none⟩ (.pointer k')) g { o1 with rest := k' } := Bk.setO (opb_gb H1.out.2.1 A1.out.2.2) 5 _
    have hs := HS.out
    have hle := hs.pre.le
    have hgb : w.grownBy (x1.setCell ⟨g, 5, none⟩ (.pointer k')) (some g) := gb_trans H1.out.1 (gb_trans (gb_wide A1.out.2.2 _) hc)
    refine ⟨hgb, 3, p, seq, n, [], { o1 with rest := k' }, hob, Tol.nil (by rw [p12]; exact p6) (by rw [p12]; exact p7) (by rw [p12]; exact p8), by rw [p12], .inl ⟨rfl, L', ?_⟩⟩
    rw [List.append_nil]
    refine ⟨hob, hs.pre.more zs, s2, by rw [p12]; exact hs.pt, fun z => by rw [p12]; exact hs.sq z, fun z => by rw [p12]; exact hs.lf z, by rw [p12]; exact hs.ah, by rw [p12]; exact hs.er, A1.out.1.keep hc (fun z e hz => ?_) L', ?_, fun _ => by rw [p12]; exact s3, fun z => absurd rfl z, by rw [p12, take_app' hle]; exact hs.sm, by rw [p12, List.length_append, p10, p11]; exact cast_add' _ _, p2⟩
    · cases e
      rcases hz with z | z
      · exact p1 z
      · exact absurd p9 (Nat.not_lt.2 z)
    · rw [A1.out.2.1, hs.cb, List.drop_append_of_le_length hle]
  · have HJO : Hid (∀ nq, Calls Tryd.prog 93 #[.pointer o.rest, .slice a m c] (w1.drewN nq) fun r w' => ∃ a' n' c', r = .returned (.slice a' n' c') ∧ Seg .u8 w' a' n' ((ys ++ zs).drop p) ∧ (a' = none → c' = 0) ∧ n' ≤ c' ∧ w1.grownBy w' none ∧ (∀ b o s, a' = some ⟨b, o, s⟩ → b ≠ g)) := fun nq => by
      have hd := gb_drewN (World.grownBy.refl w1 none) nq
      have hcat : chB L ++ zs = (ys ++ zs).drop p := by rw [HS.out.cb, List.drop_append_of_le_length HS.out.pre.le]
      cases hL : L with
      | nil =>
        have hk : o.rest = none := by have := HC1.out; rw [hL] at this; exact this
        rw [hk]
        have hcat2 : zs = (ys ++ zs).drop p := by rw [← hcat, hL]; rfl
        refine (ojoin_nil a m c (w1.drewN nq)).mono ?_
        rintro r w' ⟨q1, q2⟩
        subst q2
        exact ⟨a, m, c, q1, by rw [← hcat2]; exact H1.out.2.2.1.grew hd (by simp), HP.out.2.2.1, hmc, hd, HP.out.2.2.2.1⟩
      | cons xs L' =>
        have hch := HC1.out.keep hd (by simp) L
        refine (ijoined_c O _ L a m c zs _ hch (H1.out.2.2.1.grew hd (by simp)) HP.out.2.2.1 hmc hbnd.out).mono ?_
        rintro r w' ⟨a', n', c', q1, q2, q3, q4, q5⟩
        rw [hcat] at q2
        refine ⟨a', n', c', q1, q2, q3, q4, gb_trans hd q5, seg_ne q2 ?_ (opb_gb H1.out.2.1 (gb_trans hd q5))⟩
        rw [← q2.1, ← hcat, List.length_append]
        exact Nat.lt_of_lt_of_le (chn_pos hch (by rw [hL]; simp)) (Nat.le_add_right _ _)
    have H2 : Hid (∀ W, w1.grownBy W none → ∀ V, V = (W.setCell ⟨g, 5, none⟩ (.pointer none)).setCell ⟨g, 6, none⟩ (.int .i64 0) → OpB V g { o1 with rest := none, least := 0 } ∧ w.grownBy V (some g) ∧ W.grownBy V (some g) ∧ Cr.Tab V) := fun W hg V e => by
      subst e
      have z := gb_trans (grownBy_cell W g 5 (.pointer none)) (grownBy_cell _ g 6 (.int .i64 0))
      exact ⟨Bk.setO (Bk.setO (opb_gb H1.out.2.1 hg) 5 _) 6 _, gb_trans H1.out.1 (gb_trans (gb_wide hg _) z), z, tab_g (tab_n H1.out.2.2.2 hg) (opb_gb H1.out.2.1 hg) z⟩
    go_enter Tryd.func57, Tryd.ntmps57
    go_wp2_with fail
    rw [← hw1]
    clear hw1 k3 f3
    go_quiet (first | (go_at_call 91; refine Calls.quiet_of_same (HSZ.out _)))
    go_wp2_with (go_at_call 93; go_must (refine (Calls.mono (HJO.out _) ?_)); rintro r x1 ⟨a', n', c', rfl, h1, h2, h3, h4, h5⟩; have A1 : Hid (Seg .u8 x1 a' n' ((ys ++ zs).drop p) ∧ (a' = none → c' = 0) ∧ n' ≤ c' ∧ w1.grownBy x1 none ∧ (∀ b o s, a' = some ⟨b, o, s⟩ → b ≠ g)) := ⟨h1, h2, h3, h4, h5⟩; have c5 : x1.cell? ⟨g, 5, none⟩ = some (.pointer o.rest) := (HCL.out x1 h4).1; have d5 : x1.frozen? ⟨g, 5, none⟩ = false := frozen_of_row x1 g 5 _ _ (opb_gb H1.out.2.1 h4); have c6 : x1.cell? ⟨g, 6, none⟩ = some (.int .i64 o.least) := (HCL.out x1 h4).2; have d6 : x1.frozen? ⟨g, 6, none⟩ = false := frozen_of_row x1 g 6 _ _ (opb_gb H1.out.2.1 h4); clear h1 h2 h3 h4 h5)
    generalize hW2 : (x1.setCell ⟨g, 5, none⟩ (.pointer none)).setCell ⟨g, 6, none⟩ (.int .i64 0) = w2
    have A2 : Hid (OpB w2 g { o1 with rest := none, least := 0 } ∧ w.grownBy w2 (some g) ∧ Cr.Tab w2 ∧ Seg .u8 w2 a' n' ((ys ++ zs).drop p)) := by
      have z := H2.out x1 A1.out.2.2.2.1 w2 hW2.symm
      exact ⟨z.1, z.2.1, z.2.2.2, seg_gG A1.out.1 z.2.2.1 A1.out.2.2.2.2⟩
    clear hW2
    have HWK : Hid (∀ W, w2.grownBy W none → Calls Tryd.prog 94 #[.pointer (some ⟨g, 0, none⟩), .slice a' n' c'] W fun r w' => WalkA (ys ++ zs) X { o1 with rest := none, least := 0 } g W r w') := fun W hg => by
      obtain ⟨p1, p2, p3, p4, p5, p6, p7, p8, p9, p10, p11, p12, p13⟩ := HP.out
      have hs := HS.out
      have hle := hs.pre.le
      refine owalk_c g _ a' n' c' (ys ++ zs) part p seq n X W (opb_gb A2.out.1 hg) (by rw [p12]; exact p6) (by rw [p12]; exact p7) (by rw [p12]; exact p8) (hs.pre.more zs) ⟨by rw [p12]; exact hs.pt, fun z => by rw [p12]; exact hs.sq z, fun z => by rw [p12]; exact hs.lf z, by rw [p12]; exact hs.ah, by rw [p12]; exact hs.er, rfl, rfl⟩ (by rw [p12, take_app' hle]; exact hs.sm) (A2.out.2.2.2.grew hg (by simp)) p2 A1.out.2.1 A1.out.2.2.1 ?_ A1.out.2.2.2.2 (tab_n A2.out.2.2.1 hg)
      have z := A1.out.1.1
      rw [List.length_drop, List.length_append] at z
      exact Nat.le_trans (by rw [← z]; exact Nat.sub_le _ _) (by rw [p10]; exact Nat.le_trans hm (by decide))
    have H50 : Hid (w2.cell? ⟨g, 5, none⟩ = some (.pointer none)) := Bk.cell A2.out.1 5
    refine wp_region_lastA (fun a b => World.grownBy a b (some g) ∧ (a.cell? ⟨g, 5, none⟩ = some (.pointer none) → b.cell? ⟨g, 5, none⟩ = some (.pointer none))) (fun a b => World.grownBy a b none) (fun a b => World.grownBy a b (some g) ∧ (a.cell? ⟨g, 5, none⟩ = some (.pointer none) → b.cell? ⟨g, 5, none⟩ = some (.pointer none))) (fun _ _ _ h k => ⟨gb_trans h.1 k.1, fun z => k.2 (h.2 z)⟩) (fun a b h => ⟨gb_wide h _, fun z => (cell_none h z)⟩) (fun _ _ h => h) ⟨⟨rfl, rfl, rfl, Nat.le_refl _, fun _ _ _ => rfl⟩, fun z => z⟩ (fun _ _ _ h k => gb_trans h k) ⟨rfl, rfl, rfl, Nat.le_refl _, fun _ _ _ => rfl⟩ 11 7 rfl (by kernel_rfl) [48, 49, 50, 51, 52, 53, 54, 55, 56, 57, 58, 100011] [[], [], [1], [2], [3], [], [], [5, 6], [4, 7], [0], [9], [10, 8]] (by kernel_rfl) (by kernel_rfl) [fun u W => u = .pointer (some ⟨g, 0, none⟩), fun u W => u = .pointer (some ⟨g, 0, none⟩), fun u W => u = .pointer (some ⟨g, 0, none⟩), fun u W => u = .pointer (some ⟨g, 5, none⟩), fun u W => u = .pointer none, fun u W => u = .pointer (some ⟨g, 0, none⟩), fun u W => u = .slice a' n' c', fun u W => ∃ va vm vc part1 p1 seq1 n1 D o2, u = .slice va vm vc ∧ WOk (ys ++ zs) X o g w W va vm vc part1 p1 seq1 n1 D o2, fun u W => ∃ va vm vc part1 p1 seq1 n1 D o2 k' L', u = .pointer k' ∧ WOk (ys ++ zs) X o g w W va vm vc part1 p1 seq1 n1 D o2 ∧ Chn (fun b => O b ∨ w.heap.size ≤ b) W k' L' ∧ chB L' = (ys ++ zs).drop p1, fun u W => u = .pointer (some ⟨g, 0, none⟩), fun u W => u = .pointer (some ⟨g, 5, none⟩)] ?stable ?stableA ?step ?last
    case stable =>
      intro i v W W' h hg
      match i, h with
      | 0, h => exact h
      | 1, h => exact h
      | 2, h => exact h
      | 3, h => exact h
      | 4, h => exact h
      | 5, h => exact h
      | 6, h => exact h
      | 7, h => obtain ⟨va, vm, vc, part1, p1, seq1, n1, D, o2, h1, h2⟩ := h; exact ⟨va, vm, vc, part1, p1, seq1, n1, D, o2, h1, h2.grew hg⟩
      | 8, h => obtain ⟨va, vm, vc, part1, p1, seq1, n1, D, o2, k', L', h1, h2, h3, h4⟩ := h; exact ⟨va, vm, vc, part1, p1, seq1, n1, D, o2, k', L', h1, h2.grew hg, h3.keep hg (by simp) L', h4⟩
      | 9, h => exact h
      | 10, h => exact h
      | i + 11, h => exact trivial
    case stableA =>
      intro i v W W' hne hnu h hg
      match i, hne, hnu, h with
      | 0, _, _, h => exact h
      | 1, _, _, h => exact h
      | 2, _, _, h => exact h
      | 3, _, _, h => exact h
      | 4, _, _, h => exact h
      | 5, _, _, h => exact h
      | 6, _, _, h => exact h
      | 7, hne, _, _ => exact absurd rfl hne
      | 8, _, hnu, _ => exact absurd (by decide) hnu
      | 9, _, _, h => exact h
      | 10, _, _, h => exact h
      | i + 11, _, _, h => exact trivial
    case step =>
      intro f W A hA hg i o hin ho hu K hK
      match i, hin, ho, hu, hK with
      | 0, hin, ho, hu, hK =>
        cases ho
        have e0 : A.eval (.tmp 0) = .pointer (some ⟨g, 0, none⟩) := ev_out hA 0 rfl
        exact ph_move _ rfl rfl (.pointer (some ⟨g, 0, none⟩)) e0 (hK _ _ (gb_rr W _) rfl)
      | 1, hin, ho, hu, hK =>
        cases ho
        have e0 : A.eval (.tmp 0) = .pointer (some ⟨g, 0, none⟩) := ev_out hA 0 rfl
        exact ph_move _ rfl rfl (.pointer (some ⟨g, 0, none⟩)) e0 (hK _ _ (gb_rr W _) rfl)
      | 2, hin, ho, hu, hK =>
        cases ho
        have e49 : A.eval (.tmp 49) = .pointer (some ⟨g, 0, none⟩) := (ev_in hA 49 1 rfl rfl rfl).trans (show f 1 = .pointer (some ⟨g, 0, none⟩) from hu 1 (by decide))
        exact ph_nil _ rfl rfl _ e49 (hK _ _ (gb_rr W _) rfl)
      | 3, hin, ho, hu, hK =>
        cases ho
        have e50 : A.eval (.tmp 50) = .pointer (some ⟨g, 0, none⟩) := (ev_in hA 50 2 rfl rfl rfl).trans (show f 2 = .pointer (some ⟨g, 0, none⟩) from hu 2 (by decide))
        exact ph_field _ _ _ rfl rfl _ (.pointer (some ⟨g, 5, none⟩)) e50 (by kernel_rfl) (hK _ _ (gb_rr W _) rfl)
      | 4, hin, ho, hu, hK =>
        cases ho
        have e51 : A.eval (.tmp 51) = .pointer (some ⟨g, 5, none⟩) := (ev_in hA 51 3 rfl rfl rfl).trans (show f 3 = .pointer (some ⟨g, 5, none⟩) from hu 3 (by decide))
        have hc : W.cell? ⟨g, 5, none⟩ = some (.pointer none) := hg.2 H50.out
        refine ph_sem rfl rfl (r := .ok (.value (.pointer none)) W) ?_ (hK _ _ (gb_rr W _) rfl)
        have eC : ∀ c, A.eval (.const c) = c := fun _ => rfl; have eF : ∀ g, A.eval (.func g) = .func (.func g) #[] #[] := fun _ => rfl; generalize A.eval = ρ at *
        clear hA hu hg hK
        go_simp
      | 5, hin, ho, hu, hK =>
        cases ho
        have e0 : A.eval (.tmp 0) = .pointer (some ⟨g, 0, none⟩) := ev_out hA 0 rfl
        exact ph_move _ rfl rfl (.pointer (some ⟨g, 0, none⟩)) e0 (hK _ _ (gb_rr W _) rfl)
      | 6, hin, ho, hu, hK =>
        cases ho
        have e4 : A.eval (.tmp 4) = .slice a' n' c' := ev_out hA 4 rfl
        exact ph_move _ rfl rfl (.slice a' n' c') e4 (hK _ _ (gb_rr W _) rfl)
      | 7, hin, ho, hu, hK =>
        cases ho
        have e53 : A.eval (.tmp 53) = .pointer (some ⟨g, 0, none⟩) := (ev_in hA 53 5 rfl rfl rfl).trans (show f 5 = .pointer (some ⟨g, 0, none⟩) from hu 5 (by decide))
        have e54 : A.eval (.tmp 54) = .slice a' n' c' := (ev_in hA 54 6 rfl rfl rfl).trans (show f 6 = .slice a' n' c' from hu 6 (by decide))
        refine ph_fnB 94 _ _ rfl rfl #[.pointer (some ⟨g, 0, none⟩), .slice a' n' c'] (by simp [e53, e54]) (by kernel_rfl) ?_
        refine (Calls.mono (HWK.out W (hin.2 rfl)) ?_)
        rintro r x2 hwa
        rcases walk_split hm HP.out A2.out (hin.2 rfl) hwa with ⟨va, vm, vc, part1, p1, seq1, n1, D, o2, rfl, q1, q2, q3⟩ | ⟨e, rfl, q1⟩
        · exact .inl ⟨_, rfl, hK _ _ ⟨q2, q3⟩ ⟨va, vm, vc, part1, p1, seq1, n1, D, o2, rfl, q1⟩⟩
        · exact .inr ⟨_, rfl, by subst hA; exact ⟨rfl, q1⟩⟩
      | 8, hin, ho, hu, hK =>
        cases ho
        have e52 : A.eval (.tmp 52) = .pointer none := (ev_in hA 52 4 rfl rfl rfl).trans (show f 4 = .pointer none from hu 4 (by decide))
        obtain ⟨va, vm, vc, part1, p1, seq1, n1, D, o2, hv7, hw7⟩ := hu 7 (by decide)
        have e55 : A.eval (.tmp 55) = .slice va vm vc := (ev_in hA 55 7 rfl rfl rfl).trans hv7
        refine ph_fn 92 _ _ rfl rfl #[.pointer none, .slice va vm vc] (by simp [e52, e55]) (by kernel_rfl) ?_
        refine (Calls.mono (iwith_c (fun b => O b ∨ w.heap.size ≤ b) none [] va vm vc _ W rfl hw7.seg hw7.nz (by have z := hw7.ml; show 0 + vm ≤ _; omega)) ?_)
        rintro r x2 ⟨k', L', rfl, q1, q2, q3⟩
        exact ⟨_, rfl, hK _ _ q3 ⟨va, vm, vc, part1, p1, seq1, n1, D, o2, k', L', rfl, hw7.grew q3, q1.weak (fun b hb => by rcases hb with z | z; exact z; exact .inr (Nat.le_trans hw7.sz z)) L', q2⟩⟩
      | 9, hin, ho, hu, hK =>
        cases ho
        have e48 : A.eval (.tmp 48) = .pointer (some ⟨g, 0, none⟩) := (ev_in hA 48 0 rfl rfl rfl).trans (show f 0 = .pointer (some ⟨g, 0, none⟩) from hu 0 (by decide))
        exact ph_nil _ rfl rfl _ e48 (hK _ _ (gb_rr W _) rfl)
      | 10, hin, ho, hu, hK =>
        cases ho
        have e57 : A.eval (.tmp 57) = .pointer (some ⟨g, 0, none⟩) := (ev_in hA 57 9 rfl rfl rfl).trans (show f 9 = .pointer (some ⟨g, 0, none⟩) from hu 9 (by decide))
        exact ph_field _ _ _ rfl rfl _ (.pointer (some ⟨g, 5, none⟩)) e57 (by kernel_rfl) (hK _ _ (gb_rr W _) rfl)
      | i + 11, hin, ho, hu, hK => omega
    case last =>
      intro f W A hA hg hu o ho K hK
      cases ho
      obtain ⟨va, vm, vc, part1, p1, seq1, n1, D, o2, k', L', hv8, hw8, hch8, hcb8⟩ := hu 8 (by decide)
      have e56 : A.eval (.tmp 56) = .pointer k' := (ev_in hA 56 8 rfl rfl rfl).trans hv8
      have e58 : A.eval (.tmp 58) = .pointer (some ⟨g, 5, none⟩) := (ev_in hA 58 10 rfl rfl rfl).trans (show f 10 = .pointer (some ⟨g, 5, none⟩) from hu 10 (by decide))
      have hc : W.cell? ⟨g, 5, none⟩ = some (.pointer none) := hg.2 H50.out
      have hf : W.frozen? ⟨g, 5, none⟩ = false := frozen_of_row W g 5 _ _ hw8.ob
      refine ph_sem rfl rfl (r := .ok .skip (W.setCell ⟨g, 5, none⟩ (.pointer k'))) ?_ (hK _ _ ?_)
      · have eC : ∀ c, A.eval (.const c) = c := fun _ => rfl
        generalize A.eval = ρ at *
        clear hA hu hg hK
        go_simp
      have A4 : Hid (TkA ys zs O X o g w (.returned (.tuple #[])) (W.setCell ⟨g, 5, none⟩ (.pointer k'))) := tk_end HP.out HS.out hw8 hch8 hcb8
      clear hg e56 e58 hc hf
      obtain ⟨va', vm', vc', _, _, _, _, _, _, hv7, _⟩ := hu 7 (by decide)
      have hA2 := hA.trans (putAll_lit [(.pointer (some ⟨g, 0, none⟩)), (.pointer (some ⟨g, 0, none⟩)), (.pointer (some ⟨g, 0, none⟩)), (.pointer (some ⟨g, 5, none⟩)), (.pointer none), (.pointer (some ⟨g, 0, none⟩)), (.slice a' n' c'), (.slice va' vm' vc'), (.pointer k'), (.pointer (some ⟨g, 0, none⟩)), (.pointer (some ⟨g, 5, none⟩)), (f 11)] (by
        intro j hj
        match j, hj with
        | 0, _ => exact hu 0 (by decide)
        | 1, _ => exact hu 1 (by decide)
        | 2, _ => exact hu 2 (by decide)
        | 3, _ => exact hu 3 (by decide)
        | 4, _ => exact hu 4 (by decide)
        | 5, _ => exact hu 5 (by decide)
        | 6, _ => exact hu 6 (by decide)
        | 7, _ => exact hv7
        | 8, _ => exact hv8
        | 9, _ => exact hu 9 (by decide)
        | 10, _ => exact hu 10 (by decide)
        | 11, _ => rfl
        | j + 12, hj => exact absurd hj (by simp)))
      clear hu hA
      subst hA2
      simp only [putAll, putL, List.mem_cons, List.not_mem_nil, List.idxOf_cons, Nat.reduceEqDiff, Nat.reduceBEq, Nat.reduceAdd, or_false, or_true, reduceIte, cond_true, cond_false, List.getD_cons_zero, List.getD_cons_succ, BEq.rfl]
      go_wp2_with fail
      go_end0
      exact A4.out
end Go.Proofs.YtcdgfghcmeadgaaDoor
