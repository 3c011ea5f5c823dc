/-
  Proved: for every list of bytes and every list of calls hawserlaw03.PackReads answers true: a Reader answers what the document's does, call by call, though its bytes are written over once it is made. No condition but the form's own reach.
-/
import Derived.Test.YtdedmmodlbnnfaaRows
import Derived.Test.YtdedmmodlbnnfaaPNew
import Derived.Test.YtdedmmodlbnnfaaReadOp
import Derived.Test.YtdedmmodlbnnfaaMem
import Derived.Test.YtdedmmodlbnnfaaOps
import Derived.WalkKit
import Derived.ProofKit
import Derived.OpenShut
import Derived.ShutString
import Derived.ChangeOld
import Derived.Below
import Derived.Lib.SmallJoins
import Derived.JoinedCond
import Derived.SizedLaws
namespace Go.Proofs.Ytdedmmodlbnnfaa.packReads
open Go.ChangeShapes Go.WideShapes Go.ChangeAt Go.RowKit
set_option linter.unusedVariables false

theorem own : ownKnob Try.prog.godebug = none := by kernel_rfl
theorem laidOut : laidOutB Try.prog = true := by kernel_rfl

/-- What the walk is told of a slice of integers that came in. -/
def IsRow (k : IntKind) (R : Nat) (w : World) (a : Option Addr) (len cap : Nat) (zs : List Int) : Prop :=
  (a = none ∧ len = 0 ∧ cap = 0 ∧ zs = []) ∨
  ∃ x, a = some x ∧ len ≤ cap ∧ cap ≤ R ∧ zs.length = cap ∧ (∀ i, i < zs.length → w.cell? (x.add i) = some (.int k (zs.getD i 0))) ∧ ∀ n ∈ zs, (Lit.int k n).wf = true

theorem rd_lit : rd [172, 2] = (300, 2, 0) := by decide +kernel
theorem bytes3 : Bytes [5, 172, 2] := by
  have : ∀ i, i < 3 → 0 ≤ ([5, 172, 2] : List Int)[i]?.getD 0 ∧ ([5, 172, 2] : List Int)[i]?.getD 0 < 256 := by decide
  exact this
theorem bytes2 : Bytes [172, 2] := by
  have : ∀ i, i < 2 → 0 ≤ ([172, 2] : List Int)[i]?.getD 0 ∧ ([172, 2] : List Int)[i]?.getD 0 < 256 := by decide
  exact this
theorem infoOp : (Try.prog.info? 39).map (·.size) = some 41 := by kernel_rfl
theorem cells_one (o : OpD) : o.cells.toArray.all (·.oneCell') = true := all_oneCell_toArray (fun v hv => by
  simp only [OpD.cells, List.mem_append, List.mem_cons, List.mem_map, List.not_mem_nil, or_false] at hv
  rcases hv with (rfl | rfl | rfl | rfl | rfl | rfl) | ⟨z, _, rfl⟩ | rfl | rfl | rfl <;> rfl)
theorem opF (o : OpD) (h : o.Ok) : OpF o.cells.toArray o.call o.n o.most :=
  ⟨by rw [List.size_toArray, OpD.cells_length o h], by simp [OpD.cells], by simp [OpD.cells], by simp [OpD.cells], by have := bounds_i64 h.n; omega, by have := bounds_i64 h.most; omega⟩

/-- Where the readers, their bytes and the list stand. -/
structure Apart (B g1 g2 gx gy gl len : Nat) (a1 a2 a0 : Option Addr) : Prop where
  lo : B ≤ g1 ∧ B ≤ g2 ∧ B ≤ gx ∧ B ≤ gy
  ne : g1 ≠ gx ∧ g2 ≠ gy ∧ g1 ≠ g2 ∧ g1 ≠ gy ∧ gx ≠ g2 ∧ gx ≠ gy
  f1 : Off a1 gx ∧ Off a1 g2 ∧ Off a1 gy
  f2 : Off a2 g1 ∧ Off a2 gx ∧ Off a2 gy
  f0 : len = 0 ∨ (Off a0 g1 ∧ Off a0 g2 ∧ Off a0 gy)
  fl : gl ≠ g1 ∧ gl ≠ g2 ∧ gl ≠ gx
/-- Both pairs stand alike. -/
structure Both (B : Nat) (w wr : World) (g1 g2 gx gy gl len c1 c2 cap : Nat) (a1 a2 a0 : Option Addr) (xs : List Int) : Prop where
  one : ∃ (e : Int) (p : Nat), RS wr g1 a1 len c1 xs e p ∧ XS wr gx a0 len cap xs e p
  two : ∃ (e : Int) (p : Nat), RS wr g2 a2 3 c2 [5, 172, 2] e p ∧ XS wr gy (some ⟨gl, 0, none⟩) 3 3 [5, 172, 2] e p
  bel : Below B w wr
theorem Both.drewN {B w wr g1 g2 gx gy gl len c1 c2 cap a1 a2 a0 xs} (h : Both B w wr g1 g2 gx gy gl len c1 c2 cap a1 a2 a0 xs) (n : Nat) : Both B w (wr.drewN n) g1 g2 gx gy gl len c1 c2 cap a1 a2 a0 xs := by
  obtain ⟨⟨e, p, h1, h2⟩, ⟨e', p', h3, h4⟩, hb⟩ := h
  exact ⟨⟨e, p, h1.drewN n, h2.drewN n⟩, ⟨e', p', h3.drewN n, h4.drewN n⟩, below_drewN hb n⟩
theorem Both.grew {B w wr wr' g1 g2 gx gy gl len c1 c2 cap a1 a2 a0 xs} (h : Both B w wr g1 g2 gx gy gl len c1 c2 cap a1 a2 a0 xs) (hg : wr.grownBy wr' none) (hB : B ≤ wr.heap.size) : Both B w wr' g1 g2 gx gy gl len c1 c2 cap a1 a2 a0 xs := by
  obtain ⟨⟨e, p, h1, h2⟩, ⟨e', p', h3, h4⟩, hb⟩ := h
  exact ⟨⟨e, p, h1.new hg, h2.new hg⟩, ⟨e', p', h3.new hg, h4.new hg⟩, hb.grown hg hB (fun k hk => by cases hk)⟩
theorem read1 {B w wr g1 g2 gx gy gl len c1 c2 cap a1 a2 a0 xs} (h : Both B w wr g1 g2 gx gy gl len c1 c2 cap a1 a2 a0 xs) (ap : Apart B g1 g2 gx gy gl len a1 a2 a0) (hB : B ≤ wr.heap.size) (o : OpD) (ho : o.Ok) :
    Calls Try.prog 11 #[.pointer (some ⟨g1, 0, none⟩), .pointer (some ⟨gx, 0, none⟩), .agg o.cells.toArray] wr fun r w' => r = .returned (.bool true) ∧ Both B w w' g1 g2 gx gy gl len c1 c2 cap a1 a2 a0 xs ∧ Gr (fun k => k = g1 ∨ k = gx) wr w' := by
  obtain ⟨⟨e, p, h1, h2⟩, ⟨e', p', h3, h4⟩, hb⟩ := h
  refine (read_op g1 gx a1 a0 len c1 cap xs e p _ _ _ _ wr h1 h2 ap.ne.1 ap.f1.1 (ap.f0.imp id (·.1)) (opF o ho)).mono ?_
  rintro r w' ⟨hr, e1, p1, h5, h6, hg⟩
  refine ⟨hr, ⟨⟨e1, p1, h5, h6⟩, ⟨e', p', h3.gr hg ?_ ?_, h4.gr hg ?_ (.inr ?_)⟩, hg.below hb ?_ hB⟩, hg⟩
  · rintro (h | h); exact ap.ne.2.2.1 h.symm; exact ap.ne.2.2.2.2.1 h.symm
  · rintro k (rfl | rfl); exact ap.f2.1; exact ap.f2.2.1
  · rintro (h | h); exact ap.ne.2.2.2.1 h.symm; exact ap.ne.2.2.2.2.2 h.symm
  · rintro k (rfl | rfl) b o s hbs
    · cases hbs; exact ap.fl.1
    · cases hbs; exact ap.fl.2.2
  · rintro k (rfl | rfl); exact ap.lo.1; exact ap.lo.2.2.1
theorem read2 {B w wr g1 g2 gx gy gl len c1 c2 cap a1 a2 a0 xs} (h : Both B w wr g1 g2 gx gy gl len c1 c2 cap a1 a2 a0 xs) (ap : Apart B g1 g2 gx gy gl len a1 a2 a0) (hB : B ≤ wr.heap.size) (o : OpD) (ho : o.Ok) :
    Calls Try.prog 11 #[.pointer (some ⟨g2, 0, none⟩), .pointer (some ⟨gy, 0, none⟩), .agg o.cells.toArray] wr fun r w' => r = .returned (.bool true) ∧ Both B w w' g1 g2 gx gy gl len c1 c2 cap a1 a2 a0 xs ∧ Gr (fun k => k = g2 ∨ k = gy) wr w' := by
  obtain ⟨⟨e, p, h1, h2⟩, ⟨e', p', h3, h4⟩, hb⟩ := h
  refine (read_op g2 gy a2 (some ⟨gl, 0, none⟩) 3 c2 3 [5, 172, 2] e' p' _ _ _ _ wr h3 h4 ap.ne.2.1 ap.f2.2.2 (.inr (fun b o s hbs => by cases hbs; exact ap.fl.2.1)) (opF o ho)).mono ?_
  rintro r w' ⟨hr, e1, p1, h5, h6, hg⟩
  refine ⟨hr, ⟨⟨e, p, h1.gr hg ?_ ?_, h2.gr hg ?_ ?_⟩, ⟨e1, p1, h5, h6⟩, hg.below hb ?_ hB⟩, hg⟩
  · rintro (h | h); exact ap.ne.2.2.1 h; exact ap.ne.2.2.2.1 h
  · rintro k (rfl | rfl); exact ap.f1.2.1; exact ap.f1.2.2
  · rintro (h | h); exact ap.ne.2.2.2.2.1 h; exact ap.ne.2.2.2.2.2 h
  · exact ap.f0.imp id (fun f => by rintro k (rfl | rfl); exact f.2.1; exact f.2.2)
  · rintro k (rfl | rfl); exact ap.lo.2.1; exact ap.lo.2.2.2

theorem mkBoth {w wr : World} {g1 g2 len c1 c2 cap : Nat} {a1 a2 a0 : Option Addr} {xs : List Int} (h1 : RS wr g1 a1 len c1 xs 0 0) (h2 : RS wr g2 a2 3 c2 [5, 172, 2] 0 0) (hb : Below w.heap.size w wr) (hs : Seg .u8 w a0 len xs) (hlc : len ≤ cap) (hcm : cap ≤ 9223372036854775807)
    (W : World) (hW : ((wr.alloc (.cells #[.slice a0 len cap, .int .i64 0, .int .i64 0] 51)).alloc (.cells #[.int .u8 5, .int .u8 172, .int .u8 2] 5)).alloc (.cells #[.slice (some ⟨wr.heap.size + 1, 0, none⟩) 3 3, .int .i64 0, .int .i64 0] 51) = W) :
    Both w.heap.size w W g1 g2 wr.heap.size (wr.heap.size + 2) (wr.heap.size + 1) len c1 c2 cap a1 a2 a0 xs := by
  subst hW
  have e1 := World.grownBy_alloc wr (.cells #[.slice a0 len cap, .int .i64 0, .int .i64 0] 51) none
  have e2 := World.grownBy_alloc (wr.alloc (.cells #[.slice a0 len cap, .int .i64 0, .int .i64 0] 51)) (.cells #[.int .u8 5, .int .u8 172, .int .u8 2] 5) none
  have e3 := World.grownBy_alloc ((wr.alloc (.cells #[.slice a0 len cap, .int .i64 0, .int .i64 0] 51)).alloc (.cells #[.int .u8 5, .int .u8 172, .int .u8 2] 5)) (.cells #[.slice (some ⟨wr.heap.size + 1, 0, none⟩) 3 3, .int .i64 0, .int .i64 0] 51) none
  have hg := gb_trans e1 (gb_trans e2 e3)
  have hbW := hb.grown hg hb.size (fun k hk => by cases hk)
  have hsW := hs.below hbW
  have n1 := heap_new wr (.cells #[.slice a0 len cap, .int .i64 0, .int .i64 0] 51)
  have n2 := heap_new (wr.alloc (.cells #[.slice a0 len cap, .int .i64 0, .int .i64 0] 51)) (.cells #[.int .u8 5, .int .u8 172, .int .u8 2] 5)
  have n3 := heap_new ((wr.alloc (.cells #[.slice a0 len cap, .int .i64 0, .int .i64 0] 51)).alloc (.cells #[.int .u8 5, .int .u8 172, .int .u8 2] 5)) (.cells #[.slice (some ⟨wr.heap.size + 1, 0, none⟩) 3 3, .int .i64 0, .int .i64 0] 51)
  simp only [World.size_alloc] at n2 n3
  have m1 := (gb_trans e2 e3).block _ (lt_of_block n1) (by simp)
  have m2 := e3.block _ (lt_of_block n2) (by simp)
  refine ⟨⟨0, 0, h1.new hg, ?_⟩, ⟨0, 0, h2.new hg, ?_⟩, hbW⟩
  · refine ⟨m1.trans n1, hsW, h1.bytes, ?_, Nat.zero_le _, hlc, h1.lm, hcm⟩
    rcases hs.2 with h0 | ⟨b, off, ha, hw, _⟩
    · exact .inl h0
    · right; intro b' o' s' he; rw [ha] at he; cases he
      have := hb.size; omega
  · refine ⟨n3, ?_, bytes3, .inr (fun b o s he => by cases he; omega), Nat.zero_le _, Nat.le_refl _, by omega, by omega⟩
    refine ⟨rfl, .inr ⟨wr.heap.size + 1, 0, rfl, lt_of_block (m2.trans n2), fun i hi => ?_⟩⟩
    rw [Nat.zero_add, cell_of_row _ _ i _ _ _ (m2.trans n2)]
    match i, hi with
    | 0, _ => rfl
    | 1, _ => rfl
    | 2, _ => rfl

theorem loopStart {w wr w6 : World} {N g1 g2 gx gy gl len c1 c2 cap : Nat} {a1 a2 a0 : Option Addr} {xs : List Int} {C O : Array Value} (h : Both w.heap.size w wr g1 g2 gx gy gl len c1 c2 cap a1 a2 a0 xs) (hN : N = wr.heap.size)
    (h1 : Bk 39 w6 N O) (h2 : (wr.alloc (.cells C 39)).grownBy w6 (some N)) : Bk 39 w6 N O ∧ Both w.heap.size w w6 g1 g2 gx gy gl len c1 c2 cap a1 a2 a0 xs ∧ w.heap.size ≤ w6.heap.size := by
  have hg := gb_newer (World.grownBy_alloc wr (.cells C 39) none) h2 (Nat.le_of_eq hN.symm)
  exact ⟨h1, h.grew hg h.bel.size, Nat.le_trans h.bel.size hg.size⟩

set_option maxRecDepth 20000 in
set_option maxHeartbeats 2000000 in
theorem walk (a0 : Option Addr) (len0 cap0 : Nat) (z0 : List Int) (a1 : Option Addr) (n1 cap1 : Nat) (X1 : List OpD) (w : World) (w0 : IsRow .u8 140737488351232 w a0 len0 cap0 z0) (x1 : Ops w a1 n1 X1) (lc1 : n1 ≤ cap1) (cm1 : cap1 ≤ maxLen) (nz1 : a1 = none → cap1 = 0) :
    Calls Try.prog 4 #[.slice a0 len0 cap0, .slice a1 n1 cap1] w fun e w' => e = .returned (.bool true) ∧ Below w.heap.size w w' := by
  obtain ⟨hs, hlc, hR, hwf⟩ := seg_of_row w0
  obtain ⟨xs, hxs⟩ : ∃ xs, xs = z0.take len0 := ⟨_, rfl⟩
  rw [← hxs] at hs hwf
  have hx : Bytes xs := fun i hi => wf_u8 (hwf i hi)
  have HX : Hid (Bytes xs) := hx
  have HS : Hid (Seg .u8 w a0 len0 xs) := hs
  have HO : Hid (Ops w a1 n1 X1) := x1
  have HL : Hid (len0 ≤ 140737488355328 ∧ len0 ≤ cap0 ∧ cap0 ≤ 9223372036854775807) := ⟨by omega, hlc, by omega⟩
  have HN1 : Hid ((n1 : Int) ≤ 9223372036854775807) := by unfold maxLen at cm1; show _ ≤ _; omega
  clear hxs hwf w0 hx hs x1 lc1 cm1 nz1 hlc hR
  go_enter Try.func4, Try.ntmps4
  go_wp2_with fail
  refine (lend_c a0 len0 cap0 xs w HS.out HX.out HL.out.1).mono ?_
  rintro e w1 ⟨g, rfl, hg, hr, hb⟩
  have HR : Hid (Row .u8 5 w1 g (lent xs)) := hr
  have HB : Hid (Below w.heap.size w w1) := hb
  have HG : Hid (w.heap.size ≤ g) := hg
  have HP : Hid (Seg .u8 w1 (some ⟨g, 0, none⟩) len0 xs) := by
    have := hr.seg len0 (by rw [lent_length, HS.out.1]; omega)
    rw [← HS.out.1, lent_take] at this
    rw [← HS.out.1]; exact this
  clear hr hb hg
  go_wp2_with fail
  refine (new_c2 _ len0 (len0 + 9) xs w1 HP.out HX.out HL.out.1 (fun h => by cases h)).mono ?_
  rintro e w2 ⟨g1, b1, c1, rfl, hr1, hg1, hb1, hgr1⟩
  have H2 : Hid (RS w2 g1 b1 len0 c1 xs 0 0 ∧ w1.heap.size ≤ g1 ∧ (∀ b o s, b1 = some ⟨b, o, s⟩ → w1.heap.size ≤ b ∧ b < w2.heap.size) ∧ w1.grownBy w2 none) := ⟨hr1, hg1, hb1, hgr1⟩
  clear hr1 hg1 hb1 hgr1
  go_wp2_with fail
  refine (new_c2 _ 3 3 [5, 172, 2] _ ?_ bytes3 (by omega) (fun h => by cases h)).mono ?_
  · exact seg_new _ _ _ _ _ _ rfl rfl
  · rintro e w3 ⟨g2, b2, c2, rfl, hr2, hg2, hb2, hgr2⟩
    have hgr3 : w2.grownBy w3 none := gb_trans (World.grownBy_alloc _ _ _) hgr2
    have H3 : Hid (RS w3 g2 b2 3 c2 [5, 172, 2] 0 0 ∧ w2.heap.size ≤ g2 ∧ (∀ b o s, b2 = some ⟨b, o, s⟩ → w2.heap.size ≤ b ∧ b < w3.heap.size) ∧ w2.grownBy w3 none) :=
      ⟨hr2, Nat.le_trans (by simp) hg2, fun b o s h => ⟨Nat.le_trans (by simp) (hb2 b o s h).1, (hb2 b o s h).2⟩, hgr3⟩
    have HB3 : Hid (Below w.heap.size w w3) := (HB.out.grown H2.out.2.2.2 HB.out.size (fun k hk => by cases hk)).grown hgr3 (Nat.le_trans HB.out.size H2.out.2.2.2.size) (fun k hk => by cases hk)
    have HRW : Hid (Row .u8 5 w3 g (lent xs)) := by
      have hl := HR.out.lt
      exact (hgr3.block g (Nat.lt_of_lt_of_le hl H2.out.2.2.2.size) (by simp)).trans ((H2.out.2.2.2.block g hl (by simp)).trans HR.out)
    clear hr2 hg2 hb2 hgr2 hgr3
    go_wp2_with fail
    refine (kept_c g _ a0 len0 cap0 xs w3 HRW.out (HS.out.below HB3.out) HX.out HL.out.1).mono ?_
    rintro e w4 ⟨rfl, n, hw4⟩
    have H4 : Hid (RS w4 g1 b1 len0 c1 xs 0 0 ∧ RS w4 g2 b2 3 c2 [5, 172, 2] 0 0 ∧ Below w.heap.size w w4 ∧ Row .u8 5 w4 g (lent xs) ∧ w4.heap.size = w3.heap.size) := by
      rw [hw4]
      exact ⟨(H2.out.1.new H3.out.2.2.2).drewN n, H3.out.1.drewN n, below_drewN HB3.out n, HRW.out.drewN n, by simp⟩
    have HSZ : Hid (w.heap.size ≤ g ∧ g < w1.heap.size ∧ w1.heap.size ≤ g1 ∧ g1 < w2.heap.size ∧ w2.heap.size ≤ g2 ∧ g2 < w3.heap.size) :=
      ⟨HG.out, HR.out.lt, H2.out.2.1, lt_of_block H2.out.1.rdr, H3.out.2.1, lt_of_block H3.out.1.rdr⟩
    clear hw4
    go_wp2
    go_loopw [37] (fun i wr => ∃ k : Nat, k ≤ len0 + 9 ∧ i = .int .i64 k ∧ Hid (RS wr g1 b1 len0 c1 xs 0 0 ∧ RS wr g2 b2 3 c2 [5, 172, 2] 0 0 ∧ Below w.heap.size w wr ∧ (∃ zs, zs.length = len0 + 9 ∧ Row .u8 5 wr g zs) ∧ wr.heap.size = w3.heap.size)) (fun i _ => len0 + 9 - (intOf i).toNat)
    case atStart => exact ⟨0, Nat.zero_le _, rfl, H4.out.1, H4.out.2.1, H4.out.2.2.1, ⟨_, by rw [lent_length, HS.out.1], H4.out.2.2.2.1⟩, H4.out.2.2.2.2⟩
    case round =>
      obtain ⟨k, hk, rfl, HI⟩ := hrel
      obtain ⟨hI1, hI2, hI3, ⟨zs, hzl, hzr⟩, hI5⟩ := HI.out
      by_cases hlt : k < len0 + 9
      · have hcell := hzr.cell k (by omega)
        have hfree := hzr.free k
        have hgk := grownBy_cell wr g k (.int .u8 7)
        have HNX : Hid (RS (wr.setCell ⟨g, k, none⟩ (.int .u8 7)) g1 b1 len0 c1 xs 0 0 ∧ RS (wr.setCell ⟨g, k, none⟩ (.int .u8 7)) g2 b2 3 c2 [5, 172, 2] 0 0 ∧ Below w.heap.size w (wr.setCell ⟨g, k, none⟩ (.int .u8 7)) ∧ (∃ zs, zs.length = len0 + 9 ∧ Row .u8 5 (wr.setCell ⟨g, k, none⟩ (.int .u8 7)) g zs) ∧ (wr.setCell ⟨g, k, none⟩ (.int .u8 7)).heap.size = w3.heap.size) := by
          have hz := HSZ.out
          refine ⟨hI1.other hgk (fun e => by cases e; omega) (fun j hj => by cases hj; intro b o s hb; have := H2.out.2.2.1 b o s hb; omega), hI2.other hgk (fun e => by cases e; omega) (fun j hj => by cases hj; intro b o s hb; have := H3.out.2.2.1 b o s hb; omega), hI3.setCell (by show _ ≤ g; omega) _, ⟨_, by rw [List.length_set]; exact hzl, hzr.set k 7⟩, by rw [← hI5]; simp [World.setCell]⟩
        have hlb := HL.out.1
        clear hI1 hI2 hI3 hzl hzr hI5 hgk HI H4 H2 H3
        go_wp2
        go_roundw
        case rel => exact ⟨k + 1, by omega, by go_num, HNX⟩
        case measure => simp [intOf]; omega
      · obtain rfl : k = len0 + 9 := by omega
        obtain ⟨G, hG⟩ : ∃ G, G = wr.heap.size := ⟨_, rfl⟩
        have HBO : Hid (∀ (W : World) (hW : ((wr.alloc (.cells #[.slice a0 len0 cap0, .int .i64 0, .int .i64 0] 51)).alloc (.cells #[.int .u8 5, .int .u8 172, .int .u8 2] 5)).alloc (.cells #[.slice (some ⟨G + 1, 0, none⟩) 3 3, .int .i64 0, .int .i64 0] 51) = W), Both w.heap.size w W g1 g2 G (G + 2) (G + 1) len0 c1 c2 cap0 b1 b2 a0 xs) := by
          rw [hG]; exact mkBoth hI1 hI2 hI3 HS.out HL.out.2.1 HL.out.2.2
        have HAP : Hid (Apart w.heap.size g1 g2 G (G + 2) (G + 1) len0 b1 b2 a0) := by
          have hz := HSZ.out
          have hx1 := H2.out.2.2.1
          have hx2 := H3.out.2.2.1
          have hs2 := H3.out.2.2.2.size
          have hw := HB.out.size
          refine ⟨⟨by omega, by omega, by omega, by omega⟩, ⟨by omega, by omega, by omega, by omega, by omega, by omega⟩, ⟨?_, ?_, ?_⟩, ⟨?_, ?_, ?_⟩, ?_, ⟨by omega, by omega, by omega⟩⟩
          · intro b o s hb; have := hx1 b o s hb; omega
          · intro b o s hb; have := hx1 b o s hb; omega
          · intro b o s hb; have := hx1 b o s hb; omega
          · intro b o s hb; have := hx2 b o s hb; omega
          · intro b o s hb; have := hx2 b o s hb; omega
          · intro b o s hb; have := hx2 b o s hb; omega
          · rcases HS.out.2 with h0 | ⟨b, off, ha, hw2, _⟩
            · exact .inl h0
            · right
              refine ⟨?_, ?_, ?_⟩ <;> (intro b' o' s' he; rw [ha] at he; cases he; omega)
        clear hI1 hI2 hI3 hzl hzr hI5 HI H4 H2 H3 hk hlt
        go_wp2
        rw [← hG]
        generalize hW5 : World.alloc (World.alloc (World.alloc wr _) _) _ = W5
        have HB5 : Hid (Both w.heap.size w W5 g1 g2 G (G + 2) (G + 1) len0 c1 c2 cap0 b1 b2 a0 xs) := HBO.out W5 hW5
        clear hW5 HBO hG
        go_loopw [52] (fun i wq => ∃ k : Nat, k ≤ n1 ∧ i = .int .i64 k ∧ Hid (Both w.heap.size w wq g1 g2 G (G + 2) (G + 1) len0 c1 c2 cap0 b1 b2 a0 xs)) (fun i _ => n1 - (intOf i).toNat)
        case atStart => exact ⟨0, Nat.zero_le _, rfl, HB5⟩
        case round =>
          obtain ⟨k, hk, rfl, HI⟩ := hrel
          clear HB5
          by_cases hlt : k < n1
          · obtain ⟨b, off, o, rfl, hbw, hxo, hok, hrg⟩ := HO.out.at_ k hlt
            have HOK : Hid (o.Ok) := hok
            have HRG : Hid (wr.rangeAt b (off + k * 41) o.cells) := fun j v hv => (HI.out.bel.cell (p := ⟨b, off + k * 41 + j, none⟩) hbw).trans (hrg j v hv)
            have HOL : Hid (o.cells.length = 41) := OpD.cells_length o hok
            clear hxo hok hrg hbw
            obtain ⟨N, hN⟩ : ∃ N, N = wr.heap.size := ⟨_, rfl⟩
            have HNN : Hid (¬ (N = g1 ∨ N = G) ∧ ¬ (N = g2 ∨ N = G + 2)) := by
              obtain ⟨e, p, h1, h2⟩ := HI.out.one
              obtain ⟨e', p', h3, h4⟩ := HI.out.two
              have q1 := lt_of_block h1.rdr
              have q2 := lt_of_block h2.rdr
              have q3 := lt_of_block h3.rdr
              have q4 := lt_of_block h4.rdr
              exact ⟨by omega, by omega⟩
            have hk1 : (k : Int) < n1 := by omega
            have hn1 := HN1.out
            by_cases hm3 : k % 3 = 0
            · have hq1 : ((k : Int) % 3 == 0) = true := by simp; omega
              clear hm3
              go_wp2_with (first
                | (refine wpList_load_mid rfl 39 (.tmp 55) rfl b (off + k * 41) rfl o.cells _ HRG.out Try.underlying39 rfl (by rw [HOL.out]; exact infoOp) ?_)
                | (refine wpList_store_bk 39 rfl (.tmp 13) (.tmp 56) rfl infoOp wr.heap.size _ o.cells.toArray rfl rfl (heap_new wr _) rfl (by rw [List.size_toArray]; exact HOL.out) (cells_one o) ?_; intro w6 h1 h2; rw [← hN] at h1 h2 ⊢; have H6 : Hid (Bk 39 w6 N o.cells.toArray ∧ Both w.heap.size w w6 g1 g2 G (G + 2) (G + 1) len0 c1 c2 cap0 b1 b2 a0 xs ∧ w.heap.size ≤ w6.heap.size) := loopStart HI.out hN h1 h2; clear h1 h2 hN)
                | (refine wpList_load_bk 39 rfl (.tmp 13) rfl Try.underlying39 rfl infoOp N o.cells.toArray rfl H6.out.1 (by rw [List.size_toArray]; exact HOL.out) ?_))
              refine (read1 H6.out.2.1 HAP.out H6.out.2.2 o HOK.out).mono ?_
              rintro r w7 ⟨rfl, h1, h2⟩
              have H7 : Hid (Bk 39 w7 N o.cells.toArray ∧ Both w.heap.size w w7 g1 g2 G (G + 2) (G + 1) len0 c1 c2 cap0 b1 b2 a0 xs ∧ w.heap.size ≤ w7.heap.size) := ⟨H6.out.1.gr h2 HNN.out.1, h1, Nat.le_trans H6.out.2.2 h2.size⟩
              clear h1 h2
              go_wp2_with (first
                | (refine wpList_load_bkG 39 rfl (.tmp 13) rfl Try.underlying39 rfl infoOp N o.cells.toArray rfl H7.out.1 (by rw [List.size_toArray]; exact HOL.out) ?_))
              refine (read2 H7.out.2.1 HAP.out H7.out.2.2 o HOK.out).mono ?_
              rintro r w8 ⟨rfl, h1, h2⟩
              have HFF : Hid (Hid (Both w.heap.size w w8 g1 g2 G (G + 2) (G + 1) len0 c1 c2 cap0 b1 b2 a0 xs)) := h1
              clear h1 h2
              go_wp2
              go_roundw
              case rel => first | exact ⟨k + 1, by omega, by go_num, HFF.out⟩ | ((repeat apply Exists.intro); exact ⟨⟨k + 1, by omega, by go_num, HFF.out⟩, rfl⟩)
              case measure => simp [intOf]; omega
            · have hq1 : ((k : Int) % 3 == 0) = false := by simp; omega
              clear hm3
              go_wp2_with (first
                | (refine wpList_load_mid rfl 39 (.tmp 55) rfl b (off + k * 41) rfl o.cells _ HRG.out Try.underlying39 rfl (by rw [HOL.out]; exact infoOp) ?_)
                | (refine wpList_store_bk 39 rfl (.tmp 13) (.tmp 56) rfl infoOp wr.heap.size _ o.cells.toArray rfl rfl (heap_new wr _) rfl (by rw [List.size_toArray]; exact HOL.out) (cells_one o) ?_; intro w6 h1 h2; rw [← hN] at h1 h2 ⊢; have H6 : Hid (Bk 39 w6 N o.cells.toArray ∧ Both w.heap.size w w6 g1 g2 G (G + 2) (G + 1) len0 c1 c2 cap0 b1 b2 a0 xs ∧ w.heap.size ≤ w6.heap.size) := loopStart HI.out hN h1 h2; clear h1 h2 hN)
                | (refine wpList_load_bk 39 rfl (.tmp 13) rfl Try.underlying39 rfl infoOp N o.cells.toArray rfl H6.out.1 (by rw [List.size_toArray]; exact HOL.out) ?_))
              refine (read1 H6.out.2.1 HAP.out H6.out.2.2 o HOK.out).mono ?_
              rintro r w7 ⟨rfl, h1, h2⟩
              have H7 : Hid (Bk 39 w7 N o.cells.toArray ∧ Both w.heap.size w w7 g1 g2 G (G + 2) (G + 1) len0 c1 c2 cap0 b1 b2 a0 xs ∧ w.heap.size ≤ w7.heap.size) := ⟨H6.out.1.gr h2 HNN.out.1, h1, Nat.le_trans H6.out.2.2 h2.size⟩
              clear h1 h2
              have HFF : Hid (Hid (Both w.heap.size w w7 g1 g2 G (G + 2) (G + 1) len0 c1 c2 cap0 b1 b2 a0 xs)) := H7.out.2.1
              go_wp2
              go_roundw
              case rel => first | exact ⟨k + 1, by omega, by go_num, HFF.out⟩ | ((repeat apply Exists.intro); exact ⟨⟨k + 1, by omega, by go_num, HFF.out⟩, rfl⟩)
              case measure => simp [intOf]; omega
          · obtain rfl : k = n1 := by omega
            obtain ⟨e1, p1, hA1, hA2⟩ := HI.out.one
            obtain ⟨e2, p2, hA3, hA4⟩ := HI.out.two
            have HA : Hid (RS wr g1 b1 len0 c1 xs e1 p1 ∧ XS wr G a0 len0 cap0 xs e1 p1) := ⟨hA1, hA2⟩
            have HA' : Hid (RS wr g2 b2 3 c2 [5, 172, 2] e2 p2 ∧ XS wr (G + 2) (some ⟨G + 1, 0, none⟩) 3 3 [5, 172, 2] e2 p2) := ⟨hA3, hA4⟩
            clear hA1 hA2 hA3 hA4
            go_wp2_with fail
            refine (looked_c g1 G b1 a0 len0 c1 cap0 xs e1 p1 wr HA.out.1 HA.out.2).mono ?_
            rintro r w6 ⟨rfl, n6, hw6⟩
            have H6 : Hid (RS w6 g2 b2 3 c2 [5, 172, 2] e2 p2 ∧ XS w6 (G + 2) (some ⟨G + 1, 0, none⟩) 3 3 [5, 172, 2] e2 p2 ∧ Below w.heap.size w w6) := by
              rw [hw6]; exact ⟨HA'.out.1.drewN _, HA'.out.2.drewN _, below_drewN HI.out.bel _⟩
            clear hw6
            go_wp2_with fail
            refine (looked_c g2 (G + 2) b2 (some ⟨G + 1, 0, none⟩) 3 c2 3 [5, 172, 2] e2 p2 w6 H6.out.1 H6.out.2.1).mono ?_
            rintro r w7 ⟨rfl, n7, hw7⟩
            have H7 : Hid (Below w.heap.size w w7) := by rw [hw7]; exact below_drewN H6.out.2.2 _
            clear hw7
            go_wp2_with fail
            refine (new_c _ 2 2 [172, 2] _ ?_ bytes2 (by omega) (fun h => by cases h)).mono ?_
            · exact seg_new _ _ _ _ _ _ rfl rfl
            · rintro e w9 ⟨g4, a4, c4, rfl, hr, hg, _, hgr⟩
              have HB9 : Hid (RS w9 g4 a4 2 c4 [172, 2] 0 0 ∧ w.heap.size ≤ g4 ∧ Below w.heap.size w w9) :=
                ⟨hr, Nat.le_trans H7.out.size (Nat.le_trans (by simp) hg), (H7.out.alloc H7.out.size _).grown hgr (Nat.le_trans H7.out.size (by simp)) (fun k hk => by cases hk)⟩
              clear hr hg hgr
              go_wp2_with fail
              refine (uint_ok g4 a4 2 c4 [172, 2] 0 w9 HB9.out.1).mono ?_
              rintro e w10 ⟨rfl, _, hg3⟩
              have HB10 : Hid (Below w.heap.size w w10) := HB9.out.2.2.grown hg3 HB9.out.2.2.size (fun k hk => by cases hk; exact HB9.out.2.1)
              have e1 : (ru [172, 2] 0).1 = 300 := by simp [ru, rd_lit]
              rw [e1]
              clear hg3 e1
              go_wp2
              go_ret
              exact ⟨rfl, HB10.out⟩

set_option maxRecDepth 100000 in
theorem lifted (os : Os) (started : os.Started) (H : Type) (enc : TypeId × Value → H) :
    ReturnsInHanded {} Try.checked os 4 .any (Rows.packReadsSpec.pre6 enc Try.prog Try.f4 Rows.packReadsRow.domain false) (Rows.packReadsSpec.post enc Try.prog Try.f4 false true false false) := by
  refine returnsInHanded_of_change_sized (C := Try.checked) own started (by kernel_rfl) Try.func4
    (ChangeSpec.witness6 (enc := enc) (C := Try.checked) false ⟨#[], #[.slice none 0 0, .slice none 0 0], []⟩ 8 (by kernel_rfl) (by kernel_rfl) (by kernel_rfl) (by kernel_rfl)) ?_
  intro W base args ds gs before hval0 hW hcnd hsz0 _
  have hsz : (DataW.weightsEach Try.prog (Try.f4.params.toList ++ Rows.packReadsSpec.plain.varTypes Try.prog) (ds ++ gs)).all (· ≤ reachBytes) = true := hsz0
  have hval : ∀ (j : Nat) t v, Try.f4.params[j]? = some t → args[j]? = some v → Value.okWide Try.prog W .any base t v := hval0
  have hW' := hW
  obtain ⟨p, q, hA0, hV, rfl, hfz, hnd⟩ := hW
  have hA : DataW.TrodAll enc Try.prog W 0 (fun _ => true) true Try.f4.params.toList args.toList ds p := hA0
  rw [Try.params4] at hA hval hsz
  obtain ⟨v0, vs0, d0, ds0, p0, q0, hargs, rfl, rfl, h0, r0⟩ := trodAll_cons hA
  obtain ⟨v1, vs1, d1, ds1, p1, q1, rfl, rfl, rfl, h1, r1⟩ := trodAll_cons r0
  obtain ⟨rfl, rfl, rfl⟩ := trodAll_nil r1
  obtain rfl : args = #[v0, v1] := by cases args; simp_all
  obtain ⟨rfl, rfl⟩ := trodVars_none hV
  have k0 := h0
  have lt0 : ∀ x ∈ p0, x.block < W.heap.size := by obtain ⟨m, hm⟩ := k0; exact DataW.trod_lt m _ _ _ hm
  obtain ⟨a0, len0, cap0, z0, rfl, x0⟩ : ∃ a len cap zs, v0 = .slice a len cap ∧ IsRow .u8 140737488351232 W a len cap zs := by
    obtain ⟨sa, sl, sc, rfl⟩ := okWide_slice Try.underlying31 (hval 0 31 v0 rfl rfl)
    obtain ⟨fuel, hf⟩ := h0
    rcases open_ints Try.underlying31 Try.underlying5 (by kernel_rfl) hf with ⟨hcs, _⟩ | ⟨x, l, c, zs, hcs, _, hl, hm, hz, hx, hcell, hwz⟩
    · simp [Value.cells] at hcs; obtain ⟨rfl, rfl, rfl⟩ := hcs
      exact ⟨none, 0, 0, [], rfl, .inl ⟨rfl, rfl, rfl, rfl⟩⟩
    · simp [Value.cells] at hcs; obtain ⟨rfl, rfl, rfl⟩ := hcs
      have hz' : zs.length = sc := by simpa using hz
      have hd : d0 = _ := congrArg Prod.fst hx
      have hb := sized_slice hsz (j := 0) (t := 31) (e := 5) rfl (congrArg some hd) Try.underlying31
      rw [show Try.prog.bytesOf 5 = 1 from by kernel_rfl] at hb
      simp only [lits, List.length_map, List.length_take, List.length_drop, reachBytes] at hb
      exact ⟨some x, sl, sc, zs, rfl, .inr ⟨_, rfl, hl, by omega, hz', hcell, hwz⟩⟩
  have k1 := h1
  have lt1 : ∀ x ∈ p1, x.block < W.heap.size := by obtain ⟨m, hm⟩ := k1; exact DataW.trod_lt m _ _ _ hm
  obtain ⟨a1, n1, cap1, X1, rfl, x1, lc1, cm1, nz1⟩ : ∃ a n cap X, v1 = .slice a n cap ∧ Ops W a n X ∧ n ≤ cap ∧ cap ≤ maxLen ∧ (a = none → cap = 0) := by
    obtain ⟨sa, sl, sc, hv⟩ := okWide_slice Try.underlying22 (hval 1 22 v1 rfl rfl)
    obtain ⟨a, n, cap, X, h1, h2, h3, h4, h5, _⟩ := ops_open sa sl sc hv h1
    exact ⟨a, n, cap, X, h1, h2, h3, h4, h5⟩
  clear hA0 hval0
  refine (walk a0 len0 cap0 z0 a1 n1 cap1 X1 W x0 x1 lc1 cm1 nz1).mono fun e W' ⟨he, bel⟩ => ?_
  subst he
  exact ⟨_, rfl, _, _, _, [], _, [], hW', trodAll_mk1 (shut_bool Try.underlying4 _), (trodAll_cons_mk (Below.trod laidOut (by kernel_rfl) (of_decide_eq_true (by kernel_rfl)) k0 bel lt0) (trodAll_cons_mk (Below.trod laidOut (by kernel_rfl) (of_decide_eq_true (by kernel_rfl)) k1 bel lt1) trodAll_mk0)), rfl, bel.frame _, fun h => by cases h⟩

theorem over : Rows.packReadsRow.holds Try.pinned (OpenSpec.ofChange Rows.packReadsSpec) :=
  OpenClaim.holds_of_wide 4 Try.f4 rfl rfl rfl rfl rfl rfl rfl ⟨rfl, rfl, rfl, rfl, rfl⟩ rfl rfl rfl rfl rfl (by kernel_rfl) Try.func4 (by kernel_rfl)
    (of_decide_eq_true (by kernel_rfl)) (by unfold Func.isWrapper; first | (rw [if_pos (by decide +kernel)]; kernel_rfl) | (rw [if_neg (by decide +kernel)]; exact ⟨rfl, rfl⟩))
    (fun os started H enc _ => lifted os started H enc)

end Go.Proofs.Ytdedmmodlbnnfaa.packReads
namespace Go.Proofs.Ytdedmmodlbnnfaa
theorem packReads_holds : Rows.PackReadsSaid := packReads.over
#print axioms packReads_holds
end Go.Proofs.Ytdedmmodlbnnfaa
