/-
  Proved, in its second form: for calls and bytes that hold together at most 2^20 values, hawserlaw03.PackBack answers true: what a writer lays down without an error a reader takes up by the same calls, and nothing is left. Condition: the second form's own.
-/
import Derived.Test.YtplelldomephaaaRows
import Derived.Test.YtplelldomephaaaWr2
import Derived.Test.YtplelldomephaaaPTk
import Derived.Test.YtplelldomephaaaPNew
import Derived.Test.YtplelldomephaaaCopyC
import Derived.Test.YtplelldomephaaaPInt
import Derived.WalkKit
import Derived.ProofKit
import Derived.OpenShut
import Derived.ShutString
import Derived.ChangeOld
import Derived.Below
import Derived.Lib.SmallJoins
import Derived.JoinedCond
namespace Go.Proofs.Ytplelldomephaaa.packBack
open Go.ChangeShapes Go.WideShapes Go.ChangeAt Go.RowKit
set_option linter.unusedVariables false

theorem own : ownKnob Try.prog.godebug = none := by kernel_rfl
theorem laidOut : laidOutB Try.prog = true := by kernel_rfl

/-- What the walk is told of a slice of integers that came in. -/
def IsRow (k : IntKind) (R : Nat) (w : World) (a : Option Addr) (len cap : Nat) (zs : List Int) : Prop :=
  (a = none ∧ len = 0 ∧ cap = 0 ∧ zs = []) ∨
  ∃ x, a = some x ∧ len ≤ cap ∧ cap ≤ R ∧ zs.length = cap ∧ (∀ i, i < zs.length → w.cell? (x.add i) = some (.int k (zs.getD i 0))) ∧ ∀ n ∈ zs, (Lit.int k n).wf = true

theorem weight_take (X : List OpD) (k : Nat) (o : OpD) (h : X[k]? = some o) : opsWeight (X.take (k + 1)) = opsWeight (X.take k) + o.weight := by
  have hk := (List.getElem?_eq_some_iff.1 h).1
  rw [List.take_succ_eq_append_getElem hk]
  have he : X[k] = o := by rw [List.getElem?_eq_getElem hk] at h; exact Option.some.inj h
  simp [opsWeight, he]
theorem weight_take_le (X : List OpD) (k : Nat) : opsWeight (X.take k) ≤ opsWeight X := by
  have : opsWeight X = opsWeight (X.take k) + opsWeight (X.drop k) := by
    unfold opsWeight
    rw [← List.sum_append, ← List.map_append, List.take_append_drop]
  omega
theorem take_next (X : List OpD) (k : Nat) (o : OpD) (h : X[k]? = some o) : X.take (k + 1) = X.take k ++ [o] := by
  have hk := (List.getElem?_eq_some_iff.1 h).1
  rw [List.take_succ_eq_append_getElem hk]
  rw [List.getElem?_eq_getElem hk] at h
  rw [Option.some.inj h]
theorem lays_at (X : List OpD) (k : Nat) (o : OpD) (h : X[k]? = some o) : lays X = lays (X.take k) ++ (lay o ++ lays (X.drop (k + 1))) := by
  have e : X = X.take k ++ ([o] ++ X.drop (k + 1)) := by
    rw [← List.append_assoc, ← take_next X k o h, List.take_append_drop]
  rw [show lays X = lays (X.take k ++ ([o] ++ X.drop (k + 1))) from congrArg lays e, lays_app, lays_app]
  simp [lays]
theorem two_shrink {B w gw g ys e zs d S} (h : Two B w gw g ys e zs d S) : Two B w gw g ys e zs d (fun k => S k ∧ k < w.heap.size) := by
  obtain ⟨fs, v, F, h1, h2, h3, h4, h5, h6, h7⟩ := h
  refine ⟨fs, v, F, h1, h2, h3, h4, h5, h6, fun k hk => ⟨h7 k hk, ?_⟩⟩
  rcases hk with rfl | rfl | hk | hk
  · exact h1.lt
  · exact lt_of_block h2.blk
  · exact (h2.own.lo k (by rw [h2.fb]; exact hk)).2
  · obtain ⟨d0, ps, u, cs, _, hch, _⟩ := h1
    exact hch.lt k hk
/-- How both writers stand behind some calls. -/
def Pb (B : Nat) (w wr : World) (X : List OpD) (N : Nat) : Prop :=
  ∃ ys zs S, Two B wr B (B + 1) ys (oerrs X 0) zs (oerrs X 0) S ∧ (oerrs X 0 = 0 → ys = enc 9 ++ lays X) ∧ ys.length ≤ 10 + 10 * opsWeight X ∧ zs.length ≤ 10 * opsWeight X ∧ (∀ k, S k → B ≤ k ∧ k < wr.heap.size ∧ k ≠ N) ∧ Below B w wr ∧ B ≤ wr.heap.size
theorem pb_at {B w wr X N} (h : Pb B w wr X N) : Pb B w wr X wr.heap.size := by
  obtain ⟨ys, zs, S, h1, h2, h3, h4, h5, h6⟩ := h
  exact ⟨ys, zs, S, h1, h2, h3, h4, fun k hk => ⟨(h5 k hk).1, (h5 k hk).2.1, by have := (h5 k hk).2.1; omega⟩, h6⟩
theorem pb_new {B w wr w' X N} (h : Pb B w wr X N) (hg : wr.grownBy w' none) : Pb B w w' X N := by
  obtain ⟨ys, zs, S, h1, h2, h3, h4, h5, h6, h7⟩ := h
  exact ⟨ys, zs, S, h1.new hg, h2, h3, h4, fun k hk => ⟨(h5 k hk).1, Nat.lt_of_lt_of_le (h5 k hk).2.1 hg.size, (h5 k hk).2.2⟩, h6.grown hg h7 (fun k hk => by cases hk), Nat.le_trans h7 hg.size⟩
theorem weight_app (X : List OpD) (o : OpD) : opsWeight (X ++ [o]) = opsWeight X + o.weight := by simp [opsWeight]
theorem pb_idle {B w wr X N} (h : Pb B w wr X N) (o : OpD) (hi : idle o = true) : Pb B w wr (X ++ [o]) N := by
  obtain ⟨ys, zs, S, h1, h2, h3, h4, h5⟩ := h
  have hc : o.call = 6 ∨ o.call = 7 ∨ o.call = 8 := by unfold idle at hi; simpa using hi
  have he : oerr o = 0 := by unfold oerr; rw [if_neg (by omega), if_neg (by omega), if_neg (by omega)]
  have hl : lay o = [] := by unfold lay; rw [if_neg (by omega), if_neg (by omega), if_neg (by omega), if_neg (by omega), if_neg (by omega), if_neg (by omega)]
  have e1 : oerrs (X ++ [o]) 0 = oerrs X 0 := by
    rw [oerrs_app]
    show ferr _ (oerr o) = _
    rw [he]; unfold ferr; split <;> simp_all
  have e2 : lays (X ++ [o]) = lays X := by rw [lays_app]; simp [lays, hl]
  refine ⟨ys, zs, S, by rw [e1]; exact h1, by rw [e1, e2]; exact h2, ?_, ?_, h5⟩
  · rw [weight_app]; omega
  · rw [weight_app]; omega
theorem pb_write {B w wr X N} {C : Array Value} (h : Pb B w wr X N) (o : OpD) (ho : o.Ok) (hw : o.weight ≤ 1048576) (hX : opsWeight X ≤ 1048576) (hi : idle o = false) (hb : Bk 49 wr N C) :
    Calls Try.prog 16 #[.pointer (some ⟨B, 0, none⟩), .pointer (some ⟨B + 1, 0, none⟩), .agg o.cells.toArray] wr fun r w' => r = .returned (.tuple #[]) ∧ Pb B w w' (X ++ [o]) N := by
  obtain ⟨ys, zs, S, h1, h2, h3, h4, h5, h6, h7⟩ := h
  have hNl := lt_of_block hb
  refine (write_both B B (B + 1) ys _ zs _ S o _ wr h1 rfl ho hw (by omega) (by omega)).mono ?_
  rintro r w' ⟨hr, S2, k1, k2, k3⟩
  have l1 := wst_len o ho hw ys (oerrs X 0)
  have l2 := wst_len o ho hw zs (oerrs X 0)
  have wq : ∀ us : List Int, wst o us (oerrs X 0) = (wadd (ferr (oerrs X 0) (oerr o)) us (lay o), ferr (oerrs X 0) (oerr o)) := fun us => by
    have := wbk_eq o us (oerrs X 0)
    unfold wbk at this
    rw [hi] at this
    simpa using this
  have e1 : oerrs (X ++ [o]) 0 = ferr (oerrs X 0) (oerr o) := by rw [oerrs_app]; rfl
  rw [wq ys] at k1 l1
  rw [wq zs] at k1 l2
  refine ⟨hr, _, _, _, by rw [e1]; exact two_shrink k1, fun h0 => ?_, ?_, ?_, ?_, k2.below h6 (fun k hk => (h5 k hk).1) h7, Nat.le_trans h7 k2.size⟩
  · rw [e1] at h0
    have hz : oerrs X 0 = 0 := by
      by_cases hq : oerrs X 0 = 0
      · exact hq
      · rw [ferr_ne hq] at h0; exact h0
    unfold wadd
    rw [if_pos h0, h2 hz, lays_app]
    simp [lays]
  · rw [weight_app]; simp only at l1 ⊢; omega
  · rw [weight_app]; simp only at l2 ⊢; omega
  · rintro k ⟨hk, hk2⟩
    rcases k3 k hk with q | q
    · exact ⟨(h5 k q).1, hk2, (h5 k q).2.2⟩
    · exact ⟨Nat.le_trans h7 q, hk2, by omega⟩
theorem zeroW : Try.zeroCells40 = (wcells 0 (.pointer none) (List.replicate 256 0) 0 0).toArray := by kernel_rfl
theorem ws_zero {w : World} {g : Nat} (h : w.heap[g]? = some (.cells Try.zeroCells40 40 (0, 0))) : WS w g [] 0 [] := by
  rw [zeroW] at h
  exact ⟨none, List.replicate 256 0, 0, [], ⟨h, List.length_replicate⟩, chain_nil _, by omega, rfl, by simp, fun i hi => by simp at hi⟩
theorem begin_ws (w : World) (B : Nat) (hB : B = w.heap.size) : WS ((w.alloc (.cells Try.zeroCells40 40)).alloc (.cells #[.slice none 0 0, .int .i64 0] 43)) B [] 0 [] ∧ XW B ((w.alloc (.cells Try.zeroCells40 40)).alloc (.cells #[.slice none 0 0, .int .i64 0] 43)) (B + 1) (.slice none 0 0) [] 0 none ∧ Below B w ((w.alloc (.cells Try.zeroCells40 40)).alloc (.cells #[.slice none 0 0, .int .i64 0] 43)) ∧ B + 1 < ((w.alloc (.cells Try.zeroCells40 40)).alloc (.cells #[.slice none 0 0, .int .i64 0] 43)).heap.size := by
  subst hB
  have n1 := heap_new w (.cells Try.zeroCells40 40)
  have n2 := heap_new (w.alloc (.cells Try.zeroCells40 40)) (.cells #[.slice none 0 0, .int .i64 0] 43)
  rw [World.size_alloc] at n2
  have g2 := World.grownBy_alloc (w.alloc (.cells Try.zeroCells40 40)) (.cells #[.slice none 0 0, .int .i64 0] 43) none
  exact ⟨(ws_zero n1).new g2, ⟨n2, own_nil _ _, rfl, by simp, fun i hi => by simp at hi, by simp; omega⟩, ((Below.refl _ _).alloc (Nat.le_refl _) _).alloc (by simp) _, by simp⟩
theorem begin_pb {B : Nat} {w W1 w2 : World} (hs : WS W1 B [] 0 []) (hx : XW B W1 (B + 1) (.slice none 0 0) [] 0 none) (hb : Below B w W1) (hB : B + 1 < W1.heap.size) (h : WGoes W1 B [] w2 (wadd 0 [] (enc (9 : Int).toNat)) 0) : Pb B w w2 [] w2.heap.size := by
  obtain ⟨fs', k1, k2, k3, k4, k5, k6⟩ := two_half (S := fun k => k = B ∨ k = B + 1) (by rintro k (q | q | q | q); exact .inl q; exact .inr q; cases q; cases q) hx (by omega) (by simp) (by simp) (by simp) h
  have hsz := k5.size
  have hT : Two B w2 B (B + 1) (wadd 0 [] (enc (9 : Int).toNat)) 0 [] 0 (fun k => k = B ∨ k = B + 1 ∨ k ∈ fs') := ⟨fs', _, none, k1, k2, by omega, by simp, k3, by simp, by rintro k (q | q | q | q); exact .inl q; exact .inr (.inl q); cases q; exact .inr (.inr q)⟩
  have he9 : wadd 0 [] (enc (9 : Int).toNat) = enc 9 := by unfold wadd; simp
  refine ⟨_, _, _, two_shrink hT, fun _ => ?_, ?_, by simp, ?_, k5.below hb (by rintro k (q | q) <;> omega) (by omega), by omega⟩
  · rw [he9]; simp [lays]
  · rw [he9, enc_small (by omega)]; simp; omega
  · rintro k ⟨q, hk⟩
    refine ⟨?_, hk, by omega⟩
    rcases q with q | q | q
    · omega
    · omega
    · rcases k6 k q with r | r
      · rcases r with r | r <;> omega
      · omega
/-- Where a reader stands behind some calls. -/
def pl (X : List OpD) : Nat := (enc 9).length + (lays X).length
theorem pl_next (X : List OpD) (k : Nat) (o : OpD) (h : X[k]? = some o) : pl (X.take (k + 1)) = pl (X.take k) + (lay o).length := by
  rw [take_next X k o h]; unfold pl; rw [lays_app]; simp [lays]; omega
theorem pl_drop (X : List OpD) (bs : List Int) (k : Nat) (o : OpD) (h : X[k]? = some o) : ((enc 9 ++ lays X) ++ bs).drop (pl (X.take k)) = lay o ++ (lays (X.drop (k + 1)) ++ bs) := by
  rw [lays_at X k o h]
  unfold pl
  rw [show (enc 9 ++ (lays (X.take k) ++ (lay o ++ lays (X.drop (k + 1))))) ++ bs = (enc 9 ++ lays (X.take k)) ++ (lay o ++ (lays (X.drop (k + 1)) ++ bs)) from by simp, ← List.length_append, List.drop_left]
theorem pl_drop0 (X : List OpD) (k : Nat) (o : OpD) (h : X[k]? = some o) : (enc 9 ++ lays X).drop (pl (X.take k)) = lay o ++ (lays (X.drop (k + 1)) ++ []) := by
  have := pl_drop X [] k o h
  rw [List.append_nil] at this
  exact this
theorem rs_two {w w' : World} {g1 g2 : Nat} {a2 : Option Addr} {L2 c2 : Nat} {ys : List Int} {q : Nat} (h : RS w g2 a2 L2 c2 ys 0 q) (hne : g1 ≠ g2) (ho : Off a2 g1) (hg : w.grownBy w' (some g1)) : RS w' g2 a2 L2 c2 ys 0 q :=
  h.other hg (fun e => hne (Option.some.inj e)) (fun k hk => by cases hk; exact ho)
theorem keep_c {B : Nat} {w wl w3 w4 w5 w6 w7 : World} {fs : List Nat} {ys : List Int} {g1 g2 L c1 : Nat} {A1 A2 : Option Addr} (hB : Below B w wl ∧ B ≤ wl.heap.size ∧ B < wl.heap.size ∧ ∀ k ∈ fs, k < wl.heap.size) (hws : WS wl B ys 0 fs) (h3 : Below wl.heap.size wl w3)
    (h4 : RS w4 g1 A1 L c1 ys 0 0 ∧ w3.heap.size ≤ g1 ∧ (∀ b o s, A1 = some ⟨b, o, s⟩ → w3.heap.size ≤ b ∧ b < w4.heap.size) ∧ w3.grownBy w4 none) (h5 : Below w4.heap.size w4 w5) (h6 : Below w4.heap.size w5 w6)
    (h7 : w6.heap.size ≤ g2 ∧ (∀ b o s, A2 = some ⟨b, o, s⟩ → w6.heap.size ≤ b ∧ b < w7.heap.size) ∧ w6.grownBy w7 none) :
    RS w7 g1 A1 L c1 ys 0 0 ∧ g1 ≠ g2 ∧ Off A1 g2 ∧ Off A2 g1 ∧ B ≤ g1 ∧ B ≤ g2 ∧ (∀ k, (k = B ∨ k ∈ fs) → k ≠ g1 ∧ k ≠ g2) ∧ Below B w w7 ∧ B ≤ w7.heap.size ∧ WS w7 B ys 0 fs := by
  have z3 := h3.size
  have z4 := h4.2.2.2.size
  have z5 := h5.size
  have z6 : w5.heap.size ≤ w6.heap.size := h6.size
  have z7 := h7.2.2.size
  have hg1 := lt_of_block h4.1.rdr
  have b46 : Below w4.heap.size w4 w6 := h5.trans h6
  have g47 : w4.grownBy w7 none := gb_trans (grownBy_below b46 none) h7.2.2
  have g37 : w3.grownBy w7 none := gb_trans h4.2.2.2 g47
  have gl7 : wl.grownBy w7 none := gb_trans (grownBy_below h3 none) g37
  refine ⟨h4.1.new g47, by omega, fun b o s e => ?_, fun b o s e => ?_, by omega, by omega, ?_, ?_, by omega, hws.new gl7⟩
  · have := (h4.2.2.1 b o s e).2; omega
  · have := (h7.2.1 b o s e).1; omega
  · rintro k (q | q)
    · omega
    · have := hB.2.2.2 k q; omega
  · exact hB.1.grown gl7 hB.2.1 (fun k hk => by cases hk)
theorem uint9 {W : World} {g L c : Nat} {a : Option Addr} {ys : List Int} {X : List OpD} (h : RS W g a L c ys 0 0) (hy : ys = enc 9 ++ lays X) : Calls Try.prog 20 #[.pointer (some ⟨g, 0, none⟩)] W fun r w' => r = .returned (.int .u64 9) ∧ RS w' g a L c ys 0 (pl (X.take 0)) ∧ W.grownBy w' (some g) := by
  have := uint_ok g a L c ys 0 W h
  rw [ru_lay ys 0 9 (by omega) (lays X) (by rw [hy]; rfl), Nat.zero_add] at this
  exact this
theorem uint9' {W : World} {g L c : Nat} {a : Option Addr} {ys bs : List Int} {X : List OpD} (h : RS W g a L c (ys ++ bs) 0 0) (hy : ys = enc 9 ++ lays X) : Calls Try.prog 20 #[.pointer (some ⟨g, 0, none⟩)] W fun r w' => r = .returned (.int .u64 9) ∧ RS w' g a L c (ys ++ bs) 0 (pl (X.take 0)) ∧ W.grownBy w' (some g) := by
  have := uint_ok g a L c (ys ++ bs) 0 W h
  rw [ru_lay (ys ++ bs) 0 9 (by omega) (lays X ++ bs) (by rw [hy]; simp), Nat.zero_add] at this
  exact this
theorem st_drew {w7 w w' : World} {g1 g2 : Nat} {A1 A2 : Option Addr} {L1 L2 c1 c2 : Nat} {xs ys : List Int} {p q : Nat} {G : Nat → Prop} (h : RS w g1 A1 L1 c1 xs 0 p ∧ RS w g2 A2 L2 c2 ys 0 q ∧ Gr G w7 w) (hw : ∃ n, w' = w.drewN n) : RS w' g1 A1 L1 c1 xs 0 p ∧ RS w' g2 A2 L2 c2 ys 0 q ∧ Gr G w7 w' := by
  obtain ⟨n, rfl⟩ := hw
  exact ⟨h.1.drewN n, h.2.1.drewN n, h.2.2.drewN n⟩
theorem seg5 {B : Nat} {w wl w3 w4 w5 : World} {a : Option Addr} {len : Nat} {xs : List Int} (hW : B = w.heap.size) (hs : Seg .u8 w a len xs) (hB : Below B w wl) (hB2 : B ≤ wl.heap.size) (h3 : Below wl.heap.size wl w3) (h4 : w3.grownBy w4 none) (h5 : Below w4.heap.size w4 w5) : Seg .u8 w5 a len xs := by
  have g : wl.grownBy w5 none := gb_trans (gb_trans (grownBy_below h3 none) h4) (grownBy_below h5 none)
  refine hs.below ?_
  rw [← hW]
  exact hB.grown g hB2 (fun k hk => by cases hk)
theorem off_of {a : Option Addr} {N : Nat} (h : ∀ b o s, a = some ⟨b, o, s⟩ → b < N) {g : Nat} (hg : N ≤ g) : Off a g := fun b o s e => by have := h b o s e; omega
set_option maxRecDepth 20000 in
set_option maxHeartbeats 8000000 in
theorem walk (a0 : Option Addr) (n0 cap0 : Nat) (X0 : List OpD) (a1 : Option Addr) (len1 cap1 : Nat) (z1 : List Int) (w : World) (x0 : Ops w a0 n0 X0) (lc0 : n0 ≤ cap0) (cm0 : cap0 ≤ maxLen) (nz0 : a0 = none → cap0 = 0) (y0 : opsWeight X0 ≤ 1048576) (x1 : IsRow .u8 1048576 w a1 len1 cap1 z1) :
    Calls Try.prog 4 #[.slice a0 n0 cap0, .slice a1 len1 cap1] w fun e w' => e = .returned (.bool true) ∧ Below w.heap.size w w' := by
  obtain ⟨sg1, hlc1, hcr1, hwf1⟩ := seg_of_row x1
  have HSG : Hid (Seg .u8 w a1 len1 (z1.take len1) ∧ Bytes (z1.take len1) ∧ (a1 = none → cap1 = 0)) := ⟨sg1, fun i hi => wf_u8 (hwf1 i hi), fun e => by rcases x1 with ⟨_, _, h, _⟩ | ⟨x, h, _⟩; exact h; rw [e] at h; cases h⟩
  obtain ⟨bs, hbs⟩ : ∃ bs, bs = z1.take len1 := ⟨_, rfl⟩
  rw [← hbs] at HSG
  have HO : Hid (Ops w a0 n0 X0) := x0
  have HWT : Hid (opsWeight X0 ≤ 1048576) := y0
  have HN1 : Hid ((n0 : Int) ≤ 9223372036854775807) := by unfold maxLen at cm0; show _ ≤ _; omega
  have HL1 : Hid (len1 ≤ 1048576) := by show _ ≤ _; omega
  obtain ⟨B, hB⟩ : ∃ B, B = w.heap.size := ⟨_, rfl⟩
  have HBW : Hid (B = w.heap.size) := hB
  clear x0 y0 lc0 cm0 nz0 x1 sg1 hlc1 hcr1 hwf1 hbs
  go_enter Try.func4, Try.ntmps4
  go_wp2_with fail
  rw [← hB]
  generalize hW1 : World.alloc (World.alloc w _) _ = W1
  have H1 : Hid (WS W1 B [] 0 [] ∧ XW B W1 (B + 1) (.slice none 0 0) [] 0 none ∧ Below B w W1 ∧ B + 1 < W1.heap.size) := by rw [← hW1]; exact begin_ws w B hB
  clear hW1 hB
  refine (wuint_c B [] 0 9 [] W1 H1.out.1 (by omega) (by omega) (by simp)).mono ?_
  rintro r w2 ⟨rfl, h2⟩
  have H2 : Hid (Pb B w w2 (X0.take 0) w2.heap.size) := begin_pb H1.out.1 H1.out.2.1 H1.out.2.2.1 H1.out.2.2.2 h2
  clear h2 H1
  go_wp2
  go_loopw [20] (fun i wr => ∃ k N : Nat, k ≤ n0 ∧ i = .int .i64 k ∧ Hid (Pb B w wr (X0.take k) N)) (fun i _ => n0 - (intOf i).toNat)
  case atStart => exact ⟨0, _, Nat.zero_le _, rfl, H2⟩
  case round =>
    obtain ⟨k, N0, hk, rfl, HI0⟩ := hrel
    clear H2
    by_cases hlt : k < n0
    · obtain ⟨N, hN⟩ : ∃ N, N = wr.heap.size := ⟨_, rfl⟩
      have HI : Hid (Pb B w wr (X0.take k) N) := by rw [hN]; exact pb_at HI0.out
      clear HI0
      obtain ⟨b, off, o, rfl, hbw, hxo, hok, hrg⟩ := HO.out.at_ k hlt
      have HOK : Hid (o.Ok ∧ o.weight ≤ 1048576 ∧ opsWeight (X0.take k) ≤ 1048576 ∧ X0.take (k + 1) = X0.take k ++ [o]) := by
        have q1 := weight_take X0 k o hxo
        have q2 := weight_take_le X0 (k + 1)
        have q3 := weight_take_le X0 k
        have := HWT.out
        exact ⟨hok, by omega, by omega, take_next X0 k o hxo⟩
      have HRG : Hid (wr.rangeAt b (off + k * 41) o.cells) := fun j v hv => by
        obtain ⟨_, _, _, _, _, _, _, _, hbel, _⟩ := HI.out
        exact (hbel.cell (p := ⟨b, off + k * 41 + j, none⟩) (by rw [HBW.out]; exact hbw)).trans (hrg j v hv)
      have HOL : Hid (o.cells.length = 41) := OpD.cells_length o hok
      clear hxo hok hrg hbw
      have hk1 : (k : Int) < n0 := by omega
      have hn1 := HN1.out
      by_cases hi : idle o = true
      · have HID : Hid (idle o = true) := hi
        have hc : o.call = 6 ∨ o.call = 7 ∨ o.call = 8 := by unfold idle at hi; simpa using hi
        have HFF : ∀ W, wr.grownBy W none → Hid (Pb B w W (X0.take (k + 1)) N) := fun W hW => by show Pb _ _ _ _ _; rw [HOK.out.2.2.2]; exact pb_idle (pb_new HI.out hW) o HID.out
        replace HFF : Hid _ := HFF
        clear hi HID
        rcases hc with hc | hc | hc
        · have t6 : (o.call != 6) = false := by simp [hc]
          clear hc
          go_wp2_with (first
            | (refine wpList_load_mid rfl 49 (.tmp 22) rfl b (off + k * 41) rfl o.cells _ HRG.out Try.underlying49 rfl (by rw [HOL.out]; exact infoOp41) ?_)
            | (refine wpList_store_bk 49 rfl (.tmp 8) (.tmp 23) rfl infoOp41 wr.heap.size _ o.cells.toArray rfl rfl (heap_new wr _) rfl (by rw [List.size_toArray]; exact HOL.out) (cells_one o) ?_; intro w6 h1 h2; rw [← hN] at h1 h2 ⊢; have H6 : Hid (Hid (Pb B w w6 (X0.take (k + 1)) N)) := HFF.out w6 (gb_newer (World.grownBy_alloc _ _ _) h2 (Nat.le_of_eq hN.symm)); have c0 := Bk.opcell h1 |>.1; clear h1 h2 hN))
          go_roundw
          case rel => first | exact ⟨k + 1, N, by omega, by go_num, H6.out⟩ | ((repeat apply Exists.intro); exact ⟨⟨k + 1, N, by omega, by go_num, H6.out⟩, rfl⟩)
          case measure => simp [intOf]; omega
        · have t6 : (o.call != 6) = true := by simp [hc]
          have t7 : (o.call != 7) = false := by simp [hc]
          clear hc
          go_wp2_with (first
            | (refine wpList_load_mid rfl 49 (.tmp 22) rfl b (off + k * 41) rfl o.cells _ HRG.out Try.underlying49 rfl (by rw [HOL.out]; exact infoOp41) ?_)
            | (refine wpList_store_bk 49 rfl (.tmp 8) (.tmp 23) rfl infoOp41 wr.heap.size _ o.cells.toArray rfl rfl (heap_new wr _) rfl (by rw [List.size_toArray]; exact HOL.out) (cells_one o) ?_; intro w6 h1 h2; rw [← hN] at h1 h2 ⊢; have H6 : Hid (Hid (Pb B w w6 (X0.take (k + 1)) N)) := HFF.out w6 (gb_newer (World.grownBy_alloc _ _ _) h2 (Nat.le_of_eq hN.symm)); have c0 := Bk.opcell h1 |>.1; clear h1 h2 hN))
          go_roundw
          case rel => first | exact ⟨k + 1, N, by omega, by go_num, H6.out⟩ | ((repeat apply Exists.intro); exact ⟨⟨k + 1, N, by omega, by go_num, H6.out⟩, rfl⟩)
          case measure => simp [intOf]; omega
        · have t6 : (o.call != 6) = true := by simp [hc]
          have t7 : (o.call != 7) = true := by simp [hc]
          have t8 : (o.call != 8) = false := by simp [hc]
          clear hc
          go_wp2_with (first
            | (refine wpList_load_mid rfl 49 (.tmp 22) rfl b (off + k * 41) rfl o.cells _ HRG.out Try.underlying49 rfl (by rw [HOL.out]; exact infoOp41) ?_)
            | (refine wpList_store_bk 49 rfl (.tmp 8) (.tmp 23) rfl infoOp41 wr.heap.size _ o.cells.toArray rfl rfl (heap_new wr _) rfl (by rw [List.size_toArray]; exact HOL.out) (cells_one o) ?_; intro w6 h1 h2; rw [← hN] at h1 h2 ⊢; have H6 : Hid (Hid (Pb B w w6 (X0.take (k + 1)) N)) := HFF.out w6 (gb_newer (World.grownBy_alloc _ _ _) h2 (Nat.le_of_eq hN.symm)); have c0 := Bk.opcell h1 |>.1; clear h1 h2 hN))
          go_roundw
          case rel => first | exact ⟨k + 1, N, by omega, by go_num, H6.out⟩ | ((repeat apply Exists.intro); exact ⟨⟨k + 1, N, by omega, by go_num, H6.out⟩, rfl⟩)
          case measure => simp [intOf]; omega
      · have hi' : idle o = false := by simpa using hi
        have HID : Hid (idle o = false) := hi'
        have hc : ¬ o.call = 6 ∧ ¬ o.call = 7 ∧ ¬ o.call = 8 := by unfold idle at hi'; simpa using hi'
        have t6 : (o.call != 6) = true := by simp [hc.1]
        have t7 : (o.call != 7) = true := by simp [hc.2.1]
        have t8 : (o.call != 8) = true := by simp [hc.2.2]
        clear hc hi hi'
        go_wp2_with (first
          | (refine wpList_load_mid rfl 49 (.tmp 22) rfl b (off + k * 41) rfl o.cells _ HRG.out Try.underlying49 rfl (by rw [HOL.out]; exact infoOp41) ?_)
          | (refine wpList_store_bk 49 rfl (.tmp 8) (.tmp 23) rfl infoOp41 wr.heap.size _ o.cells.toArray rfl rfl (heap_new wr _) rfl (by rw [List.size_toArray]; exact HOL.out) (cells_one o) ?_; intro w6 h1 h2; rw [← hN] at h1 h2 ⊢; have H6 : Hid (Bk 49 w6 N o.cells.toArray ∧ Pb B w w6 (X0.take k) N) := ⟨h1, pb_new HI.out (gb_newer (World.grownBy_alloc _ _ _) h2 (Nat.le_of_eq hN.symm))⟩; have c0 := Bk.opcell h1 |>.1; clear h1 h2 hN)
          | (refine wpList_load_bk 49 rfl (.tmp 8) rfl Try.underlying49 rfl infoOp41 N o.cells.toArray rfl H6.out.1 (by rw [List.size_toArray]; exact HOL.out) ?_)
          | (go_at_call 16; go_must (refine (pb_write H6.out.2 o HOK.out.1 HOK.out.2.1 HOK.out.2.2.1 HID.out H6.out.1).mono ?_); rintro r w8 ⟨rfl, h8⟩; have H8 : Hid (Hid (Pb B w w8 (X0.take (k + 1)) N)) := (by rw [HOK.out.2.2.2]; exact h8); clear h8))
        go_roundw
        case rel => first | exact ⟨k + 1, N, by omega, by go_num, H8.out⟩ | ((repeat apply Exists.intro); exact ⟨⟨k + 1, N, by omega, by go_num, H8.out⟩, rfl⟩)
        case measure => simp [intOf]; omega
    · obtain rfl : k = n0 := by omega
      have hge : ¬ (k : Int) < k := by omega
      have HXK : Hid (X0.take k = X0) := List.take_of_length_le (by rw [HO.out.1]; exact Nat.le_refl _)
      rw [HXK.out] at HI0
      obtain ⟨ys, zs, S, hT, hy, ly, lz, hS, hbel, hBs⟩ := HI0.out
      obtain ⟨fs, v, F, hws, hxw, n1, n2, n3, n4, n5⟩ := hT
      have hW := HWT.out
      have HWS : Hid (WS wr B ys (oerrs X0 0) fs ∧ ys.length ≤ 20971520) := ⟨hws, by omega⟩
      have c1 := hxw.blk.c1
      have HBL : Hid (Below B w wr ∧ B ≤ wr.heap.size ∧ B < wr.heap.size ∧ ∀ k ∈ fs, k < wr.heap.size) := ⟨hbel, hBs, hws.lt, fun k hk => (hS k (n5 k (.inr (.inr (.inr hk))))).2.1⟩
      clear HI0 hws hxw n1 n2 n3 n4 n5 ly lz hS hbel hBs hW
      by_cases he : oerrs X0 0 = 0
      · have HOE : Hid (∀ o ∈ X0, oerr o = 0) := (oerrs_zero X0 0 he).2
        have HY : Hid (ys = enc 9 ++ lays X0) := hy he
        rw [he] at HWS c1
        clear hy he
        obtain ⟨i0, hi, hz0, hz1, hz2⟩ := info_parts Try.infoU8
        obtain ⟨L, hL⟩ : ∃ L, L = ys.length := ⟨_, rfl⟩
        have HL : Hid (L = ys.length ∧ L = pl X0 ∧ L ≤ 20971520 ∧ Bytes ys) := ⟨hL, by rw [hL, HY.out]; unfold pl; rw [List.length_append], by rw [hL]; exact HWS.out.2, HWS.out.1.bytes⟩
        have hLb : L ≤ 20971520 := HL.out.2.2.1
        have HBY : Hid (Calls Try.prog 17 #[.pointer (some ⟨B, 0, none⟩)] wr fun r w' => ∃ b, r = .returned (.tuple #[.slice (some ⟨b, 0, none⟩) L L, .int .i64 0]) ∧ wr.heap.size ≤ b ∧ Row .u8 5 w' b ys ∧ Below wr.heap.size wr w') := by rw [hL]; exact wbytes_ok B ys fs wr HWS.out.1 (by have := HWS.out.2; omega)
        obtain ⟨wl, hwl⟩ : ∃ wl, wl = wr := ⟨_, rfl⟩
        subst hwl
        clear hL
        go_wp2_with (first
          | (go_at_call 17; go_must (refine (Calls.mono HBY.out ?_)); rintro r w3 ⟨b, rfl, hb3, hr3, hbl3⟩; have H3 : Hid (wl.heap.size ≤ b ∧ Row .u8 5 w3 b ys ∧ Below wl.heap.size wl w3) := ⟨hb3, hr3, hbl3⟩; clear hb3 hr3 hbl3)
          | ((fail_if_success (have z := H4)); go_at_call 18; go_must (refine (new_c2 (some ⟨b, 0, none⟩) L L ys w3 (H3.out.2.1.segAll L HL.out.1) HL.out.2.2.2 (by omega) (fun e => by cases e)).mono ?_); rintro r w4 ⟨g1, A1, c1', rfl, h41, h42, h43, h44⟩; have H4 : Hid (RS w4 g1 A1 L c1' ys 0 0 ∧ w3.heap.size ≤ g1 ∧ (∀ b o s, A1 = some ⟨b, o, s⟩ → w3.heap.size ≤ b ∧ b < w4.heap.size) ∧ w3.grownBy w4 none) := ⟨h41, h42, h43, h44⟩; clear h41 h42 h43 h44)
          | (have z := H4; clear z; go_at_call 19; go_must (refine (copy_c (some ⟨b, 0, none⟩) L L ys w4 ((H3.out.2.1.segAll L HL.out.1).grew H4.out.2.2.2 (by simp)) HL.out.2.2.2 (by omega)).mono ?_); rintro r w5 ⟨g5, c5, rfl, h51, h52⟩; have H5 : Hid (Mine w5 w4.heap.size g5 L c5 ys ∧ Below w4.heap.size w4 w5) := ⟨h51, h52⟩; clear h51 h52; have HS5 : Hid (Seg .u8 w5 a1 len1 bs) := seg5 HBW.out HSG.out.1 HBL.out.1 HBL.out.2.1 H3.out.2.2 H4.out.2.2.2 H5.out.2)
          | (have z := H5; clear z; at_builtin; go_must (refine wpList_append_mine w5 rfl _ _ 23 rfl 5 i0 Try.underlying23 hi hz0 hz1 hz2 w4.heap.size g5 L c5 ys rfl H5.out.1 a1 len1 cap1 bs rfl HSG.out.2.2 HS5.out (by have := HL1.out; omega) ?_); intro b6 c6 w6 h61 h62; have H6 : Hid (Mine w6 w4.heap.size b6 (L + len1) c6 (ys ++ bs) ∧ Below w4.heap.size w5 w6) := ⟨h61, h62⟩; clear h61 h62)
          | (have z := H6; clear z; go_at_call 18; go_must (refine (new_c2 (some ⟨b6, 0, none⟩) (L + len1) c6 (ys ++ bs) w6 H6.out.1.seg (bytes_app HL.out.2.2.2 HSG.out.2.1) (by have := HL1.out; omega) (fun e => by cases e)).mono ?_); rintro r w7 ⟨g2, A2, c2', rfl, h71, h72, h73, h74⟩; have H7 : Hid (RS w7 g2 A2 (L + len1) c2' (ys ++ bs) 0 0 ∧ w6.heap.size ≤ g2 ∧ (∀ b o s, A2 = some ⟨b, o, s⟩ → w6.heap.size ≤ b ∧ b < w7.heap.size) ∧ w6.grownBy w7 none) := ⟨h71, h72, h73, h74⟩; clear h71 h72 h73 h74; have HK : Hid (RS w7 g1 A1 L c1' ys 0 0 ∧ g1 ≠ g2 ∧ Off A1 g2 ∧ Off A2 g1 ∧ B ≤ g1 ∧ B ≤ g2 ∧ (∀ k, (k = B ∨ k ∈ fs) → k ≠ g1 ∧ k ≠ g2) ∧ Below B w w7 ∧ B ≤ w7.heap.size ∧ WS w7 B ys 0 fs) := keep_c HBL.out HWS.out.1 H3.out.2.2 H4.out H5.out.2 H6.out.2 H7.out.2)
          | ((fail_if_success (have z := H8)); go_at_call 20; go_must (refine (uint9 HK.out.1 HY.out).mono ?_); rintro r w8 ⟨rfl, h81, h82⟩; have H8 : Hid (RS w8 g1 A1 L c1' ys 0 (pl (X0.take 0)) ∧ RS w8 g2 A2 (L + len1) c2' (ys ++ bs) 0 0 ∧ Gr (fun k => k = g1 ∨ k = g2) w7 w8) := ⟨h81, rs_two H7.out.1 HK.out.2.1 HK.out.2.2.2.1 h82, Gr.of h82 (fun k hk => by cases hk; exact .inl (.inl rfl))⟩; clear h81 h82)
          | (have z := H8; clear z; go_at_call 20; go_must (refine (uint9' H8.out.2.1 HY.out).mono ?_); rintro r w9 ⟨rfl, h91, h92⟩; have H9 : Hid (RS w9 g1 A1 L c1' ys 0 (pl (X0.take 0)) ∧ RS w9 g2 A2 (L + len1) c2' (ys ++ bs) 0 (pl (X0.take 0)) ∧ Gr (fun k => k = g1 ∨ k = g2) w7 w9) := ⟨rs_two H8.out.1 (Ne.symm HK.out.2.1) HK.out.2.2.1 h92, h91, H8.out.2.2.trans (Gr.of h92 (fun k hk => by cases hk; exact .inl (.inr rfl)))⟩; clear h91 h92))
        go_loopw [74] (fun i wr => ∃ j : Nat, j ≤ k ∧ i = .int .i64 j ∧ Hid (RS wr g1 A1 L c1' ys 0 (pl (X0.take j)) ∧ RS wr g2 A2 (L + len1) c2' (ys ++ bs) 0 (pl (X0.take j)) ∧ Gr (fun k => k = g1 ∨ k = g2) w7 wr)) (fun i _ => k - (intOf i).toNat)
        case atStart => exact ⟨0, Nat.zero_le _, rfl, H9.out⟩
        case round =>
          obtain ⟨j, hj, rfl, hr⟩ := hrel
          clear H9 H8 H6 H5 HS5 H4
          by_cases hlt2 : j < k
          · obtain ⟨N, hN⟩ : ∃ N, N = wr.heap.size := ⟨_, rfl⟩
            obtain ⟨b0, off, o, rfl, hbw, hxo, hok, hrg⟩ := HO.out.at_ j hlt2
            have HOK : Hid (o.Ok ∧ oerr o = 0 ∧ pl (X0.take (j + 1)) = pl (X0.take j) + (lay o).length ∧ ys.drop (pl (X0.take j)) = lay o ++ (lays (X0.drop (j + 1)) ++ []) ∧ (ys ++ bs).drop (pl (X0.take j)) = lay o ++ (lays (X0.drop (j + 1)) ++ bs)) :=
              ⟨hok, HOE.out o (List.mem_of_getElem? hxo), pl_next X0 j o hxo, by rw [HY.out]; exact pl_drop0 X0 j o hxo, by rw [HY.out]; exact pl_drop X0 bs j o hxo⟩
            have HRG : Hid (wr.rangeAt b0 (off + j * 41) o.cells) := fun i v hv => by
              have hbel := hr.out.2.2.below HK.out.2.2.2.2.2.2.2.1 (by rintro q (h | h); rw [h]; exact HK.out.2.2.2.2.1; rw [h]; exact HK.out.2.2.2.2.2.1) HK.out.2.2.2.2.2.2.2.2.1
              exact (hbel.cell (p := ⟨b0, off + j * 41 + i, none⟩) (by rw [HBW.out]; exact hbw)).trans (hrg i v hv)
            have HOL : Hid (o.cells.length = 41) := OpD.cells_length o hok
            have HNE : Hid (N ≠ g1 ∧ N ≠ g2) := by
              have q1 := lt_of_block hr.out.1.rdr
              have q2 := lt_of_block hr.out.2.1.rdr
              exact ⟨by omega, by omega⟩
            clear hxo hok hrg hbw
            have hk1 : (j : Int) < k := by omega
            have hn1 := HN1.out
            go_wp2_with (first
              | (refine wpList_load_mid rfl 49 (.tmp 76) rfl b0 (off + j * 41) rfl o.cells _ HRG.out Try.underlying49 rfl (by rw [HOL.out]; exact infoOp41) ?_)
              | (refine wpList_store_bk 49 rfl (.tmp 14) (.tmp 77) rfl infoOp41 wr.heap.size _ o.cells.toArray rfl rfl (heap_new wr _) rfl (by rw [List.size_toArray]; exact HOL.out) (cells_one o) ?_; intro w11 h1 h2; rw [← hN] at h1 h2 ⊢; have hgn := gb_newer (World.grownBy_alloc _ _ _) h2 (Nat.le_of_eq hN.symm); have H11 : Hid (Bk 49 w11 N o.cells.toArray ∧ RS w11 g1 A1 L c1' ys 0 (pl (X0.take j)) ∧ RS w11 g2 A2 (L + len1) c2' (ys ++ bs) 0 (pl (X0.take j)) ∧ Gr (fun k => k = g1 ∨ k = g2) w7 w11) := ⟨h1, hr.out.1.new hgn, hr.out.2.1.new hgn, hr.out.2.2.trans (Gr.of hgn (by simp))⟩; clear h1 h2 hN hgn)
              | ((fail_if_success (have z := H12)); refine wpList_load_bk 49 rfl (.tmp 14) rfl Try.underlying49 rfl infoOp41 N o.cells.toArray rfl H11.out.1 (by rw [List.size_toArray]; exact HOL.out) ?_)
              | (have z := H12; clear z; refine wpList_load_bk 49 rfl (.tmp 14) rfl Try.underlying49 rfl infoOp41 N o.cells.toArray rfl H12.out.1 (by rw [List.size_toArray]; exact HOL.out) ?_)
              | (have z := H12; clear z; refine BigFrame.wpList_want rfl fun _ hK => wp_load_mid 49 (.tmp 14) rfl N 0 rfl o.cells _ (fun j v hv => by rw [Nat.zero_add, H12.out.1.cell]; simpa using hv) Try.underlying49 rfl (by rw [HOL.out]; exact infoOp41) (hK _ _ ?_))
              | ((fail_if_success (have z := H12)); go_at_call 21; go_must (refine (taken_c g1 A1 L c1' ys (pl (X0.take j)) o _ _ w11 H11.out.2.1 rfl HOK.out.1 HOK.out.2.1 HOK.out.2.2.2.1).mono ?_); rintro r w12 ⟨rfl, h1, h2⟩; have H12 : Hid (Bk 49 w12 N o.cells.toArray ∧ RS w12 g1 A1 L c1' ys 0 (pl (X0.take (j + 1))) ∧ RS w12 g2 A2 (L + len1) c2' (ys ++ bs) 0 (pl (X0.take j)) ∧ Gr (fun k => k = g1 ∨ k = g2) w7 w12) := ⟨bk_stay H11.out.1 h2 HNE.out.1, (by rw [HOK.out.2.2.1]; exact h1), rs_two H11.out.2.2.1 HK.out.2.1 HK.out.2.2.2.1 h2, H11.out.2.2.2.trans (Gr.of h2 (fun k hk => by cases hk; exact .inl (.inl rfl)))⟩; clear h1 h2)
              | (have z := H12; clear z; go_at_call 21; go_must (refine (taken_c g2 A2 (L + len1) c2' (ys ++ bs) (pl (X0.take j)) o _ _ w12 H12.out.2.2.1 rfl HOK.out.1 HOK.out.2.1 HOK.out.2.2.2.2).mono ?_); rintro r w13 ⟨rfl, h1, h2⟩; have H13 : Hid (RS w13 g1 A1 L c1' ys 0 (pl (X0.take (j + 1))) ∧ RS w13 g2 A2 (L + len1) c2' (ys ++ bs) 0 (pl (X0.take (j + 1))) ∧ Gr (fun k => k = g1 ∨ k = g2) w7 w13) := ⟨rs_two H12.out.2.1 (Ne.symm HK.out.2.1) HK.out.2.2.1 h2, (by rw [HOK.out.2.2.1]; exact h1), H12.out.2.2.2.trans (Gr.of h2 (fun k hk => by cases hk; exact .inl (.inr rfl)))⟩; clear h1 h2))
            go_roundw
            case rel => first | exact ⟨j + 1, by omega, by go_num, H13.out⟩ | ((repeat apply Exists.intro); exact ⟨⟨j + 1, by omega, by go_num, H13.out⟩, rfl⟩)
            case measure => simp [intOf]; omega
          · obtain rfl : j = k := by omega
            rw [HXK.out, ← HL.out.2.1] at hr
            have HE2 : Hid (0 < len1 → ∀ W, RS W g2 A2 (L + len1) c2' (ys ++ bs) 0 L → Calls Try.prog 22 #[.pointer (some ⟨g2, 0, none⟩)] W fun r w' => r = .returned (.int .i64 34) ∧ ∃ n, w' = W.drewN n) := fun hl W h => by
              have := end_c g2 0 A2 (L + len1) c2' L W h.rdr (by omega) h.lm
              rw [show rend (L + len1) 0 L = 34 from by unfold rend; rw [if_pos rfl, if_pos (by omega)]] at this
              exact this
            have HLf : Hid (∀ W, RS W g2 A2 (L + len1) c2' (ys ++ bs) 0 L → Calls Try.prog 23 #[.pointer (some ⟨g2, 0, none⟩)] W fun r w' => r = .returned (.int .i64 (len1 : Int)) ∧ ∃ n, w' = W.drewN n) := fun W h => by
              have := left_c g2 0 A2 (L + len1) c2' L W h.rdr (by omega) h.lm
              rw [show L + len1 - L = len1 from by omega] at this
              exact this
            have HE1 : Hid (∀ W, RS W g1 A1 L c1' ys 0 L → Calls Try.prog 22 #[.pointer (some ⟨g1, 0, none⟩)] W fun r w' => r = .returned (.int .i64 0) ∧ ∃ n, w' = W.drewN n) := fun W h => by
              have := end_c g1 0 A1 L c1' L W h.rdr (by omega) h.lm
              rw [show rend L 0 L = 0 from by unfold rend; rw [if_pos rfl, if_neg (by omega)]] at this
              exact this
            have HAT : Hid (∀ W, RS W g1 A1 L c1' ys 0 L → Calls Try.prog 24 #[.pointer (some ⟨g1, 0, none⟩)] W fun r w' => r = .returned (.int .i64 (L : Int)) ∧ w' = W) := fun W h => at_c g1 0 _ L W h.rdr
            have HSZ : Hid (∀ W, Gr (fun k => k = g1 ∨ k = g2) w7 W → Calls Try.prog 25 #[.pointer (some ⟨B, 0, none⟩)] W fun r w' => r = .returned (.int .i64 (L : Int)) ∧ w' = W) := fun W h => by
              have := wsize_c B ys 0 fs W (HK.out.2.2.2.2.2.2.2.2.2.gr h (by rintro (q | q); exact (HK.out.2.2.2.2.2.2.1 B (.inl rfl)).1 q; exact (HK.out.2.2.2.2.2.2.1 B (.inl rfl)).2 q) (by rintro k hk (q | q); exact (HK.out.2.2.2.2.2.2.1 k (.inr hk)).1 q; exact (HK.out.2.2.2.2.2.2.1 k (.inr hk)).2 q))
              rw [← HL.out.1] at this
              exact this
            have HFB : Hid (∀ W, Gr (fun k => k = g1 ∨ k = g2) w7 W → Below w.heap.size w W) := fun W h => by
              rw [← HBW.out]
              exact h.below HK.out.2.2.2.2.2.2.2.1 (by rintro q (h | h); rw [h]; exact HK.out.2.2.2.2.1; rw [h]; exact HK.out.2.2.2.2.2.1) HK.out.2.2.2.2.2.2.2.2.1
            have hl1 := HL1.out
            have hge : ¬ (j : Int) < j := by omega
            have heL : ((L : Int) == (L : Int)) = true := by simp
            have heN : ((len1 : Int) != (len1 : Int)) = false := by simp
            by_cases hz : 0 < len1
            · have hzi : (0 : Int) < (len1 : Int) := by omega
              have HZ : Hid (0 < len1) := hz
              go_wp2_with (first
                | ((fail_if_success (have z := H14)); go_at_call 22; go_must (refine (HE2.out HZ.out _ hr.out.2.1).mono ?_); rintro r w14 ⟨rfl, h1⟩; have H14 : Hid (_ ∧ _ ∧ _) := st_drew hr.out h1; clear h1)
                | (have z := H14; clear z; go_at_call 23; go_must (refine (HLf.out _ H14.out.2.1).mono ?_); rintro r w15 ⟨rfl, h1⟩; have H15 : Hid (_ ∧ _ ∧ _) := st_drew H14.out h1; clear h1)
                | (have z := H15; clear z; go_at_call 22; go_must (refine (HE1.out _ H15.out.1).mono ?_); rintro r w16 ⟨rfl, h1⟩; have H16 : Hid (_ ∧ _ ∧ _) := st_drew H15.out h1; clear h1)
                | (have z := H16; clear z; go_at_call 24; go_must (refine (HAT.out _ H16.out.1).mono ?_); rintro r w17 ⟨rfl, h1⟩; obtain rfl := h1.symm)
                | (have z := H16; clear z; go_at_call 25; go_must (refine (HSZ.out _ H16.out.2.2).mono ?_); rintro r w18 ⟨rfl, h1⟩; obtain rfl := h1.symm))
              go_ret
              exact ⟨rfl, HFB.out _ H16.out.2.2⟩
            · obtain rfl : len1 = 0 := by omega
              go_wp2_with (first
                | ((fail_if_success (have z := H15)); go_at_call 23; go_must (refine (HLf.out _ hr.out.2.1).mono ?_); rintro r w15 ⟨rfl, h1⟩; have H15 : Hid (_ ∧ _ ∧ _) := st_drew hr.out h1; clear h1)
                | (have z := H15; clear z; go_at_call 22; go_must (refine (HE1.out _ H15.out.1).mono ?_); rintro r w16 ⟨rfl, h1⟩; have H16 : Hid (_ ∧ _ ∧ _) := st_drew H15.out h1; clear h1)
                | (have z := H16; clear z; go_at_call 24; go_must (refine (HAT.out _ H16.out.1).mono ?_); rintro r w17 ⟨rfl, h1⟩; obtain rfl := h1.symm)
                | (have z := H16; clear z; go_at_call 25; go_must (refine (HSZ.out _ H16.out.2.2).mono ?_); rintro r w18 ⟨rfl, h1⟩; obtain rfl := h1.symm))
              go_ret
              exact ⟨rfl, HFB.out _ H16.out.2.2⟩
      · obtain ⟨e, hE⟩ : ∃ e, e = oerrs X0 0 := ⟨_, rfl⟩
        rw [← hE] at HWS c1 he
        have hb0 : (e == 0) = false := by simp [he]
        have hb1 : (e != 0) = true := by simp [he]
        clear hy he hE
        have HBY : Hid _ := wbytes_no B ys e fs wr HWS.out.1 hb0
        go_wp2_with (first
          | (go_at_call 17; go_must (refine (Calls.mono HBY.out ?_)); rintro r w3 ⟨rfl, m, rfl⟩))
        go_ret
        refine ⟨rfl, ?_⟩
        rw [← HBW.out]
        exact ((Gr.refl (fun _ => False) wr).drewN m).below HBL.out.1 (by simp) HBL.out.2.1

theorem bulk_len {H : Type} (l : List (DataW H)) : l.length ≤ Rows.uptoBulkAll l := by
  induction l with
  | nil => simp
  | cons d r ih =>
    have : 1 ≤ Rows.uptoBulk d := by
      cases d with
      | lit x => cases x <;> simp [Rows.uptoBulk]
      | _ => simp [Rows.uptoBulk]
    simp only [Rows.uptoBulkAll, List.length_cons]; omega
theorem bulk_mem {H : Type} {d : DataW H} {l : List (DataW H)} (h : d ∈ l) : Rows.uptoBulk d ≤ Rows.uptoBulkAll l := by
  induction l with
  | nil => cases h
  | cons x r ih =>
    simp only [Rows.uptoBulkAll]
    rcases List.mem_cons.1 h with rfl | h
    · omega
    · have := ih h; omega
theorem bulk_slice {H : Type} {ds : List (DataW H)} {d : DataW H} {l r : List (DataW H)} (hk : Rows.uptoSmall H ds = true) (hd : d ∈ ds) (e : d = .slice l r) : l.length + r.length ≤ 1048576 := by
  have h0 : Rows.uptoBulkAll ds ≤ 1048576 := of_decide_eq_true hk
  have h1 := bulk_mem hd
  have h3 := bulk_len l
  have h4 := bulk_len r
  rw [e] at h1
  simp only [Rows.uptoBulk] at h1
  omega

set_option maxRecDepth 100000 in
theorem lifted (os : Os) (started : os.Started) (H : Type) (enc : TypeId × Value → H) (F : Stop.Interp) :
    ReturnsInHanded {} Try.checked os 4 .any ((Rows.OpenSpec.upto Rows.packBackSpec).pre6 enc Try.prog Try.f4 Rows.packBackUptoRow.domain false) (((Rows.OpenSpec.upto Rows.packBackSpec).at F).post enc Try.prog Try.f4 false true false false) := by
  refine returnsInHanded_of_cond (C := Try.checked) (s := Rows.OpenSpec.upto Rows.packBackSpec) (k := Rows.uptoSmall) rfl own started (by kernel_rfl) Try.func4
    (OpenSpec.witness (enc := enc) (C := Try.checked) (s := Rows.OpenSpec.upto Rows.packBackSpec) (k := Rows.uptoSmall) rfl false ⟨#[], #[.slice none 0 0, .slice none 0 0], []⟩ 8 (by kernel_rfl) (by kernel_rfl) (by kernel_rfl)
      (x := ([.nil, .nil], [], [])) (by kernel_rfl) rfl (by kernel_rfl)) ?_
  intro W base args ds gs before hval0 hW hcnd hk _
  have hval : ∀ (j : Nat) t v, Try.f4.params[j]? = some t → args[j]? = some v → Value.okWide Try.prog W .any base t v := hval0
  have hW' := hW
  obtain ⟨p, q, hA0, hV, rfl, hfz, hnd⟩ := hW
  have hA : DataW.TrodAll enc Try.prog W 0 (fun _ => true) true Try.f4.params.toList args.toList ds p := hA0
  rw [Try.params4] at hA hval
  obtain ⟨v0, vs0, d0, ds0, p0, q0, hargs, rfl, rfl, h0, r0⟩ := trodAll_cons hA
  obtain ⟨v1, vs1, d1, ds1, p1, q1, rfl, rfl, rfl, h1, r1⟩ := trodAll_cons r0
  obtain ⟨rfl, rfl, rfl⟩ := trodAll_nil r1
  obtain rfl : args = #[v0, v1] := by cases args; simp_all
  obtain ⟨rfl, rfl⟩ := trodVars_none hV
  have k0 := h0
  have lt0 : ∀ x ∈ p0, x.block < W.heap.size := by obtain ⟨m, hm⟩ := k0; exact DataW.trod_lt m _ _ _ hm
  obtain ⟨a0, n0, cap0, X0, rfl, x0, lc0, cm0, nz0, y0⟩ : ∃ a n cap X, v0 = .slice a n cap ∧ Ops W a n X ∧ n ≤ cap ∧ cap ≤ maxLen ∧ (a = none → cap = 0) ∧ opsWeight X ≤ 1048576 := by
    obtain ⟨sa, sl, sc, hv⟩ := okWide_slice Try.underlying33 (hval 0 33 v0 rfl rfl)
    obtain ⟨a, n, cap, X, h1, h2, h3, h4, h5, h6⟩ := ops_open sa sl sc hv h0
    have hAll : Rows.uptoBulkAll _ ≤ 1048576 := of_decide_eq_true hk
    exact ⟨a, n, cap, X, h1, h2, h3, h4, h5, Nat.le_trans h6 (Nat.le_trans (bulk_mem (show d0 ∈ _ by simp)) hAll)⟩
  have k1 := h1
  have lt1 : ∀ x ∈ p1, x.block < W.heap.size := by obtain ⟨m, hm⟩ := k1; exact DataW.trod_lt m _ _ _ hm
  obtain ⟨a1, len1, cap1, z1, rfl, x1⟩ : ∃ a len cap zs, v1 = .slice a len cap ∧ IsRow .u8 1048576 W a len cap zs := by
    obtain ⟨sa, sl, sc, rfl⟩ := okWide_slice Try.underlying23 (hval 1 23 v1 rfl rfl)
    obtain ⟨fuel, hf⟩ := h1
    rcases open_ints Try.underlying23 Try.underlying5 (by kernel_rfl) hf with ⟨hcs, _⟩ | ⟨x, l, c, zs, hcs, _, hl, hm, hz, hx, hcell, hwz⟩
    · simp [Value.cells] at hcs; obtain ⟨rfl, rfl, rfl⟩ := hcs
      exact ⟨none, 0, 0, [], rfl, .inl ⟨rfl, rfl, rfl, rfl⟩⟩
    · simp [Value.cells] at hcs; obtain ⟨rfl, rfl, rfl⟩ := hcs
      have hz' : zs.length = sc := by simpa using hz
      have hd : d1 = _ := congrArg Prod.fst hx
      have hb := bulk_slice hk (show d1 ∈ _ by simp) hd
      simp only [lits, List.length_map, List.length_take, List.length_drop] at hb
      exact ⟨some x, sl, sc, zs, rfl, .inr ⟨_, rfl, hl, by omega, hz', hcell, hwz⟩⟩
  clear hA0 hval0
  refine (walk a0 n0 cap0 X0 a1 len1 cap1 z1 W x0 lc0 cm0 nz0 y0 x1).mono fun e W' ⟨he, bel⟩ => ?_
  subst he
  exact ⟨_, rfl, _, _, _, [], _, [], hW', trodAll_mk1 (shut_bool Try.underlying4 _), (trodAll_cons_mk (Below.trod laidOut (by kernel_rfl) (of_decide_eq_true (by kernel_rfl)) k0 bel lt0) (trodAll_cons_mk (Below.trod laidOut (by kernel_rfl) (of_decide_eq_true (by kernel_rfl)) k1 bel lt1) trodAll_mk0)), rfl, bel.frame _, fun h => by cases h⟩

theorem over : Rows.packBackUptoRow.holds Try.pinned (Rows.OpenSpec.upto Rows.packBackSpec) :=
  OpenClaim.holds_of_cond 4 Try.f4 rfl rfl rfl rfl rfl rfl rfl ⟨rfl, rfl, rfl, rfl, rfl⟩ rfl rfl rfl rfl rfl (by kernel_rfl) Try.func4 (by kernel_rfl)
    (of_decide_eq_true (by kernel_rfl)) (by unfold Func.isWrapper; first | (rw [if_pos (by decide +kernel)]; kernel_rfl) | (rw [if_neg (by decide +kernel)]; exact ⟨rfl, rfl⟩))
    (fun os started H enc _ F => lifted os started H enc F)

end Go.Proofs.Ytplelldomephaaa.packBack
namespace Go.Proofs.Ytplelldomephaaa
theorem packBack_holds : Rows.PackBackUptoSaid := packBack.over
#print axioms packBack_holds
end Go.Proofs.Ytplelldomephaaa
