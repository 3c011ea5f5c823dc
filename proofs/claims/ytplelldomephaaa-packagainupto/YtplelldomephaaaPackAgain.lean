/-
  Proved, in its second form: for bytes and calls that hold together at most 2^20 values, hawserlaw03.PackAgain answers true: what a reader takes up, a writer lays down as the same bytes. Condition: the second form's own.
-/
import Derived.Test.YtplelldomephaaaRows
import Derived.Test.YtplelldomephaaaWRow
import Derived.Test.YtplelldomephaaaWTx
import Derived.Test.YtplelldomephaaaWUi
import Derived.Test.YtplelldomephaaaWBy
import Derived.Test.YtplelldomephaaaPTk
import Derived.Test.YtplelldomephaaaPNew
import Derived.Test.YtplelldomephaaaPInt
import Derived.Test.YtplelldomephaaaPFl
import Derived.WalkKit
import Derived.ProofKit
import Derived.OpenShut
import Derived.ShutString
import Derived.ChangeOld
import Derived.Below
import Derived.Lib.SmallJoins
import Derived.JoinedCond
namespace Go.Proofs.Ytplelldomephaaa.packAgain
open Go.ChangeShapes Go.WideShapes Go.ChangeAt Go.RowKit
set_option linter.unusedVariables false

theorem own : ownKnob Try.prog.godebug = none := by kernel_rfl
theorem laidOut : laidOutB Try.prog = true := by kernel_rfl

/-- What the walk is told of a slice of integers that came in. -/
def IsRow (k : IntKind) (R : Nat) (w : World) (a : Option Addr) (len cap : Nat) (zs : List Int) : Prop :=
  (a = none ∧ len = 0 ∧ cap = 0 ∧ zs = []) ∨
  ∃ x, a = some x ∧ len ≤ cap ∧ cap ≤ R ∧ zs.length = cap ∧ (∀ i, i < zs.length → w.cell? (x.add i) = some (.int k (zs.getD i 0))) ∧ ∀ n ∈ zs, (Lit.int k n).wf = true

theorem zeroW : Try.zeroCells40 = (wcells 0 (.pointer none) (List.replicate 256 0) 0 0).toArray := by kernel_rfl
theorem ws_zero {w : World} {g : Nat} (h : w.heap[g]? = some (.cells Try.zeroCells40 40 (0, 0))) : WS w g [] 0 [] := by
  rw [zeroW] at h
  exact ⟨none, List.replicate 256 0, 0, [], ⟨h, List.length_replicate⟩, chain_nil _, by omega, rfl, by simp, fun i hi => by simp at hi⟩
theorem begin_ws (w : World) (B : Nat) (hB : B = w.heap.size) : WS (w.alloc (.cells Try.zeroCells40 40)) B [] 0 [] ∧ w.grownBy (w.alloc (.cells Try.zeroCells40 40)) none ∧ B < (w.alloc (.cells Try.zeroCells40 40)).heap.size := by
  subst hB
  exact ⟨ws_zero (heap_new w (.cells Try.zeroCells40 40)), World.grownBy_alloc _ _ _, by simp⟩
/-- A reader at p, and a writer that has laid down what lies ahead of q. -/
def PQ (B : Nat) (w wr : World) (g : Nat) (a : Option Addr) (L c : Nat) (xs : List Int) (e : Int) (p q : Nat) : Prop :=
  ∃ fs, RS wr g a L c xs e p ∧ WS wr B (xs.take q) 0 fs ∧ g ∉ fs ∧ g ≠ B ∧ Off a B ∧ (∀ k ∈ fs, Off a k ∧ B ≤ k) ∧ B ≤ g ∧ Below B w wr ∧ B ≤ wr.heap.size ∧ (∀ b o s, a = some ⟨b, o, s⟩ → b < wr.heap.size)
theorem PQ.new {B w wr w' g a L c xs e p q} (h : PQ B w wr g a L c xs e p q) (hg : wr.grownBy w' none) : PQ B w w' g a L c xs e p q := by
  obtain ⟨fs, h1, h2, h3, h4, h5, h6, h7, h8, h9, h10⟩ := h
  have := hg.size
  exact ⟨fs, h1.new hg, h2.new hg, h3, h4, h5, h6, h7, h8.grown hg h9 (fun k hk => by cases hk), by omega, fun b o s e => by have := h10 b o s e; omega⟩
theorem PQ.rs {B w wr g a L c xs e p q} (h : PQ B w wr g a L c xs e p q) : RS wr g a L c xs e p := by obtain ⟨fs, h1, _⟩ := h; exact h1
theorem PQ.bel {B w wr g a L c xs e p q} (h : PQ B w wr g a L c xs e p q) : Below B w wr ∧ B ≤ wr.heap.size := by obtain ⟨fs, _, _, _, _, _, _, _, h8, h9, _⟩ := h; exact ⟨h8, h9⟩
theorem PQ.read {B w wr w' g a L c xs e p q e' p'} (h : PQ B w wr g a L c xs e p q) (hr : RS w' g a L c xs e' p') (hg : wr.grownBy w' (some g)) : PQ B w w' g a L c xs e' p' q := by
  obtain ⟨fs, h1, h2, h3, h4, h5, h6, h7, h8, h9, h10⟩ := h
  have := hg.size
  refine ⟨fs, hr, h2.gr (Gr.of (G := fun k => k = g) hg (fun k hk => by cases hk; exact .inl rfl)) (fun e => h4 e.symm) (fun k hk e => h3 (e ▸ hk)), h3, h4, h5, h6, h7, h8.grown hg h9 (fun k hk => by cases hk; exact h7), by omega, fun b o s e => by have := h10 b o s e; omega⟩
theorem PQ.write {B w wr g a L c xs p q} {f : FuncId} {A : Array Value} {ys : List Int} (h : PQ B w wr g a L c xs 0 p q) (hc : ∀ fs, WS wr B (xs.take q) 0 fs → Calls Try.prog f A wr fun r w' => r = .returned (.tuple #[]) ∧ WGoes wr B fs w' ys 0) (hy : ys = xs.take p) :
    Calls Try.prog f A wr fun r w' => r = .returned (.tuple #[]) ∧ PQ B w w' g a L c xs 0 p p := by
  obtain ⟨fs, h1, h2, h3, h4, h5, h6, h7, h8, h9, h10⟩ := h
  refine (hc fs h2).mono ?_
  rintro r w' ⟨hr, fs', k1, k2, k3⟩
  subst hy
  have hs := k2.size
  have hgl := lt_of_block h1.rdr
  refine ⟨hr, fs', ⟨h1.rdr |> fun q => (k2.block g hgl (fun e => h4 e)).trans q, h1.seg.gr k2 (fun k hk => by rw [hk]; exact h5), h1.bytes, h1.off, h1.le, h1.lc, h1.lm, h1.cm, h1.nz⟩, k1, fun hk => ?_, h4, h5, fun k hk => ?_, h7, k2.below h8 (fun k hk => by omega) h9, by omega, fun b o s e => by have := h10 b o s e; omega⟩
  · rcases k3 _ hk with q | q
    · exact h3 q
    · omega
  · rcases k3 _ hk with q | q
    · exact h6 k q
    · exact ⟨fun b o s e => by have := h10 b o s e; omega, by omega⟩
/-- What a call of a reader comes to, whatever its error. -/
def RDo (f : FuncId) (args : List Value) (g : Nat) (a : Option Addr) (L c : Nat) (xs : List Int) (e : Int) (p : Nat) (v : Value) (e' : Int) (p' : Nat) : Prop :=
  (∀ W, RS W g a L c xs e p → Calls Try.prog f (Value.pointer (some ⟨g, 0, none⟩) :: args).toArray W fun r w' => r = .returned v ∧ RS w' g a L c xs e' p' ∧ W.grownBy w' (some g)) ∧ (e' ≠ 0 → p' = p) ∧ p ≤ p' ∧ p' ≤ L
theorem same_r {w g a len cap xs e p} (h : RS w g a len cap xs e p) {f : FuncId} {A : Array Value} {v : Value} (c : Calls Try.prog f A w fun r w' => r = .returned v ∧ w' = w) : Calls Try.prog f A w fun r w' => r = .returned v ∧ RS w' g a len cap xs e p ∧ w.grownBy w' (some g) :=
  c.mono fun r w' ⟨h1, h2⟩ => ⟨h1, by rw [h2]; exact h, by rw [h2]; exact World.grownBy.refl _ _⟩
theorem rd0 (g : Nat) (a : Option Addr) (L c : Nat) (xs : List Int) (e : Int) (p : Nat) (hx : Bytes xs) (hL : xs.length = L) (hp : p ≤ L) : ∃ (v e' : Int) (p' : Nat), RDo 20 [] g a L c xs e p (.int .u64 v) e' p' ∧ (e' = 0 → 0 ≤ v ∧ v < 18446744073709551616 ∧ xs.take p' = xs.take p ++ enc v.toNat) := by
  by_cases he : e = 0
  · subst he
    have b1 := ru_le hx p (by omega)
    refine ⟨(ru xs p).1, (ru xs p).2.2, p + (ru xs p).2.1, ⟨fun W h => uint_ok g a L c xs p W h, fun h => by rw [(ru_err hx p h).2]; rfl, by omega, by omega⟩, fun h => ⟨(ru_bd hx p).1, (ru_bd hx p).2, ru_again hx p h⟩⟩
  · exact ⟨0, e, p, ⟨fun W h => same_r h (uint_no g e _ p W h.rdr (by simp [he])), fun _ => rfl, Nat.le_refl _, hp⟩, fun h => absurd h he⟩
theorem rdT (g : Nat) (a : Option Addr) (L c : Nat) (xs : List Int) (e : Int) (p : Nat) (most : Int) (hm : most ≤ 9223372036854775807) (hx : Bytes xs) (hL : xs.length = L) (hp : p ≤ L) : ∃ (s : ByteArray) (e' : Int) (p' : Nat), RDo 27 [.int .i64 most] g a L c xs e p (.string s) e' p' ∧ (e' = 0 → wte s.size most = 0 ∧ s.size ≤ L ∧ xs.take p' = xs.take p ++ (enc s.size ++ sb s)) := by
  by_cases he : e = 0
  · subst he
    obtain ⟨b1, b2, b3, b4, b5⟩ := rt_bd hx p (by omega) most
    refine ⟨strOfNums (rt xs p most).1, (rt xs p most).2.2, (rt xs p most).2.1, ⟨fun W h => text_ok g a L c xs p most W h hm, fun h => (b4 h).2, b2, by omega⟩, fun h => ?_⟩
    obtain ⟨c1, c2, c3⟩ := rt_again hx p most h
    rw [size_strOfNums, sb_strOfNums _ b5]
    refine ⟨?_, by omega, c1⟩
    unfold wte
    rw [if_neg (by omega), if_neg (by omega)]
  · exact ⟨strOfNums [], e, p, ⟨fun W h => same_r h (text_no g e _ p most W h.rdr (by simp [he])), fun _ => rfl, Nat.le_refl _, hp⟩, fun h => absurd h he⟩
theorem rf_bd {xs : List Int} (p : Nat) (hp : p ≤ xs.length) : p ≤ (rf xs p).2.1 ∧ (rf xs p).2.1 ≤ xs.length ∧ ((rf xs p).2.2 ≠ 0 → (rf xs p).2.1 = p) := by
  unfold rf
  by_cases h1 : xs.length ≤ p
  · rw [if_pos h1]; exact ⟨Nat.le_refl _, hp, fun _ => rfl⟩
  rw [if_neg h1]
  by_cases h2 : 1 < xs[p]?.getD 0
  · rw [if_pos h2]; exact ⟨Nat.le_refl _, hp, fun _ => rfl⟩
  rw [if_neg h2]; exact ⟨by simp, by simp; omega, fun h => absurd rfl h⟩
theorem rdF (g : Nat) (a : Option Addr) (L c : Nat) (xs : List Int) (e : Int) (p : Nat) (hx : Bytes xs) (hL : xs.length = L) (hp : p ≤ L) : ∃ (f : Bool) (e' : Int) (p' : Nat), RDo 29 [] g a L c xs e p (.bool f) e' p' ∧ (e' = 0 → xs.take p' = xs.take p ++ [fb f]) := by
  by_cases he : e = 0
  · subst he
    obtain ⟨b1, b2, b3⟩ := rf_bd (xs := xs) p (by omega)
    exact ⟨(rf xs p).1, (rf xs p).2.2, (rf xs p).2.1, ⟨fun W h => flag_ok g a L c xs p W h, b3, b1, by omega⟩, fun h => rf_again hx p h⟩
  · exact ⟨false, e, p, ⟨fun W h => flag_no g a L c xs e p W h (by simp [he]), fun _ => rfl, Nat.le_refl _, hp⟩, fun h => absurd h he⟩
theorem rr_bd {xs : List Int} (hx : Bytes xs) (p : Nat) (hp : p ≤ xs.length) : p ≤ (rr xs p).2.1 ∧ (rr xs p).2.1 ≤ xs.length ∧ ((rr xs p).2.2 ≠ 0 → (rr xs p).2.1 = p) := by
  obtain ⟨t1, t2, _⟩ := rt_bd hx p hp 1024
  obtain ⟨u1, u2, _⟩ := rt_bd hx (rt xs p 1024).2.1 t1 65536
  obtain ⟨_, _, v3, v4, _⟩ := ri_bd hx (rt xs (rt xs p 1024).2.1 65536).2.1 u1 1152921504606846976
  unfold rr
  by_cases h1 : (rt xs p 1024).2.2 ≠ 0
  · rw [if_pos h1]; exact ⟨Nat.le_refl _, hp, fun _ => rfl⟩
  rw [if_neg h1]
  by_cases h2 : (rt xs (rt xs p 1024).2.1 65536).2.2 ≠ 0
  · rw [if_pos h2]; exact ⟨Nat.le_refl _, hp, fun _ => rfl⟩
  rw [if_neg h2]
  by_cases h3 : (ri xs (rt xs (rt xs p 1024).2.1 65536).2.1 1152921504606846976).2.2 ≠ 0
  · rw [if_pos h3]; exact ⟨Nat.le_refl _, hp, fun _ => rfl⟩
  rw [if_neg h3]
  by_cases h4 : (rt xs p 1024).1 = [] ∨ (ri xs (rt xs (rt xs p 1024).2.1 65536).2.1 1152921504606846976).1 = 0
  · rw [if_pos h4]; exact ⟨Nat.le_refl _, hp, fun _ => rfl⟩
  rw [if_neg h4]; exact ⟨by simp only; omega, v4, fun h => absurd rfl h⟩
theorem rdR (g : Nat) (a : Option Addr) (L c : Nat) (xs : List Int) (e : Int) (p : Nat) (hx : Bytes xs) (hL : xs.length = L) (hp : p ≤ L) : ∃ (key val : ByteArray) (ver e' : Int) (p' : Nat), RDo 31 [] g a L c xs e p (.agg #[.string key, .string val, .int .i64 ver]) e' p' ∧ (e' = 0 → wre key val ver = 0 ∧ xs.take p' = xs.take p ++ rowB key val ver) := by
  by_cases he : e = 0
  · subst he
    obtain ⟨b1, b2, b3⟩ := rr_bd hx p (by omega)
    exact ⟨strOfNums (rr xs p).1.1, strOfNums (rr xs p).1.2.1, (rr xs p).1.2.2, (rr xs p).2.2, (rr xs p).2.1, ⟨fun W h => row_ok g a L c xs p W h, b3, b1, by omega⟩, fun h => ⟨(rr_again hx p h).2, (rr_again hx p h).1⟩⟩
  · exact ⟨strOfNums [], strOfNums [], 0, e, p, ⟨fun W h => row_no g a L c xs e p W h (by simp [he]), fun _ => rfl, Nat.le_refl _, hp⟩, fun h => absurd h he⟩
theorem wre_bd {key val : ByteArray} {ver : Int} (h : wre key val ver = 0) : key.size ≤ 1024 ∧ val.size ≤ 65536 ∧ ver ≤ 1152921504606846976 ∧ 1 ≤ ver := by
  unfold wre at h
  split at h
  · omega
  · split at h <;> omega
theorem wadd0 (ys zs : List Int) : wadd 0 ys zs = ys ++ zs := by unfold wadd; rw [if_pos rfl]
theorem same_t (a b : Option Addr) (la ca lb cb : Nat) (xs : List Int) (w : World) (h1 : Seg .u8 w a la xs) (h2 : Seg .u8 w b lb xs) (hx : Bytes xs) :
    Calls Try.prog 12 #[.slice a la ca, .slice b lb cb] w fun e w' => e = .returned (.bool true) ∧ w' = w := by
  have := same_c a b la ca lb cb xs xs w h1 h2 hx hx
  rw [decide_eq_true rfl] at this
  exact this
theorem seg_pre {B : Nat} {w W : World} {a : Option Addr} {len p : Nat} {xs : List Int} (hl : xs.length = len) (hB : B = w.heap.size) (h : Seg .u8 w a len xs) (hb : Below B w W) (hp : p ≤ len) : Seg .u8 W a p (xs.take p) := by
  have h' := h.below (by rw [← hB]; exact hb)
  refine ⟨by rw [List.length_take]; omega, ?_⟩
  rcases h'.2 with h0 | ⟨b, off, ha, hlt, hc⟩
  · exact .inl (by omega)
  · exact .inr ⟨b, off, ha, hlt, fun i hi => by rw [hc i (by omega), List.getElem?_take_of_lt hi]⟩
set_option maxRecDepth 20000 in
set_option maxHeartbeats 8000000 in
theorem walk (a0 : Option Addr) (len0 cap0 : Nat) (z0 : List Int) (a1 : Option Addr) (n1 cap1 : Nat) (X1 : List OpD) (w : World) (x0 : IsRow .u8 1048576 w a0 len0 cap0 z0) (x1 : Ops w a1 n1 X1) (lc1 : n1 ≤ cap1) (cm1 : cap1 ≤ maxLen) (nz1 : a1 = none → cap1 = 0) (y1 : opsWeight X1 ≤ 1048576) :
    Calls Try.prog 5 #[.slice a0 len0 cap0, .slice a1 n1 cap1] w fun e w' => e = .returned (.bool true) ∧ Below w.heap.size w w' := by
  obtain ⟨sg0, hlc0, hcr0, hwf0⟩ := seg_of_row x0
  have HSG : Hid (Seg .u8 w a0 len0 (z0.take len0) ∧ Bytes (z0.take len0) ∧ (a0 = none → cap0 = 0)) := ⟨sg0, fun i hi => wf_u8 (hwf0 i hi), fun e => by rcases x0 with ⟨_, _, h, _⟩ | ⟨x, h, _⟩; exact h; rw [e] at h; cases h⟩
  obtain ⟨xs, hxs⟩ : ∃ xs, xs = z0.take len0 := ⟨_, rfl⟩
  rw [← hxs] at HSG
  have HXL : Hid (xs.length = len0) := HSG.out.1.1
  have HO : Hid (Ops w a1 n1 X1) := x1
  have HN1 : Hid ((n1 : Int) ≤ 9223372036854775807) := by unfold maxLen at cm1; show _ ≤ _; omega
  have HL0 : Hid (len0 ≤ 1048576 ∧ len0 ≤ cap0 ∧ cap0 ≤ 1048576) := ⟨by omega, hlc0, hcr0⟩
  obtain ⟨B, hB⟩ : ∃ B, B = w.heap.size := ⟨_, rfl⟩
  have HBW : Hid (B = w.heap.size) := hB
  clear x0 x1 lc1 cm1 nz1 y1 sg0 hlc0 hcr0 hwf0 hxs
  have heq : ((len0 : Int) != (len0 : Int)) = false := by simp
  go_enter Try.func5, Try.ntmps5
  go_wp2_with fail
  rw [← hB]
  generalize hW1 : World.alloc w _ = W1
  have H1 : Hid (WS W1 B [] 0 [] ∧ w.grownBy W1 none ∧ B < W1.heap.size) := by rw [← hW1]; exact begin_ws w B hB
  clear hW1 hB
  refine (new_c2 a0 len0 cap0 xs W1 (HSG.out.1.grew H1.out.2.1 (by simp)) HSG.out.2.1 (by have := HL0.out.1; omega) HSG.out.2.2).mono ?_
  rintro r w2 ⟨g, A, c, rfl, h1, h2, h3, h4⟩
  have H2 : Hid (PQ B w w2 g A len0 c xs 0 0 0) := ⟨[], h1, H1.out.1.new h4, by simp, by have := H1.out.2.2; omega, fun b o s e => by have := (h3 b o s e).1; have := H1.out.2.2; omega, by simp, by have := H1.out.2.2; omega, by rw [HBW.out]; exact (Below.refl _ _).grown (gb_trans H1.out.2.1 h4) (Nat.le_refl _) (fun k hk => by cases hk), by have := H1.out.2.2; have := h4.size; omega, fun b o s e => (h3 b o s e).2⟩
  clear h1 h2 h3 h4 H1
  go_wp2_with (first
    | (go_at_call 23; go_must (refine (left_c g 0 A len0 c 0 w2 H2.out.rs.rdr (by omega) H2.out.rs.lm).mono ?_); rintro r w3 ⟨rfl, m, rfl⟩))
  have H3 : Hid (PQ B w (w2.drewN m) g A len0 c xs 0 0 0) := H2.out.new (gb_drewN (World.grownBy.refl _ _) m)
  generalize World.drewN w2 m = w3 at H3
  clear H2
  go_wp2
  go_loopw [25] (fun i wr => ∃ (k p : Nat) (e : Int), k ≤ n1 ∧ i = .int .i64 k ∧ Hid (PQ B w wr g A len0 c xs e p p)) (fun i _ => n1 - (intOf i).toNat)
  case atStart => exact ⟨0, 0, 0, Nat.zero_le _, rfl, H3⟩
  case round =>
    obtain ⟨k, p, e, hk, rfl, hr⟩ := hrel
    clear H3
    have hpL := hr.out.rs.le
    have hLb := HL0.out.1
    by_cases hlt : k < n1
    · obtain ⟨N, hN⟩ : ∃ N, N = wr.heap.size := ⟨_, rfl⟩
      obtain ⟨b, off, o, rfl, hbw, hxo, hok, hrg⟩ := HO.out.at_ k hlt
      have HOK : Hid o.Ok := hok
      have HRG : Hid (wr.rangeAt b (off + k * 41) o.cells) := fun j v hv => by
        exact (hr.out.bel.1.cell (p := ⟨b, off + k * 41 + j, none⟩) (by rw [HBW.out]; exact hbw)).trans (hrg j v hv)
      have HOL : Hid (o.cells.length = 41) := OpD.cells_length o hok
      have HNG : Hid (N ≠ g ∧ N ≠ B) := ⟨by have := lt_of_block hr.out.rs.rdr; omega, by obtain ⟨fs, _, h2, _⟩ := hr.out; have := h2.lt; omega⟩
      have HMO : Hid (o.most ≤ 9223372036854775807) := by have := bounds_i64 hok.most; show _ ≤ _; omega
      have HWX : Hid (Bytes xs ∧ xs.length = len0) := ⟨HSG.out.2.1, HXL.out⟩
      clear hxo hok hrg hbw
      have hk1 : (k : Int) < n1 := by omega
      have hn1 := HN1.out
      have hpp : ((p : Int) != (p : Int)) = false := by simp
      have hplt : ¬ (p : Int) < (p : Int) := by omega
      by_cases h0 : o.call = 0
      · have t0 : (o.call == 0) = true := by simp [h0]
        obtain ⟨v, e', p', hdo, hok⟩ := rd0 g A len0 c xs e p HWX.out.1 HWX.out.2 hpL
        have HDO : Hid _ := hdo
        have HOKK : Hid _ := hok
        have hep := hdo.2.1
        have HP3 : Hid (p ≤ p' ∧ p' ≤ len0) := hdo.2.2
        have HER : Hid (∀ W, PQ B w W g A len0 c xs e' p' p → Calls Try.prog 26 #[.pointer (some ⟨g, 0, none⟩)] W fun r w' => r = .returned (.int .i64 e') ∧ w' = W) := fun W h => err_c g e' _ _ W h.rs.rdr
        have HAT : Hid (∀ W e p q, PQ B w W g A len0 c xs e p q → Calls Try.prog 24 #[.pointer (some ⟨g, 0, none⟩)] W fun r w' => r = .returned (.int .i64 (p : Int)) ∧ w' = W) := fun W e p q h => at_c g e _ p W h.rs.rdr
        clear hdo hok
        by_cases he : e' = 0
        · subst he
          have hlt2 : ¬ (p' : Int) < (p : Int) := by have := HP3.out.1; omega
          have HY : Hid _ := HOKK.out rfl
          clear hep
          go_wp2_with (first
            | (refine wpList_load_mid rfl 49 (.tmp 27) rfl b (off + k * 41) rfl o.cells _ HRG.out Try.underlying49 rfl (by rw [HOL.out]; exact infoOp41) ?_)
            | (refine wpList_store_bk 49 rfl (.tmp 8) (.tmp 28) rfl infoOp41 wr.heap.size _ o.cells.toArray rfl rfl (heap_new wr _) rfl (by rw [List.size_toArray]; exact HOL.out) (cells_one o) ?_; intro w6 h1 h2; rw [← hN] at h1 h2 ⊢; have H6 : Hid (Bk 49 w6 N o.cells.toArray ∧ PQ B w w6 g A len0 c xs e p p) := ⟨h1, hr.out.new (gb_newer (World.grownBy_alloc _ _ _) h2 (Nat.le_of_eq hN.symm))⟩; have c0 := Bk.opcell h1 |>.1;  clear h1 h2 hN)
            | (have z := H6; clear z; (fail_if_success (have z := H7)); go_at_call 24; go_must (refine (HAT.out _ _ _ _ H6.out.2).mono ?_); rintro r w7 ⟨rfl, h1⟩; obtain rfl := h1.symm)
            | (have z := H6; clear z; go_at_call 20; go_must (refine (HDO.out.1 _ H6.out.2.rs).mono ?_); rintro r w7 ⟨rfl, h1, h2⟩; have H7 : Hid (PQ B w w7 g A len0 c xs 0 p' p ∧ Bk 49 w7 N o.cells.toArray) := ⟨H6.out.2.read h1 h2, bk_stay H6.out.1 h2 HNG.out.1⟩; clear h1 h2)
            | (have z := H7; clear z; (fail_if_success (have z := H8)); go_at_call 26; go_must (refine (HER.out _ H7.out.1).mono ?_); rintro r w8 ⟨rfl, h1⟩; obtain rfl := h1.symm)
            | (go_at_call 15; go_must (refine (PQ.write H7.out.1 (fun fs h => by have := wuint_c B (xs.take p) 0 v fs _ h HY.out.1 HY.out.2.1 (by rw [List.length_take]; omega); rw [wadd0] at this; exact this) (by rw [HY.out.2.2])).mono ?_); rintro r w8 ⟨rfl, h1⟩; have H8 : Hid (PQ B w w8 g A len0 c xs 0 p' p') := h1; clear h1)
            | (have z := H8; clear z; go_at_call 24; go_must (refine (HAT.out _ _ _ _ H8.out).mono ?_); rintro r w9 ⟨rfl, h1⟩; obtain rfl := h1.symm)
            | (have z := H8; clear z; go_at_call 26; go_must (refine (err_c g 0 _ _ _ H8.out.rs.rdr).mono ?_); rintro r w9 ⟨rfl, h1⟩; obtain rfl := h1.symm))
          have HFF : Hid (Hid (PQ B w w8 g A len0 c xs 0 p' p')) := H8.out
          go_roundw
          case rel => first | exact ⟨k + 1, p', 0, by omega, by go_num, HFF.out⟩ | ((repeat apply Exists.intro); exact ⟨⟨k + 1, p', 0, by omega, by go_num, HFF.out⟩, rfl⟩)
          case measure => simp [intOf]; omega
        · obtain rfl := (hep he).symm
          have he1 : (e' == 0) = false := by simp [he]
          have he2 : (e' != 0) = true := by simp [he]
          clear hep
          go_wp2_with (first
            | (refine wpList_load_mid rfl 49 (.tmp 27) rfl b (off + k * 41) rfl o.cells _ HRG.out Try.underlying49 rfl (by rw [HOL.out]; exact infoOp41) ?_)
            | (refine wpList_store_bk 49 rfl (.tmp 8) (.tmp 28) rfl infoOp41 wr.heap.size _ o.cells.toArray rfl rfl (heap_new wr _) rfl (by rw [List.size_toArray]; exact HOL.out) (cells_one o) ?_; intro w6 h1 h2; rw [← hN] at h1 h2 ⊢; have H6 : Hid (Bk 49 w6 N o.cells.toArray ∧ PQ B w w6 g A len0 c xs e p p) := ⟨h1, hr.out.new (gb_newer (World.grownBy_alloc _ _ _) h2 (Nat.le_of_eq hN.symm))⟩; have c0 := Bk.opcell h1 |>.1;  clear h1 h2 hN)
            | (have z := H6; clear z; (fail_if_success (have z := H7)); go_at_call 24; go_must (refine (HAT.out _ _ _ _ H6.out.2).mono ?_); rintro r w7 ⟨rfl, h1⟩; obtain rfl := h1.symm)
            | (have z := H6; clear z; go_at_call 20; go_must (refine (HDO.out.1 _ H6.out.2.rs).mono ?_); rintro r w7 ⟨rfl, h1, h2⟩; have H7 : Hid (PQ B w w7 g A len0 c xs e' p p ∧ Bk 49 w7 N o.cells.toArray) := ⟨H6.out.2.read h1 h2, bk_stay H6.out.1 h2 HNG.out.1⟩; clear h1 h2)
            | (have z := H7; clear z; (fail_if_success (have z := H7c)); go_at_call 26; go_must (refine (HER.out _ H7.out.1).mono ?_); rintro r w8 ⟨rfl, h1⟩; obtain rfl := h1.symm)
            | (have z := H7; clear z; go_at_call 24; go_must (refine (HAT.out _ _ _ _ H7.out.1).mono ?_); rintro r w9 ⟨rfl, h1⟩; obtain rfl := h1.symm))
          have HFF : Hid (Hid (PQ B w _ g A len0 c xs e' p p)) := H7.out.1
          go_roundw
          case rel => first | exact ⟨k + 1, p, e', by omega, by go_num, HFF.out⟩ | ((repeat apply Exists.intro); exact ⟨⟨k + 1, p, e', by omega, by go_num, HFF.out⟩, rfl⟩)
          case measure => simp [intOf]; omega
      by_cases h2 : o.call = 2
      · have t2 : (o.call == 2) = true := by simp [h2]
        have t0 : (o.call == 0) = false := by simp [h0]
        obtain ⟨v, e', p', hdo, hok⟩ := rdT g A len0 c xs e p o.most HMO.out HWX.out.1 HWX.out.2 hpL
        have HDO : Hid _ := hdo
        have HOKK : Hid _ := hok
        have hep := hdo.2.1
        have HP3 : Hid (p ≤ p' ∧ p' ≤ len0) := hdo.2.2
        have HER : Hid (∀ W, PQ B w W g A len0 c xs e' p' p → Calls Try.prog 26 #[.pointer (some ⟨g, 0, none⟩)] W fun r w' => r = .returned (.int .i64 e') ∧ w' = W) := fun W h => err_c g e' _ _ W h.rs.rdr
        have HAT : Hid (∀ W e p q, PQ B w W g A len0 c xs e p q → Calls Try.prog 24 #[.pointer (some ⟨g, 0, none⟩)] W fun r w' => r = .returned (.int .i64 (p : Int)) ∧ w' = W) := fun W e p q h => at_c g e _ p W h.rs.rdr
        clear hdo hok
        by_cases he : e' = 0
        · subst he
          have hlt2 : ¬ (p' : Int) < (p : Int) := by have := HP3.out.1; omega
          have HY : Hid _ := HOKK.out rfl
          clear hep
          go_wp2_with (first
            | (refine wpList_load_mid rfl 49 (.tmp 27) rfl b (off + k * 41) rfl o.cells _ HRG.out Try.underlying49 rfl (by rw [HOL.out]; exact infoOp41) ?_)
            | (refine wpList_store_bk 49 rfl (.tmp 8) (.tmp 28) rfl infoOp41 wr.heap.size _ o.cells.toArray rfl rfl (heap_new wr _) rfl (by rw [List.size_toArray]; exact HOL.out) (cells_one o) ?_; intro w6 h1 h2; rw [← hN] at h1 h2 ⊢; have H6 : Hid (Bk 49 w6 N o.cells.toArray ∧ PQ B w w6 g A len0 c xs e p p) := ⟨h1, hr.out.new (gb_newer (World.grownBy_alloc _ _ _) h2 (Nat.le_of_eq hN.symm))⟩; have c0 := Bk.opcell h1 |>.1; have c3 := H6.out.1.opcell.2.2.2.1;  clear h1 h2 hN)
            | (have z := H6; clear z; (fail_if_success (have z := H7)); go_at_call 24; go_must (refine (HAT.out _ _ _ _ H6.out.2).mono ?_); rintro r w7 ⟨rfl, h1⟩; obtain rfl := h1.symm)
            | (have z := H6; clear z; go_at_call 27; go_must (refine (HDO.out.1 _ H6.out.2.rs).mono ?_); rintro r w7 ⟨rfl, h1, h2⟩; have H7 : Hid (PQ B w w7 g A len0 c xs 0 p' p ∧ Bk 49 w7 N o.cells.toArray) := ⟨H6.out.2.read h1 h2, bk_stay H6.out.1 h2 HNG.out.1⟩; have d3 := H7.out.2.opcell.2.2.2.1; clear h1 h2)
            | (have z := H7; clear z; (fail_if_success (have z := H8)); go_at_call 26; go_must (refine (HER.out _ H7.out.1).mono ?_); rintro r w8 ⟨rfl, h1⟩; obtain rfl := h1.symm)
            | (go_at_call 28; go_must (refine (PQ.write H7.out.1 (fun fs h => by have := wtext_c B (xs.take p) 0 v o.most fs _ h (by have := HY.out.2.1; omega) (by rw [List.length_take]; have := HY.out.2.1; omega); rw [HY.out.1, ferr_start, wadd0] at this; exact this) (by rw [HY.out.2.2])).mono ?_); rintro r w8 ⟨rfl, h1⟩; have H8 : Hid (PQ B w w8 g A len0 c xs 0 p' p') := h1; clear h1)
            | (have z := H8; clear z; go_at_call 24; go_must (refine (HAT.out _ _ _ _ H8.out).mono ?_); rintro r w9 ⟨rfl, h1⟩; obtain rfl := h1.symm)
            | (have z := H8; clear z; go_at_call 26; go_must (refine (err_c g 0 _ _ _ H8.out.rs.rdr).mono ?_); rintro r w9 ⟨rfl, h1⟩; obtain rfl := h1.symm))
          have HFF : Hid (Hid (PQ B w w8 g A len0 c xs 0 p' p')) := H8.out
          go_roundw
          case rel => first | exact ⟨k + 1, p', 0, by omega, by go_num, HFF.out⟩ | ((repeat apply Exists.intro); exact ⟨⟨k + 1, p', 0, by omega, by go_num, HFF.out⟩, rfl⟩)
          case measure => simp [intOf]; omega
        · obtain rfl := (hep he).symm
          have he1 : (e' == 0) = false := by simp [he]
          have he2 : (e' != 0) = true := by simp [he]
          clear hep
          go_wp2_with (first
            | (refine wpList_load_mid rfl 49 (.tmp 27) rfl b (off + k * 41) rfl o.cells _ HRG.out Try.underlying49 rfl (by rw [HOL.out]; exact infoOp41) ?_)
            | (refine wpList_store_bk 49 rfl (.tmp 8) (.tmp 28) rfl infoOp41 wr.heap.size _ o.cells.toArray rfl rfl (heap_new wr _) rfl (by rw [List.size_toArray]; exact HOL.out) (cells_one o) ?_; intro w6 h1 h2; rw [← hN] at h1 h2 ⊢; have H6 : Hid (Bk 49 w6 N o.cells.toArray ∧ PQ B w w6 g A len0 c xs e p p) := ⟨h1, hr.out.new (gb_newer (World.grownBy_alloc _ _ _) h2 (Nat.le_of_eq hN.symm))⟩; have c0 := Bk.opcell h1 |>.1; have c3 := H6.out.1.opcell.2.2.2.1;  clear h1 h2 hN)
            | (have z := H6; clear z; (fail_if_success (have z := H7)); go_at_call 24; go_must (refine (HAT.out _ _ _ _ H6.out.2).mono ?_); rintro r w7 ⟨rfl, h1⟩; obtain rfl := h1.symm)
            | (have z := H6; clear z; go_at_call 27; go_must (refine (HDO.out.1 _ H6.out.2.rs).mono ?_); rintro r w7 ⟨rfl, h1, h2⟩; have H7 : Hid (PQ B w w7 g A len0 c xs e' p p ∧ Bk 49 w7 N o.cells.toArray) := ⟨H6.out.2.read h1 h2, bk_stay H6.out.1 h2 HNG.out.1⟩; have d3 := H7.out.2.opcell.2.2.2.1; clear h1 h2)
            | (have z := H7; clear z; (fail_if_success (have z := H7c)); go_at_call 26; go_must (refine (HER.out _ H7.out.1).mono ?_); rintro r w8 ⟨rfl, h1⟩; obtain rfl := h1.symm)
            | (have z := H7; clear z; go_at_call 24; go_must (refine (HAT.out _ _ _ _ H7.out.1).mono ?_); rintro r w9 ⟨rfl, h1⟩; obtain rfl := h1.symm))
          have HFF : Hid (Hid (PQ B w _ g A len0 c xs e' p p)) := H7.out.1
          go_roundw
          case rel => first | exact ⟨k + 1, p, e', by omega, by go_num, HFF.out⟩ | ((repeat apply Exists.intro); exact ⟨⟨k + 1, p, e', by omega, by go_num, HFF.out⟩, rfl⟩)
          case measure => simp [intOf]; omega
      by_cases h3 : o.call = 3
      · have t3 : (o.call == 3) = true := by simp [h3]
        have t0 : (o.call == 0) = false := by simp [h0]
        have t2 : (o.call == 2) = false := by simp [h2]
        obtain ⟨v, e', p', hdo, hok⟩ := rdF g A len0 c xs e p HWX.out.1 HWX.out.2 hpL
        have HDO : Hid _ := hdo
        have HOKK : Hid _ := hok
        have hep := hdo.2.1
        have HP3 : Hid (p ≤ p' ∧ p' ≤ len0) := hdo.2.2
        have HER : Hid (∀ W, PQ B w W g A len0 c xs e' p' p → Calls Try.prog 26 #[.pointer (some ⟨g, 0, none⟩)] W fun r w' => r = .returned (.int .i64 e') ∧ w' = W) := fun W h => err_c g e' _ _ W h.rs.rdr
        have HAT : Hid (∀ W e p q, PQ B w W g A len0 c xs e p q → Calls Try.prog 24 #[.pointer (some ⟨g, 0, none⟩)] W fun r w' => r = .returned (.int .i64 (p : Int)) ∧ w' = W) := fun W e p q h => at_c g e _ p W h.rs.rdr
        clear hdo hok
        by_cases he : e' = 0
        · subst he
          have hlt2 : ¬ (p' : Int) < (p : Int) := by have := HP3.out.1; omega
          have HY : Hid _ := HOKK.out rfl
          clear hep
          go_wp2_with (first
            | (refine wpList_load_mid rfl 49 (.tmp 27) rfl b (off + k * 41) rfl o.cells _ HRG.out Try.underlying49 rfl (by rw [HOL.out]; exact infoOp41) ?_)
            | (refine wpList_store_bk 49 rfl (.tmp 8) (.tmp 28) rfl infoOp41 wr.heap.size _ o.cells.toArray rfl rfl (heap_new wr _) rfl (by rw [List.size_toArray]; exact HOL.out) (cells_one o) ?_; intro w6 h1 h2; rw [← hN] at h1 h2 ⊢; have H6 : Hid (Bk 49 w6 N o.cells.toArray ∧ PQ B w w6 g A len0 c xs e p p) := ⟨h1, hr.out.new (gb_newer (World.grownBy_alloc _ _ _) h2 (Nat.le_of_eq hN.symm))⟩; have c0 := Bk.opcell h1 |>.1;  clear h1 h2 hN)
            | (have z := H6; clear z; (fail_if_success (have z := H7)); go_at_call 24; go_must (refine (HAT.out _ _ _ _ H6.out.2).mono ?_); rintro r w7 ⟨rfl, h1⟩; obtain rfl := h1.symm)
            | (have z := H6; clear z; go_at_call 29; go_must (refine (HDO.out.1 _ H6.out.2.rs).mono ?_); rintro r w7 ⟨rfl, h1, h2⟩; have H7 : Hid (PQ B w w7 g A len0 c xs 0 p' p ∧ Bk 49 w7 N o.cells.toArray) := ⟨H6.out.2.read h1 h2, bk_stay H6.out.1 h2 HNG.out.1⟩; clear h1 h2)
            | (have z := H7; clear z; (fail_if_success (have z := H8)); go_at_call 26; go_must (refine (HER.out _ H7.out.1).mono ?_); rintro r w8 ⟨rfl, h1⟩; obtain rfl := h1.symm)
            | (go_at_call 30; go_must (refine (PQ.write H7.out.1 (fun fs h => by have := wflag_c B (xs.take p) 0 v fs _ h (by rw [List.length_take]; omega); rw [wadd0] at this; exact this) (by rw [HY.out])).mono ?_); rintro r w8 ⟨rfl, h1⟩; have H8 : Hid (PQ B w w8 g A len0 c xs 0 p' p') := h1; clear h1)
            | (have z := H8; clear z; go_at_call 24; go_must (refine (HAT.out _ _ _ _ H8.out).mono ?_); rintro r w9 ⟨rfl, h1⟩; obtain rfl := h1.symm)
            | (have z := H8; clear z; go_at_call 26; go_must (refine (err_c g 0 _ _ _ H8.out.rs.rdr).mono ?_); rintro r w9 ⟨rfl, h1⟩; obtain rfl := h1.symm))
          have HFF : Hid (Hid (PQ B w w8 g A len0 c xs 0 p' p')) := H8.out
          go_roundw
          case rel => first | exact ⟨k + 1, p', 0, by omega, by go_num, HFF.out⟩ | ((repeat apply Exists.intro); exact ⟨⟨k + 1, p', 0, by omega, by go_num, HFF.out⟩, rfl⟩)
          case measure => simp [intOf]; omega
        · obtain rfl := (hep he).symm
          have he1 : (e' == 0) = false := by simp [he]
          have he2 : (e' != 0) = true := by simp [he]
          clear hep
          go_wp2_with (first
            | (refine wpList_load_mid rfl 49 (.tmp 27) rfl b (off + k * 41) rfl o.cells _ HRG.out Try.underlying49 rfl (by rw [HOL.out]; exact infoOp41) ?_)
            | (refine wpList_store_bk 49 rfl (.tmp 8) (.tmp 28) rfl infoOp41 wr.heap.size _ o.cells.toArray rfl rfl (heap_new wr _) rfl (by rw [List.size_toArray]; exact HOL.out) (cells_one o) ?_; intro w6 h1 h2; rw [← hN] at h1 h2 ⊢; have H6 : Hid (Bk 49 w6 N o.cells.toArray ∧ PQ B w w6 g A len0 c xs e p p) := ⟨h1, hr.out.new (gb_newer (World.grownBy_alloc _ _ _) h2 (Nat.le_of_eq hN.symm))⟩; have c0 := Bk.opcell h1 |>.1;  clear h1 h2 hN)
            | (have z := H6; clear z; (fail_if_success (have z := H7)); go_at_call 24; go_must (refine (HAT.out _ _ _ _ H6.out.2).mono ?_); rintro r w7 ⟨rfl, h1⟩; obtain rfl := h1.symm)
            | (have z := H6; clear z; go_at_call 29; go_must (refine (HDO.out.1 _ H6.out.2.rs).mono ?_); rintro r w7 ⟨rfl, h1, h2⟩; have H7 : Hid (PQ B w w7 g A len0 c xs e' p p ∧ Bk 49 w7 N o.cells.toArray) := ⟨H6.out.2.read h1 h2, bk_stay H6.out.1 h2 HNG.out.1⟩; clear h1 h2)
            | (have z := H7; clear z; (fail_if_success (have z := H7c)); go_at_call 26; go_must (refine (HER.out _ H7.out.1).mono ?_); rintro r w8 ⟨rfl, h1⟩; obtain rfl := h1.symm)
            | (have z := H7; clear z; go_at_call 24; go_must (refine (HAT.out _ _ _ _ H7.out.1).mono ?_); rintro r w9 ⟨rfl, h1⟩; obtain rfl := h1.symm))
          have HFF : Hid (Hid (PQ B w _ g A len0 c xs e' p p)) := H7.out.1
          go_roundw
          case rel => first | exact ⟨k + 1, p, e', by omega, by go_num, HFF.out⟩ | ((repeat apply Exists.intro); exact ⟨⟨k + 1, p, e', by omega, by go_num, HFF.out⟩, rfl⟩)
          case measure => simp [intOf]; omega
      by_cases h5 : o.call = 5
      · have t5 : (o.call == 5) = true := by simp [h5]
        have t0 : (o.call == 0) = false := by simp [h0]
        have t2 : (o.call == 2) = false := by simp [h2]
        have t3 : (o.call == 3) = false := by simp [h3]
        obtain ⟨key, val, ver, e', p', hdo, hok⟩ := rdR g A len0 c xs e p HWX.out.1 HWX.out.2 hpL
        have HDO : Hid _ := hdo
        have HOKK : Hid _ := hok
        have hep := hdo.2.1
        have HP3 : Hid (p ≤ p' ∧ p' ≤ len0) := hdo.2.2
        have HER : Hid (∀ W, PQ B w W g A len0 c xs e' p' p → Calls Try.prog 26 #[.pointer (some ⟨g, 0, none⟩)] W fun r w' => r = .returned (.int .i64 e') ∧ w' = W) := fun W h => err_c g e' _ _ W h.rs.rdr
        have HAT : Hid (∀ W e p q, PQ B w W g A len0 c xs e p q → Calls Try.prog 24 #[.pointer (some ⟨g, 0, none⟩)] W fun r w' => r = .returned (.int .i64 (p : Int)) ∧ w' = W) := fun W e p q h => at_c g e _ p W h.rs.rdr
        clear hdo hok
        by_cases he : e' = 0
        · subst he
          have hlt2 : ¬ (p' : Int) < (p : Int) := by have := HP3.out.1; omega
          have HY : Hid _ := HOKK.out rfl
          clear hep
          go_wp2_with (first
            | (refine wpList_load_mid rfl 49 (.tmp 27) rfl b (off + k * 41) rfl o.cells _ HRG.out Try.underlying49 rfl (by rw [HOL.out]; exact infoOp41) ?_)
            | (refine wpList_store_bk 49 rfl (.tmp 8) (.tmp 28) rfl infoOp41 wr.heap.size _ o.cells.toArray rfl rfl (heap_new wr _) rfl (by rw [List.size_toArray]; exact HOL.out) (cells_one o) ?_; intro w6 h1 h2; rw [← hN] at h1 h2 ⊢; have H6 : Hid (Bk 49 w6 N o.cells.toArray ∧ PQ B w w6 g A len0 c xs e p p) := ⟨h1, hr.out.new (gb_newer (World.grownBy_alloc _ _ _) h2 (Nat.le_of_eq hN.symm))⟩; have c0 := Bk.opcell h1 |>.1;  clear h1 h2 hN)
            | (have z := H6; clear z; (fail_if_success (have z := H7)); go_at_call 24; go_must (refine (HAT.out _ _ _ _ H6.out.2).mono ?_); rintro r w7 ⟨rfl, h1⟩; obtain rfl := h1.symm)
            | (have z := H6; clear z; go_at_call 31; go_must (refine (HDO.out.1 _ H6.out.2.rs).mono ?_); rintro r w7 ⟨rfl, h1, h2⟩; have H7 : Hid (PQ B w w7 g A len0 c xs 0 p' p ∧ Bk 49 w7 N o.cells.toArray) := ⟨H6.out.2.read h1 h2, bk_stay H6.out.1 h2 HNG.out.1⟩; clear h1 h2)
            | (have z := H7; clear z; (fail_if_success (have z := H8)); go_at_call 26; have H7b : Hid (PQ B w (w7.alloc (.cells #[.string key, .string val, .int .i64 ver] 47)) g A len0 c xs 0 p' p ∧ True) := ⟨H7.out.1.new (World.grownBy_alloc _ _ _), trivial⟩; go_must (refine (HER.out _ H7b.out.1).mono ?_); rintro r w8 ⟨rfl, h1⟩; obtain rfl := h1.symm)
            | (go_at_call 32; go_must (refine (PQ.write H7b.out.1 (fun fs h => by have hb := wre_bd HY.out.1; have := wrow_c B (xs.take p) 0 key val ver fs _ h (by omega) (by omega) (by omega) (by rw [List.length_take]; omega); rw [HY.out.1, ferr_start, wadd0] at this; exact this) (by rw [HY.out.2])).mono ?_); rintro r w8 ⟨rfl, h1⟩; have H8 : Hid (PQ B w w8 g A len0 c xs 0 p' p') := h1; clear h1)
            | (have z := H8; clear z; go_at_call 24; go_must (refine (HAT.out _ _ _ _ H8.out).mono ?_); rintro r w9 ⟨rfl, h1⟩; obtain rfl := h1.symm)
            | (have z := H8; clear z; go_at_call 26; go_must (refine (err_c g 0 _ _ _ H8.out.rs.rdr).mono ?_); rintro r w9 ⟨rfl, h1⟩; obtain rfl := h1.symm))
          have HFF : Hid (Hid (PQ B w w8 g A len0 c xs 0 p' p')) := H8.out
          go_roundw
          case rel => first | exact ⟨k + 1, p', 0, by omega, by go_num, HFF.out⟩ | ((repeat apply Exists.intro); exact ⟨⟨k + 1, p', 0, by omega, by go_num, HFF.out⟩, rfl⟩)
          case measure => simp [intOf]; omega
        · obtain rfl := (hep he).symm
          have he1 : (e' == 0) = false := by simp [he]
          have he2 : (e' != 0) = true := by simp [he]
          clear hep
          go_wp2_with (first
            | (refine wpList_load_mid rfl 49 (.tmp 27) rfl b (off + k * 41) rfl o.cells _ HRG.out Try.underlying49 rfl (by rw [HOL.out]; exact infoOp41) ?_)
            | (refine wpList_store_bk 49 rfl (.tmp 8) (.tmp 28) rfl infoOp41 wr.heap.size _ o.cells.toArray rfl rfl (heap_new wr _) rfl (by rw [List.size_toArray]; exact HOL.out) (cells_one o) ?_; intro w6 h1 h2; rw [← hN] at h1 h2 ⊢; have H6 : Hid (Bk 49 w6 N o.cells.toArray ∧ PQ B w w6 g A len0 c xs e p p) := ⟨h1, hr.out.new (gb_newer (World.grownBy_alloc _ _ _) h2 (Nat.le_of_eq hN.symm))⟩; have c0 := Bk.opcell h1 |>.1;  clear h1 h2 hN)
            | (have z := H6; clear z; (fail_if_success (have z := H7)); go_at_call 24; go_must (refine (HAT.out _ _ _ _ H6.out.2).mono ?_); rintro r w7 ⟨rfl, h1⟩; obtain rfl := h1.symm)
            | (have z := H6; clear z; go_at_call 31; go_must (refine (HDO.out.1 _ H6.out.2.rs).mono ?_); rintro r w7 ⟨rfl, h1, h2⟩; have H7 : Hid (PQ B w w7 g A len0 c xs e' p p ∧ Bk 49 w7 N o.cells.toArray) := ⟨H6.out.2.read h1 h2, bk_stay H6.out.1 h2 HNG.out.1⟩; clear h1 h2)
            | (have z := H7; clear z; (fail_if_success (have z := H7c)); go_at_call 26; have H7b : Hid (PQ B w (w7.alloc (.cells #[.string key, .string val, .int .i64 ver] 47)) g A len0 c xs e' p p ∧ True) := ⟨H7.out.1.new (World.grownBy_alloc _ _ _), trivial⟩; go_must (refine (HER.out _ H7b.out.1).mono ?_); rintro r w8 ⟨rfl, h1⟩; obtain rfl := h1.symm)
            | (have z := H7; clear z; go_at_call 24; go_must (refine (HAT.out _ _ _ _ H7b.out.1).mono ?_); rintro r w9 ⟨rfl, h1⟩; obtain rfl := h1.symm))
          have HFF : Hid (Hid (PQ B w _ g A len0 c xs e' p p)) := H7b.out.1
          go_roundw
          case rel => first | exact ⟨k + 1, p, e', by omega, by go_num, HFF.out⟩ | ((repeat apply Exists.intro); exact ⟨⟨k + 1, p, e', by omega, by go_num, HFF.out⟩, rfl⟩)
          case measure => simp [intOf]; omega
      have t0 : (o.call == 0) = false := by simp [h0]
      have t2 : (o.call == 2) = false := by simp [h2]
      have t3 : (o.call == 3) = false := by simp [h3]
      have t5 : (o.call == 5) = false := by simp [h5]
      have HAT : Hid (∀ W, PQ B w W g A len0 c xs e p p → Calls Try.prog 24 #[.pointer (some ⟨g, 0, none⟩)] W fun r w' => r = .returned (.int .i64 (p : Int)) ∧ w' = W) := fun W h => at_c g e _ p W h.rs.rdr
      have HER : Hid (∀ W, PQ B w W g A len0 c xs e p p → Calls Try.prog 26 #[.pointer (some ⟨g, 0, none⟩)] W fun r w' => r = .returned (.int .i64 e) ∧ w' = W) := fun W h => err_c g e _ _ W h.rs.rdr
      by_cases he : e = 0
      · have he2 : (e != 0) = false := by simp [he]
        clear he
        go_wp2_with (first
          | (refine wpList_load_mid rfl 49 (.tmp 27) rfl b (off + k * 41) rfl o.cells _ HRG.out Try.underlying49 rfl (by rw [HOL.out]; exact infoOp41) ?_)
          | (refine wpList_store_bk 49 rfl (.tmp 8) (.tmp 28) rfl infoOp41 wr.heap.size _ o.cells.toArray rfl rfl (heap_new wr _) rfl (by rw [List.size_toArray]; exact HOL.out) (cells_one o) ?_; intro w6 h1 h2; rw [← hN] at h1 h2 ⊢; have H6 : Hid (Bk 49 w6 N o.cells.toArray ∧ PQ B w w6 g A len0 c xs e p p) := ⟨h1, hr.out.new (gb_newer (World.grownBy_alloc _ _ _) h2 (Nat.le_of_eq hN.symm))⟩; have c0 := Bk.opcell h1 |>.1;  clear h1 h2 hN)
          | (have z := H6; clear z; go_at_call 24; go_must (refine (HAT.out _ H6.out.2).mono ?_); rintro r w7 ⟨rfl, h1⟩; obtain rfl := h1.symm)
          | (have z := H6; clear z; go_at_call 26; go_must (refine (HER.out _ H6.out.2).mono ?_); rintro r w7 ⟨rfl, h1⟩; obtain rfl := h1.symm))
        have HFF : Hid (Hid (PQ B w _ g A len0 c xs e p p)) := H6.out.2
        go_roundw
        case rel => first | exact ⟨k + 1, p, e, by omega, by go_num, HFF.out⟩ | ((repeat apply Exists.intro); exact ⟨⟨k + 1, p, e, by omega, by go_num, HFF.out⟩, rfl⟩)
        case measure => simp [intOf]; omega
      · have he2 : (e != 0) = true := by simp [he]
        clear he
        go_wp2_with (first
          | (refine wpList_load_mid rfl 49 (.tmp 27) rfl b (off + k * 41) rfl o.cells _ HRG.out Try.underlying49 rfl (by rw [HOL.out]; exact infoOp41) ?_)
          | (refine wpList_store_bk 49 rfl (.tmp 8) (.tmp 28) rfl infoOp41 wr.heap.size _ o.cells.toArray rfl rfl (heap_new wr _) rfl (by rw [List.size_toArray]; exact HOL.out) (cells_one o) ?_; intro w6 h1 h2; rw [← hN] at h1 h2 ⊢; have H6 : Hid (Bk 49 w6 N o.cells.toArray ∧ PQ B w w6 g A len0 c xs e p p) := ⟨h1, hr.out.new (gb_newer (World.grownBy_alloc _ _ _) h2 (Nat.le_of_eq hN.symm))⟩; have c0 := Bk.opcell h1 |>.1;  clear h1 h2 hN)
          | (have z := H6; clear z; go_at_call 24; go_must (refine (HAT.out _ H6.out.2).mono ?_); rintro r w7 ⟨rfl, h1⟩; obtain rfl := h1.symm)
          | (have z := H6; clear z; go_at_call 26; go_must (refine (HER.out _ H6.out.2).mono ?_); rintro r w7 ⟨rfl, h1⟩; obtain rfl := h1.symm))
        have HFF : Hid (Hid (PQ B w _ g A len0 c xs e p p)) := H6.out.2
        go_roundw
        case rel => first | exact ⟨k + 1, p, e, by omega, by go_num, HFF.out⟩ | ((repeat apply Exists.intro); exact ⟨⟨k + 1, p, e, by omega, by go_num, HFF.out⟩, rfl⟩)
        case measure => simp [intOf]; omega
    · obtain ⟨q, hq⟩ : ∃ q, q = len0 - p := ⟨_, rfl⟩
      have hsum : ((p : Int) + (q : Int) != (len0 : Int)) = false := by simp; omega
      have hb1 : (p : Int) + (q : Int) ≤ 1048576 := by omega
      have hp0 : ¬ (p : Int) < 0 := by omega
      have hq0 : ¬ (q : Int) < 0 := by omega
      have HLF : Hid (∀ W, PQ B w W g A len0 c xs e p p → Calls Try.prog 23 #[.pointer (some ⟨g, 0, none⟩)] W fun r w' => r = .returned (.int .i64 (q : Int)) ∧ ∃ n, w' = W.drewN n) := fun W h => by
        rw [hq]; exact left_c g e A len0 c p W h.rs.rdr h.rs.le h.rs.lm
      have HAT : Hid (∀ W, PQ B w W g A len0 c xs e p p → Calls Try.prog 24 #[.pointer (some ⟨g, 0, none⟩)] W fun r w' => r = .returned (.int .i64 (p : Int)) ∧ w' = W) := fun W h => at_c g e _ p W h.rs.rdr
      have HTL : Hid ((xs.take p).length = p) := by show _ = _; rw [List.length_take, HXL.out]; omega
      have HBY : Hid (∀ W, PQ B w W g A len0 c xs e p p → Calls Try.prog 17 #[.pointer (some ⟨B, 0, none⟩)] W fun r w' => ∃ b, r = .returned (.tuple #[.slice (some ⟨b, 0, none⟩) p p, .int .i64 0]) ∧ W.heap.size ≤ b ∧ Row .u8 5 w' b (xs.take p) ∧ Below W.heap.size W w') := fun W h => by
        obtain ⟨fs, _, h2, _⟩ := h
        have := wbytes_ok B (xs.take p) fs W h2 (by rw [HTL.out]; omega)
        rw [HTL.out] at this
        exact this
      have hpc : (p : Int) ≤ (cap0 : Int) := by have := HL0.out; omega
      have hp00 : (0 : Int) ≤ (p : Int) := by omega
      have hcb : (cap0 : Int) ≤ 1048576 := by have := HL0.out; omega
      clear hq
      go_wp2_with (first
        | ((fail_if_success (have z := H4)); go_at_call 24; go_must (refine (HAT.out _ hr.out).mono ?_); rintro r w4 ⟨rfl, h1⟩; obtain rfl := h1.symm; have H4 : Hid (PQ B w wr g A len0 c xs e p p) := hr.out)
        | (have z := H4; clear z; (fail_if_success (have z := H5)); go_at_call 23; go_must (refine (HLF.out _ H4.out).mono ?_); rintro r w5 ⟨rfl, m1, h1⟩; have H5 : Hid (PQ B w w5 g A len0 c xs e p p) := (by rw [h1]; exact H4.out.new (gb_drewN (World.grownBy.refl _ _) m1)); clear h1)
        | (have z := H5; clear z; go_at_call 24; (fail_if_success (have z := H7)); go_must (refine (HAT.out _ H5.out).mono ?_); rintro r w6 ⟨rfl, h1⟩; obtain rfl := h1.symm)
        | (have z := H5; clear z; (fail_if_success (have z := H6)); go_at_call 23; go_must (refine (HLF.out _ H5.out).mono ?_); rintro r w6 ⟨rfl, m2, h1⟩; have H6 : Hid (PQ B w w6 g A len0 c xs e p p) := (by rw [h1]; exact H5.out.new (gb_drewN (World.grownBy.refl _ _) m2)); clear h1)
        | (have z := H6; clear z; go_at_call 17; go_must (refine (HBY.out _ H6.out).mono ?_); rintro r w7 ⟨b7, rfl, h1, h2, h3⟩; have H7 : Hid (PQ B w w7 g A len0 c xs e p p ∧ Row .u8 5 w7 b7 (xs.take p)) := ⟨H6.out.new (grownBy_below h3 none), h2⟩; clear h1 h2 h3)
        | (have z := H7; clear z; go_at_call 24; go_must (refine (HAT.out _ H7.out.1).mono ?_); rintro r w8 ⟨rfl, h1⟩; obtain rfl := h1.symm)
        | (have z := H7; clear z; go_at_call 12; go_must (refine (same_t (some ⟨b7, 0, none⟩) a0 p p p cap0 (xs.take p) _ (H7.out.2.segAll p HTL.out.symm) (seg_pre HXL.out HBW.out HSG.out.1 H7.out.1.bel.1 hpL) (bytes_take HSG.out.2.1 p)).mono ?_); rintro r w9 ⟨rfl, h1⟩; obtain rfl := h1.symm))
      skip
      go_ret
      exact ⟨rfl, by rw [← HBW.out]; exact H7.out.1.bel.1⟩

theorem bulk_len {H : Type} (l : List (DataW H)) : l.length ≤ Rows.uptoBulkAll l := by
  induction l with
  | nil => simp
  | cons d r ih =>
    have : 1 ≤ Rows.uptoBulk d := by
      cases d with
      | lit x => cases x <;> simp [Rows.uptoBulk]
      | _ => simp [Rows.uptoBulk]
    simp only [Rows.uptoBulkAll, List.length_cons]; omega
theorem bulk_mem {H : Type} {d : DataW H} {l : List (DataW H)} (h : d ∈ l) : Rows.uptoBulk d ≤ Rows.uptoBulkAll l := by
  induction l with
  | nil => cases h
  | cons x r ih =>
    simp only [Rows.uptoBulkAll]
    rcases List.mem_cons.1 h with rfl | h
    · omega
    · have := ih h; omega
theorem bulk_slice {H : Type} {ds : List (DataW H)} {d : DataW H} {l r : List (DataW H)} (hk : Rows.uptoSmall H ds = true) (hd : d ∈ ds) (e : d = .slice l r) : l.length + r.length ≤ 1048576 := by
  have h0 : Rows.uptoBulkAll ds ≤ 1048576 := of_decide_eq_true hk
  have h1 := bulk_mem hd
  have h3 := bulk_len l
  have h4 := bulk_len r
  rw [e] at h1
  simp only [Rows.uptoBulk] at h1
  omega

set_option maxRecDepth 100000 in
theorem lifted (os : Os) (started : os.Started) (H : Type) (enc : TypeId × Value → H) (F : Stop.Interp) :
    ReturnsInHanded {} Try.checked os 5 .any ((Rows.OpenSpec.upto Rows.packAgainSpec).pre6 enc Try.prog Try.f5 Rows.packAgainUptoRow.domain false) (((Rows.OpenSpec.upto Rows.packAgainSpec).at F).post enc Try.prog Try.f5 false true false false) := by
  refine returnsInHanded_of_cond (C := Try.checked) (s := Rows.OpenSpec.upto Rows.packAgainSpec) (k := Rows.uptoSmall) rfl own started (by kernel_rfl) Try.func5
    (OpenSpec.witness (enc := enc) (C := Try.checked) (s := Rows.OpenSpec.upto Rows.packAgainSpec) (k := Rows.uptoSmall) rfl false ⟨#[], #[.slice none 0 0, .slice none 0 0], []⟩ 8 (by kernel_rfl) (by kernel_rfl) (by kernel_rfl)
      (x := ([.nil, .nil], [], [])) (by kernel_rfl) rfl (by kernel_rfl)) ?_
  intro W base args ds gs before hval0 hW hcnd hk _
  have hval : ∀ (j : Nat) t v, Try.f5.params[j]? = some t → args[j]? = some v → Value.okWide Try.prog W .any base t v := hval0
  have hW' := hW
  obtain ⟨p, q, hA0, hV, rfl, hfz, hnd⟩ := hW
  have hA : DataW.TrodAll enc Try.prog W 0 (fun _ => true) true Try.f5.params.toList args.toList ds p := hA0
  rw [Try.params5] at hA hval
  obtain ⟨v0, vs0, d0, ds0, p0, q0, hargs, rfl, rfl, h0, r0⟩ := trodAll_cons hA
  obtain ⟨v1, vs1, d1, ds1, p1, q1, rfl, rfl, rfl, h1, r1⟩ := trodAll_cons r0
  obtain ⟨rfl, rfl, rfl⟩ := trodAll_nil r1
  obtain rfl : args = #[v0, v1] := by cases args; simp_all
  obtain ⟨rfl, rfl⟩ := trodVars_none hV
  have k0 := h0
  have lt0 : ∀ x ∈ p0, x.block < W.heap.size := by obtain ⟨m, hm⟩ := k0; exact DataW.trod_lt m _ _ _ hm
  obtain ⟨a0, len0, cap0, z0, rfl, x0⟩ : ∃ a len cap zs, v0 = .slice a len cap ∧ IsRow .u8 1048576 W a len cap zs := by
    obtain ⟨sa, sl, sc, rfl⟩ := okWide_slice Try.underlying23 (hval 0 23 v0 rfl rfl)
    obtain ⟨fuel, hf⟩ := h0
    rcases open_ints Try.underlying23 Try.underlying5 (by kernel_rfl) hf with ⟨hcs, _⟩ | ⟨x, l, c, zs, hcs, _, hl, hm, hz, hx, hcell, hwz⟩
    · simp [Value.cells] at hcs; obtain ⟨rfl, rfl, rfl⟩ := hcs
      exact ⟨none, 0, 0, [], rfl, .inl ⟨rfl, rfl, rfl, rfl⟩⟩
    · simp [Value.cells] at hcs; obtain ⟨rfl, rfl, rfl⟩ := hcs
      have hz' : zs.length = sc := by simpa using hz
      have hd : d0 = _ := congrArg Prod.fst hx
      have hb := bulk_slice hk (show d0 ∈ _ by simp) hd
      simp only [lits, List.length_map, List.length_take, List.length_drop] at hb
      exact ⟨some x, sl, sc, zs, rfl, .inr ⟨_, rfl, hl, by omega, hz', hcell, hwz⟩⟩
  have k1 := h1
  have lt1 : ∀ x ∈ p1, x.block < W.heap.size := by obtain ⟨m, hm⟩ := k1; exact DataW.trod_lt m _ _ _ hm
  obtain ⟨a1, n1, cap1, X1, rfl, x1, lc1, cm1, nz1, y1⟩ : ∃ a n cap X, v1 = .slice a n cap ∧ Ops W a n X ∧ n ≤ cap ∧ cap ≤ maxLen ∧ (a = none → cap = 0) ∧ opsWeight X ≤ 1048576 := by
    obtain ⟨sa, sl, sc, hv⟩ := okWide_slice Try.underlying33 (hval 1 33 v1 rfl rfl)
    obtain ⟨a, n, cap, X, h1, h2, h3, h4, h5, h6⟩ := ops_open sa sl sc hv h1
    have hAll : Rows.uptoBulkAll _ ≤ 1048576 := of_decide_eq_true hk
    exact ⟨a, n, cap, X, h1, h2, h3, h4, h5, Nat.le_trans h6 (Nat.le_trans (bulk_mem (show d1 ∈ _ by simp)) hAll)⟩
  clear hA0 hval0
  refine (walk a0 len0 cap0 z0 a1 n1 cap1 X1 W x0 x1 lc1 cm1 nz1 y1).mono fun e W' ⟨he, bel⟩ => ?_
  subst he
  exact ⟨_, rfl, _, _, _, [], _, [], hW', trodAll_mk1 (shut_bool Try.underlying4 _), (trodAll_cons_mk (Below.trod laidOut (by kernel_rfl) (of_decide_eq_true (by kernel_rfl)) k0 bel lt0) (trodAll_cons_mk (Below.trod laidOut (by kernel_rfl) (of_decide_eq_true (by kernel_rfl)) k1 bel lt1) trodAll_mk0)), rfl, bel.frame _, fun h => by cases h⟩

theorem over : Rows.packAgainUptoRow.holds Try.pinned (Rows.OpenSpec.upto Rows.packAgainSpec) :=
  OpenClaim.holds_of_cond 5 Try.f5 rfl rfl rfl rfl rfl rfl rfl ⟨rfl, rfl, rfl, rfl, rfl⟩ rfl rfl rfl rfl rfl (by kernel_rfl) Try.func5 (by kernel_rfl)
    (of_decide_eq_true (by kernel_rfl)) (by unfold Func.isWrapper; first | (rw [if_pos (by decide +kernel)]; kernel_rfl) | (rw [if_neg (by decide +kernel)]; exact ⟨rfl, rfl⟩))
    (fun os started H enc _ F => lifted os started H enc F)

end Go.Proofs.Ytplelldomephaaa.packAgain
namespace Go.Proofs.Ytplelldomephaaa
theorem packAgain_holds : Rows.PackAgainUptoSaid := packAgain.over
#print axioms packAgain_holds
end Go.Proofs.Ytplelldomephaaa
