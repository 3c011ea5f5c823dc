/-
  Proved, in its second form: for calls that hold together at most 2^20 values, hawserlaw03.PackOwn answers true: what a writer answers stays, and is one's own, whatever is laid down later; what it was handed is not kept. Condition: the second form's own.
-/
import Derived.Test.YtoimoghlbpcllaaRows
import Derived.Test.YtoimoghlbpcllaaWr2
import Derived.Test.YtoimoghlbpcllaaXWb
import Derived.Test.YtoimoghlbpcllaaOwD
import Derived.Test.YtoimoghlbpcllaaStr
import Derived.WalkKit
import Derived.ProofKit
import Derived.OpenShut
import Derived.ShutString
import Derived.ChangeOld
import Derived.Below
import Derived.Lib.SmallJoins
import Derived.JoinedCond
namespace Go.Proofs.Ytoimoghlbpcllaa.packOwn
open Go.ChangeShapes Go.WideShapes Go.ChangeAt Go.RowKit
set_option linter.unusedVariables false

theorem own : ownKnob Try.prog.godebug = none := by kernel_rfl
theorem laidOut : laidOutB Try.prog = true := by kernel_rfl

theorem weight_take (X : List OpD) (k : Nat) (o : OpD) (h : X[k]? = some o) : opsWeight (X.take (k + 1)) = opsWeight (X.take k) + o.weight := by
  have hk := (List.getElem?_eq_some_iff.1 h).1
  rw [List.take_succ_eq_append_getElem hk]
  have he : X[k] = o := by rw [List.getElem?_eq_getElem hk] at h; exact Option.some.inj h
  simp [opsWeight, he]
theorem weight_take_le (X : List OpD) (k : Nat) : opsWeight (X.take k) ≤ opsWeight X := by
  have : opsWeight X = opsWeight (X.take k) + opsWeight (X.drop k) := by
    unfold opsWeight
    rw [← List.sum_append, ← List.map_append, List.take_append_drop]
  omega
theorem two_shrink {B w gw g ys e zs d S} (h : Two B w gw g ys e zs d S) : Two B w gw g ys e zs d (fun k => S k ∧ k < w.heap.size) := by
  obtain ⟨fs, v, F, h1, h2, h3, h4, h5, h6, h7⟩ := h
  refine ⟨fs, v, F, h1, h2, h3, h4, h5, h6, fun k hk => ⟨h7 k hk, ?_⟩⟩
  rcases hk with rfl | rfl | hk | hk
  · exact h1.lt
  · exact lt_of_block h2.blk
  · exact (h2.own.lo k (by rw [h2.fb]; exact hk)).2
  · obtain ⟨d0, ps, u, cs, _, hch, _⟩ := h1
    exact hch.lt k hk
theorem enc300 : enc (300 : Int).toNat = [172, 2] := by
  rw [show (300 : Int).toNat = 300 from rfl, enc_big (by omega), enc_small (by omega)]
  rfl
theorem bytes_lit : Bytes [172, 2] := bytes_of_mem (fun z hz => by simp at hz; omega)
theorem same_t (a b : Option Addr) (la ca lb cb : Nat) (xs : List Int) (w : World) (h1 : Seg .u8 w a la xs) (h2 : Seg .u8 w b lb xs) (hx : Bytes xs) :
    Calls Try.prog 27 #[.slice a la ca, .slice b lb cb] w fun e w' => e = .returned (.bool true) ∧ w' = w := by
  have := same_c a b la ca lb cb xs xs w h1 h2 hx hx
  rw [decide_eq_true rfl] at this
  exact this
theorem rowgr {G : Nat → Prop} {k : IntKind} {T : TypeId} {w w' : World} {g : Nat} {xs : List Int} (h : Row k T w g xs) (hg : Gr G w w') (hn : ¬ G g) : Row k T w' g xs := (hg.block g h.lt hn).trans h
/-- Both writers, and the two lists that the program's answered, behind some calls. -/
def PO (B : Nat) (w wr : World) (g ra rb : Nat) (m : Nat) (N : Nat) : Prop :=
  ∃ ys e S, Two B wr B g ys e ys e S ∧ ys.length ≤ 10 + 10 * m ∧ (∀ k, S k → B ≤ k ∧ k < wr.heap.size ∧ k ≠ N ∧ k ≠ ra ∧ k ≠ rb) ∧ Row .u8 5 wr ra [172, 2] ∧ Row .u8 5 wr rb [172, 2] ∧ ra ≠ rb ∧ B ≤ ra ∧ B ≤ rb ∧ Below B w wr ∧ B ≤ wr.heap.size
theorem po_at {B w wr g ra rb m N} (h : PO B w wr g ra rb m N) : PO B w wr g ra rb m wr.heap.size := by
  obtain ⟨ys, e, S, h1, h2, h3, h4⟩ := h
  exact ⟨ys, e, S, h1, h2, fun k hk => ⟨(h3 k hk).1, (h3 k hk).2.1, by have := (h3 k hk).2.1; omega, (h3 k hk).2.2.2⟩, h4⟩
theorem po_new {B w wr w' g ra rb m N} (h : PO B w wr g ra rb m N) (hg : wr.grownBy w' none) : PO B w w' g ra rb m N := by
  obtain ⟨ys, e, S, h1, h2, h3, h4, h5, h6, h7, h8, h9, h10⟩ := h
  have hs := hg.size
  exact ⟨ys, e, S, h1.new hg, h2, fun k hk => ⟨(h3 k hk).1, by have := (h3 k hk).2.1; omega, (h3 k hk).2.2⟩, h4.grew hg (by simp), h5.grew hg (by simp), h6, h7, h8, h9.grown hg h10 (fun k hk => by cases hk), by omega⟩
theorem po_write {B w wr g ra rb m N} {C : Array Value} (h : PO B w wr g ra rb m N) (o : OpD) (ho : o.Ok) (hw : o.weight ≤ 1048576) (hm : m ≤ 1048576) (hb : Bk 40 wr N C) :
    Calls Try.prog 10 #[.pointer (some ⟨B, 0, none⟩), .pointer (some ⟨g, 0, none⟩), .agg o.cells.toArray] wr fun r w' => r = .returned (.tuple #[]) ∧ PO B w w' g ra rb (m + o.weight) N := by
  obtain ⟨ys, e, S, h1, h2, h3, h4, h5, h6, h7, h8, h9, h10⟩ := h
  have hNl := lt_of_block hb
  have la := h4.lt
  have lb := h5.lt
  refine (write_both B B g ys e ys e S o _ wr h1 rfl ho hw (by omega) (by omega)).mono ?_
  rintro r w' ⟨hr, S2, k1, k2, k3⟩
  have hl := wst_len o ho hw ys e
  have hs := k2.size
  refine ⟨hr, _, _, _, two_shrink k1, by omega, ?_, rowgr h4 k2 (fun q => (h3 ra q).2.2.2.1 rfl), rowgr h5 k2 (fun q => (h3 rb q).2.2.2.2 rfl), h6, h7, h8, k2.below h9 (fun k hk => (h3 k hk).1) h10, by omega⟩
  rintro k ⟨hk, hk2⟩
  rcases k3 k hk with q | q
  · exact ⟨(h3 k q).1, hk2, (h3 k q).2.2⟩
  · exact ⟨by omega, hk2, by omega, by omega, by omega⟩
theorem zeroW : Try.zeroCells30 = (wcells 0 (.pointer none) (List.replicate 256 0) 0 0).toArray := by kernel_rfl
theorem ws_zero {w : World} {g : Nat} (h : w.heap[g]? = some (.cells Try.zeroCells30 30 (0, 0))) : WS w g [] 0 [] := by
  rw [zeroW] at h
  exact ⟨none, List.replicate 256 0, 0, [], ⟨h, List.length_replicate⟩, chain_nil _, by omega, rfl, by simp, fun i hi => by simp at hi⟩
theorem begin_ws (w : World) (B : Nat) (hB : B = w.heap.size) : WS (w.alloc (.cells Try.zeroCells30 30)) B [] 0 [] ∧ Below B w (w.alloc (.cells Try.zeroCells30 30)) ∧ B < (w.alloc (.cells Try.zeroCells30 30)).heap.size := by
  subst hB
  exact ⟨ws_zero (heap_new w (.cells Try.zeroCells30 30)), (Below.refl _ _).alloc (Nat.le_refl _) _, by simp⟩
theorem begin_po {B ra rb : Nat} {w w2 w3 w4 w6 : World} {fs : List Nat} (h2 : WS w2 B [172, 2] 0 fs) (hf : ∀ k ∈ fs, B ≤ k) (hb : Below B w w2) (hB : B < w2.heap.size) (a1 : Row .u8 5 w3 ra [172, 2]) (a2 : w2.heap.size ≤ ra) (a3 : w2.grownBy w3 none) (b1 : Row .u8 5 w4 rb [172, 2]) (b2 : w3.heap.size ≤ rb) (b3 : w3.grownBy w4 none)
    (hx : XGoes B (w4.alloc (.cells #[.slice none 0 0, .int .i64 0] 33)) w4.heap.size none w6 [172, 2] 0) : PO B w w6 w4.heap.size ra rb 0 w6.heap.size := by
  obtain ⟨v, F, k1, k2, k3⟩ := hx
  have g5 := World.grownBy_alloc w4 (.cells #[.slice none 0 0, .int .i64 0] 33) none
  have g25 := gb_trans (gb_trans a3 b3) g5
  have z3 := a3.size
  have z4 := b3.size
  have z5 := World.size_alloc w4 (.cells #[.slice none 0 0, .int .i64 0] 33)
  have z6 := k2.size
  have la := a1.lt
  have lb := b1.lt
  have hfl : ∀ k ∈ fs, k < w2.heap.size := by
    obtain ⟨d0, ps, u, cs, _, hch, _⟩ := h2
    exact hch.lt
  have hG : ∀ k, k < w4.heap.size → ¬ (k = w4.heap.size ∨ (none : Option Nat) = some k) := fun k hk q => by
    rcases q with q | q
    · omega
    · cases q
  have hF : ∀ k, F = some k → w4.heap.size < k := fun k hk => by
    rcases k3 with q | ⟨j, q, r⟩
    · rw [q] at hk; cases hk
    · rw [hk] at q; cases q; omega
  have hws : WS w6 B [172, 2] 0 fs := (h2.new g25).gr k2 (hG B (by omega)) (fun k hk => hG k (by have := hfl k hk; omega))
  have hT : Two B w6 B w4.heap.size [172, 2] 0 [172, 2] 0 (fun k => k = B ∨ k = w4.heap.size ∨ F = some k ∨ k ∈ fs) := ⟨fs, v, F, hws, k1, by omega, fun q => by have := hF _ q; omega, fun q => by have := hfl _ q; omega, fun k hk q => by have := hF k hk; have := hfl k q; omega, fun k hk => hk⟩
  refine ⟨_, _, _, two_shrink hT, by simp, ?_, rowgr ((a1.grew b3 (by simp)).grew g5 (by simp)) k2 (hG ra (by omega)), rowgr (b1.grew g5 (by simp)) k2 (hG rb (by omega)), by omega, by omega, by omega, k2.below (hb.grown g25 (by omega) (fun k hk => by cases hk)) (fun k hk => by rcases hk with q | q; omega; cases q) (by omega), by omega⟩
  rintro k ⟨q, hk⟩
  rcases q with q | q | q | q
  · exact ⟨by omega, hk, by omega, by omega, by omega⟩
  · exact ⟨by omega, hk, by omega, by omega, by omega⟩
  · have := hF k q; exact ⟨by omega, hk, by omega, by omega, by omega⟩
  · have := hfl k q; have := hf k q; exact ⟨by omega, hk, by omega, by omega, by omega⟩
def PS (B : Nat) (w W : World) (g : Nat) (va : Option Addr) (L vc : Nat) (ys : List Int) (e : Int) (fs : List Nat) (F : Option Nat) (ra rb : Nat) : Prop :=
  WS W B ys e fs ∧ XW B W g (.slice va L vc) ys e F ∧ Row .u8 5 W ra [172, 2] ∧ Row .u8 5 W rb [172, 2] ∧ Below B w W ∧ B ≤ W.heap.size
theorem ps_new {B w W W' g va L vc ys e fs F ra rb} (h : PS B w W g va L vc ys e fs F ra rb) (hg : W.grownBy W' none) : PS B w W' g va L vc ys e fs F ra rb := by
  obtain ⟨h1, h2, h3, h4, h6, h7⟩ := h
  have := hg.size
  exact ⟨h1.new hg, h2.new hg, h3.grew hg (by simp), h4.grew hg (by simp), h6.grown hg h7 (fun k hk => by cases hk), by omega⟩
theorem rown {k : IntKind} {T : TypeId} {w w' : World} {g : Nat} {xs : List Int} (h : Row k T w g xs) (hg : w.grownBy w' none) : Row k T w' g xs := h.grew hg (by simp)
theorem gb_of_drew {W W' : World} (hd : ∃ n, W' = W.drewN n) : W.grownBy W' none := by
  obtain ⟨n, rfl⟩ := hd
  exact gb_drewN (World.grownBy.refl _ _) n
/-- What is left behind Own. -/
theorem ps_own {B w W W' g va L vc ys e fs F ra rb} {G : Nat → Prop} (h : PS B w W g va L vc ys e fs F ra rb) (hg : Gr G W W') (hG : ∀ k, (k = B ∨ k = g ∨ F = some k ∨ k ∈ fs) → ¬ G k) (hB : ∀ k, G k → B ≤ k) : WS W' B ys e fs ∧ XW B W' g (.slice va L vc) ys e F ∧ Below B w W' ∧ B ≤ W'.heap.size := by
  obtain ⟨h1, h2, h3, h4, h6, h7⟩ := h
  have := hg.size
  exact ⟨h1.gr hg (hG B (.inl rfl)) (fun k hk => hG k (.inr (.inr (.inr hk)))), h2.gr hg (hG g (.inr (.inl rfl))) (fun k hk => hG k (.inr (.inr (.inl hk)))), hg.below h6 hB h7, by omega⟩
theorem xw_seg {B W g va L vc ys e F} (h : XW B W g (.slice va L vc) ys e F) (hL : L = ys.length) : Seg .u8 W va L ys := by
  obtain ⟨a, c, e, hs, _, _⟩ := h.own.seg
  cases e
  rw [hL]; exact hs
set_option maxRecDepth 20000 in
set_option maxHeartbeats 8000000 in
theorem walk (a0 : Option Addr) (n0 cap0 : Nat) (X0 : List OpD) (w : World) (x0 : Ops w a0 n0 X0) (lc0 : n0 ≤ cap0) (cm0 : cap0 ≤ maxLen) (nz0 : a0 = none → cap0 = 0) (y0 : opsWeight X0 ≤ 1048576) :
    Calls Try.prog 8 #[.slice a0 n0 cap0] w fun e w' => e = .returned (.bool true) ∧ Below w.heap.size w w' := by
  have HO : Hid (Ops w a0 n0 X0) := x0
  have HWT : Hid (opsWeight X0 ≤ 1048576) := y0
  have HN1 : Hid ((n0 : Int) ≤ 9223372036854775807) := by unfold maxLen at cm0; show _ ≤ _; omega
  obtain ⟨B, hB⟩ : ∃ B, B = w.heap.size := ⟨_, rfl⟩
  have HBW : Hid (B = w.heap.size) := hB
  clear x0 y0 lc0 cm0 nz0
  go_enter Try.func8, Try.ntmps8
  go_wp2_with fail
  rw [← hB]
  generalize hW1 : World.alloc w _ = W1
  have H1 : Hid (WS W1 B [] 0 [] ∧ Below B w W1 ∧ B < W1.heap.size) := by rw [← hW1]; exact begin_ws w B hB
  clear hW1 hB
  refine (wuint_c B [] 0 300 [] W1 H1.out.1 (by omega) (by omega) (by simp)).mono ?_
  rintro r w2 ⟨rfl, h2⟩
  obtain ⟨fs, H2⟩ : ∃ fs, Hid (WS w2 B [172, 2] 0 fs ∧ (∀ k ∈ fs, B ≤ k) ∧ Below B w w2 ∧ B < w2.heap.size) := by
    obtain ⟨fs, k1, k2, k3⟩ := h2
    have hz := k2.size
    have hb := H1.out.2.2
    have ew : wadd 0 [] (enc (300 : Int).toNat) = [172, 2] := by unfold wadd; rw [if_pos rfl, enc300]; rfl
    rw [ew] at k1
    exact ⟨fs, k1, fun k hk => by rcases k3 k hk with q | q; cases q; omega, k2.below H1.out.2.1 (fun k hk => by omega) (by omega), by omega⟩
  clear h2 H1
  have HBY : Hid (∀ W, WS W B [172, 2] 0 fs → Calls Try.prog 11 #[.pointer (some ⟨B, 0, none⟩)] W fun r w' => ∃ b, r = .returned (.tuple #[.slice (some ⟨b, 0, none⟩) 2 2, .int .i64 0]) ∧ W.heap.size ≤ b ∧ Row .u8 5 w' b [172, 2] ∧ Below W.heap.size W w') := fun W h => wbytes_ok B [172, 2] fs W h (by simp)
  have HXU : Hid (∀ W : World, B ≤ W.heap.size → Calls Try.prog 37 #[.pointer (some ⟨W.heap.size, 0, none⟩), .int .u64 300] (W.alloc (.cells #[.slice none 0 0, .int .i64 0] 33)) fun r w' => r = .returned (.tuple #[]) ∧ XGoes B (W.alloc (.cells #[.slice none 0 0, .int .i64 0] 33)) W.heap.size none w' [172, 2] 0) := fun W hW => by
    have := xwuint_c B W.heap.size (.slice none 0 0) [] 0 300 none (W.alloc (.cells #[.slice none 0 0, .int .i64 0] 33)) ⟨heap_new W _, own_nil _ _, rfl, by simp, fun i hi => by simp at hi, by simp; omega⟩ (by omega) (by omega) (by simp)
    rw [show wadd 0 [] (enc (300 : Int).toNat) = [172, 2] from by unfold wadd; rw [if_pos rfl, enc300]; rfl] at this
    exact this
  go_wp2_with (first
    | ((fail_if_success (have z := H3)); go_at_call 11; go_must (refine (HBY.out _ H2.out.1).mono ?_); rintro r w3 ⟨ra, rfl, a1, a2, a3⟩; have H3 : Hid (w2.heap.size ≤ ra ∧ Row .u8 5 w3 ra [172, 2] ∧ w2.grownBy w3 none) := ⟨a1, a2, grownBy_below a3 none⟩; clear a1 a2 a3)
    | (have z := H3; clear z; (fail_if_success (have z := H4)); go_at_call 11; go_must (refine (HBY.out _ (H2.out.1.new H3.out.2.2)).mono ?_); rintro r w4 ⟨rb, rfl, a1, a2, a3⟩; have H4 : Hid (w3.heap.size ≤ rb ∧ Row .u8 5 w4 rb [172, 2] ∧ w3.grownBy w4 none) := ⟨a1, a2, grownBy_below a3 none⟩; clear a1 a2 a3)
    | (have z := H4; clear z; go_at_call 37; go_must (refine (HXU.out w4 (by have := H2.out.2.2.2; have := H3.out.2.2.size; have := H4.out.2.2.size; omega)).mono ?_); rintro r w6 ⟨rfl, h6⟩; have H6 : Hid (PO B w w6 w4.heap.size ra rb (opsWeight (X0.take 0)) w6.heap.size) := begin_po H2.out.1 H2.out.2.1 H2.out.2.2.1 H2.out.2.2.2 H3.out.2.1 H3.out.1 H3.out.2.2 H4.out.2.1 H4.out.1 H4.out.2.2 h6; clear h6))
  obtain ⟨g, hg⟩ : ∃ g, g = w4.heap.size := ⟨_, rfl⟩
  rw [← hg] at H6 ⊢
  clear hg HBY HXU
  go_wp2
  go_loopw [32] (fun i wr => ∃ k N : Nat, k ≤ n0 ∧ i = .int .i64 k ∧ Hid (PO B w wr g ra rb (opsWeight (X0.take k)) N)) (fun i _ => n0 - (intOf i).toNat)
  case atStart => exact ⟨0, _, Nat.zero_le _, rfl, H6⟩
  case round =>
    obtain ⟨k, N0, hk, rfl, HI0⟩ := hrel
    clear H6
    by_cases hlt : k < n0
    · obtain ⟨N, hN⟩ : ∃ N, N = wr.heap.size := ⟨_, rfl⟩
      have HI : Hid (PO B w wr g ra rb (opsWeight (X0.take k)) N) := by rw [hN]; exact po_at HI0.out
      clear HI0
      obtain ⟨b, off, o, rfl, hbw, hxo, hok, hrg⟩ := HO.out.at_ k hlt
      have HOK : Hid (o.Ok ∧ o.weight ≤ 1048576 ∧ opsWeight (X0.take k) ≤ 1048576 ∧ opsWeight (X0.take (k + 1)) = opsWeight (X0.take k) + o.weight) := by
        have q1 := weight_take X0 k o hxo
        have q2 := weight_take_le X0 (k + 1)
        have q3 := weight_take_le X0 k
        have := HWT.out
        exact ⟨hok, by omega, by omega, q1⟩
      have HRG : Hid (wr.rangeAt b (off + k * 41) o.cells) := fun j v hv => by
        obtain ⟨_, _, _, _, _, _, _, _, _, _, _, hbel, _⟩ := HI.out
        exact (hbel.cell (p := ⟨b, off + k * 41 + j, none⟩) (by rw [HBW.out]; exact hbw)).trans (hrg j v hv)
      have HOL : Hid (o.cells.length = 41) := OpD.cells_length o hok
      clear hxo hok hrg hbw
      have hk1 : (k : Int) < n0 := by omega
      have hn1 := HN1.out
      go_wp2_with (first
        | (refine wpList_load_mid rfl 40 (.tmp 34) rfl b (off + k * 41) rfl o.cells _ HRG.out Try.underlying40 rfl (by rw [HOL.out]; exact infoOp41) ?_)
        | (refine wpList_store_bk 40 rfl (.tmp 10) (.tmp 35) rfl infoOp41 wr.heap.size _ o.cells.toArray rfl rfl (heap_new wr _) rfl (by rw [List.size_toArray]; exact HOL.out) (cells_one o) ?_; intro w7 h1 h2; rw [← hN] at h1 h2 ⊢; have H7 : Hid (Bk 40 w7 N o.cells.toArray ∧ PO B w w7 g ra rb (opsWeight (X0.take k)) N) := ⟨h1, po_new HI.out (gb_newer (World.grownBy_alloc _ _ _) h2 (Nat.le_of_eq hN.symm))⟩; clear h1 h2 hN)
        | (refine wpList_load_bk 40 rfl (.tmp 10) rfl Try.underlying40 rfl infoOp41 N o.cells.toArray rfl H7.out.1 (by rw [List.size_toArray]; exact HOL.out) ?_)
        | (go_at_call 10; go_must (refine (po_write H7.out.2 o HOK.out.1 HOK.out.2.1 HOK.out.2.2.1 H7.out.1).mono ?_); rintro r w8 ⟨rfl, h8⟩; have H8 : Hid (Hid (PO B w w8 g ra rb (opsWeight (X0.take (k + 1))) N)) := (by rw [HOK.out.2.2.2]; exact h8); clear h8))
      go_roundw
      case rel => first | exact ⟨k + 1, N, by omega, by go_num, H8.out⟩ | ((repeat apply Exists.intro); exact ⟨⟨k + 1, N, by omega, by go_num, H8.out⟩, rfl⟩)
      case measure => simp [intOf]; omega
    · obtain rfl : k = n0 := by omega
      have hge : ¬ (k : Int) < k := by omega
      obtain ⟨ys, e, S, hT, hyl, hS, hra, hrb, hne, hBa, hBb, hbel, hBs⟩ := HI0.out
      obtain ⟨sf, v, F, hws, hxw, n1, n2, n3, n4, n5⟩ := hT
      obtain ⟨va, vc, rfl, _, _, _⟩ := hxw.own.seg
      obtain ⟨L, hL⟩ : ∃ L, L = ys.length := ⟨_, rfl⟩
      rw [← hL] at hxw
      have HWL := HWT.out
      have hwt := weight_take_le X0 k
      have HLB : Hid (L = ys.length ∧ L ≤ 20971520) := ⟨hL, by omega⟩
      have HST : Hid (WS wr B ys e sf ∧ XW B wr g (.slice va L vc) ys e F ∧ Row .u8 5 wr ra [172, 2] ∧ Row .u8 5 wr rb [172, 2] ∧ ra ≠ rb ∧ B ≤ ra ∧ B ≤ rb ∧ Below B w wr ∧ B ≤ wr.heap.size ∧ ∀ k, (k = B ∨ k = g ∨ F = some k ∨ k ∈ sf) → k < wr.heap.size ∧ k ≠ ra ∧ k ≠ rb) := ⟨hws, hxw, hra, hrb, hne, hBa, hBb, hbel, hBs, fun k hk => ⟨(hS k (n5 k hk)).2.1, (hS k (n5 k hk)).2.2.2⟩⟩
      have HYB : Hid (Bytes ys) := hws.bytes
      clear HI0 hyl hS hra hrb hne hBa hBb hbel hBs hws hxw n1 n2 n3 n4 n5 hL HWL hwt
      by_cases he : e = 0
      · subst he
        have HBY : Hid (∀ W, WS W B ys 0 sf → Calls Try.prog 11 #[.pointer (some ⟨B, 0, none⟩)] W fun r w' => ∃ b, r = .returned (.tuple #[.slice (some ⟨b, 0, none⟩) L L, .int .i64 0]) ∧ W.heap.size ≤ b ∧ Row .u8 5 w' b ys ∧ Below W.heap.size W w') := fun W h => by
          rw [HLB.out.1]
          exact wbytes_ok B ys sf W h (by have := HLB.out; omega)
        have HXB : Hid (∀ W, XW B W g (.slice va L vc) ys 0 F → Calls Try.prog 38 #[.pointer (some ⟨g, 0, none⟩)] W fun r w' => r = .returned (.tuple #[.slice va L vc, .int .i64 0]) ∧ ∃ n, w' = W.drewN n) := fun W h => by
          have := xwbytes_c B g _ ys 0 F W h
          rw [if_pos rfl] at this
          exact this
        have HOW : Hid (∀ (W : World) (P rc : Nat), P = W.heap.size → PS B w W g va L vc ys 0 sf F ra rb → Row .u8 5 W rc ys → wr.heap.size ≤ rc → Calls Try.prog 32 #[.slice (some ⟨P, 0, none⟩) 3 3] (W.alloc (.cells #[.slice (some ⟨ra, 0, none⟩) 2 2, .slice (some ⟨rb, 0, none⟩) 2 2, .slice (some ⟨rc, 0, none⟩) L L] 23)) fun r w' => r = .returned (.bool true) ∧ WS w' B ys 0 sf ∧ XW B w' g (.slice va L vc) ys 0 F ∧ Below B w w' ∧ B ≤ w'.heap.size) := fun W P rc hP hps hrc hle => by
          subst hP
          have la := HST.out.2.2.1.lt
          have lb := HST.out.2.2.2.1.lt
          have hab := HST.out.2.2.2.2.1
          have hBa := HST.out.2.2.2.2.2.1
          have hBb := HST.out.2.2.2.2.2.2.1
          have hBw := HST.out.2.2.2.2.2.2.2.2.1
          have hLb := HLB.out
          refine (own3_c B W _ _ _ 2 2 L [172, 2] [172, 2] ys (own_of_row hps.2.2.1 hBa (by unfold maxLen; simp) 2 rfl) (own_of_row hps.2.2.2.1 hBb (by unfold maxLen; simp) 2 rfl) (own_of_row hrc (by omega) (by unfold maxLen; omega) L hLb.1) (fun q h e => ?_) (fun q h e => ?_) (fun q h e => ?_) (by omega) (by omega) (by omega) hps.2.2.2.2.2).mono ?_
          · cases h; have e' := Option.some.inj e; simp only at e'; omega
          · cases h; have e' := Option.some.inj e; simp only at e'; omega
          · cases h; have e' := Option.some.inj e; simp only at e'; omega
          · rintro r w' ⟨hr, hgr⟩
            refine ⟨hr, ps_own hps hgr (fun k hk q => ?_) (fun k q => ?_)⟩
            · have := HST.out.2.2.2.2.2.2.2.2.2 k hk
              rcases q with q | q | q <;> (have q' := Option.some.inj q; simp only at q'; omega)
            · rcases q with q | q | q <;> (have q' := Option.some.inj q; simp only at q'; omega)
        have hLL : ((L : Int) != (L : Int)) = false := by simp
        go_wp2_with (first
          | ((fail_if_success (have z := H9)); go_at_call 11; go_must (refine (HBY.out _ HST.out.1).mono ?_); rintro r w9 ⟨rc, rfl, a1, a2, a3⟩; have H9 : Hid (PS B w w9 g va L vc ys 0 sf F ra rb ∧ Row .u8 5 w9 rc ys ∧ wr.heap.size ≤ rc) := ⟨ps_new ⟨HST.out.1, HST.out.2.1, HST.out.2.2.1, HST.out.2.2.2.1, HST.out.2.2.2.2.2.2.2.1, HST.out.2.2.2.2.2.2.2.2.1⟩ (grownBy_below a3 none), a2, a1⟩; clear a1 a2 a3)
          | (have z := H9; clear z; go_at_call 38; go_must (refine (HXB.out _ H9.out.1.2.1).mono ?_); rintro r w10 ⟨rfl, h10⟩; have H10 : Hid (PS B w (w10.alloc (.cells #[.int .u8 172, .int .u8 2] 5)) g va L vc ys 0 sf F ra rb ∧ Row .u8 5 (w10.alloc (.cells #[.int .u8 172, .int .u8 2] 5)) rc ys) := ⟨ps_new (ps_new H9.out.1 (gb_of_drew h10)) (World.grownBy_alloc _ _ _), rown (rown H9.out.2.1 (gb_of_drew h10)) (World.grownBy_alloc _ _ _)⟩; clear h10)
          | (have z := H10; clear z; (fail_if_success (have z := H11)); go_at_call 27; go_must (refine (same_t (some ⟨ra, 0, none⟩) (some ⟨w10.heap.size, 0, none⟩) 2 2 2 2 [172, 2] _ (H10.out.1.2.2.1.segAll 2 rfl) (seg_new w10 .u8 _ 5 2 [172, 2] rfl rfl) bytes_lit).mono ?_); rintro r w11 ⟨rfl, h11⟩; obtain rfl := h11.symm; have H11 : Hid True := trivial)
          | (have z := H11; clear z; (fail_if_success (have z := H12)); go_at_call 27; go_must (refine (same_t (some ⟨rb, 0, none⟩) (some ⟨ra, 0, none⟩) 2 2 2 2 [172, 2] _ (H10.out.1.2.2.2.1.segAll 2 rfl) (H10.out.1.2.2.1.segAll 2 rfl) bytes_lit).mono ?_); rintro r w11 ⟨rfl, h11⟩; obtain rfl := h11.symm; have H12 : Hid True := trivial)
          | (have z := H12; clear z; (fail_if_success (have z := H13)); go_at_call 27; go_must (refine (same_t (some ⟨rc, 0, none⟩) va L L L vc ys _ (H10.out.2.segAll L HLB.out.1) (xw_seg H10.out.1.2.1 HLB.out.1) HYB.out).mono ?_); rintro r w11 ⟨rfl, h11⟩; obtain rfl := h11.symm; have H13 : Hid True := trivial)
          | (have z := H13; clear z; go_at_call 32; go_must (refine (HOW.out (w10.alloc (.cells #[.int .u8 172, .int .u8 2] 5)) _ rc (by simp) H10.out.1 H10.out.2 H9.out.2.2).mono ?_); rintro r w14 ⟨rfl, h14⟩; have H14 : Hid (_ ∧ _ ∧ _ ∧ _) := h14; clear h14)
          | (have z := H14; clear z; go_at_call 11; go_must (refine (HBY.out _ H14.out.1).mono ?_); rintro r w15 ⟨rg, rfl, a1, a2, a3⟩; have H15 : Hid (Row .u8 5 w15 rg ys ∧ Seg .u8 w15 va L ys ∧ Below B w w15) := ⟨a2, xw_seg (H14.out.2.1.new (grownBy_below a3 none)) HLB.out.1, H14.out.2.2.1.grown (grownBy_below a3 none) H14.out.2.2.2 (fun k hk => by cases hk)⟩; clear a1 a2 a3)
          | (have z := H15; clear z; go_at_call 27; go_must (refine (same_t (some ⟨rg, 0, none⟩) va L L L vc ys _ (H15.out.1.segAll L HLB.out.1) H15.out.2.1 HYB.out).mono ?_); rintro r w16 ⟨rfl, h16⟩; obtain rfl := h16.symm))
        go_ret
        exact ⟨rfl, by rw [← HBW.out]; exact H15.out.2.2⟩
      · have heb : (e == 0) = false := by simp [he]
        have hee : (e != e) = false := by simp
        have HNE : Hid (¬ e = 0) := he
        have HBY : Hid (∀ W, WS W B ys e sf → Calls Try.prog 11 #[.pointer (some ⟨B, 0, none⟩)] W fun r w' => r = .returned (.tuple #[.slice none 0 0, .int .i64 e]) ∧ ∃ n, w' = W.drewN n) := fun W h => wbytes_no B ys e sf W h heb
        have HXB : Hid (∀ W, XW B W g (.slice va L vc) ys e F → Calls Try.prog 38 #[.pointer (some ⟨g, 0, none⟩)] W fun r w' => r = .returned (.tuple #[.slice none 0 0, .int .i64 e]) ∧ ∃ n, w' = W.drewN n) := fun W h => by
          have := xwbytes_c B g _ ys e F W h
          rw [if_neg HNE.out] at this
          exact this
        have HOW : Hid (∀ (W : World) (P : Nat), P = W.heap.size → PS B w W g va L vc ys e sf F ra rb → Calls Try.prog 32 #[.slice (some ⟨P, 0, none⟩) 3 3] (W.alloc (.cells #[.slice (some ⟨ra, 0, none⟩) 2 2, .slice (some ⟨rb, 0, none⟩) 2 2, .slice none 0 0] 23)) fun r w' => r = .returned (.bool true) ∧ WS w' B ys e sf ∧ XW B w' g (.slice va L vc) ys e F ∧ Below B w w' ∧ B ≤ w'.heap.size) := fun W P hP hps => by
          subst hP
          have hab := HST.out.2.2.2.2.1
          have hBa := HST.out.2.2.2.2.2.1
          have hBb := HST.out.2.2.2.2.2.2.1
          refine (own3_c B W _ _ _ 2 2 0 [172, 2] [172, 2] [] (own_of_row hps.2.2.1 hBa (by unfold maxLen; simp) 2 rfl) (own_of_row hps.2.2.2.1 hBb (by unfold maxLen; simp) 2 rfl) (own_nil _ _) (fun q h e => ?_) (fun q h e => by cases e) (fun q h e => by cases e) (by omega) (by omega) (by omega) hps.2.2.2.2.2).mono ?_
          · cases h; have e' := Option.some.inj e; simp only at e'; omega
          · rintro r w' ⟨hr, hgr⟩
            refine ⟨hr, ps_own hps hgr (fun k hk q => ?_) (fun k q => ?_)⟩
            · have := HST.out.2.2.2.2.2.2.2.2.2 k hk
              rcases q with q | q | q
              · have q' := Option.some.inj q; simp only at q'; omega
              · have q' := Option.some.inj q; simp only at q'; omega
              · cases q
            · rcases q with q | q | q
              · have q' := Option.some.inj q; simp only at q'; omega
              · have q' := Option.some.inj q; simp only at q'; omega
              · cases q
        have HNN : Hid (∀ W : World, Calls Try.prog 27 #[.slice none 0 0, .slice none 0 0] W fun r w' => r = .returned (.bool true) ∧ w' = W) := fun W => same_t none none 0 0 0 0 [] W ⟨rfl, .inl rfl⟩ ⟨rfl, .inl rfl⟩ (fun i hi => by simp at hi)
        clear he
        go_wp2_with (first
          | ((fail_if_success (have z := H9)); go_at_call 11; go_must (refine (HBY.out _ HST.out.1).mono ?_); rintro r w9 ⟨rfl, h9⟩; have H9 : Hid (PS B w w9 g va L vc ys e sf F ra rb) := ps_new ⟨HST.out.1, HST.out.2.1, HST.out.2.2.1, HST.out.2.2.2.1, HST.out.2.2.2.2.2.2.2.1, HST.out.2.2.2.2.2.2.2.2.1⟩ (gb_of_drew h9); clear h9)
          | (have z := H9; clear z; go_at_call 38; go_must (refine (HXB.out _ H9.out.2.1).mono ?_); rintro r w10 ⟨rfl, h10⟩; have H10 : Hid (PS B w (w10.alloc (.cells #[.int .u8 172, .int .u8 2] 5)) g va L vc ys e sf F ra rb) := ps_new (ps_new H9.out (gb_of_drew h10)) (World.grownBy_alloc _ _ _); clear h10)
          | (have z := H10; clear z; (fail_if_success (have z := H11)); go_at_call 27; go_must (refine (same_t (some ⟨ra, 0, none⟩) (some ⟨w10.heap.size, 0, none⟩) 2 2 2 2 [172, 2] _ (H10.out.2.2.1.segAll 2 rfl) (seg_new w10 .u8 _ 5 2 [172, 2] rfl rfl) bytes_lit).mono ?_); rintro r w11 ⟨rfl, h11⟩; obtain rfl := h11.symm; have H11 : Hid True := trivial)
          | (have z := H11; clear z; (fail_if_success (have z := H12)); go_at_call 27; go_must (refine (same_t (some ⟨rb, 0, none⟩) (some ⟨ra, 0, none⟩) 2 2 2 2 [172, 2] _ (H10.out.2.2.2.1.segAll 2 rfl) (H10.out.2.2.1.segAll 2 rfl) bytes_lit).mono ?_); rintro r w11 ⟨rfl, h11⟩; obtain rfl := h11.symm; have H12 : Hid True := trivial)
          | (have z := H12; clear z; (fail_if_success (have z := H13)); go_at_call 27; go_must (refine (HNN.out _).mono ?_); rintro r w11 ⟨rfl, h11⟩; obtain rfl := h11.symm; have H13 : Hid True := trivial)
          | (have z := H13; clear z; go_at_call 32; go_must (refine (HOW.out (w10.alloc (.cells #[.int .u8 172, .int .u8 2] 5)) _ (by simp) H10.out).mono ?_); rintro r w14 ⟨rfl, h14⟩; have H14 : Hid (_ ∧ _ ∧ _ ∧ _) := h14; clear h14)
          | (have z := H14; clear z; go_at_call 11; go_must (refine (HBY.out _ H14.out.1).mono ?_); rintro r w15 ⟨rfl, h15⟩; have H15 : Hid (Below B w w15) := H14.out.2.2.1.grown (gb_of_drew h15) H14.out.2.2.2 (fun k hk => by cases hk); clear h15)
          | (have z := H15; clear z; go_at_call 27; go_must (refine (HNN.out _).mono ?_); rintro r w16 ⟨rfl, h16⟩; obtain rfl := h16.symm))
        go_ret
        exact ⟨rfl, by rw [← HBW.out]; exact H15.out⟩

theorem bulk_len {H : Type} (l : List (DataW H)) : l.length ≤ Rows.uptoBulkAll l := by
  induction l with
  | nil => simp
  | cons d r ih =>
    have : 1 ≤ Rows.uptoBulk d := by
      cases d with
      | lit x => cases x <;> simp [Rows.uptoBulk]
      | _ => simp [Rows.uptoBulk]
    simp only [Rows.uptoBulkAll, List.length_cons]; omega
theorem bulk_mem {H : Type} {d : DataW H} {l : List (DataW H)} (h : d ∈ l) : Rows.uptoBulk d ≤ Rows.uptoBulkAll l := by
  induction l with
  | nil => cases h
  | cons x r ih =>
    simp only [Rows.uptoBulkAll]
    rcases List.mem_cons.1 h with rfl | h
    · omega
    · have := ih h; omega
theorem bulk_slice {H : Type} {ds : List (DataW H)} {d : DataW H} {l r : List (DataW H)} (hk : Rows.uptoSmall H ds = true) (hd : d ∈ ds) (e : d = .slice l r) : l.length + r.length ≤ 1048576 := by
  have h0 : Rows.uptoBulkAll ds ≤ 1048576 := of_decide_eq_true hk
  have h1 := bulk_mem hd
  have h3 := bulk_len l
  have h4 := bulk_len r
  rw [e] at h1
  simp only [Rows.uptoBulk] at h1
  omega

set_option maxRecDepth 100000 in
theorem lifted (os : Os) (started : os.Started) (H : Type) (enc : TypeId × Value → H) (F : Stop.Interp) :
    ReturnsInHanded {} Try.checked os 8 .any ((Rows.OpenSpec.upto Rows.packOwnSpec).pre6 enc Try.prog Try.f8 Rows.packOwnUptoRow.domain false) (((Rows.OpenSpec.upto Rows.packOwnSpec).at F).post enc Try.prog Try.f8 false true false false) := by
  refine returnsInHanded_of_cond (C := Try.checked) (s := Rows.OpenSpec.upto Rows.packOwnSpec) (k := Rows.uptoSmall) rfl own started (by kernel_rfl) Try.func8
    (OpenSpec.witness (enc := enc) (C := Try.checked) (s := Rows.OpenSpec.upto Rows.packOwnSpec) (k := Rows.uptoSmall) rfl false ⟨#[], #[.slice none 0 0], []⟩ 8 (by kernel_rfl) (by kernel_rfl) (by kernel_rfl)
      (x := ([.nil], [], [])) (by kernel_rfl) rfl (by kernel_rfl)) ?_
  intro W base args ds gs before hval0 hW hcnd hk _
  have hval : ∀ (j : Nat) t v, Try.f8.params[j]? = some t → args[j]? = some v → Value.okWide Try.prog W .any base t v := hval0
  have hW' := hW
  obtain ⟨p, q, hA0, hV, rfl, hfz, hnd⟩ := hW
  have hA : DataW.TrodAll enc Try.prog W 0 (fun _ => true) true Try.f8.params.toList args.toList ds p := hA0
  rw [Try.params8] at hA hval
  obtain ⟨v0, vs0, d0, ds0, p0, q0, hargs, rfl, rfl, h0, r0⟩ := trodAll_cons hA
  obtain ⟨rfl, rfl, rfl⟩ := trodAll_nil r0
  obtain rfl : args = #[v0] := by cases args; simp_all
  obtain ⟨rfl, rfl⟩ := trodVars_none hV
  have k0 := h0
  have lt0 : ∀ x ∈ p0, x.block < W.heap.size := by obtain ⟨m, hm⟩ := k0; exact DataW.trod_lt m _ _ _ hm
  obtain ⟨a0, n0, cap0, X0, rfl, x0, lc0, cm0, nz0, y0⟩ : ∃ a n cap X, v0 = .slice a n cap ∧ Ops W a n X ∧ n ≤ cap ∧ cap ≤ maxLen ∧ (a = none → cap = 0) ∧ opsWeight X ≤ 1048576 := by
    obtain ⟨sa, sl, sc, hv⟩ := okWide_slice Try.underlying22 (hval 0 22 v0 rfl rfl)
    obtain ⟨a, n, cap, X, h1, h2, h3, h4, h5, h6⟩ := ops_open sa sl sc hv h0
    have hAll : Rows.uptoBulkAll _ ≤ 1048576 := of_decide_eq_true hk
    exact ⟨a, n, cap, X, h1, h2, h3, h4, h5, Nat.le_trans h6 (Nat.le_trans (bulk_mem (show d0 ∈ _ by simp)) hAll)⟩
  clear hA0 hval0
  refine (walk a0 n0 cap0 X0 W x0 lc0 cm0 nz0 y0).mono fun e W' ⟨he, bel⟩ => ?_
  subst he
  exact ⟨_, rfl, _, _, _, [], _, [], hW', trodAll_mk1 (shut_bool Try.underlying4 _), (trodAll_cons_mk (Below.trod laidOut (by kernel_rfl) (of_decide_eq_true (by kernel_rfl)) k0 bel lt0) trodAll_mk0), rfl, bel.frame _, fun h => by cases h⟩

theorem over : Rows.packOwnUptoRow.holds Try.pinned (Rows.OpenSpec.upto Rows.packOwnSpec) :=
  OpenClaim.holds_of_cond 8 Try.f8 rfl rfl rfl rfl rfl rfl rfl ⟨rfl, rfl, rfl, rfl, rfl⟩ rfl rfl rfl rfl rfl (by kernel_rfl) Try.func8 (by kernel_rfl)
    (of_decide_eq_true (by kernel_rfl)) (by unfold Func.isWrapper; first | (rw [if_pos (by decide +kernel)]; kernel_rfl) | (rw [if_neg (by decide +kernel)]; exact ⟨rfl, rfl⟩))
    (fun os started H enc _ F => lifted os started H enc F)

end Go.Proofs.Ytoimoghlbpcllaa.packOwn
namespace Go.Proofs.Ytoimoghlbpcllaa
theorem packOwn_holds : Rows.PackOwnUptoSaid := packOwn.over
#print axioms packOwn_holds
end Go.Proofs.Ytoimoghlbpcllaa
