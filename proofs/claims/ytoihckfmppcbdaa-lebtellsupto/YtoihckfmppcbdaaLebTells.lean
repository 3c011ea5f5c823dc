/-
  Proved: for every list of bytes and every number with a sign hawserlaw01.LebTells answers true: All tells what the document's All does, whole, left early, gone over again, and nested. Condition: what is handed in is of bulk at most 1048576 (the second form of the statement).
-/
import Derived.Test.YtoihckfmppcbdaaRows
import Derived.Test.YtoihckfmppcbdaaRefAll
import Derived.Test.YtoihckfmppcbdaaAllC
import Derived.Test.YtoihckfmppcbdaaIter2
import Derived.Test.YtoihckfmppcbdaaVars
import Derived.Test.YtoihckfmppcbdaaMem
import Derived.RangeFuncNested
import Derived.JoinedCond
import Derived.WalkKit
import Derived.ProofKit
import Derived.OpenShut
import Derived.ShutString
import Derived.ChangeOld
import Derived.Below
namespace Go.Proofs.Ytoihckfmppcbdaa.lebTells
open Go.ChangeShapes Go.WideShapes Go.ChangeAt Go.RowKit
open Go.ChangeMaps (open_string shut_string)
set_option linter.unusedVariables false

theorem bulk_len {H : Type} (l : List (DataW H)) : l.length ≤ Rows.uptoBulkAll l := by
  induction l with
  | nil => simp
  | cons d r ih =>
    have : 1 ≤ Rows.uptoBulk d := by
      cases d with
      | lit x => cases x <;> simp [Rows.uptoBulk]
      | _ => simp [Rows.uptoBulk]
    simp only [Rows.uptoBulkAll, List.length_cons]; omega
theorem bulk_mem {H : Type} {d : DataW H} {l : List (DataW H)} (h : d ∈ l) : Rows.uptoBulk d ≤ Rows.uptoBulkAll l := by
  induction l with
  | nil => cases h
  | cons x r ih =>
    simp only [Rows.uptoBulkAll]
    rcases List.mem_cons.1 h with rfl | h
    · omega
    · have := ih h; omega
theorem bulk_slice {H : Type} {ds : List (DataW H)} {d : DataW H} {l r : List (DataW H)} (hk : Rows.uptoSmall H ds = true) (hd : d ∈ ds) (e : d = .slice l r) : l.length + r.length ≤ 1048576 := by
  have h0 : Rows.uptoBulkAll ds ≤ 1048576 := of_decide_eq_true hk
  have h1 := bulk_mem hd
  have h3 := bulk_len l
  have h4 := bulk_len r
  rw [e] at h1
  simp only [Rows.uptoBulk] at h1
  omega

theorem own : ownKnob Try.prog.godebug = none := by kernel_rfl
theorem laidOut : laidOutB Try.prog = true := by kernel_rfl

/-- WHAT THE WALK IS TOLD OF A SLICE OF INTEGERS THAT CAME IN: it is nil; or it leads to a row of 'cap' cells, the numbers 'zs' (the first 'len' are its elements, the rest its spare room), each fitting its kind. -/
def IsRow (k : IntKind) (R : Nat) (w : World) (a : Option Addr) (len cap : Nat) (zs : List Int) : Prop :=
  (a = none ∧ len = 0 ∧ cap = 0 ∧ zs = []) ∨
  ∃ x, a = some x ∧ len ≤ cap ∧ cap ≤ R ∧ zs.length = cap ∧ (∀ i, i < zs.length → w.cell? (x.add i) = some (.int k (zs.getD i 0))) ∧ ∀ n ∈ zs, (Lit.int k n).wf = true

open Go.Shelf
attribute [local go_sem] Oper.semAt_some

theorem prefix_snoc {α : Type} (l : List α) (pre : List α) (x d : α) (h : pre <+: l) (hl : pre.length < l.length) (hx : l[pre.length]?.getD d = x) : pre ++ [x] <+: l := by
  obtain ⟨rest, rfl⟩ := h
  cases rest with
  | nil => simp at hl
  | cons y rest => simp at hx; subst hx; exact ⟨rest, by simp⟩
theorem prefix_last {α : Type} (l : List α) (pre : List α) (x d : α) (h : pre ++ [x] <+: l) : pre.length < l.length ∧ l[pre.length]?.getD d = x := by
  obtain ⟨rest, rfl⟩ := h
  simp
theorem func_nil (w : World) (f : Fn) (l b : Array Value) : (binOp .eql 46 (.func f l b) .nilFunc).run Try.prog w = .ok (.bool false) w := by
  have h : ∀ d, (Op.equalIn (d + 1) 46 (.func f l b) .nilFunc).run Try.prog w = .ok false w := fun d => by simp [Op.equalIn, run_underlying Try.underlying46]
  have h2 : (Op.equal 46 (.func f l b) .nilFunc).run Try.prog w = .ok false w := h 9999
  simp [binOp, h2]

theorem by1 : Bytes [5, 128, 1, 7] := by
  intro i hi
  match i, hi with
  | 0, _ => decide
  | 1, _ => decide
  | 2, _ => decide
  | 3, _ => decide
theorem by2 : Bytes [1, 2] := by
  intro i hi
  match i, hi with
  | 0, _ => decide
  | 1, _ => decide
theorem ownFrom_block {β : Type} {b B : Nat} (hb : b < B) (o : Obj) : OwnFrom B (fun (_ : β) (V : World) => V.heap[b]? = some o) :=
  fun _ X Y row hs hg hr => (hg.block b (Array.getElem?_eq_some_iff.1 hs).1 (fun e => by have := (hr b e.symm).1; omega)).trans hs
theorem keepsFrom_below {B : Nat} {V V' : World} (h : Below V.heap.size V V') : KeepsFrom B V V' :=
  ⟨h.size, fun k o _ hk _ => (h.block k (Array.getElem?_eq_some_iff.1 hk).1).trans hk⟩
theorem tk_step {xs : List Int} {k : Nat} {a : Int} {m : Nat} (h : k < xs.length) (hr : rd (xs.drop k) = (a, (m : Int), 0)) (hm : 1 ≤ m) : tk xs k = ((k : Int), a) :: tk xs (k + m) := by
  rw [tk_eq, if_pos ⟨h, by rw [hr]⟩, hr]
  simp only [Int.toNat_natCast]
  rw [show max 1 m = m from by omega]
theorem tk1 : (tk [5, 128, 1, 7] 0).length = 3 := by
  rw [tk_step (m := 1) (a := 5) (by decide) (by decide) (by decide), tk_step (m := 2) (a := 128) (by decide) (by decide) (by decide), tk_step (m := 1) (a := 7) (by decide) (by decide) (by decide), tk_nil (by decide)]
  rfl
theorem tk2 : (tk [1, 2] 0).length = 2 := by
  rw [tk_step (m := 1) (a := 1) (by decide) (by decide) (by decide), tk_step (m := 1) (a := 2) (by decide) (by decide) (by decide), tk_nil (by decide)]
  rfl
theorem len1 (zs : List Pair) (h : zs.map Subtype.val = tk [5, 128, 1, 7] 0) : zs.length = 3 := by
  rw [← tk1, ← h, List.length_map]
theorem len2 (zs : List Pair) (h : zs.map Subtype.val = tk [1, 2] 0) : zs.length = 2 := by
  rw [← tk2, ← h, List.length_map]
theorem rounds_then {F : Fence} {n : Nat} {P : Program} {code : Code} {Q : Exit → Act → World → Prop} {a : Act} {W : World} (R : Act → World → Prop) (hkey : ∀ a' W', R a' W' → Code.roundsIn F n P code Q 2 a' W')
    (h : (∀ a' W', R a' W' → Code.roundsIn F n P code Q 2 a' W') → Code.roundsIn F n P code Q 3 a W) : Code.roundsIn F n P code Q 3 a W := h hkey
theorem exU {arr : (Nat → Value) → Array Value} {df : List Deferred} {a : Act} (h : a = { tmps := arr (fun i => a.tmps.getD i undef), defers := df }) : ∃ u, a = { tmps := arr u, defers := df } := ⟨_, h⟩

set_option maxRecDepth 100000 in
set_option maxHeartbeats 1000000 in
theorem walk_in (a0 : Option Addr) (len0 cap0 : Nat) (xs : List Int) (a1 : Int) (w : World) (hs : Seg .u8 w a0 len0 xs) (hx : Bytes xs) (hl : len0 ≤ 1048576) (hcap : len0 ≤ cap0) (hcm : cap0 ≤ 1048576) (hb1 : -9223372036854775808 ≤ a1 ∧ a1 ≤ 9223372036854775807) :
    CallsIn Fence.wide 9 Try.prog 6 #[.slice a0 len0 cap0, .int .i64 a1] w fun e w' => e = .returned (.bool true) ∧ Below w.heap.size w w' := by
  have HS : Hid (Seg .u8 w a0 len0 xs) := hs
  have HX : Hid (Bytes xs) := hx
  clear hs hx
  refine callsIn_of_wp_marks Try.func6 rfl trivial ?_ rfl
  simp only [Try.ntmps6, List.size_toArray, List.length_cons, List.length_nil, Nat.reduceAdd, Nat.reduceSub, Array.replicate_succ, Array.replicate_zero, List.push_toArray, List.append_toArray, List.nil_append, List.cons_append]
  gi_wp2
  refine ⟨trivial, ?_⟩
  have HB0 : Hid (Below w.heap.size w ((w.alloc (.cells #[.int .i64 a1] 3)).alloc (.cells #[.bool false] 4))) := ((Below.refl _ w).alloc (Nat.le_refl _) _).alloc (by simp) _
  refine (callsIn_wide.2 (refall_c a0 len0 cap0 xs _ (HS.out.below HB0.out) HX.out hl hcap (by omega))).mono ?_
  rintro e w1 ⟨v, rfl, hown, hb⟩
  obtain ⟨T, hT⟩ : ∃ T, T = (tk xs 0).length := ⟨_, rfl⟩
  rw [← hT] at hown
  obtain ⟨ao, c, rfl, hwc⟩ : ∃ ao c, v = .slice ao T c ∧ Hid (∀ i, i < T → ∃ g, ao = some ⟨g, 0, none⟩ ∧ g < w1.heap.size ∧ w1.cell? ⟨g, i * 2, none⟩ = some (.int .i64 ((tk xs 0)[i]?.getD (0, 0)).1) ∧ w1.cell? ⟨g, i * 2 + 1, none⟩ = some (.int .u64 ((tk xs 0)[i]?.getD (0, 0)).2)) := by
    rcases hown.2 with ⟨rfl, h0⟩ | ⟨g, c, cur, rfl, hg, hh, hn, hcm', hsz, htk⟩
    · exact ⟨none, 0, by rw [h0], fun i hi => by omega⟩
    · refine ⟨some ⟨g, 0, none⟩, c, rfl, fun i hi => ⟨g, rfl, lt_of_block hh, ?_⟩⟩
      have hi' : i < (tk xs 0).length := by omega
      have := flat_at (tk xs 0) i hi'
      rw [hown.cellAt (i * 2) (by omega), hown.cellAt (i * 2 + 1) (by omega), this.1, this.2]
      simp [hi']
  have hz0 : w.heap.size + 2 ≤ w1.heap.size := by have := hb.size; simp at this; omega
  have HB1 : Hid (Below w.heap.size w w1) := HB0.out.trans (hb.mono (by simp; omega))
  have HV0 : Hid (Var w1 w.heap.size a1) := (hb.block _ (by simp; omega)).trans (Var.alloc (show Var (w.alloc _) _ _ from heap_alloc_new w _) _)
  have HR0 : Hid (w1.heap[w.heap.size + 1]? = some (.cells #[.bool false] 4 (0, 0))) := (hb.block _ (by simp)).trans (by have := heap_alloc_new (w.alloc (.cells #[.int .i64 a1] 3)) (.cells #[.bool false] 4); rw [World.size_alloc] at this; exact this)
  have HT : Hid (T = (tk xs 0).length) := hT
  clear hown hb hT
  gi_wp2
  refine ⟨trivial, ?_⟩
  have HB2 : Hid (Below w1.heap.size w1 (w1.alloc (.cells #[.slice ao T c] 43))) := (Below.refl _ _).alloc (Nat.le_refl _) _
  have HB2' : Hid (Below w.heap.size w (w1.alloc (.cells #[.slice ao T c] 43))) := HB1.out.trans (HB2.out.mono (by omega))
  have HW2 : Hid ((w1.alloc (.cells #[.slice ao T c] 43)).heap[w1.heap.size]? = some (.cells #[.slice ao T c] 43 (0, 0))) := heap_alloc_new w1 _
  refine (callsIn_wide.2 (lend_c a0 len0 cap0 xs _ (HS.out.below HB2'.out) HX.out (by omega))).mono ?_
  rintro e w3 ⟨g, rfl, hg, hr, hb3⟩
  have HB3 : Hid (Below (w1.heap.size + 1) (w1.alloc (.cells #[.slice ao T c] 43)) w3) := by simp at hb3; exact hb3
  have hz3 : w1.heap.size + 1 ≤ w3.heap.size := by have := HB3.out.size; simp at this; exact this
  have HR : Hid (Row .u8 5 w3 g (lent xs)) := hr
  have HP : Hid (Seg .u8 w3 (some ⟨g, 0, none⟩) len0 xs) := by
    have := hr.seg len0 (by rw [lent_length, HS.out.1]; omega)
    rw [← HS.out.1, lent_take] at this
    rw [← HS.out.1]; exact this
  clear hg hr hb3
  gi_wp2
  refine ⟨trivial, ?_⟩
  refine (all_in _ g 0 len0 (len0 + 9) xs w3 HP.out (by omega)).mono ?_
  rintro e w4 ⟨Bx, ax, cx, rfl, hx1, hx2, hx3, hx4, hx5, hx6, hx7⟩
  have HX5 : Hid (w4.heap[Bx]? = some (.cells #[.slice ax len0 cx] 22 (0, 0))) := hx5
  have HX6 : Hid (Seg .u8 w4 ax len0 xs) := hx6
  have HX7 : Hid (Below w3.heap.size w3 w4) := hx7
  clear hx5 hx6 hx7
  have hfn := func_nil
  gi_wp2
  refine ⟨trivial, ?_⟩
  refine (all_in _ _ 0 4 4 [5, 128, 1, 7] _ (seg_new _ _ _ _ _ _ rfl rfl) (by omega)).mono ?_
  rintro e w5 ⟨B5, a5, c5, rfl, _, _, _, _, _, _, hb5⟩
  have HB5 : Hid (Below w4.heap.size w4 w5) := ((Below.refl _ w4).alloc (Nat.le_refl _) _).trans (hb5.mono (by simp))
  clear hb5
  gi_wp2
  refine ⟨trivial, ?_⟩
  refine (all_in _ _ 0 2 2 [1, 2] _ (seg_new _ _ _ _ _ _ rfl rfl) (by omega)).mono ?_
  rintro e w6 ⟨B6, a6, c6, rfl, _, _, _, _, _, _, hb6⟩
  have HB6 : Hid (Below w5.heap.size w5 w6) := ((Below.refl _ w5).alloc (Nat.le_refl _) _).trans (hb6.mono (by simp))
  clear hb6
  have hz4 := HX7.out.size
  have hz5 := HB5.out.size
  have hz6 := HB6.out.size
  have H46 : Hid (Below w4.heap.size w4 w6) := HB5.out.trans (HB6.out.mono hz5)
  have H36 : Hid (Below w3.heap.size w3 w6) := HX7.out.trans (H46.out.mono hz4)
  have H26 : Hid (Below (w1.heap.size + 1) (w1.alloc (.cells #[.slice ao T c] 43)) w6) := HB3.out.trans (H36.out.mono hz3)
  have H16 : Hid (Below w1.heap.size w1 w6) := HB2.out.trans (H26.out.mono (by omega))
  have H06 : Hid (Below w.heap.size w w6) := HB1.out.trans (H16.out.mono (by omega))
  have F0 : Hid (Var w6 w.heap.size a1) := (H16.out.block _ (by omega)).trans HV0.out
  have F1 : Hid (w6.heap[w.heap.size + 1]? = some (.cells #[.bool false] 4 (0, 0))) := (H16.out.block _ (by omega)).trans HR0.out
  have F2 : Hid (w6.heap[w1.heap.size]? = some (.cells #[.slice ao T c] 43 (0, 0))) := (H26.out.block _ (by omega)).trans HW2.out
  have F3 : Hid (∀ i, i < T → ∃ g, ao = some ⟨g, 0, none⟩ ∧ g < w6.heap.size ∧ w6.cell? ⟨g, i * 2, none⟩ = some (.int .i64 ((tk xs 0)[i]?.getD (0, 0)).1) ∧ w6.cell? ⟨g, i * 2 + 1, none⟩ = some (.int .u64 ((tk xs 0)[i]?.getD (0, 0)).2)) := by
    intro i hi
    obtain ⟨g, h1, h2, h3, h4⟩ := hwc.out i hi
    have := H16.out.size
    exact ⟨g, h1, by omega, (H16.out.cell (p := ⟨g, i * 2, none⟩) h2).trans h3, (H16.out.cell (p := ⟨g, i * 2 + 1, none⟩) h2).trans h4⟩
  have F4 : Hid (Row .u8 5 w6 g (lent xs)) := HR.out.below H36.out HR.out.lt
  have F5 : Hid (w6.heap[Bx]? = some (.cells #[.slice ax len0 cx] 22 (0, 0))) := (H46.out.block _ hx2).trans HX5.out
  have F6 : Hid (Seg .u8 w6 ax len0 xs) := HX6.out.below H46.out
  clear HB0 HB1 HV0 HR0 HB2 HB2' HW2 HB3 HR HP HX5 HX6 HX7 HB5 HB6 H46 H36 H26 H16 hwc
  obtain ⟨Z, hZ⟩ : ∃ Z, Z = w6.heap.size := ⟨_, rfl⟩
  obtain ⟨P3, hP3⟩ : ∃ P3, P3 = w1.heap.size := ⟨_, rfl⟩
  obtain ⟨P1, hP1⟩ : ∃ P1, P1 = w.heap.size := ⟨_, rfl⟩
  rw [← hZ] at hz6
  rw [← hP3] at hz0 hz3
  rw [← hP1] at hz0
  have G0 : Hid (Var w6 P1 a1) := by have := F0.out; rw [← hP1] at this; exact this
  have G1 : Hid (w6.heap[P1 + 1]? = some (.cells #[.bool false] 4 (0, 0))) := by have := F1.out; rw [← hP1] at this; exact this
  have G2 : Hid (w6.heap[P3]? = some (.cells #[.slice ao T c] 43 (0, 0))) := by have := F2.out; rw [← hP3] at this; exact this
  have HZ : Hid (Z = w6.heap.size) := hZ
  have HP1 : Hid (P1 = w.heap.size) := hP1
  have hP3Z : P3 < Z := by omega
  have hP1Z : P1 + 1 < Z := by omega
  have hBxZ : Bx < Z := by omega
  have HP3 : Hid (P3 = w1.heap.size) := hP3
  clear F0 F1 F2 hP3 hP1 hZ
  gi_wp2
  clear hfn
  refine wpIn_loop_rounds 3 ?_
  refine rounds_then (fun a' W' => ∃ (D B : Nat), P1 ≤ D ∧ (∃ u : Nat → Value, a' = { tmps := #[.slice a0 len0 cap0, .int .i64 a1, u 2, .pointer (some ⟨P1, 0, none⟩), .pointer (some ⟨P1 + 1, 0, none⟩), .pointer (some ⟨P3, 0, none⟩), .slice (some ⟨g, 0, none⟩) (len0 + 9) (len0 + 9), .slice (some ⟨g, 0, none⟩) len0 (len0 + 9), .func (.func 22) #[] #[.pointer (some ⟨Bx, 0, none⟩)], .pointer (some ⟨B, 0, none⟩), u 10, u 11, u 12, u 13, u 14, u 15, u 16, u 17, u 18, u 19, u 20, u 21, u 22, u 23, u 24, u 25, u 26, u 27, u 28, u 29, u 30, u 31, u 32, u 33, u 34, u 35, u 36, u 37, u 38, u 39, u 40, u 41, u 42, u 43, u 44, u 45, u 46, u 47, u 48, u 49, u 50, u 51, u 52, u 53, u 54, u 55, u 56, u 57, u 58, u 59, u 60, u 61, u 62, u 63, u 64, u 65, u 66, u 67, u 68, u 69, u 70, u 71, u 72, u 73, u 74, u 75, u 76, u 77, u 78, u 79, u 80, u 81, u 82, u 83, u 84, u 85, u 86, u 87, u 88, u 89, u 90, u 91, u 92, u 93, u 94, u 95, u 96, u 97, u 98, u 99, u 100, u 101, u 102, u 103], defers := [{ target := .collected D, args := #[] }] }) ∧ Hid (W'.heap[D]? = some (.deferred (some []))) ∧ Hid (Var W' B 1) ∧ Hid (Below Z w6 W')) ?key ?_
  case key =>
    rintro a' W' ⟨D, B, hP1D, ⟨u, rfl⟩, HD, HV, HB⟩
    rw [roundsIn_succ]
    have cr := HV.out.cell
    gi_wp2
    obtain ⟨I, hI⟩ : ∃ I, I = W'.heap.size := ⟨_, rfl⟩
    obtain ⟨W1, hW1⟩ : ∃ W1, W'.alloc (.cells #[.int .i64 0] 3) = W1 := ⟨_, rfl⟩
    have hzI : W1.heap.size = I + 1 := by rw [← hW1, hI]; simp
    have HB1 : Hid (Below I W' W1) := by rw [hI, ← hW1]; exact (Below.refl _ _).alloc (Nat.le_refl _) _
    have HVi : Hid (Var W1 I 0) := by rw [hI, ← hW1]; exact heap_alloc_new W' _
    have hZI : Z ≤ I := by have h1 := HB.out.size; have h2 := HZ.out; omega
    have hBI : B < I := by rw [hI]; exact lt_of_block HV.out
    have hDI : D < I := by rw [hI]; exact lt_of_block HD.out
    have HII : Hid (I = W'.heap.size) := hI
    have HS6 : Hid (Seg .u8 W' ax len0 xs) := F6.out.below (by have := HB.out; rw [HZ.out] at this; exact this)
    have C3 : Hid (W'.heap[P3]? = some (.cells #[.slice ao T c] 43 (0, 0))) := (HB.out.block _ hP3Z).trans G2.out
    have C1 : Hid (W'.heap[P1 + 1]? = some (.cells #[.bool false] 4 (0, 0))) := (HB.out.block _ hP1Z).trans G1.out
    have C0 : Hid (Var W' P1 a1) := (HB.out.block _ (by omega)).trans G0.out
    have CX : Hid (W'.heap[Bx]? = some (.cells #[.slice ax len0 cx] 22 (0, 0))) := (HB.out.block _ hBxZ).trans F5.out
    have F3' : Hid (∀ i, i < T → ∃ g, ao = some ⟨g, 0, none⟩ ∧ g < I ∧ W'.cell? ⟨g, i * 2, none⟩ = some (.int .i64 ((tk xs 0)[i]?.getD (0, 0)).1) ∧ W'.cell? ⟨g, i * 2 + 1, none⟩ = some (.int .u64 ((tk xs 0)[i]?.getD (0, 0)).2)) := by
      intro i hi
      obtain ⟨g, h1, h2, h3, h4⟩ := F3.out i hi
      have hgZ : g < Z := by rw [HZ.out]; exact h2
      exact ⟨g, h1, by omega, (HB.out.cell (p := ⟨g, i * 2, none⟩) hgZ).trans h3, (HB.out.cell (p := ⟨g, i * 2 + 1, none⟩) hgZ).trans h4⟩
    rw [hW1, ← hI]
    clear hW1 hI
    have hc1 : W1.cell? ⟨Bx, 0, none⟩ = some (.slice ax len0 cx) := cell_of_one ((HB1.out.block _ (by omega)).trans CX.out)
    refine wpIn_rangeFunc_ownF rfl (by omega) (gf := 22) (lb := #[.pointer (some ⟨Bx, 0, none⟩)]) rfl trivial (enters_of Try.func22 (by kernel_rfl) rfl)
      (walk_stops 8 (by omega) Bx I ax len0 cx xs HX.out (by omega) hx3 (by unfold maxLen at hx4; omega) W' W1 HS6.out (by have := HB1.out; rw [HII.out] at this; exact this) (by rw [HII.out]; exact Nat.le_refl _) (by omega) (by omega) hc1) Keep.trans (keep_b (by omega) (by omega)) (Below.refl _ _) (fun _ => rfl)
      (fun pre W => (Var W I (pre.length : Int) ∧ pre.map Subtype.val <+: tk xs 0 ∧ I + 1 ≤ W.heap.size) ∧ Below I W' W)
      (fun cd pre W => cd = .ret ∧ ¬ pre.map Subtype.val <+: tk xs 0)
      (OwnFrom.and (Own.from (fun s A B' row hs hg hr => ⟨hs.1.kept hg hr, hs.2.1, Nat.le_trans hs.2.2 hg.size⟩) _) (ownFrom_below (by rw [HII.out]; exact Nat.le_refl _) (by omega)))
      (fun cd s A B' row hs hg hr => hs)
      ⟨⟨HVi.out, by simp, by omega⟩, HB1.out⟩ ?b1 ?assign2 ?body2 ?done2 ?stop2
    case assign2 =>
      intro l x W K hK
      dsimp only [pairs]
      gi_wp2
      exact hK
    case body2 =>
      rintro l pre x W ⟨⟨v1, hpre, hz⟩, hB⟩ _
      have cW : W.cell? ⟨P3, 0, none⟩ = some (.slice ao T c) := cell_of_one ((hB.block _ (by omega)).trans C3.out)
      have cL : W.cell? ⟨P1, 0, none⟩ = some (.int .i64 a1) := cell_of_one ((hB.block _ (by omega)).trans C0.out)
      have cR := cell_of_one ((hB.block _ (by omega)).trans C1.out)
      have fR := free_of_one ((hB.block _ (by omega)).trans C1.out)
      have c1 := v1.cell
      have f1 := v1.free
      have c0 : W.cell? ⟨B, 0, none⟩ = some (.int .i64 1) := cell_of_one ((hB.block _ hBI).trans HV.out)
      obtain ⟨⟨p, v⟩, ⟨hp0, hp1⟩, hv⟩ := x
      simp only at hp0 hp1 hv
      have HPR : Hid (pre.map Subtype.val <+: tk xs 0) := hpre
      have V1 : Hid (Var W I (pre.length : Int)) := v1
      clear v1 hpre cr
      by_cases hT : pre.length < T
      · obtain ⟨g', hao, hg', hca, hcv⟩ := F3'.out pre.length hT
        obtain ⟨A, V, hAV⟩ : ∃ A V, (tk xs 0)[pre.length]?.getD (0, 0) = (A, V) := ⟨_, _, rfl⟩
        rw [hAV] at hca hcv
        subst hao
        have hca' : W.cell? ⟨g', pre.length * 2, none⟩ = some (.int .i64 A) := (hB.cell (p := ⟨g', pre.length * 2, none⟩) hg').trans hca
        have hcv' : W.cell? ⟨g', pre.length * 2 + 1, none⟩ = some (.int .u64 V) := (hB.cell (p := ⟨g', pre.length * 2 + 1, none⟩) hg').trans hcv
        have HAV : Hid ((tk xs 0)[pre.length]?.getD (0, 0) = (A, V)) := hAV
        have HTT : Hid (pre.length < (tk xs 0).length) := by show _ < _; rw [← HT.out]; exact hT
        clear hca hcv hAV
        by_cases hA : A = p
        · subst hA
          by_cases hV : V = v
          · subst hV
            have HP2 : Hid ((pre ++ [⟨(A, V), ⟨hp0, hp1⟩, hv⟩] : List Pair).map Subtype.val <+: tk xs 0) := by
              have := prefix_snoc (tk xs 0) (pre.map Subtype.val) (A, V) (0, 0) HPR.out (by simpa using HTT.out) (by simpa using HAV.out)
              show _ <+: _
              simpa using this
            have hlT : (pre.length : Int) ≤ 9223372036854775806 := by have := HTT.out; omega
            gi_wp2
            refine ⟨KeepsOthers.setCell _ _ _, ⟨(Below.refl I W).setCell (p := ⟨I, 0, none⟩) (Nat.le_refl _) _, Below.heap_setCell W _ _ Bx (by simp; omega)⟩, ⟨?_, HP2.out, by simpa using hz⟩, hB.setCell (p := ⟨I, 0, none⟩) (Nat.le_refl _) _⟩
            rw [show ((pre ++ [⟨(A, V), ⟨hp0, hp1⟩, hv⟩] : List Pair).length : Int) = (pre.length : Int) + 1 from by simp]; exact V1.out.set _
          · have hb : (V != v) = true := by simp [hV]
            have HN : Hid (¬ (pre ++ [⟨(A, v), ⟨hp0, hp1⟩, hv⟩] : List Pair).map Subtype.val <+: tk xs 0) := fun h => by
              have := prefix_last (tk xs 0) (pre.map Subtype.val) (A, v) (0, 0) (by simpa using h)
              have h2 := this.2
              rw [List.length_map, HAV.out] at h2
              exact hV (congrArg Prod.snd h2)
            clear hV
            gi_wp2
            exact ⟨KeepsOthers.setCell _ _ _, rfl, HN.out⟩
        · have hb : (A != p) = true := by simp [hA]
          have HN : Hid (¬ (pre ++ [⟨(p, v), ⟨hp0, hp1⟩, hv⟩] : List Pair).map Subtype.val <+: tk xs 0) := fun h => by
            have := prefix_last (tk xs 0) (pre.map Subtype.val) (p, v) (0, 0) (by simpa using h)
            have h2 := this.2
            rw [List.length_map, HAV.out] at h2
            exact hA (congrArg Prod.fst h2)
          clear hA
          gi_wp2
          exact ⟨KeepsOthers.setCell _ _ _, rfl, HN.out⟩
      · have HN : Hid (¬ (pre ++ [⟨(p, v), ⟨hp0, hp1⟩, hv⟩] : List Pair).map Subtype.val <+: tk xs 0) := fun h => by
          have := prefix_last (tk xs 0) (pre.map Subtype.val) (p, v) (0, 0) (by simpa using h)
          have h2 := this.1
          rw [List.length_map, ← HT.out] at h2
          exact hT h2
        gi_wp2
        exact ⟨KeepsOthers.setCell _ _ _, rfl, HN.out⟩
    case stop2 =>
      rintro D2 cd pre W hD2 hpre ⟨rfl, hn⟩ hK
      exact absurd hpre hn
    case done2 =>
      rintro D2 ys W hD2 hys ⟨⟨v1, hpre, hz⟩, hB⟩ hK
      have hlen : ys.length = T := by rw [HT.out, ← hys, List.length_map]
      rw [hlen] at v1
      have cW : W.cell? ⟨P3, 0, none⟩ = some (.slice ao T c) := cell_of_one ((hB.block _ (by omega)).trans C3.out)
      have c1 := v1.cell
      have c0 : W.cell? ⟨B, 0, none⟩ = some (.int .i64 1) := cell_of_one ((hB.block _ hBI).trans HV.out)
      have hbb : ((T : Int) != (T : Int)) = false := by simp
      have HKD : Hid (W.heap[D]? = some (.deferred (some []))) := (hB.block _ hDI).trans HD.out
      have HKD2 : Hid (W.heap[D2]? = some (.deferred (some []))) := hK
      have HWI : Hid (Below I W' W) := hB
      clear v1 hpre hlen hys hK hB
      gi_wp2
      rw [roundsIn_succ]
      have cr2 : (W.alloc (.cells #[.int .i64 2] 3)).cell? ⟨W.heap.size, 0, none⟩ = some (.int .i64 2) := World.cell?_alloc_new _ _ _ _
      gi_wp2
      obtain ⟨Wr, hWr⟩ : ∃ Wr, W.alloc (.cells #[.int .i64 2] 3) = Wr := ⟨_, rfl⟩
      have HzR : Hid (Wr.heap.size = W.heap.size + 1) := by rw [← hWr]; show _ = _; simp
      have HBR : Hid (Below W.heap.size W Wr) := by rw [← hWr]; exact (Below.refl _ _).alloc (Nat.le_refl _) _
      rw [hWr]
      clear hWr cr2
      obtain ⟨N, hN⟩ : ∃ N, N = W.heap.size + 1 := ⟨_, rfl⟩
      have HN : Hid (N = Wr.heap.size) := by rw [HzR.out]; exact hN
      have HVN : Hid (Var (Wr.alloc (.cells #[.int .i64 0] 3)) N 0) := by rw [HN.out]; exact heap_alloc_new Wr _
      refine ⟨trivial, ?_⟩
      refine (all_fresh _ _ 0 4 4 [5, 128, 1, 7] _ (seg_at _ _ _ _ _ _ _ (by rw [World.size_alloc, HzR.out]) rfl rfl) (by omega)).mono ?_
      rintro e w7 ⟨B7, g7, c7, rfl, h71, h72, h73, h74, h75, h76, h77, h78⟩
      have HN7 : Hid (Var w7 N 0) := (h78.block _ (by rw [HN.out]; simp; omega)).trans (HVN.out.alloc _)
      have HB7 : Hid (Below N Wr w7) := by
        rw [HN.out]
        exact (((Below.refl _ _).alloc (Nat.le_refl _) _).alloc (by simp) _).trans (h78.mono (by simp; omega))
      have hNg7 : N < g7 := by rw [HN.out]; simp at h77; omega
      have hNB7 : N < B7 := by rw [HN.out]; simp at h71; omega
      have HS7 : Hid (Seg .u8 w7 (some ⟨g7, 0, none⟩) 4 [5, 128, 1, 7]) := h76
      have H75 : Hid (w7.heap[B7]? = some (.cells #[.slice (some ⟨g7, 0, none⟩) 4 c7] 22 (0, 0))) := h75
      have hg7 : g7 < w7.heap.size := by
        rcases h76.2 with h | ⟨b', off', hb', hw', _⟩
        · omega
        · cases hb'; exact hw'
      obtain ⟨O7, HO7⟩ : ∃ O7, Hid (w7.heap[g7]? = some O7) := ⟨_, Array.getElem?_eq_getElem hg7⟩
      have hc7 : w7.cell? ⟨B7, 0, none⟩ = some (.slice (some ⟨g7, 0, none⟩) 4 c7) := cell_of_one h75
      have hNw7 : N < w7.heap.size := by omega
      rw [← hN]
      clear h71 h75 h76 h77 h78 HVN hN
      gi_wp2
      refine wpIn_rangeFunc_ownH rfl (by omega) (gf := 22) (lb := #[.pointer (some ⟨B7, 0, none⟩)]) rfl trivial (enters_of Try.func22 (by kernel_rfl) rfl)
        (walk_stops2 8 (by omega) B7 g7 0 4 c7 [5, 128, 1, 7] by1 (by omega) h73 (by unfold maxLen at h74; omega) w7 HS7.out h72 hc7) Two.trans (Two.put hg7 h72) (Below.refl _ _) (fun _ => rfl)
        (fun pre V => ((Var V N ((2 * pre.length : Nat) : Int) ∧ V.heap[g7]? = some O7) ∧ V.heap[B7]? = some (.cells #[.slice (some ⟨g7, 0, none⟩) 4 c7] 22 (0, 0))) ∧ Below N Wr V)
        (fun _ _ _ => False)
        (OwnFrom.and (OwnFrom.and (OwnFrom.and (Own.from (I := fun (pre : List Pair) V => Var V N ((2 * pre.length : Nat) : Int)) (fun s A B' row hs hg hr => Var.kept hs hg hr) _) (ownFrom_block hg7 _)) (ownFrom_block h72 _)) (ownFrom_below (by rw [HN.out]; exact Nat.le_refl _) (by omega)))
        (fun _ _ _ _ _ hs _ _ => hs)
        ⟨⟨⟨HN7.out, HO7.out⟩, H75.out⟩, HB7.out⟩
        (fun _ a' _ => ∃ u' : Nat → Value, a' = { tmps := #[u' 0, u' 1, u' 2, u' 3, u' 4, u' 5, u' 6, u' 7, u' 8, u' 9, u' 10, u' 11, u' 12, .pointer (some ⟨N, 0, none⟩), u' 14, u' 15, u' 16, u' 17, u' 18, u' 19, u' 20, u' 21, u' 22, u' 23, u' 24, u' 25, u' 26, u' 27, u' 28, u' 29, u' 30, u' 31, u' 32, u' 33, u' 34, u' 35, u' 36, u' 37, u' 38, u' 39, u' 40, u' 41, u' 42, u' 43, u' 44, u' 45, u' 46, u' 47, u' 48, u' 49, u' 50, u' 51, u' 52, u' 53, u' 54, u' 55, u' 56, u' 57, u' 58, u' 59, u' 60, u' 61, u' 62, u' 63, u' 64, u' 65, u' 66, u' 67, u' 68, u' 69, u' 70, u' 71, u' 72, u' 73, u' 74, u' 75, u' 76, u' 77, u' 78, u' 79, u' 80, u' 81, u' 82, u' 83, u' 84, u' 85, u' 86, u' 87, u' 88, u' 89, u' 90, u' 91, u' 92, u' 93, u' 94, u' 95, u' 96, u' 97, u' 98, u' 99, u' 100, u' 101, u' 102, u' 103], defers := [] }) (fun _ _ _ _ _ _ hs _ _ => hs)
        ?assign3 ?body3 ?done3 ?stop3
      case assign3 =>
        rintro l pre x V K hi hK
        dsimp only [pairs]
        gi_wp2
        exact hK _ _ (KeepsFrom.refl _ _) (Two.refl _ _ _) hi (exU (by kernel_rfl))
      case stop3 =>
        rintro D3 cd pre V _ _ h _
        exact h.elim
      case body3 =>
        rintro l pre x a' V hl ⟨r, hr⟩ ⟨⟨⟨vN, oV⟩, bV⟩, hBV⟩ ⟨u', rfl⟩ hlt
        have hlV : l < V.heap.size := lt_of_block hr
        have HVN3 : Hid (Var V N ((2 * pre.length : Nat) : Int)) := vN
        have HOV : Hid (V.heap[g7]? = some O7) := oV
        have HBV7 : Hid (V.heap[B7]? = some (.cells #[.slice (some ⟨g7, 0, none⟩) 4 c7] 22 (0, 0))) := bV
        have HBV : Hid (Below N Wr V) := hBV
        clear vN oV bV hBV
        gi_wp2
        refine ⟨trivial, ?_⟩
        refine (CallsIn.inRound l (all_fresh _ _ 0 2 2 [1, 2] _ (seg_new _ _ _ _ _ _ rfl rfl) (by omega))).mono ?_
        rintro e w8 ⟨B8, g8, c8, rfl, h81, h82, h83, h84, h85, h86, h87, h88⟩
        have HB8 : Hid (Below V.heap.size V w8) := ((Below.refl _ V).alloc (Nat.le_refl _) _).trans (h88.mono (by simp))
        have hNV : N < V.heap.size := lt_of_block HVN3.out
        have hg7V : g7 < V.heap.size := lt_of_block HOV.out
        have hB7V : B7 < V.heap.size := lt_of_block HBV7.out
        have hNg8 : V.heap.size < g8 := by simp at h87; omega
        have hNB8 : V.heap.size < B8 := by simp at h81; omega
        have HS8 : Hid (Seg .u8 w8 (some ⟨g8, 0, none⟩) 2 [1, 2]) := h86
        have hg8 : g8 < w8.heap.size := by
          rcases h86.2 with h | ⟨b', off', hb', hw', _⟩
          · omega
          · cases hb'; exact hw'
        have hc8 : w8.cell? ⟨B8, 0, none⟩ = some (.slice (some ⟨g8, 0, none⟩) 2 c8) := cell_of_one h85
        have hr8 : w8.heap[l]? = some (.loop r) := (HB8.out.block _ hlV).trans hr
        have HVN8 : Hid (Var w8 N ((2 * pre.length + ([] : List Pair).length : Nat) : Int)) := (HB8.out.block _ hNV).trans HVN3.out
        have HO8 : Hid (w8.heap[g7]? = some O7) := (HB8.out.block _ hg7V).trans HOV.out
        have HB78 : Hid (w8.heap[B7]? = some (.cells #[.slice (some ⟨g7, 0, none⟩) 4 c7] 22 (0, 0))) := (HB8.out.block _ hB7V).trans HBV7.out
        have hVz : V.heap.size ≤ w8.heap.size := HB8.out.size
        have HBN8 : Hid (Below N Wr w8) := HBV.out.trans (HB8.out.mono (by omega))
        have hw7V : w7.heap.size ≤ V.heap.size := by omega
        clear h81 h85 h86 h87 h88
        gi_wp2
        refine wpIn_rangeFunc_ownN (l₀ := l) (r₀ := r) rfl hr8 (by omega) (gf := 22) (lb := #[.pointer (some ⟨B8, 0, none⟩)]) rfl trivial (enters_of Try.func22 (by kernel_rfl) rfl)
          ((walk_stops2 6 (by omega) B8 g8 0 2 c8 [1, 2] by2 (by omega) h83 (by unfold maxLen at h84; omega) w8 HS8.out h82 hc8).inRound l) Two.trans (Two.put hg8 h82) (Below.refl _ _) (fun _ => rfl)
          (fun pre' V' => ((Var V' N ((2 * pre.length + pre'.length : Nat) : Int) ∧ V'.heap[g7]? = some O7) ∧ V'.heap[B7]? = some (.cells #[.slice (some ⟨g7, 0, none⟩) 4 c7] 22 (0, 0))) ∧ (Below N Wr V' ∧ KeepsFrom w7.heap.size V V'))
          (fun _ _ _ => False)
          (OwnFrom.and (OwnFrom.and (OwnFrom.and (Own.from (I := fun (pre' : List Pair) V' => Var V' N ((2 * pre.length + pre'.length : Nat) : Int)) (fun s A B' row hs hg hr => Var.kept hs hg hr) _) (ownFrom_block (by omega) _)) (ownFrom_block (by omega) _)) (OwnFrom.and (ownFrom_below (by rw [HN.out]; exact Nat.le_refl _) (by omega)) (ownFrom_keepsFrom hVz)))
          (fun _ _ _ _ _ hs _ _ => hs)
          ⟨⟨⟨HVN8.out, HO8.out⟩, HB78.out⟩, HBN8.out, keepsFrom_below HB8.out⟩
          (fun _ a' _ => ∃ u' : Nat → Value, a' = { tmps := #[u' 0, u' 1, u' 2, u' 3, u' 4, u' 5, u' 6, u' 7, u' 8, u' 9, u' 10, u' 11, u' 12, .pointer (some ⟨N, 0, none⟩), u' 14, u' 15, u' 16, u' 17, u' 18, u' 19, u' 20, u' 21, u' 22, u' 23, u' 24, u' 25, u' 26, u' 27, u' 28, u' 29, u' 30, u' 31, u' 32, u' 33, u' 34, u' 35, u' 36, u' 37, u' 38, u' 39, u' 40, u' 41, u' 42, u' 43, u' 44, u' 45, u' 46, u' 47, u' 48, u' 49, u' 50, u' 51, u' 52, u' 53, u' 54, u' 55, u' 56, u' 57, u' 58, u' 59, u' 60, u' 61, u' 62, u' 63, u' 64, u' 65, u' 66, u' 67, u' 68, u' 69, u' 70, u' 71, u' 72, u' 73, u' 74, u' 75, u' 76, u' 77, u' 78, u' 79, u' 80, u' 81, u' 82, u' 83, u' 84, u' 85, u' 86, u' 87, u' 88, u' 89, u' 90, u' 91, u' 92, u' 93, u' 94, u' 95, u' 96, u' 97, u' 98, u' 99, u' 100, u' 101, u' 102, u' 103], defers := [] }) (fun _ _ _ _ _ _ hs _ _ => hs)
          ?assign4 ?body4 ?done4 ?stop4
        case assign4 =>
          rintro l2 pre' y V' K hi hK
          dsimp only [pairs]
          gi_wp2
          exact hK _ _ (KeepsFrom.refl _ _) (Two.refl _ _ _) hi (exU (by kernel_rfl))
        case stop4 =>
          rintro cd pre' V' _ h
          exact h.elim
        case body4 =>
          rintro l2 pre' y a'' V' _ _ ⟨⟨⟨vN, oV⟩, bV⟩, hBV', hKF⟩ ⟨u'', rfl⟩ hlt'
          obtain ⟨M, hM⟩ : ∃ M : Nat, M = 2 * pre.length + pre'.length := ⟨_, rfl⟩
          rw [← hM] at vN
          have cN := vN.cell
          have fN := vN.free
          have V1 : Hid (Var V' N (M : Int)) := vN
          have HMM : Hid (M = 2 * pre.length + pre'.length) := hM
          have hMb : (M : Int) ≤ 9223372036854775806 := by omega
          have HO' : Hid (V'.heap[g7]? = some O7) := oV
          have HB' : Hid (V'.heap[B7]? = some (.cells #[.slice (some ⟨g7, 0, none⟩) 4 c7] 22 (0, 0))) := bV
          have HBV' : Hid (Below N Wr V') := hBV'
          have HKF : Hid (KeepsFrom w7.heap.size V V') := hKF
          clear vN hM oV bV hBV' hKF
          gi_wp2
          refine ⟨(KeepsOthers.setCell _ _ _).from _, ⟨Below.heap_setCell V' _ _ g8 (by simp; omega), Below.heap_setCell V' _ _ B8 (by simp; omega), by simp⟩, ⟨⟨?_, (Below.heap_setCell V' _ _ g7 (by simp; omega)).trans HO'.out⟩, (Below.heap_setCell V' _ _ B7 (by simp; omega)).trans HB'.out⟩, HBV'.out.setCell (p := ⟨N, 0, none⟩) (Nat.le_refl _) _, HKF.out.trans ((KeepsOthers.setCell _ _ _).from _)⟩
          rw [show ((2 * pre.length + (pre' ++ [y]).length : Nat) : Int) = (M : Int) + 1 from by have := HMM.out; simp; omega]
          exact V1.out.set _
        case done4 =>
          rintro ys' V' hys' ⟨⟨⟨vN, oV⟩, bV⟩, hBV', hKF⟩
          have hl2 := len2 ys' hys'
          gi_wp2
          refine ⟨hKF, ⟨oV.trans HOV.out.symm, bV.trans HBV7.out.symm, hKF.size⟩, ⟨⟨?_, oV⟩, bV⟩, hBV'⟩
          rw [show (2 * (pre ++ [x]).length : Nat) = 2 * pre.length + ys'.length from by simp; omega]
          exact vN
      case done3 =>
        rintro D3 zs V hD3 hzs ⟨⟨⟨vN, oV⟩, bV⟩, hBV⟩ hK3
        have hl3 := len1 zs hzs
        rw [hl3] at vN
        have cN : V.cell? ⟨N, 0, none⟩ = some (.int .i64 6) := vN.cell
        have HBV : Hid (Below N Wr V) := hBV
        have HK3 : Hid (V.heap[D3]? = some (.deferred (some []))) := hK3
        clear vN oV bV hBV hK3 hzs
        gi_wp2
        have hIW : I ≤ W.heap.size := by have := HWI.out.size; have := HII.out; omega
        have hWN : W.heap.size < N := by have := HzR.out; have := HN.out; omega
        have hD2W : D2 < W.heap.size := lt_of_block HKD2.out
        have HAW : Hid (Below Z w6 W) := HB.out.trans (HWI.out.mono (by omega))
        have HAR : Hid (Below Z w6 Wr) := HAW.out.trans (HBR.out.mono (by omega))
        have HAV : Hid (Below Z w6 V) := HAR.out.trans (HBV.out.mono (by omega))
        have HwV : Hid (Below P1 w V) := by
          have := H06.out
          rw [← HP1.out] at this
          exact this.trans (HAV.out.mono (by omega))
        have HC1 : Hid (V.heap[P1 + 1]? = some (.cells #[.bool false] 4 (0, 0))) := (HAV.out.block _ hP1Z).trans G1.out
        have HDV : Hid (V.heap[D]? = some (.deferred (some []))) := (HBV.out.block _ (by omega)).trans ((HBR.out.block _ (by omega)).trans HKD.out)
        have HD2V : Hid (V.heap[D2]? = some (.deferred (some []))) := (HBV.out.block _ (by omega)).trans ((HBR.out.block _ hD2W).trans HKD2.out)
        refine ⟨trivial, ?_⟩
        refine (callsIn_wide.2 (kept_c g _ a0 len0 cap0 xs V (F4.out.below HAV.out (by rw [HZ.out]; exact F4.out.lt)) (HS.out.below (by have := HwV.out; rw [HP1.out] at this; exact this)) HX.out (by omega))).mono ?_
        rintro e w9 ⟨rfl, nn, hw9⟩
        have hh9 : w9.heap = V.heap := by rw [hw9]; rfl
        have HB9 : Hid (Below P1 w w9) := by rw [hw9]; exact below_drewN HwV.out nn
        clear hw9
        have HC9 : Hid (w9.heap[P1 + 1]? = some (.cells #[.bool false] 4 (0, 0))) := by rw [hh9]; exact HC1.out
        have HD9 : Hid (w9.heap[D]? = some (.deferred (some []))) := by rw [hh9]; exact HDV.out
        have HD29 : Hid (w9.heap[D2]? = some (.deferred (some []))) := by rw [hh9]; exact HD2V.out
        have HD39 : Hid (w9.heap[D3]? = some (.deferred (some []))) := by rw [hh9]; exact HK3.out
        have cR := cell_of_one HC9.out
        have fR := free_of_one HC9.out
        clear hh9
        gi_wp2
        have hP1w := HP1.out
        have hDne : P1 + 1 ≠ D := fun e => by have h1 := HD9.out; rw [← e, HC9.out] at h1; cases h1
        have KO := KeepsOthers.setCell w9 ⟨P1 + 1, 0, none⟩ (.bool true)
        obtain ⟨X0, hX0⟩ : ∃ X0, w9.setCell ⟨P1 + 1, 0, none⟩ (.bool true) = X0 := ⟨_, rfl⟩
        have hcX0 : X0.cell? ⟨P1 + 1, 0, none⟩ = some (.bool true) := by rw [← hX0]; exact World.cell?_setCell_same' w9 ⟨P1 + 1, 0, none⟩ (.bool true) (by rw [cR]; rfl)
        have hBX0 : Below w.heap.size w X0 := by rw [← hX0, ← hP1w]; exact HB9.out.setCell (p := ⟨P1 + 1, 0, none⟩) (by simp) _
        rw [hX0] at KO ⊢
        have k3 := KO.same D3 _ HD39.out rfl
        have k2 : (X0.putObj D3 (.deferred none)).heap[D2]? = some (.deferred (some [])) := (World.putObj_heap_other (by omega)).trans (KO.same D2 _ HD29.out rfl)
        have k1 : ((X0.putObj D3 (.deferred none)).putObj D2 (.deferred none)).heap[D]? = some (.deferred (some [])) := (World.putObj_heap_other (by omega)).trans ((World.putObj_heap_other (by omega)).trans (KO.same D _ HD9.out rfl))
        have b3 : Below w.heap.size X0 (X0.putObj D3 (.deferred none)) := belowK_b (w := w) (Nat.le_refl _) X0 D3 _ _ (by omega) k3 rfl rfl
        have b2 : Below w.heap.size (X0.putObj D3 (.deferred none)) ((X0.putObj D3 (.deferred none)).putObj D2 (.deferred none)) := belowK_b (w := w) (Nat.le_refl _) _ D2 _ _ (by omega) k2 rfl rfl
        have b1 : Below w.heap.size ((X0.putObj D3 (.deferred none)).putObj D2 (.deferred none)) (((X0.putObj D3 (.deferred none)).putObj D2 (.deferred none)).putObj D (.deferred none)) := belowK_b (w := w) (Nat.le_refl _) _ D _ _ (by omega) k1 rfl rfl
        have hc5 : (((X0.putObj D3 (.deferred none)).putObj D2 (.deferred none)).putObj D (.deferred none)).cell? ⟨P1 + 1, 0, none⟩ = some (.bool true) :=
          (World.cell?_of_block (w := X0) (a := ⟨P1 + 1, 0, none⟩) ((World.putObj_heap_other hDne).trans ((World.putObj_heap_other (by omega)).trans (World.putObj_heap_other (by omega))))).trans hcX0
        refine ⟨by simp, .inl ⟨_, _, rfl, run_takeDeferred k3, ?_⟩⟩
        refine ⟨by simp, .inl ⟨_, _, rfl, run_takeDeferred k2, ?_⟩⟩
        refine ⟨by simp, .inl ⟨_, _, rfl, run_takeDeferred k1, ?_⟩⟩
        refine ⟨.bool true, ?_, rfl, ((hBX0.trans b3).trans b2).trans b1⟩
        have hres : Try.f6.results = #[.cell 4 4] := by kernel_rfl
        simp only [results, hres]
        simp [go_sem, hc5]
  intro KEY
  rw [roundsIn_succ]
  gi_wp2
  obtain ⟨W0, hW0⟩ : ∃ W0, (w6.alloc (.cells #[.int .i64 0] 3)).alloc (.cells #[.int .i64 0] 3) = W0 := ⟨_, rfl⟩
  have hzW : W0.heap.size = Z + 2 := by rw [← hW0, HZ.out]; simp
  have HBW : Hid (Below Z w6 W0) := by rw [HZ.out, ← hW0]; exact ((Below.refl _ w6).alloc (Nat.le_refl _) _).alloc (by simp) _
  have HVr : Hid (Var W0 Z 0) := by rw [HZ.out, ← hW0]; exact Var.alloc (show Var (w6.alloc _) _ _ from heap_alloc_new w6 _) _
  have HVi : Hid (Var W0 (Z + 1) 0) := by rw [HZ.out, ← hW0]; have := heap_alloc_new (w6.alloc (.cells #[.int .i64 0] 3)) (.cells #[.int .i64 0] 3); rw [World.size_alloc] at this; exact this
  rw [hW0, ← HZ.out, ← HP1.out, ← HP3.out]
  clear hW0
  have hc0 : W0.cell? ⟨Bx, 0, none⟩ = some (.slice ax len0 cx) := cell_of_one ((HBW.out.block _ hBxZ).trans F5.out)
  refine wpIn_rangeFunc_ownF rfl (by omega) (gf := 22) (lb := #[.pointer (some ⟨Bx, 0, none⟩)]) rfl trivial (enters_of Try.func22 (by kernel_rfl) rfl)
    (walk_stops 8 (by omega) Bx Z ax len0 cx xs HX.out (by omega) hx3 (by unfold maxLen at hx4; omega) w6 W0 F6.out (by have := HBW.out; rw [HZ.out] at this; exact this) (by rw [HZ.out]; exact Nat.le_refl _) (by omega) (by omega) hc0) Keep.trans (keep_b (by omega) (by omega)) (Below.refl _ _) (fun _ => rfl)
    (fun pre W => (Var W (Z + 1) (pre.length : Int) ∧ Var W Z 0 ∧ pre.map Subtype.val <+: tk xs 0 ∧ Z + 2 ≤ W.heap.size) ∧ Below Z w6 W)
    (fun cd pre W => (cd = .exit 2 ∧ (Var W (Z + 1) (pre.length : Int) ∧ Var W Z 0 ∧ (pre.length : Int) = a1) ∧ Below Z w6 W) ∨ (cd = .ret ∧ ¬ pre.map Subtype.val <+: tk xs 0))
    (OwnFrom.and (Own.from (fun s A B' row hs hg hr => ⟨hs.1.kept hg hr, hs.2.1.kept hg hr, hs.2.2.1, Nat.le_trans hs.2.2.2 hg.size⟩) _) (ownFrom_below (by rw [HZ.out]; exact Nat.le_refl _) (by omega)))
    (fun cd s A B' row hs hg hr => by
      rcases hs with ⟨h1, h2, h3⟩ | h
      · exact .inl ⟨h1, ⟨h2.1.kept hg (fun r e => (hr r e).2), h2.2.1.kept hg (fun r e => (hr r e).2), h2.2.2⟩, ownFrom_below (β := Unit) (B := W0.heap.size) (by rw [HZ.out]; exact Nat.le_refl _) (by omega) () A B' row h3 hg hr⟩
      · exact .inr h)
    ⟨⟨HVi.out, HVr.out, by simp, by omega⟩, HBW.out⟩ ?a1 ?assign ?body ?done ?stop
  case assign =>
    intro l x W K hK
    dsimp only [pairs]
    gi_wp2
    exact hK
  case body =>
    rintro l pre x W ⟨⟨v1, v0, hpre, hz⟩, hB⟩ _
    have cW : W.cell? ⟨P3, 0, none⟩ = some (.slice ao T c) := cell_of_one ((hB.block _ hP3Z).trans G2.out)
    have cL : W.cell? ⟨P1, 0, none⟩ = some (.int .i64 a1) := cell_of_one ((hB.block _ (by omega)).trans G0.out)
    have cR := cell_of_one ((hB.block _ hP1Z).trans G1.out)
    have fR := free_of_one ((hB.block _ hP1Z).trans G1.out)
    have c1 := v1.cell
    have f1 := v1.free
    have c0 := v0.cell
    obtain ⟨⟨p, v⟩, ⟨hp0, hp1⟩, hv⟩ := x
    simp only at hp0 hp1 hv
    have HPR : Hid (pre.map Subtype.val <+: tk xs 0) := hpre
    have V1 : Hid (Var W (Z + 1) (pre.length : Int)) := v1
    have V0 : Hid (Var W Z 0) := v0
    clear v1 v0 hpre
    by_cases hT : pre.length < T
    · obtain ⟨g', hao, hg', hca, hcv⟩ := F3.out pre.length hT
      obtain ⟨A, V, hAV⟩ : ∃ A V, (tk xs 0)[pre.length]?.getD (0, 0) = (A, V) := ⟨_, _, rfl⟩
      rw [hAV] at hca hcv
      subst hao
      have hca' : W.cell? ⟨g', pre.length * 2, none⟩ = some (.int .i64 A) := (hB.cell (p := ⟨g', pre.length * 2, none⟩) (by rw [HZ.out]; exact hg')).trans hca
      have hcv' : W.cell? ⟨g', pre.length * 2 + 1, none⟩ = some (.int .u64 V) := (hB.cell (p := ⟨g', pre.length * 2 + 1, none⟩) (by rw [HZ.out]; exact hg')).trans hcv
      have HAV : Hid ((tk xs 0)[pre.length]?.getD (0, 0) = (A, V)) := hAV
      have HTT : Hid (pre.length < (tk xs 0).length) := by show _ < _; rw [← HT.out]; exact hT
      clear hca hcv hAV
      by_cases hA : A = p
      · subst hA
        by_cases hV : V = v
        · subst hV
          have HP2 : Hid ((pre ++ [⟨(A, V), ⟨hp0, hp1⟩, hv⟩] : List Pair).map Subtype.val <+: tk xs 0) := by
            have := prefix_snoc (tk xs 0) (pre.map Subtype.val) (A, V) (0, 0) HPR.out (by simpa using HTT.out) (by simpa using HAV.out)
            show _ <+: _
            simpa using this
          have hlT : (pre.length : Int) ≤ 9223372036854775806 := by have := HTT.out; omega
          by_cases hlv : (pre.length : Int) + 1 = a1
          · have hb : ((pre.length : Int) + 1 == a1) = true := by simp [hlv]
            have HLV : Hid ((pre.length : Int) + 1 = a1) := hlv
            clear hlv
            gi_wp2
            refine ⟨KeepsOthers.setCell _ _ _, .inl ⟨rfl, ⟨?_, V0.out.other (by omega) _, ?_⟩, hB.setCell (p := ⟨Z + 1, 0, none⟩) (Nat.le_succ _) _⟩⟩
            · rw [show ((pre ++ [⟨(A, V), ⟨hp0, hp1⟩, hv⟩] : List Pair).length : Int) = (pre.length : Int) + 1 from by simp]; exact V1.out.set _
            · rw [show ((pre ++ [⟨(A, V), ⟨hp0, hp1⟩, hv⟩] : List Pair).length : Int) = (pre.length : Int) + 1 from by simp]; exact HLV.out
          · have hb : ((pre.length : Int) + 1 == a1) = false := by simp [hlv]
            clear hlv
            gi_wp2
            refine ⟨KeepsOthers.setCell _ _ _, ⟨(Below.refl Z W).setCell (p := ⟨Z + 1, 0, none⟩) (Nat.le_succ _) _, Below.heap_setCell W _ _ Bx (by simp; omega)⟩, ⟨?_, V0.out.other (by omega) _, HP2.out, by simpa using hz⟩, hB.setCell (p := ⟨Z + 1, 0, none⟩) (Nat.le_succ _) _⟩
            rw [show ((pre ++ [⟨(A, V), ⟨hp0, hp1⟩, hv⟩] : List Pair).length : Int) = (pre.length : Int) + 1 from by simp]; exact V1.out.set _
        · have hb : (V != v) = true := by simp [hV]
          have HN : Hid (¬ (pre ++ [⟨(A, v), ⟨hp0, hp1⟩, hv⟩] : List Pair).map Subtype.val <+: tk xs 0) := fun h => by
            have := prefix_last (tk xs 0) (pre.map Subtype.val) (A, v) (0, 0) (by simpa using h)
            have h2 := this.2
            rw [List.length_map, HAV.out] at h2
            exact hV (congrArg Prod.snd h2)
          clear hV
          gi_wp2
          exact ⟨KeepsOthers.setCell _ _ _, .inr ⟨rfl, HN.out⟩⟩
      · have hb : (A != p) = true := by simp [hA]
        have HN : Hid (¬ (pre ++ [⟨(p, v), ⟨hp0, hp1⟩, hv⟩] : List Pair).map Subtype.val <+: tk xs 0) := fun h => by
          have := prefix_last (tk xs 0) (pre.map Subtype.val) (p, v) (0, 0) (by simpa using h)
          have h2 := this.2
          rw [List.length_map, HAV.out] at h2
          exact hA (congrArg Prod.fst h2)
        clear hA
        gi_wp2
        exact ⟨KeepsOthers.setCell _ _ _, .inr ⟨rfl, HN.out⟩⟩
    · have HN : Hid (¬ (pre ++ [⟨(p, v), ⟨hp0, hp1⟩, hv⟩] : List Pair).map Subtype.val <+: tk xs 0) := fun h => by
        have := prefix_last (tk xs 0) (pre.map Subtype.val) (p, v) (0, 0) (by simpa using h)
        have h2 := this.1
        rw [List.length_map, ← HT.out] at h2
        exact hT h2
      gi_wp2
      exact ⟨KeepsOthers.setCell _ _ _, .inr ⟨rfl, HN.out⟩⟩
  case done =>
    rintro D ys W hD hys ⟨⟨v1, v0, hpre, hz⟩, hB⟩ hK
    have hlen : ys.length = T := by rw [HT.out, ← hys, List.length_map]
    rw [hlen] at v1
    have cW : W.cell? ⟨P3, 0, none⟩ = some (.slice ao T c) := cell_of_one ((hB.block _ hP3Z).trans G2.out)
    have cL : W.cell? ⟨P1, 0, none⟩ = some (.int .i64 a1) := cell_of_one ((hB.block _ (by omega)).trans G0.out)
    have c1 := v1.cell
    have c0 := v0.cell
    have V0 : Hid (Var W Z 0) := v0
    have hbb : ((T : Int) != (T : Int)) = false := by simp
    clear v1 v0 hpre hlen hys
    gi_wp2
    exact KEY _ _ ⟨D, W.heap.size, by omega, exU (by kernel_rfl), (Below.heap_alloc _ _ _ (lt_of_block hK)).trans hK, heap_alloc_new W _, hB.alloc (by omega) _⟩
  case stop =>
    rintro D cd pre W hD hpre hIx hK
    rcases hIx with ⟨rfl, ⟨v1, v0, hla⟩, hB⟩ | ⟨rfl, hn⟩
    · have cW : W.cell? ⟨P3, 0, none⟩ = some (.slice ao T c) := cell_of_one ((hB.block _ hP3Z).trans G2.out)
      have cL : W.cell? ⟨P1, 0, none⟩ = some (.int .i64 a1) := cell_of_one ((hB.block _ (by omega)).trans G0.out)
      have hzZ : Z + 2 ≤ W.heap.size := by have := lt_of_block v1; omega
      have c1 := v1.cell
      have c0 := v0.cell
      have hbb : ((pre.length : Int) != a1) = false := by simp [hla]
      have V0 : Hid (Var W Z 0) := v0
      have HLA : Hid ((pre.length : Int) = a1) := hla
      clear v1 v0 hla
      by_cases hTT : (pre.length : Int) = (T : Int)
      · have hbt : ((pre.length : Int) != (T : Int)) = false := by simp [hTT]
        clear hTT
        gi_wp2
        exact KEY _ _ ⟨D, W.heap.size, by omega, exU (by kernel_rfl), (Below.heap_alloc _ _ _ (lt_of_block hK)).trans hK, heap_alloc_new W _, hB.alloc (by omega) _⟩
      · have hbt : ((pre.length : Int) != (T : Int)) = true := by simp [hTT]
        clear hTT
        gi_wp2
        exact KEY _ _ ⟨D, W.heap.size, by omega, exU (by kernel_rfl), (Below.heap_alloc _ _ _ (lt_of_block hK)).trans hK, heap_alloc_new W _, hB.alloc (by omega) _⟩
    · exact absurd hpre hn

theorem walk (a0 : Option Addr) (len0 cap0 : Nat) (z0 : List Int) (a1 : Int) (w : World) (w0 : IsRow .u8 1048576 w a0 len0 cap0 z0) (w1 : (Lit.int .i64 a1).wf = true) :
    Calls Try.prog 6 #[.slice a0 len0 cap0, .int .i64 a1] w fun e w' => e = .returned (.bool true) ∧ Below w.heap.size w w' := by
  obtain ⟨hs, hlc, hR, hwf⟩ := seg_of_row w0
  exact callsIn_wide.1 (walk_in a0 len0 cap0 (z0.take len0) a1 w hs (fun i hi => wf_u8 (hwf i hi)) (by omega) hlc hR (bounds_i64 w1))

set_option maxRecDepth 100000 in
theorem lifted (os : Os) (started : os.Started) (H : Type) (enc : TypeId × Value → H) (F : Stop.Interp) :
    ReturnsInHanded {} Try.checked os 6 .any ((Rows.OpenSpec.upto Rows.lebTellsSpec).pre6 enc Try.prog Try.f6 Rows.lebTellsUptoRow.domain false) (((Rows.OpenSpec.upto Rows.lebTellsSpec).at F).post enc Try.prog Try.f6 false true false false) := by
  refine returnsInHanded_of_cond (C := Try.checked) (s := Rows.OpenSpec.upto Rows.lebTellsSpec) (k := Rows.uptoSmall) rfl own started (by kernel_rfl) Try.func6
    (OpenSpec.witness (enc := enc) (C := Try.checked) (s := Rows.OpenSpec.upto Rows.lebTellsSpec) (k := Rows.uptoSmall) rfl false ⟨#[], #[.slice none 0 0, .int .i64 0], []⟩ 8 (by kernel_rfl) (by kernel_rfl) (by kernel_rfl)
      (x := ([.nil, .lit (.int .i64 0)], [], [])) (by kernel_rfl) rfl (by kernel_rfl)) ?_
  intro W base args ds gs before hval0 hW hcnd hk _
  have hval : ∀ (j : Nat) t v, Try.f6.params[j]? = some t → args[j]? = some v → Value.okWide Try.prog W .any base t v := hval0
  have hW' := hW
  obtain ⟨p, q, hA0, hV, rfl, hfz, hnd⟩ := hW
  have hA : DataW.TrodAll enc Try.prog W 0 (fun _ => true) true Try.f6.params.toList args.toList ds p := hA0
  rw [Try.params6] at hA hval
  obtain ⟨v0, vs0, d0, ds0, p0, q0, hargs, rfl, rfl, h0, r0⟩ := trodAll_cons hA
  obtain ⟨v1, vs1, d1, ds1, p1, q1, rfl, rfl, rfl, h1, r1⟩ := trodAll_cons r0
  obtain ⟨rfl, rfl, rfl⟩ := trodAll_nil r1
  obtain rfl : args = #[v0, v1] := by cases args; simp_all
  obtain ⟨rfl, rfl⟩ := trodVars_none hV
  obtain ⟨a0, len0, cap0, rfl⟩ := okWide_slice Try.underlying22 (hval 0 22 v0 rfl rfl)
  have k0 := h0
  have lt0 : ∀ x ∈ p0, x.block < W.heap.size := by obtain ⟨m, hm⟩ := k0; exact DataW.trod_lt m _ _ _ hm
  obtain ⟨z0, w0⟩ : ∃ zs, IsRow .u8 1048576 W a0 len0 cap0 zs := by
    obtain ⟨fuel, hf⟩ := h0
    rcases open_ints Try.underlying22 Try.underlying5 (by kernel_rfl) hf with ⟨hcs, _⟩ | ⟨x, l, c, zs, hcs, _, hl, hm, hz, hx, hcell, hwz⟩
    · simp [Value.cells] at hcs
      obtain ⟨rfl, rfl, rfl⟩ := hcs
      exact ⟨[], .inl ⟨rfl, rfl, rfl, rfl⟩⟩
    · simp [Value.cells] at hcs
      obtain ⟨rfl, rfl, rfl⟩ := hcs
      have hd : d0 = _ := congrArg Prod.fst hx
      have hb := bulk_slice hk (show d0 ∈ _ by simp) hd
      simp only [lits, List.length_map, List.length_take, List.length_drop] at hb
      have hz' : zs.length = cap0 := by simpa using hz
      exact ⟨zs, .inr ⟨_, rfl, hl, by omega, hz', hcell, hwz⟩⟩
  obtain ⟨a1, rfl, rfl, rfl, w1⟩ := open_int Try.underlying3 (hval 1 3 v1 rfl rfl) h1
  clear hA0 hval0
  refine (walk a0 len0 cap0 z0 a1 W w0 w1).mono fun e W' ⟨he, bel⟩ => ?_
  subst he
  exact ⟨_, rfl, _, _, _, [], _, [], hW', trodAll_mk1 (shut_bool Try.underlying4 _), (trodAll_cons_mk (Below.trod laidOut (by kernel_rfl) (of_decide_eq_true (by kernel_rfl)) k0 bel lt0) (trodAll_cons_mk (shut_int Try.underlying3 w1) trodAll_mk0)), rfl, bel.frame _, fun h => by cases h⟩

theorem over : Rows.lebTellsUptoRow.holds Try.pinned (Rows.OpenSpec.upto Rows.lebTellsSpec) :=
  OpenClaim.holds_of_cond 6 Try.f6 rfl rfl rfl rfl rfl rfl rfl ⟨rfl, rfl, rfl, rfl, rfl⟩ rfl rfl rfl rfl rfl (by kernel_rfl) Try.func6 (by kernel_rfl)
    (of_decide_eq_true (by kernel_rfl)) (by unfold Func.isWrapper; first | (rw [if_pos (by decide +kernel)]; kernel_rfl) | (rw [if_neg (by decide +kernel)]; exact ⟨rfl, rfl⟩))
    (fun os started H enc _ F => lifted os started H enc F)

end Go.Proofs.Ytoihckfmppcbdaa.lebTells
namespace Go.Proofs.Ytoihckfmppcbdaa
theorem lebTells_holds : Rows.LebTellsUptoSaid := lebTells.over
#print axioms lebTells_holds
end Go.Proofs.Ytoihckfmppcbdaa
