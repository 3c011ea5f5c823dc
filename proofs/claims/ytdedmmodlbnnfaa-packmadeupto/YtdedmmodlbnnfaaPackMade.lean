/-
  Proved: for every list of calls that holds at most 1048576 values and letters hawserlaw03.PackMade answers true: readers and writers that no call made answer nothing, and ErrMade. The condition is the second form's.
-/
import Derived.Test.YtdedmmodlbnnfaaRows
import Derived.Test.YtdedmmodlbnnfaaWrNil
import Derived.Test.YtdedmmodlbnnfaaNoneOp
import Derived.WalkKit
import Derived.ProofKit
import Derived.OpenShut
import Derived.ShutString
import Derived.ChangeOld
import Derived.Below
import Derived.Lib.SmallJoins
import Derived.JoinedCond
namespace Go.Proofs.Ytdedmmodlbnnfaa.packMade
open Go.ChangeShapes Go.WideShapes Go.ChangeAt Go.RowKit
set_option linter.unusedVariables false

theorem own : ownKnob Try.prog.godebug = none := by kernel_rfl
theorem laidOut : laidOutB Try.prog = true := by kernel_rfl

theorem weight_take (X : List OpD) (k : Nat) (o : OpD) (h : X[k]? = some o) : opsWeight (X.take (k + 1)) = opsWeight (X.take k) + o.weight := by
  have hk := (List.getElem?_eq_some_iff.1 h).1
  rw [List.take_succ_eq_append_getElem hk]
  have he : X[k] = o := by rw [List.getElem?_eq_getElem hk] at h; exact Option.some.inj h
  simp [opsWeight, he]
theorem weight_take_le (X : List OpD) (k : Nat) : opsWeight (X.take k) ≤ opsWeight X := by
  have : opsWeight X = opsWeight (X.take k) + opsWeight (X.drop k) := by
    unfold opsWeight
    rw [← List.sum_append, ← List.map_append, List.take_append_drop]
  omega
/-- How the writer and the reader stand between two rounds. -/
structure Mid (B : Nat) (w wr : World) (S : Nat) : Prop where
  x : ∃ v ys e F, XW (B + 2) wr (B + 1) v ys e F ∧ ys.length ≤ 10 * S
  un : Un wr (.pointer (some ⟨B, 0, none⟩))
  bel : Below B w wr
theorem Mid.new {B w wr w' S} (h : Mid B w wr S) (hg : wr.grownBy w' none) (hB : B ≤ wr.heap.size) : Mid B w w' S := by
  obtain ⟨v, ys, e, F, hx, hl⟩ := h.x
  exact ⟨⟨v, ys, e, F, hx.new hg, hl⟩, h.un.new hg, h.bel.grown hg hB (fun k hk => by cases hk)⟩
theorem writeMid {B w wr S} {N : Nat} {C : Array Value} (h : Mid B w wr S) (o : OpD) (ho : o.Ok) (hw : o.weight ≤ 1048576) (hS : S ≤ 1048576) (hb : Bk 39 wr N C) (hN : B + 2 ≤ N) (hF : ∀ v ys e F, XW (B + 2) wr (B + 1) v ys e F → F ≠ some N) :
    Calls Try.prog 7 #[.pointer none, .pointer (some ⟨B + 1, 0, none⟩), .agg o.cells.toArray] wr fun r w' => r = .returned (.tuple #[]) ∧ Mid B w w' (S + o.weight) ∧ Bk 39 w' N C := by
  obtain ⟨v, ys, e, F, hx, hl⟩ := h.x
  refine (write_nil (B + 2) (B + 1) v ys e F o _ wr hx rfl ho hw (by omega)).mono ?_
  rintro r w' ⟨hr, v', F', hx', hg, hf⟩
  have hlo := hx.own.lo
  rw [hx.fb] at hlo
  refine ⟨hr, ⟨⟨v', _, _, F', hx', by have := wst_len o ho hw ys e; omega⟩, ?_, ?_⟩, hb.gr hg ?_⟩
  · rcases h.un with h1 | ⟨g, h1, h2⟩
    · cases h1
    · cases h1
      refine .inr ⟨B, rfl, (hg.block B (lt_of_block h2) ?_).trans h2⟩
      rintro (h3 | h3)
      · omega
      · have := hlo B h3; omega
  · exact hg.below h.bel (by rintro k (h3 | h3); omega; have := hlo k h3; omega) (Nat.le_trans (by omega) hx.base)
  · rintro (h3 | h3)
    · omega
    · exact hF v ys e F hx h3

set_option maxRecDepth 20000 in
set_option maxHeartbeats 2000000 in
theorem walk (a0 : Option Addr) (n0 cap0 : Nat) (X0 : List OpD) (w : World) (x0 : Ops w a0 n0 X0) (lc0 : n0 ≤ cap0) (cm0 : cap0 ≤ maxLen) (nz0 : a0 = none → cap0 = 0) (y0 : opsWeight X0 ≤ 1048576) :
    Calls Try.prog 5 #[.slice a0 n0 cap0] w fun e w' => e = .returned (.bool true) ∧ Below w.heap.size w w' := by
  have HO : Hid (Ops w a0 n0 X0) := x0
  have HWT : Hid (opsWeight X0 ≤ 1048576) := y0
  have HN1 : Hid ((n0 : Int) ≤ 9223372036854775807) := by unfold maxLen at cm0; show _ ≤ _; omega
  obtain ⟨B, hB⟩ : ∃ B, B = w.heap.size := ⟨_, rfl⟩
  have HBW : Hid (B = w.heap.size) := hB
  clear x0 y0 lc0 cm0 nz0
  go_enter Try.func5, Try.ntmps5
  go_wp2
  rw [← hB]
  generalize hW1 : World.alloc (World.alloc w _) _ = W1
  have H1 : Hid (Mid B w W1 0) := by
    rw [← hW1, hB]
    have n1 := heap_new w (.cells #[.int .i64 0, .bool false, .slice none 0 0, .int .i64 0] 57)
    have n2 := heap_new (w.alloc (.cells #[.int .i64 0, .bool false, .slice none 0 0, .int .i64 0] 57)) (.cells #[.slice none 0 0, .int .i64 0] 33)
    rw [World.size_alloc] at n2
    have g2 := World.grownBy_alloc (w.alloc (.cells #[.int .i64 0, .bool false, .slice none 0 0, .int .i64 0] 57)) (.cells #[.slice none 0 0, .int .i64 0] 33) none
    refine ⟨⟨.slice none 0 0, [], 0, none, ⟨n2, own_nil _ _, rfl, by simp, fun i hi => by simp at hi, by simp⟩, by simp⟩, .inr ⟨_, rfl, (g2.block _ (lt_of_block n1) (by simp)).trans n1⟩, ?_⟩
    exact ((Below.refl _ _).alloc (Nat.le_refl _) _).alloc (by simp) _
  clear hW1 hB
  go_loopw [15] (fun i wr => ∃ k : Nat, k ≤ n0 ∧ i = .int .i64 k ∧ Hid (Mid B w wr (opsWeight (X0.take k)))) (fun i _ => n0 - (intOf i).toNat)
  case atStart => exact ⟨0, Nat.zero_le _, rfl, H1⟩
  case round =>
    obtain ⟨k, hk, rfl, HI⟩ := hrel
    clear H1
    by_cases hlt : k < n0
    · obtain ⟨b, off, o, rfl, hbw, hxo, hok, hrg⟩ := HO.out.at_ k hlt
      have HOK : Hid (o.Ok ∧ o.weight ≤ 1048576 ∧ opsWeight (X0.take k) ≤ 1048576 ∧ opsWeight (X0.take (k + 1)) = opsWeight (X0.take k) + o.weight) := by
        have q1 := weight_take X0 k o hxo
        have q2 := weight_take_le X0 (k + 1)
        have q3 := weight_take_le X0 k
        have := HWT.out
        exact ⟨hok, by omega, by omega, q1⟩
      have HRG : Hid (wr.rangeAt b (off + k * 41) o.cells) := fun j v hv => (HI.out.bel.cell (p := ⟨b, off + k * 41 + j, none⟩) (by rw [HBW.out]; exact hbw)).trans (hrg j v hv)
      have HOL : Hid (o.cells.length = 41) := OpD.cells_length o hok
      clear hxo hok hrg hbw
      obtain ⟨N, hN⟩ : ∃ N, N = wr.heap.size := ⟨_, rfl⟩
      have HNN : Hid (B + 2 ≤ N ∧ B ≤ wr.heap.size ∧ ∀ w', Mid B w w' (opsWeight (X0.take k)) → wr.grownBy w' none → ∀ v ys e F, XW (B + 2) w' (B + 1) v ys e F → Xwr wr (B + 1) v e → F ≠ some N) := by
        obtain ⟨v, ys, e, F, hx, hl⟩ := HI.out.x
        refine ⟨by rw [hN]; exact hx.base, Nat.le_trans (by omega) hx.base, ?_⟩
        intro w' _ hg v' ys' e' F' hx' hb' hF
        have hvv : v' = v := by
          have h1 := hb'.c0
          rw [hx.blk.c0] at h1
          exact (Option.some.inj h1).symm
        have h2 := hx.own.lo N (by rw [← hvv, hx'.fb]; exact hF)
        omega
      have hk1 : (k : Int) < n0 := by omega
      have hn1 := HN1.out
      go_wp2_with (first
        | (refine wpList_load_mid rfl 39 (.tmp 17) rfl b (off + k * 41) rfl o.cells _ HRG.out Try.underlying39 rfl (by rw [HOL.out]; exact infoOp41) ?_)
        | (refine wpList_store_bk 39 rfl (.tmp 8) (.tmp 18) rfl infoOp41 wr.heap.size _ o.cells.toArray rfl rfl (heap_new wr _) rfl (by rw [List.size_toArray]; exact HOL.out) (cells_one o) ?_; intro w6 h1 h2; rw [← hN] at h1 h2 ⊢; have H6 : Hid (Bk 39 w6 N o.cells.toArray ∧ wr.grownBy w6 none) := ⟨h1, gb_newer (World.grownBy_alloc _ _ _) h2 (Nat.le_of_eq hN.symm)⟩; clear h1 h2 hN)
        | (refine wpList_load_bk 39 rfl (.tmp 8) rfl Try.underlying39 rfl infoOp41 N o.cells.toArray rfl H6.out.1 (by rw [List.size_toArray]; exact HOL.out) ?_))
      have H7 : Hid (Mid B w w6 (opsWeight (X0.take k))) := HI.out.new H6.out.2 HNN.out.2.1
      refine (writeMid H7.out o HOK.out.1 HOK.out.2.1 HOK.out.2.2.1 H6.out.1 HNN.out.1 ?_).mono ?_
      · intro v ys e F hx
        refine HNN.out.2.2 w6 H7.out H6.out.2 v ys e F hx ?_
        obtain ⟨v', ys', e', F', hx', _⟩ := HI.out.x
        have h1 := (H6.out.2.block (B + 1) (lt_of_block hx'.blk) (by simp)).trans hx'.blk
        have h2 : Xwr w6 (B + 1) v e := hx.blk
        unfold Xwr at h2
        rw [h1] at h2
        simp at h2
        unfold Xwr
        rw [← h2.1, ← h2.2]
        exact hx'.blk
      · rintro r w8 ⟨rfl, h8, hb8⟩
        have H8 : Hid (Mid B w w8 (opsWeight (X0.take (k + 1))) ∧ Bk 39 w8 N o.cells.toArray ∧ B ≤ w8.heap.size) := ⟨by rw [HOK.out.2.2.2]; exact h8, hb8, Nat.le_trans (by omega) (Nat.le_trans HNN.out.1 (Nat.le_of_lt (lt_of_block hb8)))⟩
        clear h8 hb8
        go_wp2_with (first
          | (refine wpList_load_bk 39 rfl (.tmp 8) rfl Try.underlying39 rfl infoOp41 N o.cells.toArray rfl H8.out.2.1 (by rw [List.size_toArray]; exact HOL.out) ?_))
        refine (none_op (.pointer none) o _ w8 (.inl rfl) rfl).mono ?_
        rintro r w9 ⟨rfl, hg9⟩
        have H9 : Hid (Mid B w w9 (opsWeight (X0.take (k + 1))) ∧ Bk 39 w9 N o.cells.toArray ∧ B ≤ w9.heap.size) := ⟨H8.out.1.new hg9 H8.out.2.2, H8.out.2.1.gr (Gr.of (G := fun _ => False) hg9 (by simp)) (by simp), Nat.le_trans H8.out.2.2 hg9.size⟩
        clear hg9
        go_wp2_with (first
          | (refine wpList_load_bkG 39 rfl (.tmp 8) rfl Try.underlying39 rfl infoOp41 N o.cells.toArray rfl H9.out.2.1 (by rw [List.size_toArray]; exact HOL.out) ?_))
        refine (none_op (.pointer (some ⟨B, 0, none⟩)) o _ w9 H9.out.1.un rfl).mono ?_
        rintro r w10 ⟨rfl, hg10⟩
        have HFF : Hid (Hid (Mid B w w10 (opsWeight (X0.take (k + 1))))) := H9.out.1.new hg10 H9.out.2.2
        clear hg10
        go_wp2
        go_roundw
        case rel => first | exact ⟨k + 1, by omega, by go_num, HFF.out⟩ | ((repeat apply Exists.intro); exact ⟨⟨k + 1, by omega, by go_num, HFF.out⟩, rfl⟩)
        case measure => simp [intOf]; omega
    · obtain rfl : k = n0 := by omega
      have HBL : Hid (Below B w wr) := HI.out.bel
      clear HI
      go_wp2_with fail
      refine (nbytes_c wr).mono ?_
      rintro r w3 ⟨rfl, rfl⟩
      go_wp2_with fail
      refine (nsize_c _).mono ?_
      rintro r w4 ⟨rfl, rfl⟩
      go_wp2
      go_ret
      exact ⟨rfl, by rw [← HBW.out]; exact HBL.out⟩

theorem bulk_len {H : Type} (l : List (DataW H)) : l.length ≤ Rows.uptoBulkAll l := by
  induction l with
  | nil => simp
  | cons d r ih =>
    have : 1 ≤ Rows.uptoBulk d := by
      cases d with
      | lit x => cases x <;> simp [Rows.uptoBulk]
      | _ => simp [Rows.uptoBulk]
    simp only [Rows.uptoBulkAll, List.length_cons]; omega
theorem bulk_mem {H : Type} {d : DataW H} {l : List (DataW H)} (h : d ∈ l) : Rows.uptoBulk d ≤ Rows.uptoBulkAll l := by
  induction l with
  | nil => cases h
  | cons x r ih =>
    simp only [Rows.uptoBulkAll]
    rcases List.mem_cons.1 h with rfl | h
    · omega
    · have := ih h; omega
theorem bulk_slice {H : Type} {ds : List (DataW H)} {d : DataW H} {l r : List (DataW H)} (hk : Rows.uptoSmall H ds = true) (hd : d ∈ ds) (e : d = .slice l r) : l.length + r.length ≤ 1048576 := by
  have h0 : Rows.uptoBulkAll ds ≤ 1048576 := of_decide_eq_true hk
  have h1 := bulk_mem hd
  have h3 := bulk_len l
  have h4 := bulk_len r
  rw [e] at h1
  simp only [Rows.uptoBulk] at h1
  omega

set_option maxRecDepth 100000 in
theorem lifted (os : Os) (started : os.Started) (H : Type) (enc : TypeId × Value → H) (F : Stop.Interp) :
    ReturnsInHanded {} Try.checked os 5 .any ((Rows.OpenSpec.upto Rows.packMadeSpec).pre6 enc Try.prog Try.f5 Rows.packMadeUptoRow.domain false) (((Rows.OpenSpec.upto Rows.packMadeSpec).at F).post enc Try.prog Try.f5 false true false false) := by
  refine returnsInHanded_of_cond (C := Try.checked) (s := Rows.OpenSpec.upto Rows.packMadeSpec) (k := Rows.uptoSmall) rfl own started (by kernel_rfl) Try.func5
    (OpenSpec.witness (enc := enc) (C := Try.checked) (s := Rows.OpenSpec.upto Rows.packMadeSpec) (k := Rows.uptoSmall) rfl false ⟨#[], #[.slice none 0 0], []⟩ 8 (by kernel_rfl) (by kernel_rfl) (by kernel_rfl)
      (x := ([.nil], [], [])) (by kernel_rfl) rfl (by kernel_rfl)) ?_
  intro W base args ds gs before hval0 hW hcnd hk _
  have hval : ∀ (j : Nat) t v, Try.f5.params[j]? = some t → args[j]? = some v → Value.okWide Try.prog W .any base t v := hval0
  have hW' := hW
  obtain ⟨p, q, hA0, hV, rfl, hfz, hnd⟩ := hW
  have hA : DataW.TrodAll enc Try.prog W 0 (fun _ => true) true Try.f5.params.toList args.toList ds p := hA0
  rw [Try.params5] at hA hval
  obtain ⟨v0, vs0, d0, ds0, p0, q0, hargs, rfl, rfl, h0, r0⟩ := trodAll_cons hA
  obtain ⟨rfl, rfl, rfl⟩ := trodAll_nil r0
  obtain rfl : args = #[v0] := by cases args; simp_all
  obtain ⟨rfl, rfl⟩ := trodVars_none hV
  have k0 := h0
  have lt0 : ∀ x ∈ p0, x.block < W.heap.size := by obtain ⟨m, hm⟩ := k0; exact DataW.trod_lt m _ _ _ hm
  obtain ⟨a0, n0, cap0, X0, rfl, x0, lc0, cm0, nz0, y0⟩ : ∃ a n cap X, v0 = .slice a n cap ∧ Ops W a n X ∧ n ≤ cap ∧ cap ≤ maxLen ∧ (a = none → cap = 0) ∧ opsWeight X ≤ 1048576 := by
    obtain ⟨sa, sl, sc, hv⟩ := okWide_slice Try.underlying22 (hval 0 22 v0 rfl rfl)
    obtain ⟨a, n, cap, X, h1, h2, h3, h4, h5, h6⟩ := ops_open sa sl sc hv h0
    have hAll : Rows.uptoBulkAll _ ≤ 1048576 := of_decide_eq_true hk
    exact ⟨a, n, cap, X, h1, h2, h3, h4, h5, Nat.le_trans h6 (Nat.le_trans (bulk_mem (show d0 ∈ _ by simp)) hAll)⟩
  clear hA0 hval0
  refine (walk a0 n0 cap0 X0 W x0 lc0 cm0 nz0 y0).mono fun e W' ⟨he, bel⟩ => ?_
  subst he
  exact ⟨_, rfl, _, _, _, [], _, [], hW', trodAll_mk1 (shut_bool Try.underlying4 _), (trodAll_cons_mk (Below.trod laidOut (by kernel_rfl) (of_decide_eq_true (by kernel_rfl)) k0 bel lt0) trodAll_mk0), rfl, bel.frame _, fun h => by cases h⟩

theorem over : Rows.packMadeUptoRow.holds Try.pinned (Rows.OpenSpec.upto Rows.packMadeSpec) :=
  OpenClaim.holds_of_cond 5 Try.f5 rfl rfl rfl rfl rfl rfl rfl ⟨rfl, rfl, rfl, rfl, rfl⟩ rfl rfl rfl rfl rfl (by kernel_rfl) Try.func5 (by kernel_rfl)
    (of_decide_eq_true (by kernel_rfl)) (by unfold Func.isWrapper; first | (rw [if_pos (by decide +kernel)]; kernel_rfl) | (rw [if_neg (by decide +kernel)]; exact ⟨rfl, rfl⟩))
    (fun os started H enc _ F => lifted os started H enc F)

end Go.Proofs.Ytdedmmodlbnnfaa.packMade
namespace Go.Proofs.Ytdedmmodlbnnfaa
theorem packMade_holds : Rows.PackMadeUptoSaid := packMade.over
#print axioms packMade_holds
end Go.Proofs.Ytdedmmodlbnnfaa
