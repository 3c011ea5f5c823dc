/-
  Proved: for every update and every text, hawserlaw14.VersNone answers true: a book that no call made answers ErrMade, and tells nothing; New of no store makes none. No condition.
-/
import Derived.Test.YtalfoenoekcdaaaRows
import Derived.Test.YtalfoenoekcdaaaVNo
import Derived.Test.YtalfoenoekcdaaaDOp
import Derived.WalkKit
import Derived.ProofKit
import Derived.OpenShut
import Derived.ShutString
import Derived.ChangeOld
import Derived.Below
import Derived.Lib.SmallJoins
import Derived.JoinedCond
namespace Go.Proofs.Ytalfoenoekcdaaa.versNone
open Go.ChangeShapes Go.WideShapes Go.ChangeAt Go.RowKit
set_option linter.unusedVariables false

theorem own : ownKnob Try.prog.godebug = none := by kernel_rfl
theorem laidOut : laidOutB Try.prog = true := by kernel_rfl

/-- What stays from round to round. -/
structure VS (B S : Nat) (cs : Array Value) (w wr : World) : Prop where
  o : Bk 34 wr B cs
  z : UnB wr (.pointer (some ⟨B + 1, 0, none⟩))
  s : ∃ T, wr.heap[S]? = some (.cells #[.pointer none, .pointer (some ⟨B + 1, 0, none⟩)] T)
  b : Below B w wr
  l : B ≤ wr.heap.size
theorem VS.below {B S : Nat} {cs : Array Value} {w wr w' : World} (h : VS B S cs w wr) (hb : Below wr.heap.size wr w') : VS B S cs w w' := by
  obtain ⟨T, hs⟩ := h.s
  exact ⟨h.o.below hb (lt_of_block h.o), h.z.below hb, ⟨T, (hb.block S (lt_of_block hs)).trans hs⟩, h.b.trans (hb.mono h.l), Nat.le_trans h.l hb.size⟩
theorem VS.at_ {B S k : Nat} {cs : Array Value} {w wr : World} (h : VS B S cs w wr) (hk : k < 2) : ∃ q, wr.cell? ⟨S, k, none⟩ = some (.pointer q) ∧ UnB wr (.pointer q) := by
  obtain ⟨T, hs⟩ := h.s
  match k, hk with
  | 0, _ => exact ⟨none, by rw [cell_of_row wr S 0 _ _ _ hs]; rfl, .inl rfl⟩
  | 1, _ => exact ⟨_, by rw [cell_of_row wr S 1 _ _ _ hs]; rfl, h.z⟩
theorem infoUpd7 : (Try.prog.info? 34).map (·.size) = some 7 := by kernel_rfl
theorem zBookZ (w : World) : (zeroValue 37).run Try.prog w = .ok (.agg #[.pointer none]) w := by
  have h : (Try.prog.info? 37).map (fun i => (i.zero, i.size)) = some (some (.agg #[.pointer none]), 1) := by kernel_rfl
  exact (zero_of_info h).1 w
set_option maxRecDepth 20000 in
set_option maxHeartbeats 8000000 in
theorem walk (u : Dl.Upd) (key : ByteArray) (w : World) (hok : u.ok) (hky : key.size ≤ maxLen) :
    Calls Try.prog 4 #[.agg u.cells.toArray, .string key] w fun e w' => e = .returned (.bool true) ∧ Below w.heap.size w w' := by
  clear hok hky
  obtain ⟨cs, hcs⟩ : ∃ cs, cs = u.cells.toArray := ⟨_, rfl⟩
  have HCS : Hid (cs.size = 7) := by rw [hcs]; rfl
  rw [← hcs]
  clear hcs
  have hzb := zBookZ
  have hzr : ∀ W, (zeroValue 41).run Try.prog W = .ok (.agg #[.int .i64 0, .int .i64 0]) W := zResZ
  have hzw : ∀ W, (zeroValue 48).run Try.prog W = .ok (.agg #[.string .empty, .string .empty, .int .i64 0]) W := zRowZ
  have HAP : Hid (∀ p (cs : Array Value) (W : World), UnB W p → Calls Try.prog 10 #[p, .agg cs] W fun r w' => r = .returned (.tuple #[.agg #[.int .i64 0, .int .i64 0], .int .i64 2]) ∧ Below W.heap.size W w') := fun p cs W h => apply_no p cs W h
  have HAT : Hid (∀ p (key : ByteArray) (n : Int) (W : World), UnB W p → Calls Try.prog 12 #[p, .string key, .int .i64 n] W fun r w' => r = .returned (.tuple #[.agg #[.string .empty, .string .empty, .int .i64 0], .bool false, .int .i64 2]) ∧ Below W.heap.size W w') := fun p key n W h => at_no p key n W h
  have HGT : Hid (∀ p (key : ByteArray) (W : World), UnB W p → Calls Try.prog 13 #[p, .string key] W fun r w' => r = .returned (.tuple #[.agg #[.string .empty, .string .empty, .int .i64 0], .bool false]) ∧ Below W.heap.size W w') := fun p key W h => get_no p key W h
  have HLA : Hid (∀ p (n : Int) (W : World), UnB W p → Calls Try.prog 14 #[p, .int .i64 n] W fun r w' => r = .returned (.tuple #[.int .i64 0, .agg #[.int .i64 0, .int .i64 0], .int .i64 0]) ∧ Below W.heap.size W w') := fun p n W h => last_no p n W h
  have HNU : Hid (∀ e W, Calls Try.prog 8 #[.int .i64 e] W fun r w' => r = .returned (.int .i64 e) ∧ w' = W) := fun e W => num_c e W
  have hn1 : ∀ W, (binOp .neq 41 (.agg #[.int .i64 0, .int .i64 0]) (.agg #[.int .i64 0, .int .i64 0])).run Try.prog W = .ok (.bool false) W := fun W => by kernel_rfl
  have hn2 : ∀ W, (binOp .neq 48 (.agg #[.string .empty, .string .empty, .int .i64 0]) (.agg #[.string .empty, .string .empty, .int .i64 0])).run Try.prog W = .ok (.bool false) W := fun W => by kernel_rfl
  go_enter Try.func4, Try.ntmps4
  go_wp2_with fail
  generalize hW1 : World.alloc (World.alloc w _) _ = W1
  have H1 : Hid (Bk 34 W1 w.heap.size cs ∧ UnB W1 (.pointer (some ⟨w.heap.size + 1, 0, none⟩)) ∧ Below w.heap.size w W1 ∧ W1.heap.size = w.heap.size + 1 + 1) := by
    rw [← hW1]
    have b1 := blk_new w 34 cs
    refine ⟨b1.1.grew (World.grownBy_alloc _ _ none) (by simp), .inr ⟨_, rfl, ?_, ?_⟩, ((Below.refl _ _).alloc (Nat.le_refl _) _).alloc (by simp) _, by rw [World.size_alloc, World.size_alloc]⟩
    · rw [show w.heap.size + 1 = (w.alloc (.cells cs 34)).heap.size from (World.size_alloc _ _).symm]
      exact World.cell?_alloc_new _ _ _ _
    · rw [World.size_alloc, World.size_alloc]; omega
  clear hW1
  obtain ⟨S, hS⟩ : ∃ S, S = w.heap.size + 1 + 1 := ⟨_, rfl⟩
  have H3 : Hid (VS w.heap.size S cs w (W1.alloc (.cells #[.pointer none, .pointer (some ⟨w.heap.size + 1, 0, none⟩)] 22))) := by
    have hs := H1.out.2.2.1.size
    have hb : Below W1.heap.size W1 (W1.alloc (.cells #[.pointer none, .pointer (some ⟨w.heap.size + 1, 0, none⟩)] 22)) := (Below.refl _ _).alloc (Nat.le_refl _) _
    refine ⟨H1.out.1.below hb (lt_of_block H1.out.1), H1.out.2.1.below hb, ⟨_, by rw [hS, ← H1.out.2.2.2]; exact heap_new _ _⟩, H1.out.2.2.1.trans (hb.mono hs), Nat.le_trans hs hb.size⟩
  rw [← hS]
  generalize hW3 : W1.alloc _ = W3 at H3 ⊢
  clear hW3 H1 hS
  go_loopw [25] (fun i wr => ∃ j : Nat, j ≤ 2 ∧ i = .int .i64 j ∧ Hid (VS w.heap.size S cs w wr)) (fun i _ => 2 - (intOf i).toNat)
  case atStart => exact ⟨0, Nat.zero_le _, rfl, H3.out⟩
  case round =>
    obtain ⟨j, hj, rfl, HI⟩ := hrel
    clear H3
    by_cases hlt : j < 2
    · obtain ⟨q, hcq, huq⟩ := HI.out.at_ hlt
      have HQ : Hid (UnB wr (.pointer q)) := huq
      have hj1 : (j : Int) < 2 := by omega
      have hj0 : (0 : Int) ≤ (j : Int) := by omega
      clear huq
      go_wp2_with (first
        | ((fail_if_success (have z := A1)); refine wpList_load_bk 34 rfl _ rfl Try.underlying34 rfl infoUpd7 w.heap.size cs rfl HI.out.o HCS.out ?_)
        | ((fail_if_success (have z := A1)); go_at_call 10; go_must (refine (Calls.mono (HAP.out _ cs _ HQ.out) ?_)); rintro r w1 ⟨rfl, k1⟩; have A1 : Hid (Below wr.heap.size wr w1) := k1; have B1 : Hid (Bk 41 (w1.alloc (.cells #[.int .i64 0, .int .i64 0] 41)) w1.heap.size #[.int .i64 0, .int .i64 0]) := (blk_new w1 _ _).1; clear k1)
        | ((fail_if_success (have z := A2)); have zz := A1; clear zz; refine wpList_store_bk 41 rfl _ _ rfl infoRes2 w1.heap.size #[.int .i64 0, .int .i64 0] #[.int .i64 0, .int .i64 0] rfl rfl B1.out rfl rfl (by decide +kernel) ?_; intro w2 s1 s2; have A2 : Hid (Below wr.heap.size wr w2 ∧ Bk 41 w2 w1.heap.size #[.int .i64 0, .int .i64 0] ∧ UnB w2 (.pointer q)) := (by
            have h1 : Below wr.heap.size wr w2 := (A1.out.alloc A1.out.size _).grown s2 (by rw [World.size_alloc]; have := A1.out.size; omega) (fun k e => by cases e; exact A1.out.size)
            exact ⟨h1, s1, HQ.out.below h1⟩); clear s1 s2)
        | (have zz := A2; clear zz; go_at_call 11; go_must (refine (Calls.mono (from_no _ 0 _ A2.out.2.2) ?_)); rintro r wq ⟨rfl, hq⟩; obtain rfl := hq.symm; clear hq)
        | ((fail_if_success (have z := A3)); have zz := A2; clear zz; go_at_call 12; go_must (refine (Calls.mono (HAT.out _ key 0 _ A2.out.2.2) ?_)); rintro r w3 ⟨rfl, k1⟩; have A3 : Hid (Below w2.heap.size w2 w3) := k1; have B3 : Hid (Bk 48 (w3.alloc (.cells #[.string .empty, .string .empty, .int .i64 0] 48)) w3.heap.size #[.string .empty, .string .empty, .int .i64 0]) := (blk_new w3 _ _).1; clear k1)
        | ((fail_if_success (have z := A4)); have zz := A3; clear zz; refine wpList_store_bk 48 rfl _ _ rfl infoRow3 w3.heap.size #[.string .empty, .string .empty, .int .i64 0] #[.string .empty, .string .empty, .int .i64 0] rfl rfl B3.out rfl rfl (by decide +kernel) ?_; intro w4 s1 s2; have A4 : Hid (Below w2.heap.size w2 w4 ∧ Bk 48 w4 w3.heap.size #[.string .empty, .string .empty, .int .i64 0] ∧ UnB w4 (.pointer q)) := (by
            have h1 : Below w2.heap.size w2 w4 := (A3.out.alloc A3.out.size _).grown s2 (by rw [World.size_alloc]; have := A3.out.size; omega) (fun k e => by cases e; exact A3.out.size)
            exact ⟨h1, s1, A2.out.2.2.below h1⟩); clear s1 s2)
        | ((fail_if_success (have z := A5)); have zz := A4; clear zz; go_at_call 13; go_must (refine (Calls.mono (HGT.out _ key _ A4.out.2.2) ?_)); rintro r w5 ⟨rfl, k1⟩; have A5 : Hid (Below w4.heap.size w4 w5) := k1; have B5 : Hid (Bk 48 (w5.alloc (.cells #[.string .empty, .string .empty, .int .i64 0] 48)) w5.heap.size #[.string .empty, .string .empty, .int .i64 0]) := (blk_new w5 _ _).1; clear k1)
        | ((fail_if_success (have z := A6)); have zz := A5; clear zz; refine wpList_store_bk 48 rfl _ _ rfl infoRow3 w5.heap.size #[.string .empty, .string .empty, .int .i64 0] #[.string .empty, .string .empty, .int .i64 0] rfl rfl B5.out rfl rfl (by decide +kernel) ?_; intro w6 s1 s2; have A6 : Hid (Below w4.heap.size w4 w6 ∧ Bk 48 w6 w5.heap.size #[.string .empty, .string .empty, .int .i64 0] ∧ UnB w6 (.pointer q)) := (by
            have h1 : Below w4.heap.size w4 w6 := (A5.out.alloc A5.out.size _).grown s2 (by rw [World.size_alloc]; have := A5.out.size; omega) (fun k e => by cases e; exact A5.out.size)
            exact ⟨h1, s1, A4.out.2.2.below h1⟩); clear s1 s2)
        | ((fail_if_success (have z := A7)); have zz := A6; clear zz; go_at_call 14; go_must (refine (Calls.mono (HLA.out _ 1 _ A6.out.2.2) ?_)); rintro r w7 ⟨rfl, k1⟩; have A7 : Hid (Below w6.heap.size w6 w7) := k1; have B7 : Hid (Bk 41 (w7.alloc (.cells #[.int .i64 0, .int .i64 0] 41)) w7.heap.size #[.int .i64 0, .int .i64 0]) := (blk_new w7 _ _).1; clear k1)
        | ((fail_if_success (have z := A8)); have zz := A7; clear zz; refine wpList_store_bk 41 rfl _ _ rfl infoRes2 w7.heap.size #[.int .i64 0, .int .i64 0] #[.int .i64 0, .int .i64 0] rfl rfl B7.out rfl rfl (by decide +kernel) ?_; intro w8 s1 s2; have A8 : Hid (Below wr.heap.size wr w8 ∧ UnB w8 (.pointer q) ∧ Bk 41 w8 w1.heap.size #[.int .i64 0, .int .i64 0] ∧ Bk 48 w8 w3.heap.size #[.string .empty, .string .empty, .int .i64 0] ∧ Bk 48 w8 w5.heap.size #[.string .empty, .string .empty, .int .i64 0] ∧ Bk 41 w8 w7.heap.size #[.int .i64 0, .int .i64 0]) := (by
            have h1 : Below w6.heap.size w6 w8 := (A7.out.alloc A7.out.size _).grown s2 (by rw [World.size_alloc]; have := A7.out.size; omega) (fun k e => by cases e; exact A7.out.size)
            have h2 : Below w4.heap.size w4 w8 := A6.out.1.trans (h1.mono A6.out.1.size)
            have h3 : Below w2.heap.size w2 w8 := A4.out.1.trans (h2.mono A4.out.1.size)
            exact ⟨A2.out.1.trans (h3.mono A2.out.1.size), A6.out.2.2.below h1, A2.out.2.1.below h3 (lt_of_block A2.out.2.1), A4.out.2.1.below h2 (lt_of_block A4.out.2.1), A6.out.2.1.below h1 (lt_of_block A6.out.2.1), s1⟩); have e1 : w8.cell? ⟨w1.heap.size, 0, none⟩ = some (.int .i64 0) := Bk.cell A8.out.2.2.1 0; have e2 : w8.cell? ⟨w1.heap.size, 1, none⟩ = some (.int .i64 0) := Bk.cell A8.out.2.2.1 1; have f1 : w8.cell? ⟨w3.heap.size, 0, none⟩ = some (.string .empty) := Bk.cell A8.out.2.2.2.1 0; have f2 : w8.cell? ⟨w3.heap.size, 1, none⟩ = some (.string .empty) := Bk.cell A8.out.2.2.2.1 1; have f3 : w8.cell? ⟨w3.heap.size, 2, none⟩ = some (.int .i64 0) := Bk.cell A8.out.2.2.2.1 2; have g1 : w8.cell? ⟨w5.heap.size, 0, none⟩ = some (.string .empty) := Bk.cell A8.out.2.2.2.2.1 0; have g2 : w8.cell? ⟨w5.heap.size, 1, none⟩ = some (.string .empty) := Bk.cell A8.out.2.2.2.2.1 1; have g3 : w8.cell? ⟨w5.heap.size, 2, none⟩ = some (.int .i64 0) := Bk.cell A8.out.2.2.2.2.1 2; have i1 : w8.cell? ⟨w7.heap.size, 0, none⟩ = some (.int .i64 0) := Bk.cell A8.out.2.2.2.2.2 0; have i2 : w8.cell? ⟨w7.heap.size, 1, none⟩ = some (.int .i64 0) := Bk.cell A8.out.2.2.2.2.2 1; clear s1 s2)
        | (go_at_call 8; go_must (refine (Calls.mono (HNU.out _ _) ?_)); rintro r wq ⟨rfl, hq⟩; obtain rfl := hq.symm; clear hq)
        | (have zz := A8; clear zz; go_at_call 9; go_must (refine (Calls.mono (commit_no _ 0 _ A8.out.2.1) ?_)); rintro r wq ⟨rfl, hq⟩; obtain rfl := hq.symm; clear hq)
        | (have zz := A8; clear zz; go_at_call 15; go_must (refine (Calls.mono (clean_no _ key _ A8.out.2.1) ?_)); rintro r wq ⟨rfl, hq⟩; obtain rfl := hq.symm; clear hq)
        | (have zz := A8; clear zz; go_at_call 16; go_must (refine (Calls.mono (applied_no _ _ A8.out.2.1) ?_)); rintro r wq ⟨rfl, hq⟩; obtain rfl := hq.symm; clear hq)
        | (have zz := A8; clear zz; go_at_call 17; go_must (refine (Calls.mono (committed_no _ _ A8.out.2.1) ?_)); rintro r wq ⟨rfl, hq⟩; obtain rfl := hq.symm; clear hq)
        | (have zz := A8; clear zz; go_at_call 18; go_must (refine (Calls.mono (store_no _ _ A8.out.2.1) ?_)); rintro r wq ⟨rfl, hq⟩; obtain rfl := hq.symm; clear hq)
        | (have zz := A8; clear zz; go_at_call 20; go_must (refine (Calls.mono (base_no _ _ A8.out.2.1) ?_)); rintro r wq ⟨rfl, hq⟩; obtain rfl := hq.symm; clear hq)
        | (have zz := A8; clear zz; go_at_call 19; go_must (refine (Calls.mono (seq_no _) ?_)); rintro r wq ⟨rfl, hq⟩; obtain rfl := hq.symm; clear hq))
      go_roundw
      case rel => exact ⟨j + 1, by omega, by go_num, HI.out.below A8.out.1⟩
      case measure => simp [intOf]; omega
    · obtain rfl : j = 2 := by omega
      have HVB : Hid (Below w.heap.size w wr) := HI.out.b
      go_wp2_with (first
        | ((fail_if_success (have z := F1)); go_at_call 7; go_must (refine (Calls.mono (dnew_c wr) ?_)); rintro r x1 ⟨s, rfl, k1, k2⟩; have F1 : Hid (StN x1 s ∧ Below wr.heap.size wr x1) := ⟨k1, k2⟩; clear k1 k2)
        | ((fail_if_success (have z := F2)); have zz := F1; clear zz; go_at_call 6; go_must (refine (Calls.mono (vnew_c s x1 F1.out.1) ?_)); rintro r x2 ⟨b, rfl, k1, k2⟩; have F2 : Hid (BkN x2 b ∧ Below wr.heap.size wr x2) := ⟨k1, F1.out.2.trans (k2.mono F1.out.2.size)⟩; clear k1 k2)
        | (have zz := F2; clear zz; go_at_call 6; go_must (refine (Calls.mono (vnew_no _) ?_)); rintro r wq ⟨rfl, hq⟩; obtain rfl := hq.symm; clear hq)
        | (have zz := F2; clear zz; go_at_call 15; go_must (refine (Calls.mono (clean_c b key _ F2.out.1) ?_)); rintro r wq ⟨rfl, hq⟩; obtain rfl := hq.symm; clear hq))
      go_ret
      exact ⟨rfl, HVB.out.trans (F2.out.2.mono HVB.out.size)⟩

set_option maxRecDepth 100000 in
theorem lifted (os : Os) (started : os.Started) (H : Type) (enc : TypeId × Value → H) :
    ReturnsInHanded {} Try.checked os 4 .any (Rows.versNoneSpec.pre6 enc Try.prog Try.f4 Rows.versNoneRow.domain false) (Rows.versNoneSpec.post enc Try.prog Try.f4 false true false false) := by
  refine returnsInHanded_of_change (C := Try.checked) own started (by kernel_rfl) Try.func4
    (ChangeSpec.witness6 (enc := enc) (C := Try.checked) false ⟨#[], #[.agg #[.int .i64 0, .int .i64 0, .int .i64 0, .int .i64 0, .string .empty, .string .empty, .int .i64 0], .string .empty], []⟩ 8 (by kernel_rfl) (by kernel_rfl) (by kernel_rfl) (by kernel_rfl)) ?_
  intro W base args ds gs before hval0 hW hcnd _
  have hval : ∀ (j : Nat) t v, Try.f4.params[j]? = some t → args[j]? = some v → Value.okWide Try.prog W .any base t v := hval0
  have hW' := hW
  obtain ⟨p, q, hA0, hV, rfl, hfz, hnd⟩ := hW
  have hA : DataW.TrodAll enc Try.prog W 0 (fun _ => true) true Try.f4.params.toList args.toList ds p := hA0
  rw [Try.params4] at hA hval
  obtain ⟨v0, vs0, d0, ds0, p0, q0, hargs, rfl, rfl, h0, r0⟩ := trodAll_cons hA
  obtain ⟨v1, vs1, d1, ds1, p1, q1, rfl, rfl, rfl, h1, r1⟩ := trodAll_cons r0
  obtain ⟨rfl, rfl, rfl⟩ := trodAll_nil r1
  obtain rfl : args = #[v0, v1] := by cases args; simp_all
  obtain ⟨rfl, rfl⟩ := trodVars_none hV
  have k0 := h0
  have lt0 : ∀ x ∈ p0, x.block < W.heap.size := by obtain ⟨m, hm⟩ := k0; exact DataW.trod_lt m _ _ _ hm
  obtain ⟨u0, rfl, ok0⟩ := Dl.upd_came (hval 0 34 v0 rfl rfl) h0
  obtain ⟨s1, rfl, rfl, rfl, z1⟩ := Go.ChangeMaps.open_string Try.underlying9 (hval 1 9 v1 rfl rfl) h1
  clear hA0 hval0
  refine (walk u0 s1 W ok0 z1).mono fun e W' ⟨he, bel⟩ => ?_
  subst he
  exact ⟨_, rfl, _, _, _, [], _, [], hW', trodAll_mk1 (shut_bool Try.underlying4 _), (trodAll_cons_mk (Below.trod laidOut (by kernel_rfl) (of_decide_eq_true (by kernel_rfl)) k0 bel lt0) (trodAll_cons_mk (Go.ChangeMaps.shut_string Try.underlying9 z1) trodAll_mk0)), rfl, bel.frame _, fun h => by cases h⟩

theorem over : Rows.versNoneRow.holds Try.pinned (OpenSpec.ofChange Rows.versNoneSpec) :=
  OpenClaim.holds_of_wide 4 Try.f4 rfl rfl rfl rfl rfl rfl rfl ⟨rfl, rfl, rfl, rfl, rfl⟩ rfl rfl rfl rfl rfl (by kernel_rfl) Try.func4 (by kernel_rfl)
    (of_decide_eq_true (by kernel_rfl)) (by unfold Func.isWrapper; first | (rw [if_pos (by decide +kernel)]; kernel_rfl) | (rw [if_neg (by decide +kernel)]; exact ⟨rfl, rfl⟩))
    (fun os started H enc _ => lifted os started H enc)

end Go.Proofs.Ytalfoenoekcdaaa.versNone
namespace Go.Proofs.Ytalfoenoekcdaaa
theorem versNone_holds : Rows.VersNoneSaid := versNone.over
#print axioms versNone_holds
end Go.Proofs.Ytalfoenoekcdaaa
