/-
  Proved: for all things that are done with a disk and all that is done then, hawserlaw12.DiskTwin answers true: a disk of another one's files tells the same, and answers the same to whatever is done then. Condition: the input is of bulk at most 1048576.
-/
import Derived.Test.YteoohgjoffpmkaaRows
import Derived.Test.YteoohgjoffpmkaaKTw
import Derived.WalkKit
import Derived.ProofKit
import Derived.OpenShut
import Derived.ShutString
import Derived.ChangeOld
import Derived.Below
import Derived.Lib.SmallJoins
import Derived.JoinedCond
namespace Go.Proofs.Yteoohgjoffpmkaa.diskTwin
open Go.ChangeShapes Go.WideShapes Go.ChangeAt Go.RowKit
set_option linter.unusedVariables false

theorem own : ownKnob Try.prog.godebug = none := by kernel_rfl
theorem laidOut : laidOutB Try.prog = true := by kernel_rfl

theorem fil_nz {S : Nat → Prop} {W : World} {v : Value} {L : List FiM} (h : FiL S W v L) : ∀ f ∈ L, ∀ ua m uc, f.u = .slice ua m uc → ua = none → uc = 0 := fun f hf ua m uc e hn => by
  obtain ⟨a, c, q1, _, q3, _⟩ := (h.body f hf).1.1.seg
  rw [q1] at e
  cases e
  exact q3 hn
/-- New of the files of a disk that was synced. -/
theorem twin_new {w W : World} {g : Nat} {D : Dk} {v : Value} {L : List FiM} (room : Nat) (h : Sy w g 2097153 [(v, L)] D W) (hL : Lst D.seen (L.map FiM.p)) (hr : D.room = room) (h1 : D.last = D.seen) (h2 : D.steps = []) (h3 : D.fail = 0) (h4 : D.down = false) (hacts : D.acts ≤ 4294967296) :
    Calls Try.prog 10 #[.int .i64 (room : Int), v] W fun r w' => ∃ t, r = .returned (.tuple #[.pointer (some ⟨t, 0, none⟩), .int .i64 0]) ∧ ∃ E, Ty w g t 2097153 [] D E w' ∧ Tw D E := by
  obtain ⟨S, j, hst, hj, hls⟩ := h
  obtain ⟨hf, hfl⟩ := hls _ (List.mem_cons_self ..)
  obtain ⟨a, c, hv, ra, _⟩ := hf.read
  have hv' : v = .slice a L.length c := hv
  subst hv'
  have hok := hst.ok
  have hrm := hok.room
  have hsz : ∀ f ∈ L, f.s.size ≤ 70368744177664 ∧ f.ys.length ≤ 70368744177664 := fun f hf2 => by
    have hm : (f.s, f.ys) ∈ L.map FiM.p := List.mem_map.2 ⟨f, hf2, rfl⟩
    have q := hok.bnd f.s f.ys ((hL.1.2 _ _).2 hm)
    have q2 := nm_size q.2
    omega
  refine Calls.mono (newF_c room a c L W ra (by omega) (Nat.le_trans hfl (by decide)) hsz (fil_nz hf)) ?_
  have hnw : nwR room (L.map FiM.p) = (0, D.seen, D.free) := by rw [← hr]; exact nw_same hok hL
  rintro r w' ⟨hb, hq⟩
  rw [hnw] at hq
  rcases hq with ⟨q, _⟩ | ⟨_, t, rfl, hm⟩
  · exact absurd rfl q
  · have hz := hb.size
    have hdE : Dok (nwD room (0, D.seen, D.free)) := nwD_ok (by rw [← hnw]; exact nwR_ok _ _) (by omega)
    obtain ⟨G, k1, k2, k3, k4, k5, k6⟩ := hst
    refine ⟨t, rfl, nwD room (0, D.seen, D.free), ⟨fun _ => False, G, _, j, j, k1.below hb, hm, fun k hk => ⟨⟨(k2 k hk).1, by have := (k2 k hk).2; omega⟩, fun z => by have := (k2 k hk).2; omega⟩, fun k hk => ⟨by have := k4.size; omega, hk.2⟩, fun k hk => hk.elim, k4.trans (hb.mono k4.size), ⟨k5, hdE⟩, ⟨k6, ⟨Nat.zero_le _, Nat.zero_le _, Nat.zero_le _, Nat.zero_le _⟩, hj, hj⟩, fun p hp => (by cases hp)⟩, ?_⟩
    show nwD room (0, D.seen, D.free) = { D with acts := 0 }
    obtain ⟨r0, f0, s0, l0, st0, a0, fl0, d0⟩ := D
    simp only at hr h1 h2 h3 h4
    subst hr h1 h2 h3 h4
    rfl
set_option maxRecDepth 20000 in
set_option maxHeartbeats 8000000 in
theorem walk (a : Option Addr) (n cap : Nat) (X : List Dop) (a2 : Option Addr) (n2 cap2 : Nat) (X2 : List Dop) (w : World) (hX : DOps w a n X) (hw : dopsW X ≤ 1048576) (hX2 : DOps w a2 n2 X2) (hw2 : dopsW X2 ≤ 1048576) :
    Calls Try.prog 7 #[.slice a n cap, .slice a2 n2 cap2] w fun e w' => e = .returned (.bool true) ∧ Below w.heap.size w w' := by
  obtain ⟨hs1, hs2⟩ := dops_sm hX hw
  obtain ⟨hs3, hs4⟩ := dops_sm hX2 hw2
  have HX : Hid (DOps w a n X ∧ (∀ o ∈ X, o.sm) ∧ n ≤ 1048576) := ⟨hX, hs1, hs2⟩
  have HX2 : Hid (DOps w a2 n2 X2 ∧ (∀ o ∈ X2, o.sm) ∧ n2 ≤ 1048576) := ⟨hX2, hs3, hs4⟩
  have HW : Hid _ := sy_works 300 w (by decide) (by decide)
  have hzo := zOK
  clear hX hw hX2 hw2 hs1 hs2 hs3
  go_enter Try.func7, Try.ntmps7
  go_wp2_with (first
    | ((fail_if_success (have z := H0)); go_at_call 14; go_must (refine (Calls.mono (HW.out) ?_)); go_must (rintro r w0 ⟨g, rfl, k1⟩); go_must (have H0 : Hid (Sy w g 2 [] (dkW 300) w0) := k1; clear k1))
    | ((fail_if_success (have z := H1)); have zz := H0; clear zz; go_at_call 15; go_must (refine (Calls.mono (sy_play cap H0.out HX.out.1 HX.out.2.1 (by have := HX.out.2.2; omega) (by decide)) ?_)); go_must (rintro r w1 ⟨rfl, D1, k0, k1⟩); go_must (have H1 : Hid (Sy w g 2097152 [] D1 w1 ∧ D1.room = 300) := ⟨k1.more (by have := HX.out.2.2; omega), play_room k0⟩; clear k1 k0))
    | ((fail_if_success (have z := H2)); have zz := H1; clear zz; go_at_call 16; go_must (refine (Calls.mono (sy_start H1.out.1) ?_)); go_must (rintro r w2 ⟨rfl, k1⟩); go_must (have H2 : Hid (Sy w g 2097152 [] { D1 with down := false } w2) := k1; clear k1))
    | ((fail_if_success (have z := H3)); have zz := H2; clear zz; go_at_call 17; go_must (refine (Calls.mono (sy_fail H2.out) ?_)); go_must (rintro r w3 ⟨rfl, k1⟩); go_must (obtain ⟨D3, hD3⟩ : ∃ D3, D3 = faD { D1 with down := false } 0 := ⟨_, rfl⟩; rw [← hD3] at k1; have H3 : Hid (Sy w g 2097152 [] D3 w3 ∧ syR D3 = (0, { D3 with acts := D3.acts + 1, last := D3.seen, steps := [] }) ∧ D3.down = false ∧ D3.fail = 0 ∧ D3.room = 300) := ⟨k1, sync_plain (by rw [hD3]; rfl) (by rw [hD3]; rfl), by rw [hD3]; rfl, by rw [hD3]; rfl, by rw [hD3]; exact H1.out.2⟩; clear k1 hD3))
    | ((fail_if_success (have z := H4)); have zz := H3; clear zz; go_at_call 18; go_must (refine (Calls.mono (sy_sync H3.out.1 (by decide)) ?_)); go_must (rintro r w4 ⟨hr, k1⟩); go_must (obtain ⟨D4, hD4⟩ : ∃ D4 : Dk, D4 = { D3 with acts := D3.acts + 1, last := D3.seen, steps := [] } := ⟨_, rfl⟩; rw [H3.out.2.1, ← hD4] at k1; rw [H3.out.2.1] at hr; obtain rfl : r = .returned (.int .i64 0) := hr; have H4 : Hid (Sy w g 2097153 [] D4 w4 ∧ D4.last = D4.seen ∧ D4.steps = [] ∧ D4.down = false ∧ D4.fail = 0 ∧ D4.room = 300) := ⟨k1, by rw [hD4], by rw [hD4], by rw [hD4]; exact H3.out.2.2.1, by rw [hD4]; exact H3.out.2.2.2.1, by rw [hD4]; exact H3.out.2.2.2.2⟩; clear k1 hD4))
    | ((fail_if_success (have z := H5)); have zz := H4; clear zz; go_at_call 20; go_must (refine (Calls.mono (sy_files H4.out.1) ?_)); go_must (rintro r w5 ⟨a5, n5, c5, L5, rfl, k1, k2⟩); go_must (have H5 : Hid (Sy w g 2097153 [(.slice a5 n5 c5, L5)] D4 w5 ∧ Lst D4.seen (L5.map FiM.p)) := ⟨k2, k1⟩; clear k1 k2))
    | ((fail_if_success (have z := H6)); have zz := H5; clear zz; go_at_call 10; go_must (refine (Calls.mono (twin_new 300 H5.out.1 H5.out.2 H4.out.2.2.2.2.2 H4.out.2.1 H4.out.2.2.1 H4.out.2.2.2.2.1 H4.out.2.2.2.1 (sy_acts H5.out.1)) ?_)); go_must (rintro r w6 ⟨t, rfl, E4, k1, k2⟩); go_must (have H6 : Hid (Ty w g t 2097153 [] D4 E4 w6 ∧ Tw D4 E4) := ⟨k1, k2⟩; clear k1 k2))
    | ((fail_if_success (have z := H7)); have zz := H6; clear zz; go_at_call 20; go_must (refine (Calls.mono (ty_files H6.out.1.swap) ?_)); go_must (rintro r w7 ⟨a7, n7, c7, L7, rfl, k1, k2⟩); go_must (have H7 : Hid (Ty w g t 2097153 [(.slice a7 n7 c7, L7)] D4 E4 w7 ∧ Lst D4.seen (L7.map FiM.p)) := ⟨k2.swap, by rw [show D4.seen = E4.seen from by rw [H6.out.2]]; exact k1⟩; clear k1 k2))
    | ((fail_if_success (have z := H8)); have zz := H7; clear zz; go_at_call 20; go_must (refine (Calls.mono (ty_files H7.out.1) ?_)); go_must (rintro r w8 ⟨a8, n8, c8, L8, rfl, k1, k2⟩); go_must (have H8 : Hid (Ty w g t 2097153 [(.slice a8 n8 c8, L8), (.slice a7 n7 c7, L7)] D4 E4 w8 ∧ L7.map FiM.p = L8.map FiM.p) := ⟨k2, H7.out.2.uniq k1⟩; clear k1 k2))
    | ((fail_if_success (have z := H9)); have zz := H8; clear zz; go_at_call 21; go_must (refine (Calls.mono (ty_equal (A := L7) (B := L8) H8.out.1 (by simp) (by simp)) ?_)); go_must (rintro r w9 ⟨hr, k1⟩); go_must (rw [decide_eq_true H8.out.2] at hr; subst hr; have H9 : Hid (Ty w g t 2097153 [] D4 E4 w9) := k1.less (by simp); clear k1))
    | ((fail_if_success (have z := H10)); have zz := H9; clear zz; go_at_call 27; go_must (refine (Calls.mono (ty_free H9.out.swap) ?_)); go_must (rintro r w10 ⟨hr, hq⟩); go_must (rw [show E4.free = D4.free from by rw [H6.out.2]] at hr; subst hr; obtain rfl := hq.symm; have H10 : Hid True := trivial; clear hq))
    | ((fail_if_success (have z := H11)); have zz := H10; clear zz; go_at_call 27; go_must (refine (Calls.mono (ty_free H9.out) ?_)); go_must (rintro r w11 ⟨rfl, hq⟩); go_must (obtain rfl := hq.symm; have H11 : Hid True := trivial; clear hq)))
  have H12 : Hid (∃ D E, Ty w g t 2097153 [] D E w9 ∧ Tw D E) := ⟨D4, E4, H9.out, H6.out.2⟩
  clear H0 H1 H2 H3 H4 H5 H6 H7 H8 H9 H10 H11 HX HW
  go_loopw [8] (fun i wr => ∃ j : Nat, j ≤ n2 ∧ i = .int .i64 j ∧ Hid (∃ D E, Ty w g t (2097153 + 2 * j) [] D E wr ∧ Tw D E)) (fun i _ => n2 - (intOf i).toNat)
  case atStart => exact ⟨0, Nat.zero_le _, rfl, H12⟩
  case round =>
    obtain ⟨j, hj, rfl, HI⟩ := hrel
    clear H12
    by_cases hlt : j < n2
    · obtain ⟨b, off, o, hab, hb, hxo, hrg⟩ := HX2.out.1.at_ j hlt
      obtain ⟨D, E, hty, htw⟩ := HI.out
      have HO : Hid o.sm := HX2.out.2.1 o (List.mem_of_getElem? hxo)
      have HRG : Hid (wr.rangeAt b (off + j * 7) o.cells) := fun i v hv => (hty.bel.cell (p := ⟨b, off + j * 7 + i, none⟩) hb).trans (hrg i v hv)
      have HP : Hid (Ty w g t (2097153 + 2 * j) [] D E wr ∧ Tw D E) := ⟨hty, htw⟩
      have hi1 : (0 : Int) ≤ (j : Int) := by omega
      have hi2 : (j : Int) < (n2 : Int) := by omega
      have HJ : Hid (j < n2 ∧ n2 ≤ 1048576) := ⟨hlt, hs4⟩
      have HA : Hid _ := hab
      clear hxo hrg hty htw hb HI
      subst hab
      have HB1 : Hid (Bk 40 (wr.alloc (.cells zOpK 40)) wr.heap.size zOpK) := (blk_new wr _ _).1
      have HLD : Hid (∀ w2, Bk 40 w2 wr.heap.size o.cells.toArray → (wr.alloc (.cells zOpK 40)).grownBy w2 (some wr.heap.size) → Below wr.heap.size wr w2 ∧ w2.cell? ⟨wr.heap.size, 0, none⟩ = some (.int .i64 o.k) ∧ w2.rangeAt wr.heap.size 0 [.int .i64 o.k, .string o.s, .string o.t, .string o.d, .int .i64 o.z] ∧ wr.heap.size < w2.heap.size) := by
        show ∀ w2, _
        intro w2 h1 h2
        refine ⟨((Below.refl _ _).alloc (Nat.le_refl _) _).grown h2 (by rw [World.size_alloc]; omega) (fun k e => by cases e; exact Nat.le_refl _), Bk.cell h1 0, fun i v hv => ?_, lt_of_block h1⟩
        rw [Nat.zero_add, Bk.cell h1 i]
        match i, hv with
        | 0, hv => exact hv
        | 1, hv => exact hv
        | 2, hv => exact hv
        | 3, hv => exact hv
        | 4, hv => exact hv
      have HOC : Hid (o.cells.toArray.all (·.oneCell') = true) := opc_one o
      have HAC : Hid (∀ W2, Below wr.heap.size wr W2 → Calls Try.prog 28 #[.pointer (some ⟨g, 0, none⟩), .agg #[.int .i64 o.k, .string o.s, .string o.t, .string o.d, .int .i64 o.z]] W2 fun r w' => r = .returned (.tuple #[.int .i64 (o.r D).1, .bool true]) ∧ Ty w g t (2097153 + 2 * j + 1) [] (o.r D).2 E w' ∧ W2.heap.size ≤ w'.heap.size ∧ ∀ k, wr.heap.size ≤ k → k < W2.heap.size → w'.heap[k]? = W2.heap[k]?) := fun W2 h2 => ty_act o HP.out.1 h2 HO.out (by have := HJ.out; omega)
      have HAE : Hid (∀ W3, Ty w g t (2097153 + 2 * j + 1) [] (o.r D).2 E W3 → Calls Try.prog 28 #[.pointer (some ⟨t, 0, none⟩), .agg #[.int .i64 o.k, .string o.s, .string o.t, .string o.d, .int .i64 o.z]] W3 fun r w' => r = .returned (.tuple #[.int .i64 (o.r D).1, .bool true]) ∧ ∃ D' E', Ty w g t (2097153 + 2 * (j + 1)) [] D' E' w' ∧ Tw D' E') := by
        show ∀ W3, _
        intro W3 h3
        obtain ⟨q1, q2⟩ := HP.out.2.act o
        refine Calls.mono (ty_act o ((h3.swap).less (Ls' := []) (by simp)) (Below.refl _ _) HO.out (by have := HJ.out; omega)) ?_
        rintro r w' ⟨rfl, k1, _⟩
        exact ⟨by rw [q1], _, _, (k1.swap).more (by omega), q2⟩
      have HSK : Hid (∀ w2, Below wr.heap.size wr w2 → ∃ D' E', Ty w g t (2097153 + 2 * (j + 1)) [] D' E' w2 ∧ Tw D' E') := fun w2 h2 => ⟨D, E, (HP.out.1.gone h2).more (by omega), HP.out.2⟩
      clear HP
      generalize o.r D = R at HAC HAE
      obtain ⟨k, s, u, d, z, kd, m⟩ := o
      simp only at HAC HAE HLD
      by_cases hk1 : 1 ≤ k
      · by_cases hk2 : k ≤ 6
        · have d1 : (1 : Int) ≤ k := hk1
          have d2 : k ≤ 6 := hk2
          go_wp2_with (first
            | (refine wpList_load_mid rfl 40 (.tmp 62) rfl b (off + j * 7) rfl _ _ HRG.out Try.underlying40 rfl infoOp7 ?_)
            | ((fail_if_success (have z := H2)); refine wpList_store_bk 40 rfl (.tmp 9) (.tmp 63) rfl infoOp7 wr.heap.size zOpK (Dop.cells ⟨k, s, u, d, z, kd, m⟩).toArray rfl rfl HB1.out rfl rfl HOC.out ?_; intro w2 s1 s2; obtain ⟨q1, c0, q2, q3⟩ := HLD.out w2 s1 s2; have H2 : Hid (Below wr.heap.size wr w2 ∧ w2.rangeAt wr.heap.size 0 [.int .i64 k, .string s, .string u, .string d, .int .i64 z] ∧ wr.heap.size < w2.heap.size) := ⟨q1, q2, q3⟩; clear q1 q2 q3 s1 s2)
            | ((fail_if_success (have z := H3)); refine wpList_load_mid rfl 38 (.tmp 76) rfl wr.heap.size 0 rfl _ _ H2.out.2.1 Try.underlying38 rfl infoAct5K ?_)
            | ((fail_if_success (have z := H3)); go_at_call 28; go_must (refine (Calls.mono (HAC.out _ H2.out.1) ?_)); rintro r w3 ⟨rfl, k1, k2, k3⟩; have H3 : Hid (Ty w g t (2097153 + 2 * j + 1) [] R.2 E w3 ∧ w3.rangeAt wr.heap.size 0 [.int .i64 k, .string s, .string u, .string d, .int .i64 z]) := ⟨k1, fun i v hv => (World.cell?_of_block (w := w2) (w' := w3) (a := ⟨wr.heap.size, 0 + i, none⟩) (k3 _ (Nat.le_refl _) H2.out.2.2)).trans (H2.out.2.1 i v hv)⟩; clear k1 k2 k3)
            | (have zz := H3; clear zz; refine wpList_load_mid rfl 38 (.tmp 83) rfl wr.heap.size 0 rfl _ _ H3.out.2 Try.underlying38 rfl infoAct5K ?_)
            | (have zz := H3; clear zz; go_at_call 28; go_must (refine (Calls.mono (HAE.out _ H3.out.1) ?_)); rintro r w4 ⟨rfl, k1⟩; have H9 : Hid (∃ D' E', Ty w g t (2097153 + 2 * (j + 1)) [] D' E' w4 ∧ Tw D' E') := k1; clear k1))
          go_roundw
          case rel => exact ⟨j + 1, by omega, by go_num, H9⟩
          case measure => simp [intOf]; omega
        · have d1 : (1 : Int) ≤ k := hk1
          have d2 : ¬ k ≤ 6 := hk2
          go_wp2_with (first
            | (refine wpList_load_mid rfl 40 (.tmp 62) rfl b (off + j * 7) rfl _ _ HRG.out Try.underlying40 rfl infoOp7 ?_)
            | ((fail_if_success (have z := H2)); refine wpList_store_bk 40 rfl (.tmp 9) (.tmp 63) rfl infoOp7 wr.heap.size zOpK (Dop.cells ⟨k, s, u, d, z, kd, m⟩).toArray rfl rfl HB1.out rfl rfl HOC.out ?_; intro w2 s1 s2; obtain ⟨q1, c0, q2, q3⟩ := HLD.out w2 s1 s2; have H2 : Hid (Below wr.heap.size wr w2 ∧ w2.rangeAt wr.heap.size 0 [.int .i64 k, .string s, .string u, .string d, .int .i64 z] ∧ wr.heap.size < w2.heap.size) := ⟨q1, q2, q3⟩; clear q1 q2 q3 s1 s2))
          have H9 : Hid (∃ D' E', Ty w g t (2097153 + 2 * (j + 1)) [] D' E' w2 ∧ Tw D' E') := HSK.out w2 H2.out.1
          go_roundw
          case rel => exact ⟨j + 1, by omega, by go_num, H9⟩
          case measure => simp [intOf]; omega
      · have d1 : ¬ (1 : Int) ≤ k := hk1
        go_wp2_with (first
          | (refine wpList_load_mid rfl 40 (.tmp 62) rfl b (off + j * 7) rfl _ _ HRG.out Try.underlying40 rfl infoOp7 ?_)
            | ((fail_if_success (have z := H2)); refine wpList_store_bk 40 rfl (.tmp 9) (.tmp 63) rfl infoOp7 wr.heap.size zOpK (Dop.cells ⟨k, s, u, d, z, kd, m⟩).toArray rfl rfl HB1.out rfl rfl HOC.out ?_; intro w2 s1 s2; obtain ⟨q1, c0, q2, q3⟩ := HLD.out w2 s1 s2; have H2 : Hid (Below wr.heap.size wr w2 ∧ w2.rangeAt wr.heap.size 0 [.int .i64 k, .string s, .string u, .string d, .int .i64 z] ∧ wr.heap.size < w2.heap.size) := ⟨q1, q2, q3⟩; clear q1 q2 q3 s1 s2))
        have H9 : Hid (∃ D' E', Ty w g t (2097153 + 2 * (j + 1)) [] D' E' w2 ∧ Tw D' E') := HSK.out w2 H2.out.1
        go_roundw
        case rel => exact ⟨j + 1, by omega, by go_num, H9⟩
        case measure => simp [intOf]; omega
    · obtain rfl : j = n2 := by omega
      obtain ⟨D, E, hty, htw⟩ := HI.out
      have HE : Hid (Ty w g t 4194305 [] D E wr ∧ E.seen = D.seen ∧ E.free = D.free ∧ E.steps = D.steps ∧ E.last = D.last) := ⟨hty.more (by omega), by rw [htw], by rw [htw], by rw [htw], by rw [htw]⟩
      clear hty htw HI
      go_wp2_with (first
        | ((fail_if_success (have z := F0)); go_at_call 20; go_must (refine (Calls.mono (ty_files HE.out.1.swap) ?_)); go_must (rintro r x0 ⟨b0, m0, e0, L0, rfl, k1, k2⟩); go_must (have F0 : Hid (Ty w g t 4194305 [(.slice b0 m0 e0, L0)] D E x0 ∧ Lst D.seen (L0.map FiM.p)) := ⟨k2.swap, by rw [← HE.out.2.1]; exact k1⟩; clear k1 k2))
        | ((fail_if_success (have z := F1)); have zz := F0; clear zz; go_at_call 20; go_must (refine (Calls.mono (ty_files F0.out.1) ?_)); go_must (rintro r x1 ⟨b1, m1, e1, L1, rfl, k1, k2⟩); go_must (have F1 : Hid (Ty w g t 4194305 [(.slice b1 m1 e1, L1), (.slice b0 m0 e0, L0)] D E x1 ∧ L0.map FiM.p = L1.map FiM.p) := ⟨k2, F0.out.2.uniq k1⟩; clear k1 k2))
        | ((fail_if_success (have z := F2)); have zz := F1; clear zz; go_at_call 21; go_must (refine (Calls.mono (ty_equal (A := L0) (B := L1) F1.out.1 (by simp) (by simp)) ?_)); go_must (rintro r x2 ⟨hr, k1⟩); go_must (rw [decide_eq_true F1.out.2] at hr; subst hr; have F2 : Hid (Ty w g t 4194305 [] D E x2) := k1.less (by simp); clear k1))
        | ((fail_if_success (have z := F3)); have zz := F2; clear zz; go_at_call 27; go_must (refine (Calls.mono (ty_free F2.out.swap) ?_)); go_must (rintro r x3 ⟨hr, hq⟩); go_must (rw [HE.out.2.2.1] at hr; subst hr; obtain rfl := hq.symm; have F3 : Hid True := trivial; clear hq))
        | ((fail_if_success (have z := F4)); have zz := F3; clear zz; go_at_call 27; go_must (refine (Calls.mono (ty_free F2.out) ?_)); go_must (rintro r x4 ⟨rfl, hq⟩); go_must (obtain rfl := hq.symm; have F4 : Hid True := trivial; clear hq))
        | ((fail_if_success (have z := F5)); have zz := F4; clear zz; go_at_call 19; go_must (refine (Calls.mono (ty_pending F2.out.swap) ?_)); go_must (rintro r x5 ⟨hr, hq⟩); go_must (rw [HE.out.2.2.2.1] at hr; subst hr; obtain rfl := hq.symm; have F5 : Hid True := trivial; clear hq))
        | ((fail_if_success (have z := F6)); have zz := F5; clear zz; go_at_call 19; go_must (refine (Calls.mono (ty_pending F2.out) ?_)); go_must (rintro r x6 ⟨rfl, hq⟩); go_must (obtain rfl := hq.symm; have F6 : Hid True := trivial; clear hq))
        | ((fail_if_success (have z := F7)); have zz := F6; clear zz; go_at_call 22; go_must (refine (Calls.mono (ty_left 3 F2.out.swap (by decide) (by decide) (by decide)) ?_)); go_must (rintro r x7 ⟨b7, m7, e7, L7, rfl, k1, k2⟩); go_must (rw [HE.out.2.2.2.1, HE.out.2.2.2.2] at k1; have F7 : Hid (Ty w g t 4194305 [(.slice b7 m7 e7, L7)] D E x7 ∧ Lst (sfirst D.last D.steps (3 : Int).toNat) (L7.map FiM.p)) := ⟨k2.swap, k1⟩; clear k1 k2))
        | ((fail_if_success (have z := F8)); have zz := F7; clear zz; go_at_call 22; go_must (refine (Calls.mono (ty_left 3 F7.out.1 (by decide) (by decide) (by decide)) ?_)); go_must (rintro r x8 ⟨b8, m8, e8, L8, rfl, k1, k2⟩); go_must (have F8 : Hid (Ty w g t 4194305 [(.slice b8 m8 e8, L8), (.slice b7 m7 e7, L7)] D E x8 ∧ L7.map FiM.p = L8.map FiM.p) := ⟨k2, F7.out.2.uniq k1⟩; clear k1 k2))
        | ((fail_if_success (have z := F9)); have zz := F8; clear zz; go_at_call 21; go_must (refine (Calls.mono (ty_equal (A := L7) (B := L8) F8.out.1 (by simp) (by simp)) ?_)); go_must (rintro r x9 ⟨hr, k1⟩); go_must (rw [decide_eq_true F8.out.2] at hr; subst hr; have F9 : Hid True := trivial; have F10 : Hid (Below w.heap.size w x9) := k1.bel; clear k1)))
      go_ret
      exact ⟨rfl, F10.out⟩

theorem bulk_len {H : Type} (l : List (DataW H)) : l.length ≤ Rows.uptoBulkAll l := by
  induction l with
  | nil => simp
  | cons d r ih =>
    have : 1 ≤ Rows.uptoBulk d := by
      cases d with
      | lit x => cases x <;> simp [Rows.uptoBulk]
      | _ => simp [Rows.uptoBulk]
    simp only [Rows.uptoBulkAll, List.length_cons]; omega
theorem bulk_mem {H : Type} {d : DataW H} {l : List (DataW H)} (h : d ∈ l) : Rows.uptoBulk d ≤ Rows.uptoBulkAll l := by
  induction l with
  | nil => cases h
  | cons x r ih =>
    simp only [Rows.uptoBulkAll]
    rcases List.mem_cons.1 h with rfl | h
    · omega
    · have := ih h; omega
theorem bulk_slice {H : Type} {ds : List (DataW H)} {d : DataW H} {l r : List (DataW H)} (hk : Rows.uptoSmall H ds = true) (hd : d ∈ ds) (e : d = .slice l r) : l.length + r.length ≤ 1048576 := by
  have h0 : Rows.uptoBulkAll ds ≤ 1048576 := of_decide_eq_true hk
  have h1 := bulk_mem hd
  have h3 := bulk_len l
  have h4 := bulk_len r
  rw [e] at h1
  simp only [Rows.uptoBulk] at h1
  omega

set_option maxRecDepth 100000 in
theorem lifted (os : Os) (started : os.Started) (H : Type) (enc : TypeId × Value → H) (F : Stop.Interp) :
    ReturnsInHanded {} Try.checked os 7 .any ((Rows.OpenSpec.upto Rows.diskTwinSpec).pre6 enc Try.prog Try.f7 Rows.diskTwinUptoRow.domain false) (((Rows.OpenSpec.upto Rows.diskTwinSpec).at F).post enc Try.prog Try.f7 false true false false) := by
  refine returnsInHanded_of_cond (C := Try.checked) (s := Rows.OpenSpec.upto Rows.diskTwinSpec) (k := Rows.uptoSmall) rfl own started (by kernel_rfl) Try.func7
    (OpenSpec.witness (enc := enc) (C := Try.checked) (s := Rows.OpenSpec.upto Rows.diskTwinSpec) (k := Rows.uptoSmall) rfl false ⟨#[], #[.slice none 0 0, .slice none 0 0], []⟩ 8 (by kernel_rfl) (by kernel_rfl) (by kernel_rfl)
      (x := ([.nil, .nil], [], [])) (by kernel_rfl) rfl (by kernel_rfl)) ?_
  intro W base args ds gs before hval0 hW hcnd hk _
  have hval : ∀ (j : Nat) t v, Try.f7.params[j]? = some t → args[j]? = some v → Value.okWide Try.prog W .any base t v := hval0
  have hW' := hW
  obtain ⟨p, q, hA0, hV, rfl, hfz, hnd⟩ := hW
  have hA : DataW.TrodAll enc Try.prog W 0 (fun _ => true) true Try.f7.params.toList args.toList ds p := hA0
  rw [Try.params7] at hA hval
  obtain ⟨v0, vs0, d0, ds0, p0, q0, hargs, rfl, rfl, h0, r0⟩ := trodAll_cons hA
  obtain ⟨v1, vs1, d1, ds1, p1, q1, rfl, rfl, rfl, h1, r1⟩ := trodAll_cons r0
  obtain ⟨rfl, rfl, rfl⟩ := trodAll_nil r1
  obtain rfl : args = #[v0, v1] := by cases args; simp_all
  obtain ⟨rfl, rfl⟩ := trodVars_none hV
  have k0 := h0
  have lt0 : ∀ x ∈ p0, x.block < W.heap.size := by obtain ⟨m, hm⟩ := k0; exact DataW.trod_lt m _ _ _ hm
  obtain ⟨a0, n0, cap0, X0, rfl, x0, y0⟩ : ∃ a n cap X, v0 = .slice a n cap ∧ DOps W a n X ∧ dopsW X ≤ 1048576 := by
    obtain ⟨sa, sl, sc, hv⟩ := okWide_slice Try.underlying23 (hval 0 23 v0 rfl rfl)
    obtain ⟨a, n, cap, X, h1, h2, h3, h4, h5, h6⟩ := dops_open sa sl sc hv h0
    have hAll : Rows.uptoBulkAll _ ≤ 1048576 := of_decide_eq_true hk
    exact ⟨a, n, cap, X, h1, h2, Nat.le_trans h6 (Nat.le_trans (bulk_mem (show d0 ∈ _ by simp)) hAll)⟩
  have k1 := h1
  have lt1 : ∀ x ∈ p1, x.block < W.heap.size := by obtain ⟨m, hm⟩ := k1; exact DataW.trod_lt m _ _ _ hm
  obtain ⟨a1, n1, cap1, X1, rfl, x1, y1⟩ : ∃ a n cap X, v1 = .slice a n cap ∧ DOps W a n X ∧ dopsW X ≤ 1048576 := by
    obtain ⟨sa, sl, sc, hv⟩ := okWide_slice Try.underlying23 (hval 1 23 v1 rfl rfl)
    obtain ⟨a, n, cap, X, h1, h2, h3, h4, h5, h6⟩ := dops_open sa sl sc hv h1
    have hAll : Rows.uptoBulkAll _ ≤ 1048576 := of_decide_eq_true hk
    exact ⟨a, n, cap, X, h1, h2, Nat.le_trans h6 (Nat.le_trans (bulk_mem (show d1 ∈ _ by simp)) hAll)⟩
  clear hA0 hval0
  refine (walk a0 n0 cap0 X0 a1 n1 cap1 X1 W x0 y0 x1 y1).mono fun e W' ⟨he, bel⟩ => ?_
  subst he
  exact ⟨_, rfl, _, _, _, [], _, [], hW', trodAll_mk1 (shut_bool Try.underlying4 _), (trodAll_cons_mk (Below.trod laidOut (by kernel_rfl) (of_decide_eq_true (by kernel_rfl)) k0 bel lt0) (trodAll_cons_mk (Below.trod laidOut (by kernel_rfl) (of_decide_eq_true (by kernel_rfl)) k1 bel lt1) trodAll_mk0)), rfl, bel.frame _, fun h => by cases h⟩

theorem over : Rows.diskTwinUptoRow.holds Try.pinned (Rows.OpenSpec.upto Rows.diskTwinSpec) :=
  OpenClaim.holds_of_cond 7 Try.f7 rfl rfl rfl rfl rfl rfl rfl ⟨rfl, rfl, rfl, rfl, rfl⟩ rfl rfl rfl rfl rfl (by kernel_rfl) Try.func7 (by kernel_rfl)
    (of_decide_eq_true (by kernel_rfl)) (by unfold Func.isWrapper; first | (rw [if_pos (by decide +kernel)]; kernel_rfl) | (rw [if_neg (by decide +kernel)]; exact ⟨rfl, rfl⟩))
    (fun os started H enc _ F => lifted os started H enc F)

end Go.Proofs.Yteoohgjoffpmkaa.diskTwin
namespace Go.Proofs.Yteoohgjoffpmkaa
theorem diskTwin_holds : Rows.DiskTwinUptoSaid := diskTwin.over
#print axioms diskTwin_holds
end Go.Proofs.Yteoohgjoffpmkaa
