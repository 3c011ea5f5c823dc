/-
  Proved: for every list of updates and every cut within the form's own bulk, hawserlaw08.DeltaRound answers true: updates that may be come back, one by one and as a stream, and of a stream's beginning those come back that are whole in it. No condition but the form's own bulk.
-/
import Derived.Test.YtfbbaodhlniiiaaRows
import Derived.Test.YtfbbaodhlniiiaaDRd
import Derived.Test.YtfbbaodhlniiiaaDTs
import Derived.WalkKit
import Derived.ProofKit
import Derived.OpenShut
import Derived.ShutString
import Derived.ChangeOld
import Derived.Below
import Derived.Lib.SmallJoins
import Derived.JoinedCond
import Derived.Deep.Slices
namespace Go.Proofs.Ytfbbaodhlniiiaa.deltaRound
open Go.ChangeShapes Go.WideShapes Go.ChangeAt Go.RowKit
set_option linter.unusedVariables false

theorem own : ownKnob Try.prog.godebug = none := by kernel_rfl
theorem laidOut : laidOutB Try.prog = true := by kernel_rfl

end Go.Proofs.Ytfbbaodhlniiiaa.deltaRound
namespace Go.Proofs.Ytfbbaodhlniiiaa.Dl
open Go.RowKit Go.WideShapes Go.ChangeShapes
set_option linter.unusedVariables false
theorem upds_len {H : Type} {enc : TypeId × Value → H} {w : World} {d : DataW H} {p : List MemPlace} {sa : Option Addr} {sl sc : Nat}
    (h : DataW.Trod enc Try.prog w 0 (fun _ => true) true 22 (.slice sa sl sc) d p) : sl = 0 ∨ ∃ l r, d = .slice l r ∧ l.length = sl := by
  obtain ⟨fuel, hf⟩ := h
  rcases Go.Deep.open_slice Try.underlying22 hf with ⟨hcs, hx⟩ | ⟨a, len, cap, m, n, D, Pl, hcs, _, hlc, hcm, hm, hx, hr⟩
  · simp [Value.cells] at hcs
    exact .inl hcs.2.1
  · simp [Value.cells] at hcs
    obtain ⟨rfl, rfl, rfl⟩ := hcs
    exact .inr ⟨_, _, congrArg Prod.fst hx, by simp⟩
theorem yOp (d : Nat) (k : Int) (key val : ByteArray) (ver : Int) (w : World) : (Op.equalIn (d + 2) 25 (.agg #[.int .i64 k, .string key, .string val, .int .i64 ver]) (.agg #[.int .i64 k, .string key, .string val, .int .i64 ver])).run Try.prog w = .ok true w := by
  have hs := fun s => zStr d s w
  have hi : ∀ n, (Op.equalIn (d + 1) 3 (.int .i64 n) (.int .i64 n)).run Try.prog w = .ok true w := fun n => zInt d n w
  have hk : ∀ n, (Op.equalIn (d + 1) 23 (.int .i64 n) (.int .i64 n)).run Try.prog w = .ok true w := fun n => by simp [Op.equalIn, run_underlying Try.underlying23]
  rw [Op.equalIn]
  simp [run_underlying Try.underlying25, part, isAgg, run_underlying Try.underlying9, run_underlying Try.underlying3, run_underlying Try.underlying23, hs, hi, hk]
theorem yUpd (q c n k : Int) (key val : ByteArray) (ver : Int) (w : World) : (Op.equalIn 10000 27 (.agg #[.int .i64 q, .int .i64 c, .int .i64 n, .int .i64 k, .string key, .string val, .int .i64 ver]) (.agg #[.int .i64 q, .int .i64 c, .int .i64 n, .int .i64 k, .string key, .string val, .int .i64 ver])).run Try.prog w = .ok true w := by
  have ho := yOp 9997 k key val ver w
  have hi := fun n => zInt 9998 n w
  rw [Op.equalIn]
  simp [run_underlying Try.underlying27, part, isAgg, run_underlying Try.underlying25, run_underlying Try.underlying3, hi, ho]
def p0 : Upd := ⟨7, 2, 3, 1, { data := #[107] }, { data := #[118] }, 0⟩
theorem p0_err : p0.err = 0 := by decide +kernel
theorem flat_bd : ∀ (L : List Upd), (∀ u ∈ L, Upd.err u = 0) → (L.flatMap one).length ≤ 66650 * L.length
  | [], _ => by simp
  | u :: L, h => by
    rw [List.flatMap_cons, List.length_append, List.length_cons]
    have h1 := one_len u (h u (by simp))
    have h2 := flat_bd L (fun x hx => h x (List.mem_cons_of_mem _ hx))
    omega
theorem bytes_one (u : Upd) : Bytes (one u) := by
  apply bytes_of_mem
  intro c hc
  unfold one at hc
  rcases List.mem_append.1 hc with z | z
  · exact enc_bytes _ c z
  · obtain ⟨i, hi, rfl⟩ := List.getElem_of_mem z
    have := bytesU u i hi
    rw [List.getElem?_eq_getElem hi] at this
    exact this
theorem bytes_flat (L : List Upd) : Bytes (L.flatMap one) := by
  apply bytes_of_mem
  intro c hc
  obtain ⟨u, _, hu⟩ := List.mem_flatMap.1 hc
  obtain ⟨i, hi, rfl⟩ := List.getElem_of_mem hu
  have := bytes_one u i hi
  rw [List.getElem?_eq_getElem hi] at this
  exact this
theorem bytes_take {xs : List Int} (h : Bytes xs) (k : Nat) : Bytes (xs.take k) := fun i hi => by
  rw [List.length_take] at hi
  rw [List.getElem?_take_of_lt (by omega)]
  exact h i (by omega)
/-- The list, all along the way. -/
def RN (w W : World) (sa : Option Addr) (Y : List Upd) : Prop := Upds W sa Y.length Y ∧ w.grownBy W none
theorem RN.new {w W W' sa Y} (h : RN w W sa Y) (hg : W.grownBy W' none) : RN w W' sa Y := ⟨h.1.below (gb_below hg), gb_trans h.2 hg⟩
theorem emod_nat (c : Int) (L : Nat) (h : 0 ≤ c) : c % ((L : Int) + 1) = ((c.toNat % (L + 1) : Nat) : Int) := by
  obtain ⟨n, rfl⟩ := Int.eq_ofNat_of_zero_le h
  rw [Int.toNat_natCast, Int.natCast_emod]
  simp
/-- Of a stream's beginning. -/
theorem cut_of {Y P : List Upd} {Z : List Int} {K L m : Nat} (hY : ∀ u ∈ Y, Upd.err u = 0) (hZ : Z = Y.flatMap one) (hL : L = Z.length) (hK : K ≤ L) (h : SplitIs (Z.take K) P m) :
    m ≤ K ∧ P.length ≤ Y.length ∧ (Z.take K).take m = Z.take m ∧ (∀ u, Y[P.length]? = some u → K < m + (one u).length) ∧ (P.length = Y.length → P = Y) := by
  have hl : (Z.take K).length = K := by rw [List.length_take]; omega
  have hm : m ≤ K := by have := h.le; omega
  have hw := h.whole
  have h2 : P.flatMap one ++ ((Z.take K).drop m ++ Z.drop K) = Y.flatMap one := by
    rw [← List.append_assoc, ← hw, List.take_append_drop, hZ]
  obtain ⟨k1, k2, k3⟩ := part_pre P Y _ _ h.ok hY h.no h2
  refine ⟨hm, k1, by rw [List.take_take, Nat.min_eq_left hm], fun u hu => ?_, fun e => by rw [← k2, e, List.take_length]⟩
  have := k3 u hu
  rw [List.length_drop, hl] at this
  omega
theorem own_cap {B : Nat} {w : World} {a : Option Addr} {n c : Nat} {xs : List Int} (h : Own B w (.slice a n c) n xs) : n ≤ c := by
  rcases h.2 with ⟨q, e⟩ | ⟨g, cap, cur, q, _, _, hn, _⟩
  · omega
  · cases q; exact hn
set_option maxRecDepth 20000 in
set_option maxHeartbeats 16000000 in
theorem round_walk (a : Option Addr) (n cap : Nat) (X : List Upd) (cut : Int) (w : World) (h : Upds w a n X) (hao : a = none → cap = 0) (hn : n ≤ 1048576) (hc0 : 0 ≤ cut) (hc1 : cut < 18446744073709551616) :
    Calls Try.prog 7 #[.slice a n cap, .int .u64 cut] w fun e w' => e = .returned (.bool true) ∧ Below w.heap.size w w' := by
  have HP0 : Hid (∀ W, Calls Try.prog 27 #[.int .i64 7, .int .i64 2, .int .i64 3, .string { data := #[107] }, .string { data := #[118] }] W fun r w' => r = .returned (.agg #[.int .i64 7, .int .i64 2, .int .i64 3, .int .i64 1, .string { data := #[107] }, .string { data := #[118] }, .int .i64 0]) ∧ W.grownBy w' none) := put_c 7 2 3 _ _
  have hXn : X.length = n := h.1
  obtain ⟨M, hM⟩ : ∃ M, M = okU X := ⟨_, rfl⟩
  have hMl : M.length ≤ 1048576 := by rw [hM]; have := okU_len X; omega
  have HMY : Hid (∀ W, w.grownBy W none → Calls Try.prog 28 #[.slice a n cap] W fun r w' => ∃ ma mc, r = .returned (.slice ma M.length mc) ∧ Upds w' ma M.length M ∧ (ma = none → mc = 0) ∧ W.grownBy w' none) := fun W hg => by
    refine (may_c a n cap X W (h.below (gb_below hg)) (by omega)).mono ?_
    rintro r w' ⟨v, rfl, h1, h2⟩
    rw [← hM] at h1
    obtain ⟨ma, mc, rfl, h3, h4⟩ := uown_upds h1
    exact ⟨ma, mc, rfl, h3, h4, below_gb h2⟩
  obtain ⟨Y, hY⟩ : ∃ Y, Y = [p0] ++ M := ⟨_, rfl⟩
  have hYok : ∀ u ∈ Y, Upd.err u = 0 := fun u hu => by
    rw [hY] at hu
    rcases List.mem_append.1 hu with z | z
    · simp at z; subst z; exact p0_err
    · rw [hM] at z; exact okU_ok X u z
  have hYl : Y.length ≤ 1048577 := by rw [hY]; simp; omega
  obtain ⟨Z, hZ⟩ : ∃ Z, Z = Y.flatMap one := ⟨_, rfl⟩
  obtain ⟨L, hL⟩ : ∃ L, L = Z.length := ⟨_, rfl⟩
  have hLb : L ≤ 137438953472 := by
    have := flat_bd Y hYok
    rw [hL, hZ]
    omega
  have HYY : Hid (Y = [p0] ++ M ∧ (∀ u ∈ Y, Upd.err u = 0) ∧ Z = Y.flatMap one ∧ L = Z.length ∧ Bytes Z) := ⟨hY, hYok, hZ, hL, by rw [hZ]; exact bytes_flat Y⟩
  have HST : Hid (∀ sa sc W, Upds W sa Y.length Y → Calls Try.prog 9 #[.slice sa Y.length sc] W fun r w' => ∃ ba bc, r = .returned (.tuple #[.slice ba L bc, .int .i64 0]) ∧ Own W.heap.size w' (.slice ba L bc) L Z ∧ W.grownBy w' none) := fun sa sc W hU => by
    have e1 : stE Y Y.length = 0 := stE_full Y hYok _ (Nat.le_refl _)
    have e2 : stZ Y Y.length = Z := by rw [stZ_full Y hYok, hZ]
    have k := stream_c sa Y.length sc Y W hU (by omega)
    rw [e1, e2, ← hL] at k
    exact k.mono fun r w' ⟨va, vc, k1, k2, k3⟩ => ⟨va, vc, k1, k2, below_gb k3⟩
  have HSP : Hid (∀ ba bc W, Seg .u8 W ba L Z → (ba = none → bc = 0) → Calls Try.prog 14 #[.slice ba L bc] W fun r w' => ∃ la lc, r = .returned (.tuple #[.slice la Y.length lc, .int .i64 (L : Int)]) ∧ Upds w' la Y.length Y ∧ W.grownBy w' none) := fun ba bc W hs hz => by
    refine (split_c ba L bc Z W hs HYY.out.2.2.2.2 hLb hz).mono ?_
    rintro r w' ⟨v, T, p, rfl, h1, h2, h3⟩
    have hu := split_of Y hYok
    rw [← hZ, ← hL] at hu
    obtain ⟨rfl, rfl⟩ := h1.uniq hu
    obtain ⟨la, lc, rfl, h4⟩ := own_upds h2
    exact ⟨la, lc, rfl, h4, below_gb h3⟩
  clear h hao hn hXn hM hY hYok hZ hL
  go_enter Try.func7, Try.ntmps7
  go_wp2_with (first
    | ((fail_if_success (have z := H1)); go_at_call 27; go_must (refine (Calls.mono (HP0.out _) ?_)); rintro r w1 ⟨rfl, h1⟩; have H1 : Hid (w.grownBy w1 none) := h1; clear h1)
    | ((fail_if_success (have z := H2)); have z := H1; clear z; go_at_call 28; go_must (refine (Calls.mono (HMY.out _ (gb_trans H1.out (gb_alloc _ _))) ?_)); rintro r w2 ⟨ma, mc, rfl, h1, h2, h3⟩; have H2 : Hid (UOwn w1.heap.size w2 (.slice (some ⟨w1.heap.size, 0, none⟩) 1 1) [p0] ∧ Upds w2 ma M.length M ∧ (ma = none → mc = 0) ∧ w.grownBy w2 none ∧ w1.heap.size ≤ w2.heap.size ∧ w.heap.size ≤ w1.heap.size) := ⟨(uown_one w1 p0).gb h3 (fun k hk => by cases hk), h1, h2, gb_trans (gb_trans H1.out (gb_alloc _ _)) h3, by have := h3.size; rw [World.size_alloc] at this; omega, H1.out.size⟩; clear h1 h2 h3)
    | ((fail_if_success (have z := H3)); have z := H2; clear z; at_builtin; go_must (refine wpList_cat rfl (.tmp 21) (.tmp 23) rfl w1.heap.size _ [p0] M ma mc rfl H2.out.1 rfl H2.out.2.2.1 H2.out.2.1 (by simp; omega) H2.out.2.2.2.2.1 ?_); intro v3 w3 ho hg; rw [← HYY.out.1] at ho; have hgw : w.grownBy w3 none := gb_newer H2.out.2.2.2.1 hg H2.out.2.2.2.2.2; obtain ⟨sa, sc, rfl, h3, _⟩ := uown_upds ho; have H3 : Hid (RN w w3 sa Y) := ⟨h3, hgw⟩; clear ho hg hgw h3))
  have hYi : (Y.length : Int) ≤ 1048577 := by omega
  go_loopw [6] (fun i wr => ∃ k : Nat, k ≤ Y.length ∧ i = .int .i64 (k : Int) ∧ Hid (RN w wr sa Y)) (fun i _ => Y.length - (intOf i).toNat)
  case atStart => exact ⟨0, Nat.zero_le _, rfl, H3.out⟩
  case round =>
    obtain ⟨k, hk, rfl, hr⟩ := hrel
    clear H3 H2 H1
    by_cases hlt : k < Y.length
    · have hi1 : (k : Int) < (Y.length : Int) := by omega
      rcases hr.out.1.2 with z | ⟨b, off, rfl, hbl, hcl⟩
      · omega
      obtain ⟨u, hu⟩ : ∃ u, u = upAt Y k := ⟨_, rfl⟩
      have hue : u.err = 0 := HYY.out.2.1 u (by rw [hu]; unfold upAt; rw [List.getElem?_eq_getElem hlt]; exact List.getElem_mem _)
      have HRG : Hid (wr.rangeAt b (off + k * 7) u.cells ∧ b < wr.heap.size) := ⟨by rw [hu]; exact hcl k hlt, hbl⟩
      clear hcl hbl hu
      obtain ⟨q, c, m, kd, key, val, ver⟩ := u
      obtain ⟨Zu, hZu⟩ : ∃ Z, Z = Upd.bytes ⟨q, c, m, kd, key, val, ver⟩ := ⟨_, rfl⟩
      obtain ⟨Lu, hLu⟩ : ∃ L, L = Zu.length := ⟨_, rfl⟩
      have HEN : Hid (∀ W, Calls Try.prog 29 #[.agg #[.int .i64 q, .int .i64 c, .int .i64 m, .int .i64 kd, .string key, .string val, .int .i64 ver]] W fun r w' => ∃ va vc, r = .returned (.tuple #[.slice va Lu vc, .int .i64 0]) ∧ (Seg .u8 w' va Lu Zu ∧ (va = none → vc = 0)) ∧ W.grownBy w' none) := fun W => by
        have h := encode_c q c m kd key val ver W
        unfold EA at h
        have e1 : updE q c m kd key val ver = 0 := hue
        have e2 : updZ q c m kd key val ver = Zu := by unfold updZ; rw [if_pos e1, hZu]; rfl
        rw [e1, e2, ← hLu] at h
        refine h.mono ?_
        rintro r w' ⟨va, vc, h1, h2, h3⟩
        obtain ⟨aa, cc, e, hs, hz, _⟩ := h2.seg
        cases e
        exact ⟨va, vc, h1, ⟨hs, hz⟩, below_gb h3⟩
      have HDE : Hid (∀ va vc W, Seg .u8 W va Lu Zu → (va = none → vc = 0) → Calls Try.prog 30 #[.slice va Lu vc] W fun r w' => r = .returned (.tuple #[.agg #[.int .i64 q, .int .i64 c, .int .i64 m, .int .i64 kd, .string key, .string val, .int .i64 ver], .int .i64 0]) ∧ W.grownBy w' none) := fun va vc W hs hz => by
        have hth := there _ hue
        have hlu : Lu ≤ 66640 := by rw [hLu, hZu]; exact updB_len hue
        have k := decode_c va Lu vc Zu W hs (by rw [hZu]; exact bytesU _) (by omega) hz
        rw [hZu] at k
        rw [show dres (Upd.bytes ⟨q, c, m, kd, key, val, ver⟩) = #[.int .i64 q, .int .i64 c, .int .i64 m, .int .i64 kd, .string key, .string val, .int .i64 ver] from by unfold dres; rw [if_pos hth.1, hth.2]; rfl, show derr (Upd.bytes ⟨q, c, m, kd, key, val, ver⟩) = 0 from by unfold derr; rw [if_pos hth.1]] at k
        exact k.mono fun r w' ⟨k1, k2⟩ => ⟨k1, below_gb k2⟩
      have hone := upd_one q c m kd key val ver
      have heq := yUpd q c m kd key val ver
      have heg : Try.prog.eqGuardType Try.prog.depth 27 = false := by kernel_rfl
      clear hue hZu hLu
      go_wp2_with (first
        | ((fail_if_success (have z := A1)); refine wpList_load_mid rfl 27 (.tmp 34) rfl b (off + k * 7) (by first | rfl | simp) [.int .i64 q, .int .i64 c, .int .i64 m, .int .i64 kd, .string key, .string val, .int .i64 ver] _ HRG.out.1 Try.underlying27 rfl (by kernel_rfl) ?_)
        | ((fail_if_success (have z := A1)); go_at_call 29; go_must (refine (Calls.mono (HEN.out _) ?_)); rintro r x1 ⟨va, vc, rfl, h1, h2⟩; have A1 : Hid (Seg .u8 x1 va Lu Zu ∧ (va = none → vc = 0) ∧ wr.grownBy x1 none) := ⟨h1.1, h1.2, h2⟩; clear h1 h2)
        | ((fail_if_success (have z := A2)); have z := A1; clear z; go_at_call 30; go_must (refine (Calls.mono (HDE.out _ _ _ A1.out.1 A1.out.2.1) ?_)); rintro r x2 ⟨rfl, h1⟩; have A2 : Hid (wr.grownBy x2 none) := gb_trans A1.out.2.2 h1; clear h1)
        | ((fail_if_success (have z := A3)); have z := A2; clear z; refine wpList_store_bk 27 rfl (.tmp 9) (.tmp 42) rfl infoUpd x2.heap.size noUpd #[.int .i64 q, .int .i64 c, .int .i64 m, .int .i64 kd, .string key, .string val, .int .i64 ver] rfl rfl (blk_new x2 27 noUpd).1 rfl rfl hone ?_; intro x3 k1 k2; have A3 : Hid (wr.grownBy x3 none ∧ Bk 27 x3 x2.heap.size #[.int .i64 q, .int .i64 c, .int .i64 m, .int .i64 kd, .string key, .string val, .int .i64 ver]) := ⟨gb_newer (gb_trans A2.out (gb_alloc _ _)) k2 A2.out.size, k1⟩; clear k1 k2))
      have r1 : ∀ p, (loadVar 27 ⟨x2.heap.size, 0, none⟩).run Try.prog (gw x3 p) = .ok (.agg #[.int .i64 q, .int .i64 c, .int .i64 m, .int .i64 kd, .string key, .string val, .int .i64 ver]) (gw x3 p) := fun p => bk_load Try.underlying27 rfl infoUpd (bk_gw A3.out.2 p) rfl
      have r2 : ∀ p, (loadVar 27 ⟨b, off + k * 7, none⟩).run Try.prog (gw x3 p) = .ok (.agg #[.int .i64 q, .int .i64 c, .int .i64 m, .int .i64 kd, .string key, .string val, .int .i64 ver]) (gw x3 p) := fun p => run_loadVar_mid (gw x3 p) b (off + k * 7) 27 _ _ (fun j v hv => ((gb_below (gb_trans A3.out.1 (gw_gb x3 p))).cell (p := ⟨b, off + k * 7 + j, none⟩) HRG.out.2).trans (HRG.out.1 j v hv)) Try.underlying27 rfl (by kernel_rfl)
      refine wp_region_gb (by kernel_rfl) (by kernel_rfl) ?_
      repeat (first
        | (refine wpQuiet_loadv rfl 27 _ rfl ⟨x2.heap.size, 0, none⟩ _ (by first | rfl | simp) (fun w hw => by obtain ⟨p, rfl⟩ := hw; exact r1 p) ?_)
        | (refine wpQuiet_loadv rfl 27 _ rfl ⟨b, off + k * 7, none⟩ _ (by first | rfl | simp) (fun w hw => by obtain ⟨p, rfl⟩ := hw; exact r2 p) ?_)
        | quiet_step (fail))
      refine wpQuiet_nil ?_
      intro _ hw'
      obtain ⟨pq, rfl⟩ := hw'
      go_wp2_with fail
      go_roundw
      case rel => exact ⟨k + 1, by omega, by go_num, (hr.out.new A3.out.1).new (gw_gb _ _)⟩
      case measure => simp [intOf]; omega
    · obtain rfl : k = Y.length := by omega
      have hge : ¬ (Y.length : Int) < (Y.length : Int) := by omega
      obtain ⟨K, hK⟩ : ∃ K : Nat, K = cut.toNat % (L + 1) := ⟨_, rfl⟩
      have hKL : K ≤ L := by rw [hK]; have := Nat.mod_lt cut.toNat (show 0 < L + 1 by omega); omega
      have hrem2 : cut % ((L : Int) + 1) = (K : Int) := by rw [hK]; exact emod_nat cut L hc0
      have hrem : Int.tmod cut ((L : Int) + 1) = (K : Int) := by rw [Int.tmod_eq_emod_of_nonneg hc0, hrem2]
      have hLi : (L : Int) ≤ 137438953472 := by omega
      have HS2 : Hid (∀ ba bc W, Seg .u8 W ba L Z → (ba = none → bc = 0) → Calls Try.prog 14 #[.slice ba K bc] W fun r w' => ∃ pa pc P m, r = .returned (.tuple #[.slice pa P.length pc, .int .i64 ((m : Nat) : Int)]) ∧ SplitIs (Z.take K) P m ∧ Upds w' pa P.length P ∧ W.grownBy w' none) := fun ba bc W hs hz => by
        refine (split_c ba K bc (Z.take K) W (seg_takeQ hs K hKL) (bytes_take HYY.out.2.2.2.2 K) (by omega) hz).mono ?_
        rintro r w' ⟨v, T, p, rfl, h1, h2, h3⟩
        obtain ⟨la, lc, rfl, h4⟩ := own_upds h2
        exact ⟨la, lc, T, p, rfl, h1, h4, below_gb h3⟩
      clear hK
      go_wp2_with (first
        | ((fail_if_success (have z := H5)); go_at_call 9; go_must (refine (Calls.mono (HST.out _ _ _ hr.out.1) ?_)); rintro r w5 ⟨ba, bc, rfl, h1, h2⟩; obtain ⟨aa, cc, e, hs, hz, _⟩ := h1.seg; cases e; have H5 : Hid (RN w w5 sa Y ∧ Seg .u8 w5 ba L Z ∧ (ba = none → bc = 0) ∧ L ≤ bc) := ⟨hr.out.new h2, hs, hz, own_cap h1⟩; clear h1 h2 hs hz)
        | ((fail_if_success (have z := H6)); have z := H5; clear z; go_at_call 14; go_must (refine (Calls.mono (HSP.out _ _ _ H5.out.2.1 H5.out.2.2.1) ?_)); rintro r w6 ⟨la, lc, rfl, h1, h2⟩; have H6 : Hid (RN w w6 sa Y ∧ Seg .u8 w6 ba L Z ∧ Upds w6 la Y.length Y) := ⟨H5.out.1.new h2, H5.out.2.1.grew h2 (by simp), h1⟩; clear h1 h2)
        | ((fail_if_success (have z := H7)); have z := H6; clear z; go_at_call 31; go_must (refine (Calls.mono (lsame_c la sa Y.length _ _ Y _ H6.out.2.2 H6.out.1.1 (by omega)) ?_)); rintro r w7 ⟨rfl, h1⟩; have H7 : Hid (RN w w7 sa Y ∧ Seg .u8 w7 ba L Z) := ⟨H6.out.1.new h1, H6.out.2.1.grew h1 (by simp)⟩; clear h1)
        | ((fail_if_success (have z := H8)); have z := H7; clear z; go_at_call 14; go_must (refine (Calls.mono (HS2.out _ _ _ H7.out.2 H5.out.2.2.1) ?_)); rintro r w8 ⟨pa, pc, P, m, rfl, h1, h2, h3⟩; have hcu := cut_of HYY.out.2.1 HYY.out.2.2.1 HYY.out.2.2.2.1 hKL h1; have hmK : m ≤ K := hcu.1; have hPY : P.length ≤ Y.length := hcu.2.1; have HCU : Hid (SplitIs (Z.take K) P m ∧ (Z.take K).take m = Z.take m ∧ (∀ u, Y[P.length]? = some u → K < m + (one u).length) ∧ (P.length = Y.length → P = Y)) := ⟨h1, hcu.2.2.1, hcu.2.2.2.1, hcu.2.2.2.2⟩; have H8 : Hid (RN w w8 sa Y ∧ Seg .u8 w8 ba L Z ∧ Upds w8 pa P.length P) := ⟨H7.out.1.new h3, H7.out.2.grew h3 (by simp), h2⟩; clear h1 h2 h3 hcu)
        | ((fail_if_success (have z := H9)); have z := H8; clear z; go_at_call 9; go_must (refine (Calls.mono (stream_of pa pc (Z.take K) P m _ HCU.out.1 H8.out.2.2 (by omega)) ?_)); rintro r w9 ⟨va, vc, rfl, h1, h2⟩; rw [HCU.out.2.1] at h1; have H9 : Hid (RN w w9 sa Y ∧ Seg .u8 w9 ba L Z ∧ Own w8.heap.size w9 (.slice va m vc) m (Z.take m)) := ⟨H8.out.1.new h2, H8.out.2.1.grew h2 (by simp), h1⟩; clear h1 h2))
      rcases Nat.lt_or_ge P.length Y.length with hPlt | hPge
      · have hP1 : (P.length : Int) < (Y.length : Int) := by omega
        have s1 : ∀ z, (convert 28 9 (.slice va m vc)).run Try.prog (gw w9 z) = .ok (.string (strOfNums (Z.take m))) (gw w9 z) := fun z => str_ownD (own_keepQ H9.out.2.2 (gw_gb w9 z))
        have s2 : ∀ z, (convert 28 9 (.slice ba m bc)).run Try.prog (gw w9 z) = .ok (.string (strOfNums (Z.take m))) (gw w9 z) := fun z => seg_string (P := Try.prog) 28 9 5 bc (seg_takeQ (H9.out.2.1.grew (gw_gb w9 z) (by simp)) m (by omega)) Try.underlying28 Try.underlying5 Try.underlying9
        have s3 := slice_hd ba L bc m (by have := H5.out.2.2.2; omega)
        generalize strOfNums (Z.take m) = S at s1 s2
        have hP2 : ((P.length : Int) == (Y.length : Int)) = false := by simp; omega
        rcases H9.out.1.1.2 with z | ⟨b, off, rfl, hbl, hcl⟩
        · omega
        obtain ⟨u, hu⟩ : ∃ u, u = upAt Y P.length := ⟨_, rfl⟩
        have hY1 : Y[P.length]? = some u := by rw [hu]; unfold upAt; rw [List.getElem?_eq_getElem hPlt]; rfl
        have hue : u.err = 0 := HYY.out.2.1 u (List.mem_of_getElem? hY1)
        have hKm := HCU.out.2.2.1 u hY1
        have HRG : Hid (w9.rangeAt b (off + P.length * 7) u.cells ∧ b < w9.heap.size) := ⟨by rw [hu]; exact hcl _ hPlt, hbl⟩
        have h1l := one_len u hue
        have HSZ : Hid (∀ W, Calls Try.prog 32 #[.agg u.cells.toArray] W fun r w' => r = .returned (.int .i64 ((one u).length : Int)) ∧ W.grownBy w' none) := size_u u hue
        obtain ⟨o, ho⟩ : ∃ o, o = (one u).length := ⟨_, rfl⟩
        rw [← ho] at HSZ hKm h1l
        have hgt : (K : Int) < (m : Int) + (o : Int) := by omega
        have hwr : IntKind.i64.wrap ((m : Int) + (o : Int)) = (m : Int) + (o : Int) := IntWalk.i64_in _ ⟨by omega, by omega⟩
        have hdc : decide ((K : Int) < (m : Int) + (o : Int)) = true := by simpa using hgt
        clear hcl hbl hu hY1 hue ho hKm
        obtain ⟨q, c, m1, kd, key, val, ver⟩ := u
        have HSY : Hid (∀ W, Calls Try.prog 32 #[.agg #[.int .i64 q, .int .i64 c, .int .i64 m1, .int .i64 kd, .string key, .string val, .int .i64 ver]] W fun r w' => r = .returned (.int .i64 (o : Int)) ∧ W.grownBy w' none) := HSZ.out
        clear HSZ
        have r2 : ∀ p, (loadVar 27 ⟨b, off + P.length * 7, none⟩).run Try.prog (gw w9 p) = .ok (.agg #[.int .i64 q, .int .i64 c, .int .i64 m1, .int .i64 kd, .string key, .string val, .int .i64 ver]) (gw w9 p) := fun p => run_loadVar_mid (gw w9 p) b (off + P.length * 7) 27 _ _ (fun j v hv => ((gb_below (gw_gb w9 p)).cell (p := ⟨b, off + P.length * 7 + j, none⟩) HRG.out.2).trans (HRG.out.1 j v hv)) Try.underlying27 rfl (by kernel_rfl)
        refine wp_region_gb (by kernel_rfl) (by kernel_rfl) ?_
        repeat (first
          | (refine wpQuiet_loadv rfl 27 _ rfl ⟨b, off + P.length * 7, none⟩ _ (by first | rfl | simp) (fun w hw => by obtain ⟨p, rfl⟩ := hw; exact r2 p) ?_)
          | quiet_step (first
            | (go_at_call 32; exact calls_gb (HSY.out _))))
        refine wpQuiet_nil ?_
        intro _ hw'
        obtain ⟨pq, rfl⟩ := hw'
        go_wp2
        go_ret
        exact ⟨rfl, gb_below (gb_trans H9.out.1.2 (gw_gb _ _))⟩
      · have hP1 : ¬ (P.length : Int) < (Y.length : Int) := by omega
        have hP2 : ((P.length : Int) == (Y.length : Int)) = true := by simp; omega
        have ePY : P.length = Y.length := by omega
        have HMK : Hid ((m : Int) ≤ (K : Int)) := by show (m : Int) ≤ (K : Int); omega
        have HS1 : Hid (∀ W, w9.grownBy W none → (convert 28 9 (.slice va m vc)).run Try.prog W = .ok (.string (strOfNums (Z.take m))) W) := fun W hg => str_ownD (own_keepQ H9.out.2.2 hg)
        have HS4 : Hid (∀ W, w9.grownBy W none → (convert 28 9 (.slice ba m bc)).run Try.prog W = .ok (.string (strOfNums (Z.take m))) W) := fun W hg => seg_string (P := Try.prog) 28 9 5 bc (seg_takeQ (H9.out.2.1.grew hg (by simp)) m (by omega)) Try.underlying28 Try.underlying5 Try.underlying9
        have HS3 : Hid (∀ W, (Instr.slice 28 (.slice ba L bc) none (some (.int .i64 (m : Int))) none).run Try.prog W = .ok (.slice ba m bc) W) := slice_hd ba L bc m (by have := H5.out.2.2.2; omega)
        have HG9 : Hid (w.grownBy w9 none) := H9.out.1.2
        generalize strOfNums (Z.take m) = S at HS1 HS4
        clear H9 H8 H7 H6 H5 HCU HYY HST HSP HS2 HP0 HMY hr
        clear hrem hrem2 hge hYl hYi hMl hLb hLi hKL hmK hPY hPge hP1 hP2
        generalize K = KK at *
        rw [ePY]
        clear ePY
        generalize Y.length = NN
        refine wp_region_phi none rfl (by kernel_rfl) [101, 102, 103, 104, 105, 106, 107, 108, 109, 110, 111, 112, 113, 114, 115, 116, 117, 118, 119, 120, 121, 122, 123, 124, 125, 126, 127, 128, 129, 130, 131, 132, 133, 134, 135, 136, 137, 138, 139, 140, 141, 142, 143, 144, 145, 146, 147, 148, 4] [[], [0], [1], [2], [2], [4, 2], [3, 5, 2], [2, 6], [7], [8], [8], [9, 10, 8], [8, 11], [12], [13], [14, 13], [13], [13], [16, 17, 13], [18, 13], [15, 19, 13], [13, 20], [21], [22], [23, 22], [22], [25, 22], [24, 26, 22], [22, 27], [28], [29], [30, 29], [29], [32, 29], [31, 33, 29], [34, 29], [35], [35], [35], [35], [35], [35], [35], [35], [35], [35], [35, 45, 29], [29, 46], [47]] (by kernel_rfl) [fun u W => u = .int .i64 0, fun u W => u = .bool true, fun u W => u = .bool true, fun u W => u = .int .i64 ((m : Nat) : Int), fun u W => u = .slice va m vc, fun u W => u = .int .i64 ((m : Nat) : Int), fun u W => u = .bool true, fun u W => u = .bool true, fun u W => u = .bool true, fun u W => u = .int .i64 ((m : Nat) : Int), fun u W => u = .int .i64 ((KK : Nat) : Int), fun u W => u = .bool true, fun u W => u = .bool true, fun u W => u = .bool true, fun u W => u = .slice va m vc, fun u W => u = .string S, fun u W => u = .slice ba L bc, fun u W => u = .int .i64 ((m : Nat) : Int), fun u W => u = .slice ba m bc, fun u W => u = .string S, fun u W => u = .bool true, fun u W => u = .bool true, fun u W => u = .bool true, fun u W => u = .slice pa NN pc, fun u W => u = .int .i64 ((NN : Nat) : Int), fun u W => u = .slice sa NN sc, fun u W => u = .int .i64 ((NN : Nat) : Int), fun u W => u = .bool true, fun u W => u = .bool true, fun u W => u = .bool true, fun u W => u = .slice pa NN pc, fun u W => u = .int .i64 ((NN : Nat) : Int), fun u W => u = .slice sa NN sc, fun u W => u = .int .i64 ((NN : Nat) : Int), fun u W => u = .bool true, fun u W => u = .bool true, fun u W => u = undef, fun u W => u = undef, fun u W => u = undef, fun u W => u = undef, fun u W => u = undef, fun u W => u = undef, fun u W => u = undef, fun u W => u = undef, fun u W => u = undef, fun u W => u = undef, fun u W => u = .bool true, fun u W => u = .bool true, fun u W => u = .bool true] ?stable ?step ?fin
        case stable =>
          intro i v W W' h hg
          match i, h with
          | 0, h => exact h
          | 1, h => exact h
          | 2, h => exact h
          | 3, h => exact h
          | 4, h => exact h
          | 5, h => exact h
          | 6, h => exact h
          | 7, h => exact h
          | 8, h => exact h
          | 9, h => exact h
          | 10, h => exact h
          | 11, h => exact h
          | 12, h => exact h
          | 13, h => exact h
          | 14, h => exact h
          | 15, h => exact h
          | 16, h => exact h
          | 17, h => exact h
          | 18, h => exact h
          | 19, h => exact h
          | 20, h => exact h
          | 21, h => exact h
          | 22, h => exact h
          | 23, h => exact h
          | 24, h => exact h
          | 25, h => exact h
          | 26, h => exact h
          | 27, h => exact h
          | 28, h => exact h
          | 29, h => exact h
          | 30, h => exact h
          | 31, h => exact h
          | 32, h => exact h
          | 33, h => exact h
          | 34, h => exact h
          | 35, h => exact h
          | 36, h => exact h
          | 37, h => exact h
          | 38, h => exact h
          | 39, h => exact h
          | 40, h => exact h
          | 41, h => exact h
          | 42, h => exact h
          | 43, h => exact h
          | 44, h => exact h
          | 45, h => exact h
          | 46, h => exact h
          | 47, h => exact h
          | 48, h => exact h
          | i + 49, h => exact trivial
        case step =>
          intro f W A hA hg i o ho hu K hK
          match i, ho, hu, hK with
          | 0, ho, hu, hK =>
            cases ho
            have e19 : A.eval (.tmp 19) = .int .i64 0 := ev_out hA 19 rfl
            exact ph_move _ rfl rfl (.int .i64 0) e19 (hK _ _ (gb_rr W _) rfl)
          | 1, ho, hu, hK =>
            cases ho
            have e101 : A.eval (.tmp 101) = .int .i64 0 := (ev_in hA 101 0 rfl rfl rfl).trans (show f 0 = .int .i64 0 from hu 0 (by decide))
            refine ph_sem rfl rfl (r := .ok (.value (.bool true)) W) ?_ (hK _ _ (gb_rr W _) rfl)
            have eC : ∀ c, A.eval (.const c) = c := fun _ => rfl; have eF : ∀ g, A.eval (.func g) = .func (.func g) #[] #[] := fun _ => rfl; generalize A.eval = ρ at *
            clear hA hu hg hK
            go_simp
          | 2, ho, hu, hK =>
            cases ho
            have e102 : A.eval (.tmp 102) = .bool true := (ev_in hA 102 1 rfl rfl rfl).trans (show f 1 = .bool true from hu 1 (by decide))
            exact ph_move _ rfl rfl (.bool true) e102 (hK _ _ (gb_rr W _) rfl)
          | 3, ho, hu, hK =>
            cases ho
            have e17 : A.eval (.tmp 17) = .int .i64 ((m : Nat) : Int) := ev_out hA 17 rfl
            have e103 : A.eval (.tmp 103) = .bool true := (ev_in hA 103 2 rfl rfl rfl).trans (show f 2 = .bool true from hu 2 (by decide))
            exact ph_move _ rfl (wanted_in hA 2 true rfl 103 rfl rfl e103) (.int .i64 ((m : Nat) : Int)) e17 (hK _ _ (gb_rr W _) rfl)
          | 4, ho, hu, hK =>
            cases ho
            have e18 : A.eval (.tmp 18) = .slice va m vc := ev_out hA 18 rfl
            have e103 : A.eval (.tmp 103) = .bool true := (ev_in hA 103 2 rfl rfl rfl).trans (show f 2 = .bool true from hu 2 (by decide))
            exact ph_move _ rfl (wanted_in hA 2 true rfl 103 rfl rfl e103) (.slice va m vc) e18 (hK _ _ (gb_rr W _) rfl)
          | 5, ho, hu, hK =>
            cases ho
            have e105 : A.eval (.tmp 105) = .slice va m vc := (ev_in hA 105 4 rfl rfl rfl).trans (show f 4 = .slice va m vc from hu 4 (by decide))
            have e103 : A.eval (.tmp 103) = .bool true := (ev_in hA 103 2 rfl rfl rfl).trans (show f 2 = .bool true from hu 2 (by decide))
            refine ph_sem rfl (wanted_in hA 2 true rfl 103 rfl rfl e103) (r := .ok (.value (.int .i64 ((m : Nat) : Int))) W) ?_ (hK _ _ (gb_rr W _) rfl)
            have eC : ∀ c, A.eval (.const c) = c := fun _ => rfl; have eF : ∀ g, A.eval (.func g) = .func (.func g) #[] #[] := fun _ => rfl; generalize A.eval = ρ at *
            clear hA hu hg hK
            go_simp
          | 6, ho, hu, hK =>
            cases ho
            have e104 : A.eval (.tmp 104) = .int .i64 ((m : Nat) : Int) := (ev_in hA 104 3 rfl rfl rfl).trans (show f 3 = .int .i64 ((m : Nat) : Int) from hu 3 (by decide))
            have e106 : A.eval (.tmp 106) = .int .i64 ((m : Nat) : Int) := (ev_in hA 106 5 rfl rfl rfl).trans (show f 5 = .int .i64 ((m : Nat) : Int) from hu 5 (by decide))
            have e103 : A.eval (.tmp 103) = .bool true := (ev_in hA 103 2 rfl rfl rfl).trans (show f 2 = .bool true from hu 2 (by decide))
            refine ph_sem rfl (wanted_in hA 2 true rfl 103 rfl rfl e103) (r := .ok (.value (.bool true)) W) ?_ (hK _ _ (gb_rr W _) rfl)
            have eC : ∀ c, A.eval (.const c) = c := fun _ => rfl; have eF : ∀ g, A.eval (.func g) = .func (.func g) #[] #[] := fun _ => rfl; generalize A.eval = ρ at *
            clear hA hu hg hK
            go_simp
          | 7, ho, hu, hK =>
            cases ho
            have e103 : A.eval (.tmp 103) = .bool true := (ev_in hA 103 2 rfl rfl rfl).trans (show f 2 = .bool true from hu 2 (by decide))
            have e107 : A.eval (.tmp 107) = .bool true := (ev_in hA 107 6 rfl rfl rfl).trans (show f 6 = .bool true from hu 6 (by decide))
            exact ph_pick _ _ _ rfl rfl true (.bool true) (.bool false) e103 e107 rfl (hK _ _ (gb_rr W _) rfl)
          | 8, ho, hu, hK =>
            cases ho
            have e108 : A.eval (.tmp 108) = .bool true := (ev_in hA 108 7 rfl rfl rfl).trans (show f 7 = .bool true from hu 7 (by decide))
            exact ph_move _ rfl rfl (.bool true) e108 (hK _ _ (gb_rr W _) rfl)
          | 9, ho, hu, hK =>
            cases ho
            have e17 : A.eval (.tmp 17) = .int .i64 ((m : Nat) : Int) := ev_out hA 17 rfl
            have e109 : A.eval (.tmp 109) = .bool true := (ev_in hA 109 8 rfl rfl rfl).trans (show f 8 = .bool true from hu 8 (by decide))
            exact ph_move _ rfl (wanted_in hA 8 true rfl 109 rfl rfl e109) (.int .i64 ((m : Nat) : Int)) e17 (hK _ _ (gb_rr W _) rfl)
          | 10, ho, hu, hK =>
            cases ho
            have e15 : A.eval (.tmp 15) = .int .i64 ((KK : Nat) : Int) := ev_out hA 15 rfl
            have e109 : A.eval (.tmp 109) = .bool true := (ev_in hA 109 8 rfl rfl rfl).trans (show f 8 = .bool true from hu 8 (by decide))
            exact ph_move _ rfl (wanted_in hA 8 true rfl 109 rfl rfl e109) (.int .i64 ((KK : Nat) : Int)) e15 (hK _ _ (gb_rr W _) rfl)
          | 11, ho, hu, hK =>
            cases ho
            have e110 : A.eval (.tmp 110) = .int .i64 ((m : Nat) : Int) := (ev_in hA 110 9 rfl rfl rfl).trans (show f 9 = .int .i64 ((m : Nat) : Int) from hu 9 (by decide))
            have e111 : A.eval (.tmp 111) = .int .i64 ((KK : Nat) : Int) := (ev_in hA 111 10 rfl rfl rfl).trans (show f 10 = .int .i64 ((KK : Nat) : Int) from hu 10 (by decide))
            have e109 : A.eval (.tmp 109) = .bool true := (ev_in hA 109 8 rfl rfl rfl).trans (show f 8 = .bool true from hu 8 (by decide))
            have hle : ((m : Nat) : Int) ≤ ((KK : Nat) : Int) := HMK.out
            refine ph_sem rfl (wanted_in hA 8 true rfl 109 rfl rfl e109) (r := .ok (.value (.bool true)) W) ?_ (hK _ _ (gb_rr W _) rfl)
            have eC : ∀ c, A.eval (.const c) = c := fun _ => rfl; have eF : ∀ g, A.eval (.func g) = .func (.func g) #[] #[] := fun _ => rfl; generalize A.eval = ρ at *
            clear hA hu hg hK
            go_simp
          | 12, ho, hu, hK =>
            cases ho
            have e109 : A.eval (.tmp 109) = .bool true := (ev_in hA 109 8 rfl rfl rfl).trans (show f 8 = .bool true from hu 8 (by decide))
            have e112 : A.eval (.tmp 112) = .bool true := (ev_in hA 112 11 rfl rfl rfl).trans (show f 11 = .bool true from hu 11 (by decide))
            exact ph_pick _ _ _ rfl rfl true (.bool true) (.bool false) e109 e112 rfl (hK _ _ (gb_rr W _) rfl)
          | 13, ho, hu, hK =>
            cases ho
            have e113 : A.eval (.tmp 113) = .bool true := (ev_in hA 113 12 rfl rfl rfl).trans (show f 12 = .bool true from hu 12 (by decide))
            exact ph_move _ rfl rfl (.bool true) e113 (hK _ _ (gb_rr W _) rfl)
          | 14, ho, hu, hK =>
            cases ho
            have e18 : A.eval (.tmp 18) = .slice va m vc := ev_out hA 18 rfl
            have e114 : A.eval (.tmp 114) = .bool true := (ev_in hA 114 13 rfl rfl rfl).trans (show f 13 = .bool true from hu 13 (by decide))
            exact ph_move _ rfl (wanted_in hA 13 true rfl 114 rfl rfl e114) (.slice va m vc) e18 (hK _ _ (gb_rr W _) rfl)
          | 15, ho, hu, hK =>
            cases ho
            have e115 : A.eval (.tmp 115) = .slice va m vc := (ev_in hA 115 14 rfl rfl rfl).trans (show f 14 = .slice va m vc from hu 14 (by decide))
            have e114 : A.eval (.tmp 114) = .bool true := (ev_in hA 114 13 rfl rfl rfl).trans (show f 13 = .bool true from hu 13 (by decide))
            have hc := HS1.out W hg
            refine ph_sem rfl (wanted_in hA 13 true rfl 114 rfl rfl e114) (r := .ok (.value (.string S)) W) ?_ (hK _ _ (gb_rr W _) rfl)
            have eC : ∀ c, A.eval (.const c) = c := fun _ => rfl; have eF : ∀ g, A.eval (.func g) = .func (.func g) #[] #[] := fun _ => rfl; generalize A.eval = ρ at *
            clear hA hu hg hK
            go_simp
          | 16, ho, hu, hK =>
            cases ho
            have e11 : A.eval (.tmp 11) = .slice ba L bc := ev_out hA 11 rfl
            have e114 : A.eval (.tmp 114) = .bool true := (ev_in hA 114 13 rfl rfl rfl).trans (show f 13 = .bool true from hu 13 (by decide))
            exact ph_move _ rfl (wanted_in hA 13 true rfl 114 rfl rfl e114) (.slice ba L bc) e11 (hK _ _ (gb_rr W _) rfl)
          | 17, ho, hu, hK =>
            cases ho
            have e17 : A.eval (.tmp 17) = .int .i64 ((m : Nat) : Int) := ev_out hA 17 rfl
            have e114 : A.eval (.tmp 114) = .bool true := (ev_in hA 114 13 rfl rfl rfl).trans (show f 13 = .bool true from hu 13 (by decide))
            exact ph_move _ rfl (wanted_in hA 13 true rfl 114 rfl rfl e114) (.int .i64 ((m : Nat) : Int)) e17 (hK _ _ (gb_rr W _) rfl)
          | 18, ho, hu, hK =>
            cases ho
            have e117 : A.eval (.tmp 117) = .slice ba L bc := (ev_in hA 117 16 rfl rfl rfl).trans (show f 16 = .slice ba L bc from hu 16 (by decide))
            have e118 : A.eval (.tmp 118) = .int .i64 ((m : Nat) : Int) := (ev_in hA 118 17 rfl rfl rfl).trans (show f 17 = .int .i64 ((m : Nat) : Int) from hu 17 (by decide))
            have e114 : A.eval (.tmp 114) = .bool true := (ev_in hA 114 13 rfl rfl rfl).trans (show f 13 = .bool true from hu 13 (by decide))
            have hc := HS3.out W
            refine ph_sem rfl (wanted_in hA 13 true rfl 114 rfl rfl e114) (r := .ok (.value (.slice ba m bc)) W) ?_ (hK _ _ (gb_rr W _) rfl)
            have eC : ∀ c, A.eval (.const c) = c := fun _ => rfl; have eF : ∀ g, A.eval (.func g) = .func (.func g) #[] #[] := fun _ => rfl; generalize A.eval = ρ at *
            clear hA hu hg hK
            go_simp
          | 19, ho, hu, hK =>
            cases ho
            have e119 : A.eval (.tmp 119) = .slice ba m bc := (ev_in hA 119 18 rfl rfl rfl).trans (show f 18 = .slice ba m bc from hu 18 (by decide))
            have e114 : A.eval (.tmp 114) = .bool true := (ev_in hA 114 13 rfl rfl rfl).trans (show f 13 = .bool true from hu 13 (by decide))
            have hc := HS4.out W hg
            refine ph_sem rfl (wanted_in hA 13 true rfl 114 rfl rfl e114) (r := .ok (.value (.string S)) W) ?_ (hK _ _ (gb_rr W _) rfl)
            have eC : ∀ c, A.eval (.const c) = c := fun _ => rfl; have eF : ∀ g, A.eval (.func g) = .func (.func g) #[] #[] := fun _ => rfl; generalize A.eval = ρ at *
            clear hA hu hg hK
            go_simp
          | 20, ho, hu, hK =>
            cases ho
            have e116 : A.eval (.tmp 116) = .string S := (ev_in hA 116 15 rfl rfl rfl).trans (show f 15 = .string S from hu 15 (by decide))
            have e120 : A.eval (.tmp 120) = .string S := (ev_in hA 120 19 rfl rfl rfl).trans (show f 19 = .string S from hu 19 (by decide))
            have e114 : A.eval (.tmp 114) = .bool true := (ev_in hA 114 13 rfl rfl rfl).trans (show f 13 = .bool true from hu 13 (by decide))
            refine ph_sem rfl (wanted_in hA 13 true rfl 114 rfl rfl e114) (r := .ok (.value (.bool true)) W) ?_ (hK _ _ (gb_rr W _) rfl)
            have eC : ∀ c, A.eval (.const c) = c := fun _ => rfl; have eF : ∀ g, A.eval (.func g) = .func (.func g) #[] #[] := fun _ => rfl; generalize A.eval = ρ at *
            clear hA hu hg hK
            go_simp
          | 21, ho, hu, hK =>
            cases ho
            have e114 : A.eval (.tmp 114) = .bool true := (ev_in hA 114 13 rfl rfl rfl).trans (show f 13 = .bool true from hu 13 (by decide))
            have e121 : A.eval (.tmp 121) = .bool true := (ev_in hA 121 20 rfl rfl rfl).trans (show f 20 = .bool true from hu 20 (by decide))
            exact ph_pick _ _ _ rfl rfl true (.bool true) (.bool false) e114 e121 rfl (hK _ _ (gb_rr W _) rfl)
          | 22, ho, hu, hK =>
            cases ho
            have e122 : A.eval (.tmp 122) = .bool true := (ev_in hA 122 21 rfl rfl rfl).trans (show f 21 = .bool true from hu 21 (by decide))
            exact ph_move _ rfl rfl (.bool true) e122 (hK _ _ (gb_rr W _) rfl)
          | 23, ho, hu, hK =>
            cases ho
            have e16 : A.eval (.tmp 16) = .slice pa NN pc := ev_out hA 16 rfl
            have e123 : A.eval (.tmp 123) = .bool true := (ev_in hA 123 22 rfl rfl rfl).trans (show f 22 = .bool true from hu 22 (by decide))
            exact ph_move _ rfl (wanted_in hA 22 true rfl 123 rfl rfl e123) (.slice pa NN pc) e16 (hK _ _ (gb_rr W _) rfl)
          | 24, ho, hu, hK =>
            cases ho
            have e124 : A.eval (.tmp 124) = .slice pa NN pc := (ev_in hA 124 23 rfl rfl rfl).trans (show f 23 = .slice pa NN pc from hu 23 (by decide))
            have e123 : A.eval (.tmp 123) = .bool true := (ev_in hA 123 22 rfl rfl rfl).trans (show f 22 = .bool true from hu 22 (by decide))
            refine ph_sem rfl (wanted_in hA 22 true rfl 123 rfl rfl e123) (r := .ok (.value (.int .i64 ((NN : Nat) : Int))) W) ?_ (hK _ _ (gb_rr W _) rfl)
            have eC : ∀ c, A.eval (.const c) = c := fun _ => rfl; have eF : ∀ g, A.eval (.func g) = .func (.func g) #[] #[] := fun _ => rfl; generalize A.eval = ρ at *
            clear hA hu hg hK
            go_simp
          | 25, ho, hu, hK =>
            cases ho
            have e5 : A.eval (.tmp 5) = .slice sa NN sc := ev_out hA 5 rfl
            have e123 : A.eval (.tmp 123) = .bool true := (ev_in hA 123 22 rfl rfl rfl).trans (show f 22 = .bool true from hu 22 (by decide))
            exact ph_move _ rfl (wanted_in hA 22 true rfl 123 rfl rfl e123) (.slice sa NN sc) e5 (hK _ _ (gb_rr W _) rfl)
          | 26, ho, hu, hK =>
            cases ho
            have e126 : A.eval (.tmp 126) = .slice sa NN sc := (ev_in hA 126 25 rfl rfl rfl).trans (show f 25 = .slice sa NN sc from hu 25 (by decide))
            have e123 : A.eval (.tmp 123) = .bool true := (ev_in hA 123 22 rfl rfl rfl).trans (show f 22 = .bool true from hu 22 (by decide))
            refine ph_sem rfl (wanted_in hA 22 true rfl 123 rfl rfl e123) (r := .ok (.value (.int .i64 ((NN : Nat) : Int))) W) ?_ (hK _ _ (gb_rr W _) rfl)
            have eC : ∀ c, A.eval (.const c) = c := fun _ => rfl; have eF : ∀ g, A.eval (.func g) = .func (.func g) #[] #[] := fun _ => rfl; generalize A.eval = ρ at *
            clear hA hu hg hK
            go_simp
          | 27, ho, hu, hK =>
            cases ho
            have e125 : A.eval (.tmp 125) = .int .i64 ((NN : Nat) : Int) := (ev_in hA 125 24 rfl rfl rfl).trans (show f 24 = .int .i64 ((NN : Nat) : Int) from hu 24 (by decide))
            have e127 : A.eval (.tmp 127) = .int .i64 ((NN : Nat) : Int) := (ev_in hA 127 26 rfl rfl rfl).trans (show f 26 = .int .i64 ((NN : Nat) : Int) from hu 26 (by decide))
            have e123 : A.eval (.tmp 123) = .bool true := (ev_in hA 123 22 rfl rfl rfl).trans (show f 22 = .bool true from hu 22 (by decide))
            have hle : ((NN : Nat) : Int) ≤ ((NN : Nat) : Int) := Int.le_refl _
            refine ph_sem rfl (wanted_in hA 22 true rfl 123 rfl rfl e123) (r := .ok (.value (.bool true)) W) ?_ (hK _ _ (gb_rr W _) rfl)
            have eC : ∀ c, A.eval (.const c) = c := fun _ => rfl; have eF : ∀ g, A.eval (.func g) = .func (.func g) #[] #[] := fun _ => rfl; generalize A.eval = ρ at *
            clear hA hu hg hK
            go_simp
          | 28, ho, hu, hK =>
            cases ho
            have e123 : A.eval (.tmp 123) = .bool true := (ev_in hA 123 22 rfl rfl rfl).trans (show f 22 = .bool true from hu 22 (by decide))
            have e128 : A.eval (.tmp 128) = .bool true := (ev_in hA 128 27 rfl rfl rfl).trans (show f 27 = .bool true from hu 27 (by decide))
            exact ph_pick _ _ _ rfl rfl true (.bool true) (.bool false) e123 e128 rfl (hK _ _ (gb_rr W _) rfl)
          | 29, ho, hu, hK =>
            cases ho
            have e129 : A.eval (.tmp 129) = .bool true := (ev_in hA 129 28 rfl rfl rfl).trans (show f 28 = .bool true from hu 28 (by decide))
            exact ph_move _ rfl rfl (.bool true) e129 (hK _ _ (gb_rr W _) rfl)
          | 30, ho, hu, hK =>
            cases ho
            have e16 : A.eval (.tmp 16) = .slice pa NN pc := ev_out hA 16 rfl
            have e130 : A.eval (.tmp 130) = .bool true := (ev_in hA 130 29 rfl rfl rfl).trans (show f 29 = .bool true from hu 29 (by decide))
            exact ph_move _ rfl (wanted_in hA 29 true rfl 130 rfl rfl e130) (.slice pa NN pc) e16 (hK _ _ (gb_rr W _) rfl)
          | 31, ho, hu, hK =>
            cases ho
            have e131 : A.eval (.tmp 131) = .slice pa NN pc := (ev_in hA 131 30 rfl rfl rfl).trans (show f 30 = .slice pa NN pc from hu 30 (by decide))
            have e130 : A.eval (.tmp 130) = .bool true := (ev_in hA 130 29 rfl rfl rfl).trans (show f 29 = .bool true from hu 29 (by decide))
            refine ph_sem rfl (wanted_in hA 29 true rfl 130 rfl rfl e130) (r := .ok (.value (.int .i64 ((NN : Nat) : Int))) W) ?_ (hK _ _ (gb_rr W _) rfl)
            have eC : ∀ c, A.eval (.const c) = c := fun _ => rfl; have eF : ∀ g, A.eval (.func g) = .func (.func g) #[] #[] := fun _ => rfl; generalize A.eval = ρ at *
            clear hA hu hg hK
            go_simp
          | 32, ho, hu, hK =>
            cases ho
            have e5 : A.eval (.tmp 5) = .slice sa NN sc := ev_out hA 5 rfl
            have e130 : A.eval (.tmp 130) = .bool true := (ev_in hA 130 29 rfl rfl rfl).trans (show f 29 = .bool true from hu 29 (by decide))
            exact ph_move _ rfl (wanted_in hA 29 true rfl 130 rfl rfl e130) (.slice sa NN sc) e5 (hK _ _ (gb_rr W _) rfl)
          | 33, ho, hu, hK =>
            cases ho
            have e133 : A.eval (.tmp 133) = .slice sa NN sc := (ev_in hA 133 32 rfl rfl rfl).trans (show f 32 = .slice sa NN sc from hu 32 (by decide))
            have e130 : A.eval (.tmp 130) = .bool true := (ev_in hA 130 29 rfl rfl rfl).trans (show f 29 = .bool true from hu 29 (by decide))
            refine ph_sem rfl (wanted_in hA 29 true rfl 130 rfl rfl e130) (r := .ok (.value (.int .i64 ((NN : Nat) : Int))) W) ?_ (hK _ _ (gb_rr W _) rfl)
            have eC : ∀ c, A.eval (.const c) = c := fun _ => rfl; have eF : ∀ g, A.eval (.func g) = .func (.func g) #[] #[] := fun _ => rfl; generalize A.eval = ρ at *
            clear hA hu hg hK
            go_simp
          | 34, ho, hu, hK =>
            cases ho
            have e132 : A.eval (.tmp 132) = .int .i64 ((NN : Nat) : Int) := (ev_in hA 132 31 rfl rfl rfl).trans (show f 31 = .int .i64 ((NN : Nat) : Int) from hu 31 (by decide))
            have e134 : A.eval (.tmp 134) = .int .i64 ((NN : Nat) : Int) := (ev_in hA 134 33 rfl rfl rfl).trans (show f 33 = .int .i64 ((NN : Nat) : Int) from hu 33 (by decide))
            have e130 : A.eval (.tmp 130) = .bool true := (ev_in hA 130 29 rfl rfl rfl).trans (show f 29 = .bool true from hu 29 (by decide))
            refine ph_sem rfl (wanted_in hA 29 true rfl 130 rfl rfl e130) (r := .ok (.value (.bool true)) W) ?_ (hK _ _ (gb_rr W _) rfl)
            have eC : ∀ c, A.eval (.const c) = c := fun _ => rfl; have eF : ∀ g, A.eval (.func g) = .func (.func g) #[] #[] := fun _ => rfl; generalize A.eval = ρ at *
            clear hA hu hg hK
            go_simp
          | 35, ho, hu, hK =>
            cases ho
            have e135 : A.eval (.tmp 135) = .bool true := (ev_in hA 135 34 rfl rfl rfl).trans (show f 34 = .bool true from hu 34 (by decide))
            have e130 : A.eval (.tmp 130) = .bool true := (ev_in hA 130 29 rfl rfl rfl).trans (show f 29 = .bool true from hu 29 (by decide))
            exact ph_move _ rfl (wanted_in hA 29 true rfl 130 rfl rfl e130) (.bool true) e135 (hK _ _ (gb_rr W _) rfl)
          | 36, ho, hu, hK =>
            cases ho
            have e136 : A.eval (.tmp 136) = .bool true := (ev_in hA 136 35 rfl rfl rfl).trans (show f 35 = .bool true from hu 35 (by decide))
            exact ph_skip (wanted_out hA 35 false rfl 136 rfl rfl e136) (hK _ _ (gb_rr W _) rfl)
          | 37, ho, hu, hK =>
            cases ho
            have e136 : A.eval (.tmp 136) = .bool true := (ev_in hA 136 35 rfl rfl rfl).trans (show f 35 = .bool true from hu 35 (by decide))
            exact ph_skip (wanted_out hA 35 false rfl 136 rfl rfl e136) (hK _ _ (gb_rr W _) rfl)
          | 38, ho, hu, hK =>
            cases ho
            have e136 : A.eval (.tmp 136) = .bool true := (ev_in hA 136 35 rfl rfl rfl).trans (show f 35 = .bool true from hu 35 (by decide))
            exact ph_skip (wanted_out hA 35 false rfl 136 rfl rfl e136) (hK _ _ (gb_rr W _) rfl)
          | 39, ho, hu, hK =>
            cases ho
            have e136 : A.eval (.tmp 136) = .bool true := (ev_in hA 136 35 rfl rfl rfl).trans (show f 35 = .bool true from hu 35 (by decide))
            exact ph_skip (wanted_out hA 35 false rfl 136 rfl rfl e136) (hK _ _ (gb_rr W _) rfl)
          | 40, ho, hu, hK =>
            cases ho
            have e136 : A.eval (.tmp 136) = .bool true := (ev_in hA 136 35 rfl rfl rfl).trans (show f 35 = .bool true from hu 35 (by decide))
            exact ph_skip (wanted_out hA 35 false rfl 136 rfl rfl e136) (hK _ _ (gb_rr W _) rfl)
          | 41, ho, hu, hK =>
            cases ho
            have e136 : A.eval (.tmp 136) = .bool true := (ev_in hA 136 35 rfl rfl rfl).trans (show f 35 = .bool true from hu 35 (by decide))
            exact ph_skip (wanted_out hA 35 false rfl 136 rfl rfl e136) (hK _ _ (gb_rr W _) rfl)
          | 42, ho, hu, hK =>
            cases ho
            have e136 : A.eval (.tmp 136) = .bool true := (ev_in hA 136 35 rfl rfl rfl).trans (show f 35 = .bool true from hu 35 (by decide))
            exact ph_skip (wanted_out hA 35 false rfl 136 rfl rfl e136) (hK _ _ (gb_rr W _) rfl)
          | 43, ho, hu, hK =>
            cases ho
            have e136 : A.eval (.tmp 136) = .bool true := (ev_in hA 136 35 rfl rfl rfl).trans (show f 35 = .bool true from hu 35 (by decide))
            exact ph_skip (wanted_out hA 35 false rfl 136 rfl rfl e136) (hK _ _ (gb_rr W _) rfl)
          | 44, ho, hu, hK =>
            cases ho
            have e136 : A.eval (.tmp 136) = .bool true := (ev_in hA 136 35 rfl rfl rfl).trans (show f 35 = .bool true from hu 35 (by decide))
            exact ph_skip (wanted_out hA 35 false rfl 136 rfl rfl e136) (hK _ _ (gb_rr W _) rfl)
          | 45, ho, hu, hK =>
            cases ho
            have e136 : A.eval (.tmp 136) = .bool true := (ev_in hA 136 35 rfl rfl rfl).trans (show f 35 = .bool true from hu 35 (by decide))
            exact ph_skip (wanted_out hA 35 false rfl 136 rfl rfl e136) (hK _ _ (gb_rr W _) rfl)
          | 46, ho, hu, hK =>
            cases ho
            have e136 : A.eval (.tmp 136) = .bool true := (ev_in hA 136 35 rfl rfl rfl).trans (show f 35 = .bool true from hu 35 (by decide))
            have e146 : A.eval (.tmp 146) = undef := (ev_in hA 146 45 rfl rfl rfl).trans (show f 45 = undef from hu 45 (by decide))
            have e130 : A.eval (.tmp 130) = .bool true := (ev_in hA 130 29 rfl rfl rfl).trans (show f 29 = .bool true from hu 29 (by decide))
            exact ph_pick _ _ _ rfl (wanted_in hA 29 true rfl 130 rfl rfl e130) true (.bool true) (undef) e136 rfl e146 (hK _ _ (gb_rr W _) rfl)
          | 47, ho, hu, hK =>
            cases ho
            have e130 : A.eval (.tmp 130) = .bool true := (ev_in hA 130 29 rfl rfl rfl).trans (show f 29 = .bool true from hu 29 (by decide))
            have e147 : A.eval (.tmp 147) = .bool true := (ev_in hA 147 46 rfl rfl rfl).trans (show f 46 = .bool true from hu 46 (by decide))
            exact ph_pick _ _ _ rfl rfl true (.bool true) (.bool false) e130 e147 rfl (hK _ _ (gb_rr W _) rfl)
          | 48, ho, hu, hK =>
            cases ho
            have e148 : A.eval (.tmp 148) = .bool true := (ev_in hA 148 47 rfl rfl rfl).trans (show f 47 = .bool true from hu 47 (by decide))
            exact ph_assign _ rfl rfl (.bool true) e148 (hK _ _ (gb_rr W _) rfl)
          | i + 49, ho, hu, hK => simp at ho
        case fin =>
          intro f W A hA hg hu
          have hA2 := hA.trans (putAll_lit [(.int .i64 0), (.bool true), (.bool true), (.int .i64 ((m : Nat) : Int)), (.slice va m vc), (.int .i64 ((m : Nat) : Int)), (.bool true), (.bool true), (.bool true), (.int .i64 ((m : Nat) : Int)), (.int .i64 ((KK : Nat) : Int)), (.bool true), (.bool true), (.bool true), (.slice va m vc), (.string S), (.slice ba L bc), (.int .i64 ((m : Nat) : Int)), (.slice ba m bc), (.string S), (.bool true), (.bool true), (.bool true), (.slice pa NN pc), (.int .i64 ((NN : Nat) : Int)), (.slice sa NN sc), (.int .i64 ((NN : Nat) : Int)), (.bool true), (.bool true), (.bool true), (.slice pa NN pc), (.int .i64 ((NN : Nat) : Int)), (.slice sa NN sc), (.int .i64 ((NN : Nat) : Int)), (.bool true), (.bool true), (undef), (undef), (undef), (undef), (undef), (undef), (undef), (undef), (undef), (undef), (.bool true), (.bool true), (.bool true)] (by
            intro j hj
            match j, hj with
            | 0, _ => exact hu 0 (by decide)
            | 1, _ => exact hu 1 (by decide)
            | 2, _ => exact hu 2 (by decide)
            | 3, _ => exact hu 3 (by decide)
            | 4, _ => exact hu 4 (by decide)
            | 5, _ => exact hu 5 (by decide)
            | 6, _ => exact hu 6 (by decide)
            | 7, _ => exact hu 7 (by decide)
            | 8, _ => exact hu 8 (by decide)
            | 9, _ => exact hu 9 (by decide)
            | 10, _ => exact hu 10 (by decide)
            | 11, _ => exact hu 11 (by decide)
            | 12, _ => exact hu 12 (by decide)
            | 13, _ => exact hu 13 (by decide)
            | 14, _ => exact hu 14 (by decide)
            | 15, _ => exact hu 15 (by decide)
            | 16, _ => exact hu 16 (by decide)
            | 17, _ => exact hu 17 (by decide)
            | 18, _ => exact hu 18 (by decide)
            | 19, _ => exact hu 19 (by decide)
            | 20, _ => exact hu 20 (by decide)
            | 21, _ => exact hu 21 (by decide)
            | 22, _ => exact hu 22 (by decide)
            | 23, _ => exact hu 23 (by decide)
            | 24, _ => exact hu 24 (by decide)
            | 25, _ => exact hu 25 (by decide)
            | 26, _ => exact hu 26 (by decide)
            | 27, _ => exact hu 27 (by decide)
            | 28, _ => exact hu 28 (by decide)
            | 29, _ => exact hu 29 (by decide)
            | 30, _ => exact hu 30 (by decide)
            | 31, _ => exact hu 31 (by decide)
            | 32, _ => exact hu 32 (by decide)
            | 33, _ => exact hu 33 (by decide)
            | 34, _ => exact hu 34 (by decide)
            | 35, _ => exact hu 35 (by decide)
            | 36, _ => exact hu 36 (by decide)
            | 37, _ => exact hu 37 (by decide)
            | 38, _ => exact hu 38 (by decide)
            | 39, _ => exact hu 39 (by decide)
            | 40, _ => exact hu 40 (by decide)
            | 41, _ => exact hu 41 (by decide)
            | 42, _ => exact hu 42 (by decide)
            | 43, _ => exact hu 43 (by decide)
            | 44, _ => exact hu 44 (by decide)
            | 45, _ => exact hu 45 (by decide)
            | 46, _ => exact hu 46 (by decide)
            | 47, _ => exact hu 47 (by decide)
            | 48, _ => exact hu 48 (by decide)
            | j + 49, hj => exact absurd hj (by simp)))
          clear hu hA
          subst hA2
          simp only [putAll, putL, List.mem_cons, List.not_mem_nil, List.idxOf_cons, Nat.reduceEqDiff, Nat.reduceBEq, Nat.reduceAdd, or_false, or_true, reduceIte, cond_true, cond_false, List.getD_cons_zero, List.getD_cons_succ, BEq.rfl]
          go_wp2
          go_ret
          exact ⟨rfl, gb_below (gb_trans HG9.out hg)⟩
end Go.Proofs.Ytfbbaodhlniiiaa.Dl
namespace Go.Proofs.Ytfbbaodhlniiiaa.deltaRound
open Go.ChangeShapes Go.WideShapes Go.ChangeAt Go.RowKit
set_option linter.unusedVariables false
theorem walk (a : Option Addr) (n cap : Nat) (X : List Dl.Upd) (cut : Int) (w : World) (h : Dl.Upds w a n X) (hao : a = none → cap = 0) (hn : n ≤ 1048576) (hc : (Lit.int .u64 cut).wf = true) : Calls Try.prog 7 #[.slice a n cap, .int .u64 cut] w fun e w' => e = .returned (.bool true) ∧ Below w.heap.size w w' := by
  have hb : 0 ≤ cut ∧ cut < 18446744073709551616 := by
    have b0 := bounds_u64 hc
    omega
  exact Dl.round_walk a n cap X cut w h hao hn hb.1 hb.2

theorem bulk_len {H : Type} (l : List (DataW H)) : l.length ≤ Rows.uptoBulkAll l := by
  induction l with
  | nil => simp
  | cons d r ih =>
    have : 1 ≤ Rows.uptoBulk d := by
      cases d with
      | lit x => cases x <;> simp [Rows.uptoBulk]
      | _ => simp [Rows.uptoBulk]
    simp only [Rows.uptoBulkAll, List.length_cons]; omega
theorem bulk_mem {H : Type} {d : DataW H} {l : List (DataW H)} (h : d ∈ l) : Rows.uptoBulk d ≤ Rows.uptoBulkAll l := by
  induction l with
  | nil => cases h
  | cons x r ih =>
    simp only [Rows.uptoBulkAll]
    rcases List.mem_cons.1 h with rfl | h
    · omega
    · have := ih h; omega
theorem bulk_slice {H : Type} {ds : List (DataW H)} {d : DataW H} {l r : List (DataW H)} (hk : Rows.uptoSmall H ds = true) (hd : d ∈ ds) (e : d = .slice l r) : l.length + r.length ≤ 1048576 := by
  have h0 : Rows.uptoBulkAll ds ≤ 1048576 := of_decide_eq_true hk
  have h1 := bulk_mem hd
  have h3 := bulk_len l
  have h4 := bulk_len r
  rw [e] at h1
  simp only [Rows.uptoBulk] at h1
  omega

set_option maxRecDepth 100000 in
theorem lifted (os : Os) (started : os.Started) (H : Type) (enc : TypeId × Value → H) (F : Stop.Interp) :
    ReturnsInHanded {} Try.checked os 7 .any ((Rows.OpenSpec.upto Rows.deltaRoundSpec).pre6 enc Try.prog Try.f7 Rows.deltaRoundUptoRow.domain false) (((Rows.OpenSpec.upto Rows.deltaRoundSpec).at F).post enc Try.prog Try.f7 false true false false) := by
  refine returnsInHanded_of_cond (C := Try.checked) (s := Rows.OpenSpec.upto Rows.deltaRoundSpec) (k := Rows.uptoSmall) rfl own started (by kernel_rfl) Try.func7
    (OpenSpec.witness (enc := enc) (C := Try.checked) (s := Rows.OpenSpec.upto Rows.deltaRoundSpec) (k := Rows.uptoSmall) rfl false ⟨#[], #[.slice none 0 0, .int .u64 0], []⟩ 8 (by kernel_rfl) (by kernel_rfl) (by kernel_rfl)
      (x := ([.nil, .lit (.int .u64 0)], [], [])) (by kernel_rfl) rfl (by kernel_rfl)) ?_
  intro W base args ds gs before hval0 hW hcnd hk _
  have hval : ∀ (j : Nat) t v, Try.f7.params[j]? = some t → args[j]? = some v → Value.okWide Try.prog W .any base t v := hval0
  have hW' := hW
  obtain ⟨p, q, hA0, hV, rfl, hfz, hnd⟩ := hW
  have hA : DataW.TrodAll enc Try.prog W 0 (fun _ => true) true Try.f7.params.toList args.toList ds p := hA0
  rw [Try.params7] at hA hval
  obtain ⟨v0, vs0, d0, ds0, p0, q0, hargs, rfl, rfl, h0, r0⟩ := trodAll_cons hA
  obtain ⟨v1, vs1, d1, ds1, p1, q1, rfl, rfl, rfl, h1, r1⟩ := trodAll_cons r0
  obtain ⟨rfl, rfl, rfl⟩ := trodAll_nil r1
  obtain rfl : args = #[v0, v1] := by cases args; simp_all
  obtain ⟨rfl, rfl⟩ := trodVars_none hV
  have k0 := h0
  have lt0 : ∀ x ∈ p0, x.block < W.heap.size := by obtain ⟨m, hm⟩ := k0; exact DataW.trod_lt m _ _ _ hm
  obtain ⟨a0, n0, cap0, X0, rfl, x0, nz0, y0⟩ : ∃ a n cap X, v0 = .slice a n cap ∧ Dl.Upds W a n X ∧ (a = none → cap = 0) ∧ n ≤ 1048576 := by
    obtain ⟨sa, sl, sc, hv⟩ := okWide_slice Try.underlying22 (hval 0 22 v0 rfl rfl)
    obtain ⟨a, n, cap, X, h1, h2, _, _, _, h6⟩ := Dl.upds_open sa sl sc hv h0
    refine ⟨a, n, cap, X, h1, h2, h6, ?_⟩
    have h7 := h0
    rw [h1] at h7
    rcases Dl.upds_len h7 with e | ⟨l, r, e, hl⟩
    · omega
    · have := bulk_slice hk (show d0 ∈ _ by simp) e
      omega
  obtain ⟨a1, rfl, rfl, rfl, w1⟩ := open_int Try.underlying75 (hval 1 75 v1 rfl rfl) h1
  clear hA0 hval0
  refine (walk a0 n0 cap0 X0 a1 W x0 nz0 y0 w1).mono fun e W' ⟨he, bel⟩ => ?_
  subst he
  exact ⟨_, rfl, _, _, _, [], _, [], hW', trodAll_mk1 (shut_bool Try.underlying4 _), (trodAll_cons_mk (Below.trod laidOut (by kernel_rfl) (of_decide_eq_true (by kernel_rfl)) k0 bel lt0) (trodAll_cons_mk (shut_int Try.underlying75 w1) trodAll_mk0)), rfl, bel.frame _, fun h => by cases h⟩

theorem over : Rows.deltaRoundUptoRow.holds Try.pinned (Rows.OpenSpec.upto Rows.deltaRoundSpec) :=
  OpenClaim.holds_of_cond 7 Try.f7 rfl rfl rfl rfl rfl rfl rfl ⟨rfl, rfl, rfl, rfl, rfl⟩ rfl rfl rfl rfl rfl (by kernel_rfl) Try.func7 (by kernel_rfl)
    (of_decide_eq_true (by kernel_rfl)) (by unfold Func.isWrapper; first | (rw [if_pos (by decide +kernel)]; kernel_rfl) | (rw [if_neg (by decide +kernel)]; exact ⟨rfl, rfl⟩))
    (fun os started H enc _ F => lifted os started H enc F)

end Go.Proofs.Ytfbbaodhlniiiaa.deltaRound
namespace Go.Proofs.Ytfbbaodhlniiiaa
theorem deltaRound_holds : Rows.DeltaRoundUptoSaid := deltaRound.over
#print axioms deltaRound_holds
end Go.Proofs.Ytfbbaodhlniiiaa
