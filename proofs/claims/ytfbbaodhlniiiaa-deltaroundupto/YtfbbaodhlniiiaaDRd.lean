/-
  What the law's put, may, size and same answer; a list of updates appended to another one. Condition: at most 2^30 updates.
-/
import Derived.Test.YtfbbaodhlniiiaaDSq
import Derived.Test.YtfbbaodhlniiiaaDSu
namespace Go.Proofs.Ytfbbaodhlniiiaa.Dl
open Go.RowKit
set_option linter.unusedVariables false

theorem put_c (q c n : Int) (key val : ByteArray) (w : World) : Calls Try.prog 27 #[.int .i64 q, .int .i64 c, .int .i64 n, .string key, .string val] w fun r w' => r = .returned (.agg #[.int .i64 q, .int .i64 c, .int .i64 n, .int .i64 1, .string key, .string val, .int .i64 0]) ∧ w.grownBy w' none := by
  have hone := upd_one q c n 1 key val 0
  go_enter Try.func27, Try.ntmps27
  go_wp2_with (refine wpList_store_bk 27 rfl (.tmp 10) (.tmp 17) rfl infoUpd w.heap.size noUpd #[.int .i64 q, .int .i64 c, .int .i64 n, .int .i64 1, .string key, .string val, .int .i64 0] rfl rfl (blk_new w 27 noUpd).1 rfl rfl hone ?_; intro w1 k1 k2; have H1 : Hid (Bk 27 w1 w.heap.size #[.int .i64 q, .int .i64 c, .int .i64 n, .int .i64 1, .string key, .string val, .int .i64 0] ∧ w.grownBy w1 none) := ⟨k1, gb_newer (gb_alloc _ _) k2 (Nat.le_refl _)⟩; clear k1 k2)
  refine bodyPost_ret (results_cell1 Try.results27 _ _ _ ⟨w.heap.size, 0, none⟩ _ rfl (bk_load Try.underlying27 rfl infoUpd H1.out.1 rfl)) rfl ?_
  exact ⟨rfl, H1.out.2⟩
/-- Those that may be. -/
def okU (X : List Upd) : List Upd := X.filter (fun u => decide (u.err = 0))
theorem okU_ok (X : List Upd) : ∀ u ∈ okU X, Upd.err u = 0 := fun u hu => by simpa using (List.mem_filter.1 hu).2
theorem okU_len (X : List Upd) : (okU X).length ≤ X.length := List.length_filter_le _ _
theorem okU_more (X : List Upd) (u : Upd) : okU (X ++ [u]) = okU X ++ if u.err = 0 then [u] else [] := by
  unfold okU
  rw [List.filter_append]
  by_cases h : u.err = 0
  · simp [h]
  · simp [h]
set_option maxRecDepth 20000 in
set_option maxHeartbeats 2000000 in
theorem may_c (a : Option Addr) (n cap : Nat) (X : List Upd) (w : World) (h : Upds w a n X) (hn : n ≤ 1073741824) :
    Calls Try.prog 28 #[.slice a n cap] w fun r w' => ∃ v, r = .returned v ∧ UOwn w.heap.size w' v (okU X) ∧ Below w.heap.size w w' := by
  have HX : Hid (Upds w a n X) := h
  obtain ⟨B, hB⟩ : ∃ B, B = w.heap.size := ⟨_, rfl⟩
  have HBW : Hid (B = w.heap.size) := hB
  clear h
  go_enter Try.func28, Try.ntmps28
  rw [← hB]
  clear hB
  go_wp2_with fail
  go_loopw [3, 4] (fun v i wr => ∃ (k : Nat) (bv : Value), k ≤ n ∧ v = bv ∧ i = .int .i64 (k : Int) ∧ Hid (UOwn B wr bv (okU (X.take k)) ∧ Below B w wr ∧ B ≤ wr.heap.size)) (fun _ i _ => n - (intOf i).toNat)
  case atStart => exact ⟨0, _, Nat.zero_le _, rfl, rfl, uown_nil _ _, by rw [HBW.out]; exact Below.refl _ _, by rw [HBW.out]; exact Nat.le_refl _⟩
  case round =>
    obtain ⟨k, bv, hk, hbv, rfl, hr⟩ := hrel
    obtain rfl := hbv.symm
    by_cases hlt : k < n
    · have hi1 : (k : Int) < n := by omega
      rcases HX.out.2 with z | ⟨b, off, rfl, hbl, hcl⟩
      · omega
      obtain ⟨u, hu⟩ : ∃ u, u = upAt X k := ⟨_, rfl⟩
      have hblB : b < B := by rw [HBW.out]; exact hbl
      have HRG : Hid (wr.rangeAt b (off + k * 7) u.cells) := by
        rw [hu]
        intro j v hv
        exact (hr.out.2.1.cell (p := ⟨b, off + k * 7 + j, none⟩) hblB).trans (hcl k hlt j v hv)
      have HT : Hid (okU (X.take (k + 1)) = okU (X.take k) ++ (if u.err = 0 then [u] else []) ∧ (okU (X.take k)).length ≤ 137438953472) := ⟨by rw [hu, take_more X k (by rw [HX.out.1]; exact hlt), okU_more], by have := okU_len (X.take k); rw [List.length_take] at this; omega⟩
      clear hu hcl
      obtain ⟨q, c, m, kd, key, val, ver⟩ := u
      have HC : Hid (∀ W, Calls Try.prog 46 #[.agg #[.int .i64 q, .int .i64 c, .int .i64 m, .int .i64 kd, .string key, .string val, .int .i64 ver]] W fun r w' => r = .returned (.int .i64 (updE q c m kd key val ver)) ∧ W.grownBy w' none) := checku_c q c m kd key val ver
      by_cases hE : updE q c m kd key val ver = 0
      · rw [hE] at HC
        rw [if_pos (show Upd.err ⟨q, c, m, kd, key, val, ver⟩ = 0 from hE)] at HT
        clear hE
        go_wp2_with (first
          | ((fail_if_success (have z := A2)); refine wpList_load_mid rfl 27 (.tmp 13) rfl b (off + k * 7) (by first | rfl | simp) [.int .i64 q, .int .i64 c, .int .i64 m, .int .i64 kd, .string key, .string val, .int .i64 ver] _ HRG.out Try.underlying27 rfl (by kernel_rfl) ?_)
          | ((fail_if_success (have z := A2)); go_at_call 46; go_must (refine (Calls.mono (HC.out _) ?_)); rintro r x2 ⟨rfl, h2⟩; have A2 : Hid (UOwn B x2 bv (okU (X.take k)) ∧ Below B w x2 ∧ B ≤ x2.heap.size ∧ x2.rangeAt b (off + k * 7) [.int .i64 q, .int .i64 c, .int .i64 m, .int .i64 kd, .string key, .string val, .int .i64 ver]) := ⟨hr.out.1.gb h2 (fun z hz => by cases hz), hr.out.2.1.trans ((gb_below h2).mono hr.out.2.2), Nat.le_trans hr.out.2.2 h2.size, fun j v hv => ((gb_below h2).cell (p := ⟨b, off + k * 7 + j, none⟩) (Nat.lt_of_lt_of_le hblB hr.out.2.2)).trans (HRG.out j v hv)⟩; clear h2)
          | (have z := A2; clear z; (fail_if_success (have z := A3)); refine wpList_load_mid rfl 27 (.tmp 20) rfl b (off + k * 7) (by first | rfl | simp) [.int .i64 q, .int .i64 c, .int .i64 m, .int .i64 kd, .string key, .string val, .int .i64 ver] _ A2.out.2.2.2 Try.underlying27 rfl (by kernel_rfl) ?_)
          | (have z := A2; clear z; (fail_if_success (have z := A3)); at_builtin; go_must (refine wpList_upd rfl (.tmp 17) (.tmp 22) rfl B bv (okU (X.take k)) ⟨q, c, m, kd, key, val, ver⟩ rfl A2.out.1 rfl HT.out.2 A2.out.2.2.1 ?_); intro v3 x3 ho hg _; rw [← HT.out.1] at ho; have A3 : Hid (UOwn B x3 v3 (okU (X.take (k + 1))) ∧ Below B w x3 ∧ B ≤ x3.heap.size) := ⟨ho, A2.out.2.1.trans ((Below.refl _ _).grown hg A2.out.2.2.1 (fun z hz => A2.out.1.lo z hz)), Nat.le_trans A2.out.2.2.1 hg.size⟩; clear ho hg))
        go_roundw
        case rel => exact ⟨k + 1, v3, by omega, rfl, by go_num, A3.out.1, A3.out.2⟩
        case measure => simp [intOf]; omega
      · obtain ⟨F, hF⟩ : ∃ F, F = updE q c m kd key val ver := ⟨_, rfl⟩
        have hFb : (F == 0) = false := by rw [hF]; simp [hE]
        rw [if_neg (show ¬ Upd.err ⟨q, c, m, kd, key, val, ver⟩ = 0 from hE), List.append_nil] at HT
        rw [← hF] at HC
        clear hE hF
        go_wp2_with (first
          | ((fail_if_success (have z := A2)); refine wpList_load_mid rfl 27 (.tmp 13) rfl b (off + k * 7) (by first | rfl | simp) [.int .i64 q, .int .i64 c, .int .i64 m, .int .i64 kd, .string key, .string val, .int .i64 ver] _ HRG.out Try.underlying27 rfl (by kernel_rfl) ?_)
          | ((fail_if_success (have z := A2)); go_at_call 46; go_must (refine (Calls.mono (HC.out _) ?_)); rintro r x2 ⟨rfl, h2⟩; have A2 : Hid (UOwn B x2 bv (okU (X.take (k + 1))) ∧ Below B w x2 ∧ B ≤ x2.heap.size) := ⟨by rw [HT.out.1]; exact hr.out.1.gb h2 (fun z hz => by cases hz), hr.out.2.1.trans ((gb_below h2).mono hr.out.2.2), Nat.le_trans hr.out.2.2 h2.size⟩; clear h2))
        go_roundw
        case rel => exact ⟨k + 1, bv, by omega, rfl, by go_num, A2.out.1, A2.out.2⟩
        case measure => simp [intOf]; omega
    · obtain rfl : k = n := by omega
      have hge : ¬ (k : Int) < k := by omega
      go_wp2_with fail
      go_ret
      have e : X.take k = X := List.take_of_length_le (by rw [HX.out.1]; exact Nat.le_refl _)
      have ho := hr.out.1
      rw [e] at ho
      exact ⟨bv, rfl, ho, hr.out.2.1⟩
/-- A list appended to another one. -/
theorem wpList_cat {ops : Array Oper} {rest : List Oper} {o : Oper} {a : Act} {w : World} {Q : Exit → Act → World → Prop} (hgd : o.guard = none) (s x : Operand)
    (ho : o.op = .call { callee := .builtin .append, args := #[s, x], argTypes := #[22, 22] }) (B : Nat) (v : Value) (X Y : List Upd) (ao : Option Addr) (c : Nat) (hs : a.eval s = v) (hown : UOwn B w v X)
    (hx : a.eval x = .slice ao Y.length c) (hao : ao = none → c = 0) (hY : Upds w ao Y.length Y) (hn : X.length + Y.length ≤ 1073741824) (hB : B ≤ w.heap.size)
    (h : ∀ v' w', UOwn B w' v' (X ++ Y) → w.grownBy w' v.ownBlock → wpList Try.prog ops Q rest (a.put o.dst v') w') :
    wpList Try.prog ops Q (o :: rest) a w := by
  obtain ⟨i, hi, hz, h4, h5⟩ := info_parts infoU7
  cases ao with
  | none =>
    have hm0 : Y.length = 0 := by
      rcases hY.2 with h0 | ⟨_, _, h, _⟩
      · exact h0
      · cases h
    obtain rfl : Y = [] := List.eq_nil_of_length_eq_zero hm0
    have hc0 := hao rfl
    subst hc0
    refine wpList_append_own_none hgd s x 22 ho B 27 i 7 Try.underlying22 hi v X.length _ hs hown hx ?_
    exact h _ w (by rw [List.append_nil]; exact hown) ⟨rfl, rfl, rfl, Nat.le_refl _, fun _ _ _ => rfl⟩
  | some ad =>
    refine wpList_append_own_at w hgd s x 22 ho B 27 i (.agg noUpd) 7 72 Try.underlying22 hi hz h4 h5 rfl (by decide) v X.length _ hs hown ad Y.length c (Y.flatMap Upd.cells) hx (by rw [fm_len]) (upds_news hY) (fm_one Y) (by unfold maxLen; omega) (by omega) hB ?_
    intro v' w' hown' hgrow _ hat
    refine h v' w' ?_ hgrow
    unfold UOwn
    rw [List.length_append, List.flatMap_append]
    exact hown'
theorem uown_one (w : World) (u : Upd) : UOwn w.heap.size (w.alloc (.cells u.cells.toArray 27)) (.slice (some ⟨w.heap.size, 0, none⟩) 1 1) [u] := by
  refine ⟨by simp [Upd.cells], .inr ⟨w.heap.size, 1, _, rfl, Nat.le_refl _, heap_new w _, Nat.le_refl _, by unfold maxLen; omega, by simp [Upd.cells], by simp [Upd.cells]⟩⟩
theorem uown_upds {w : World} {B : Nat} {v : Value} {X : List Upd} (h : UOwn B w v X) : ∃ a cap, v = .slice a X.length cap ∧ Upds w a X.length X ∧ (a = none → cap = 0) := by
  rcases h.2 with ⟨q, e⟩ | ⟨g, cap, cur, q, hB, hg, hn, hm, hsz, htake⟩
  · exact ⟨none, 0, by rw [q, e], ⟨rfl, .inl e⟩, fun _ => rfl⟩
  · obtain ⟨a, cap', e1, e2⟩ := own_upds h
    rw [q] at e1
    cases e1
    exact ⟨_, cap, q, e2, fun z => by cases z⟩
/-- Whether two lists are the same. -/
theorem lsame_c (a a' : Option Addr) (n cap cap' : Nat) (X : List Upd) (w : World) (h : Upds w a n X) (h' : Upds w a' n X) (hn : n ≤ 1073741824) :
    Calls Try.prog 31 #[.slice a n cap, .slice a' n cap'] w fun r w' => r = .returned (.bool true) ∧ w.grownBy w' none := by
  have HA : Hid (Calls Try.prog 11 #[.slice a' n cap'] w fun r w' => ∃ pa pc, r = .returned (.slice pa n pc) ∧ Upds w' pa n X ∧ Upds w' a n X ∧ w.grownBy w' none) := by
    refine (plainAll_c a' n cap' X w h' hn).mono ?_
    rintro r w' ⟨v, rfl, h1, h2⟩
    obtain ⟨pa, pc, rfl, h3⟩ := own_upds h1
    rw [h'.1] at h3 ⊢
    exact ⟨pa, pc, rfl, h3, h.below h2, below_gb h2⟩
  clear h h'
  go_enter Try.func31, Try.ntmps31
  go_wp2_with (first
    | (go_at_call 11; go_must (refine (Calls.mono HA.out ?_)); rintro r w1 ⟨pa, pc, rfl, h1, h2, h3⟩; have H1 : Hid (Upds w1 pa n X ∧ Upds w1 a n X ∧ w.grownBy w1 none) := ⟨h1, h2, h3⟩; clear h1 h2 h3)
    | (go_at_call 12; go_must (refine (Calls.mono (sameU_c a pa n _ _ X _ H1.out.2.1 H1.out.1 hn) ?_)); rintro r w2 ⟨rfl, h⟩; have H2 : Hid (w.grownBy w2 none) := gb_trans H1.out.2.2 h; clear h))
  go_ret
  exact ⟨rfl, H2.out⟩
/-- How many bytes an update has in a stream. -/
theorem size_u (u : Upd) (hu : u.err = 0) (w : World) : Calls Try.prog 32 #[.agg u.cells.toArray] w fun r w' => r = .returned (.int .i64 ((one u).length : Int)) ∧ w.grownBy w' none := by
  have hst : stE [u] 1 = 0 ∧ stZ [u] 1 = one u := by
    have h1 := stE_full [u] (by simpa using hu) 1 (Nat.le_refl _)
    have h2 := stZ_full [u] (by simpa using hu)
    exact ⟨h1, by simpa using h2⟩
  obtain ⟨L, hL⟩ : ∃ L, L = (one u).length := ⟨_, rfl⟩
  rw [← hL]
  have HS : Hid (∀ W : World, Calls Try.prog 9 #[.slice (some ⟨W.heap.size, 0, none⟩) 1 1] (W.alloc (.cells u.cells.toArray 27)) fun r w' => ∃ va vc, r = .returned (.tuple #[.slice va L vc, .int .i64 0]) ∧ W.grownBy w' none) := fun W => by
    obtain ⟨a, cap, e1, e2⟩ := own_upds (uown_one W u)
    cases e1
    have k := stream_c _ 1 1 [u] _ e2 (by omega)
    rw [hst.1, hst.2, ← hL] at k
    exact k.mono fun r w' ⟨va, vc, k1, _, k3⟩ => ⟨va, vc, k1, gb_trans (gb_alloc _ _) (below_gb k3)⟩
  clear hst hL hu
  obtain ⟨q, c, m, kd, key, val, ver⟩ := u
  have H0 : Hid (Bk 27 (w.alloc (.cells #[.int .i64 q, .int .i64 c, .int .i64 m, .int .i64 kd, .string key, .string val, .int .i64 ver] 27)) w.heap.size #[.int .i64 q, .int .i64 c, .int .i64 m, .int .i64 kd, .string key, .string val, .int .i64 ver]) := (blk_new w _ _).1
  have HS2 : Hid (Calls Try.prog 9 #[.slice (some ⟨w.heap.size + 1, 0, none⟩) 1 1] ((w.alloc (.cells #[.int .i64 q, .int .i64 c, .int .i64 m, .int .i64 kd, .string key, .string val, .int .i64 ver] 27)).alloc (.cells #[.int .i64 q, .int .i64 c, .int .i64 m, .int .i64 kd, .string key, .string val, .int .i64 ver] 27)) fun r w' => ∃ va vc, r = .returned (.tuple #[.slice va L vc, .int .i64 0]) ∧ w.grownBy w' none) := by
    have k := HS.out (w.alloc (.cells #[.int .i64 q, .int .i64 c, .int .i64 m, .int .i64 kd, .string key, .string val, .int .i64 ver] 27))
    rw [World.size_alloc] at k
    exact k.mono fun r w' ⟨va, vc, k1, k2⟩ => ⟨va, vc, k1, gb_trans (gb_alloc _ _) k2⟩
  clear HS
  go_enter Try.func32, Try.ntmps32
  go_wp2_with (first
    | (refine wpList_load_bk 27 rfl (.tmp 1) rfl Try.underlying27 rfl infoUpd w.heap.size _ rfl H0.out rfl ?_)
    | (go_at_call 9; go_must (refine (Calls.mono HS2.out ?_)); rintro r w2 ⟨va, vc, rfl, h⟩; have H2 : Hid (w.grownBy w2 none) := h; clear h))
  go_ret
  exact ⟨rfl, H2.out⟩
end Go.Proofs.Ytfbbaodhlniiiaa.Dl
