/-
  What the document's Stream answers of a list of updates: the bytes of all, or the first error. Condition: at most 2^20 updates.
-/
import Derived.Test.YtmekcjonpmkoeaaDUo
import Derived.Test.YtmekcjonpmkoeaaDGd
namespace Go.Proofs.Ytmekcjonpmkoeaa.Dl
open Go.RowKit
set_option linter.unusedVariables false
theorem own_far {B : Nat} {w w' : World} {v : Value} {n : Nat} {xs : List Int} {row : Option Nat} (h : Own B w v n xs) (hg : w.grownBy w' row) (hr : ∀ k, row = some k → k < B) : Own B w' v n xs := by
  refine ⟨h.1, ?_⟩
  rcases h.2 with q | ⟨g, cap, cur, q1, q2, q3, q4⟩
  · exact .inl q
  · exact .inr ⟨g, cap, cur, q1, q2, (hg.block g (lt_of_block q3) (fun e => by have := hr g e.symm; omega)).trans q3, q4⟩
theorem own_hi {B : Nat} {w : World} {v : Value} {n : Nat} {xs : List Int} (h : Own B w v n xs) : ∀ g, v.ownBlock = some g → g < w.heap.size := by
  intro g hg
  rcases h.2 with ⟨rfl, _⟩ | ⟨g', cap, cur, rfl, hB, q3, _⟩
  · cases hg
  · cases hg; exact lt_of_block q3
theorem own_seg0 {B : Nat} {w : World} {va : Option Addr} {L vc : Nat} {Z : List Int} (h : Own B w (.slice va L vc) L Z) : Seg .u8 w va L Z ∧ (va = none → vc = 0) := by
  obtain ⟨a, c, e, hs, hn, _⟩ := h.seg
  cases e
  exact ⟨hs, hn⟩
/-- The document's bytes of the updates up to the k-th. -/
def GI (B : Nat) (w W : World) (X : List Upd) (k : Nat) (v : Value) : Prop := Own B W v (stB X k).length (stB X k) ∧ Below B w W ∧ B ≤ W.heap.size ∧ stE X k = 0 ∧ (stB X k).length ≤ 66650 * k
set_option maxRecDepth 20000 in
set_option maxHeartbeats 2000000 in
theorem gstream_c (a : Option Addr) (n cap : Nat) (X : List Upd) (w : World) (h : Upds w a n X) (hn : n ≤ 1048576) :
    Calls Try.prog 23 #[.slice a n cap] w fun r w' => ∃ va vc, r = .returned (.tuple #[.slice va (stZ X n).length vc, .int .i64 (stE X n)]) ∧ Own w.heap.size w' (.slice va (stZ X n).length vc) (stZ X n).length (stZ X n) ∧ Below w.heap.size w w' := by
  have HX : Hid (Upds w a n X) := h
  obtain ⟨B, hB⟩ : ∃ B, B = w.heap.size := ⟨_, rfl⟩
  have HBW : Hid (B = w.heap.size) := hB
  clear h
  go_enter Try.func23, Try.ntmps23
  rw [← hB]
  clear hB
  go_wp2_with fail
  go_loopw [4, 5] (fun v i wr => ∃ (k : Nat) (bv : Value), k ≤ n ∧ v = bv ∧ i = .int .i64 (k : Int) ∧ Hid (GI B w wr X k bv)) (fun _ i _ => n - (intOf i).toNat)
  case atStart => exact ⟨0, _, Nat.zero_le _, rfl, rfl, own_nil _ _, by rw [HBW.out]; exact Below.refl _ _, by rw [HBW.out]; exact Nat.le_refl _, rfl, by simp [stB]⟩
  case round =>
    obtain ⟨k, bv, hk, hbv, rfl, hr⟩ := hrel
    obtain rfl := hbv.symm
    by_cases hlt : k < n
    · have hi1 : (k : Int) < n := by omega
      rcases HX.out.2 with z | ⟨b, off, rfl, hbl, hcl⟩
      · omega
      obtain ⟨u, hu⟩ : ∃ u, u = upAt X k := ⟨_, rfl⟩
      have HRG : Hid (wr.rangeAt b (off + k * 7) u.cells) := by
        rw [hu]
        intro j v hv
        exact (hr.out.2.1.cell (p := ⟨b, off + k * 7 + j, none⟩) (by rw [HBW.out]; exact hbl)).trans (hcl k hlt j v hv)
      have HNX : Hid (stE X (k + 1) = u.err ∧ (u.err ≠ 0 → stE X n = u.err) ∧ stB X (k + 1) = stB X k ++ one u) := by
        have e : stE X (k + 1) = u.err := by show (if stE X k ≠ 0 then stE X k else (upAt X k).err) = _; rw [hr.out.2.2.2.1, ← hu]; simp
        exact ⟨e, fun z => by rw [stE_stay X (k + 1) n (by omega) (by rw [e]; exact z), e], by rw [hu]; rfl⟩
      clear hu hcl
      obtain ⟨q, c, m, kd, key, val, ver⟩ := u
      by_cases hE : Upd.err ⟨q, c, m, kd, key, val, ver⟩ = 0
      · have hb := one_len _ hE
        obtain ⟨Z, hZ⟩ : ∃ Z, Z = updZ q c m kd key val ver := ⟨_, rfl⟩
        have hZ2 : Z = Upd.bytes ⟨q, c, m, kd, key, val, ver⟩ := by rw [hZ]; unfold updZ; rw [if_pos (show updE q c m kd key val ver = 0 from hE)]; rfl
        obtain ⟨L, hL⟩ : ∃ L, L = Z.length := ⟨_, rfl⟩
        have HEN : Hid (∀ W, Calls Try.prog 19 #[.agg #[.int .i64 q, .int .i64 c, .int .i64 m, .int .i64 kd, .string key, .string val, .int .i64 ver]] W fun r w' => ∃ va vc, r = .returned (.tuple #[.slice va L vc, .int .i64 0]) ∧ Own W.heap.size w' (.slice va L vc) L Z ∧ Below W.heap.size W w') := fun W => by
          have := gencode_c q c m kd key val ver W
          unfold EA at this
          rw [← hZ, ← hL, show updE q c m kd key val ver = 0 from hE] at this
          exact this
        have HNM : Hid (∀ W, Calls Try.prog 36 #[.int .i64 (L : Int)] W fun r w' => Ans (enc L) W r w') := fun W => by
          have h9 : L ≤ 66640 := by rw [hL, hZ2]; exact updB_len hE
          have := gnum_c (L : Int) (by omega) (by omega) W
          simpa using this
        have HTT : Hid (L ≤ 66640 ∧ (enc L).length ≤ 10 ∧ enc L ++ Z = one ⟨q, c, m, kd, key, val, ver⟩ ∧ L = Z.length) := by
          have h9 : L ≤ 66640 := by rw [hL, hZ2]; exact updB_len hE
          exact ⟨h9, enc_leN _ (by omega), by rw [hL, hZ2]; rfl, hL⟩
        have HLB : Hid ((stB X k).length ≤ 66650 * k ∧ B ≤ wr.heap.size) := ⟨hr.out.2.2.2.2, hr.out.2.2.1⟩
        clear hb hZ hZ2 hL
        go_wp2_with (first
          | (refine wpList_load_mid rfl 41 (.tmp 17) rfl b (off + k * 7) (by first | rfl | simp) [.int .i64 q, .int .i64 c, .int .i64 m, .int .i64 kd, .string key, .string val, .int .i64 ver] _ HRG.out Try.underlying41 rfl (by kernel_rfl) ?_)
          | (go_at_call 19; go_must (refine (Calls.mono (HEN.out _) ?_)); rintro r x2 ⟨va, vc, rfl, h1, h2⟩; have A2 : Hid (Own wr.heap.size x2 (.slice va L vc) L Z ∧ Own B x2 bv (stB X k).length (stB X k) ∧ Below B w x2 ∧ wr.heap.size ≤ x2.heap.size) := ⟨h1, own_below hr.out.1 h2, hr.out.2.1.trans (h2.mono HLB.out.2), h2.size⟩; clear h1 h2)
          | (have z := A2; clear z; (fail_if_success (have z := A3)); go_at_call 36; go_must (refine (Calls.mono (HNM.out _) ?_)); rintro r x3 ⟨ao, mm, cc, rfl, hm, ho, hsg, hn, hb⟩; have A3 : Hid (Own wr.heap.size x3 (.slice va L vc) L Z ∧ Own B x3 bv (stB X k).length (stB X k) ∧ Below B w x3 ∧ wr.heap.size ≤ x3.heap.size ∧ Seg .u8 x3 ao mm (enc L) ∧ (ao = none → cc = 0) ∧ mm = (enc L).length) := ⟨own_below A2.out.1 hb, own_below A2.out.2.1 hb, A2.out.2.2.1.trans (hb.mono (Nat.le_trans HLB.out.2 A2.out.2.2.2)), by have := hb.size; have := A2.out.2.2.2; omega, hsg, hn, hm⟩; clear hm ho hsg hn hb)
          | (have z := A3; clear z; (fail_if_success (have z := A4)); at_builtin; go_must (refine wpList_append_apart _ rfl (.tmp 25) (.tmp 28) rfl B _ _ _ rfl A3.out.2.1 ao mm cc (enc L) rfl A3.out.2.2.2.2.2.1 A3.out.2.2.2.2.1 (by have := A3.out.2.2.2.2.2.2; have := HTT.out.2.1; have := HLB.out.1; omega) (by have := A3.out.2.2.2.1; have := HLB.out.2; omega) ?_); intro v4 x4 ho hg _; have A4 : Hid (Own wr.heap.size x4 (.slice va L vc) L Z ∧ Own B x4 v4 ((stB X k).length + mm) (stB X k ++ enc L) ∧ Below B w x4 ∧ B ≤ x4.heap.size ∧ mm = (enc L).length) := ⟨own_far A3.out.1 hg (fun z hz => own_hi hr.out.1 z hz), ho, A3.out.2.2.1.trans ((Below.refl _ _).grown hg (by have := A3.out.2.2.2.1; have := HLB.out.2; omega) (fun z hz => own_lo A3.out.2.1 z hz)), by have := hg.size; have := A3.out.2.2.2.1; have := HLB.out.2; omega, A3.out.2.2.2.2.2.2⟩; clear ho hg)
          | (have z := A4; clear z; (fail_if_success (have z := A5)); at_builtin; go_must (refine wpList_append_apart _ rfl (.tmp 30) (.tmp 31) rfl B _ _ _ rfl A4.out.2.1 va L vc Z rfl (own_seg0 A4.out.1).2 (own_seg0 A4.out.1).1 (by have := A4.out.2.2.2.2; have := HTT.out.2.1; have := HTT.out.1; have := HLB.out.1; omega) A4.out.2.2.2.1 ?_); intro v5 x5 ho hg _; have A5 : Hid (Own B x5 v5 ((stB X k).length + mm + L) (stB X k ++ enc L ++ Z) ∧ Below B w x5 ∧ B ≤ x5.heap.size) := ⟨ho, A4.out.2.2.1.trans ((Below.refl _ _).grown hg A4.out.2.2.2.1 (fun z hz => own_lo A4.out.2.1 z hz)), by have := hg.size; have := A4.out.2.2.2.1; omega⟩; clear ho hg))
        go_roundw
        case rel =>
          refine ⟨k + 1, v5, by omega, rfl, by go_num, ?_, A5.out.2.1, A5.out.2.2, by rw [HNX.out.1]; exact hE, by rw [HNX.out.2.2, List.length_append]; have := one_len _ hE; have := HLB.out.1; omega⟩
          rw [HNX.out.2.2, ← HTT.out.2.2.1, ← List.append_assoc]
          have e : (stB X k ++ enc L ++ Z).length = (stB X k).length + mm + L := by rw [List.length_append, List.length_append, A4.out.2.2.2.2, HTT.out.2.2.2]
          rw [e]
          exact A5.out.1
        case measure => simp [intOf]; omega
      · obtain ⟨F, hF⟩ : ∃ F, F = Upd.err ⟨q, c, m, kd, key, val, ver⟩ := ⟨_, rfl⟩
        have hFb : (F != 0) = true := by rw [hF]; simp [hE]
        have HF : Hid (stE X n = F ∧ F ≠ 0) := ⟨by rw [hF]; exact HNX.out.2.1 hE, by rw [hF]; exact hE⟩
        obtain ⟨Z, hZ⟩ : ∃ Z, Z = updZ q c m kd key val ver := ⟨_, rfl⟩
        obtain ⟨L, hL⟩ : ∃ L, L = Z.length := ⟨_, rfl⟩
        have HEN : Hid (∀ W, Calls Try.prog 19 #[.agg #[.int .i64 q, .int .i64 c, .int .i64 m, .int .i64 kd, .string key, .string val, .int .i64 ver]] W fun r w' => ∃ va vc, r = .returned (.tuple #[.slice va L vc, .int .i64 F]) ∧ Own W.heap.size w' (.slice va L vc) L Z ∧ Below W.heap.size W w') := fun W => by
          have := gencode_c q c m kd key val ver W
          unfold EA at this
          rw [← hZ, ← hL, show updE q c m kd key val ver = F from hF.symm] at this
          exact this
        clear hE hF hZ hL
        go_wp2_with (first
          | (refine wpList_load_mid rfl 41 (.tmp 17) rfl b (off + k * 7) (by first | rfl | simp) [.int .i64 q, .int .i64 c, .int .i64 m, .int .i64 kd, .string key, .string val, .int .i64 ver] _ HRG.out Try.underlying41 rfl (by kernel_rfl) ?_)
          | (go_at_call 19; go_must (refine (Calls.mono (HEN.out _) ?_)); rintro r x2 ⟨va, vc, rfl, h1, h2⟩; have A2 : Hid (Below B w x2) := hr.out.2.1.trans (h2.mono hr.out.2.2.1); clear h1 h2))
        go_ret2
        have e : stZ X n = [] := if_neg (by rw [HF.out.1]; exact HF.out.2)
        rw [e, HF.out.1]
        exact ⟨none, 0, rfl, own_nil _ _, A2.out⟩
    · obtain rfl : k = n := by omega
      have hge : ¬ (k : Int) < k := by omega
      go_wp2_with fail
      go_ret2
      have e : stZ X k = stB X k := if_pos hr.out.2.2.2.1
      rw [e, hr.out.2.2.2.1]
      obtain ⟨va, vc, hv, _⟩ := hr.out.1.seg
      have ho := hr.out.1
      have hb := hr.out.2.1
      clear hr
      subst hv
      exact ⟨va, vc, rfl, ho, hb⟩
end Go.Proofs.Ytmekcjonpmkoeaa.Dl
