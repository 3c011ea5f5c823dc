/-
  What the document's Texts answers: the same bytes, the same first error. Condition: at most 2^20 texts, of at most 2^20 bytes together.
-/
import Derived.Test.YtfnfkcafjfhnlaaTxC
import Derived.Test.YtfnfkcafjfhnlaaXWu
namespace Go.Proofs.Ytfnfkcafjfhnlaa
open Go.RowKit
set_option linter.unusedVariables false

/-- A writer of the document's, of one's own. -/
def XM (B : Nat) (w wr : World) (ys : List Int) : Prop := ∃ v F, XW B wr B v ys 0 F ∧ Below B w wr ∧ B ≤ wr.heap.size
theorem XM.goes {B w wr ys ys'} {f : FuncId} {A : Array Value} {v : Value} (h : XM B w wr ys) (hc : ∀ v0 F, XW B wr B v0 ys 0 F → Calls Try.prog f A wr fun r w' => r = .returned v ∧ XGoes B wr B F w' ys' 0) : Calls Try.prog f A wr fun r w' => r = .returned v ∧ XM B w w' ys' := by
  obtain ⟨v0, F, h1, h3, h4⟩ := h
  refine (hc v0 F h1).mono ?_
  rintro r w' ⟨hr, v', F', k1, k2, k3⟩
  have := k2.size
  refine ⟨hr, v', F', k1, k2.below h3 (fun k hk => ?_) h4, by omega⟩
  rcases hk with q | q
  · omega
  · exact (h1.own.lo k (by rw [h1.fb, q])).1
theorem XM.drew {B w wr w' ys} (h : XM B w wr ys) (hd : ∃ n, w' = wr.drewN n) : XM B w w' ys := by
  obtain ⟨n, rfl⟩ := hd
  obtain ⟨v, F, h1, h3, h4⟩ := h
  have hg : wr.grownBy (wr.drewN n) none := gb_drewN (World.grownBy.refl _ _) n
  exact ⟨v, F, h1.new hg, h3.grown hg h4 (fun k hk => by cases hk), h4⟩
theorem XM.uint {B w wr ys} (h : XM B w wr ys) (V : Int) (m : Nat) (hV : V = m) (hm : m ≤ 1048576) (hb : ys.length + 10 ≤ 140737488355328) : Calls Try.prog 61 #[.pointer (some ⟨B, 0, none⟩), .int .u64 V] wr fun r w' => r = .returned (.tuple #[]) ∧ XM B w w' (ys ++ enc m) := by
  subst hV
  refine h.goes (fun v F hw => ?_)
  have := xwuint_c B B v ys 0 m F wr hw (by omega) (by omega) hb
  unfold wadd at this
  rw [if_pos rfl, Int.toNat_natCast] at this
  exact this
theorem XM.text {B w wr ys} (h : XM B w wr ys) (s : ByteArray) (hs : s.size ≤ 65536) (hb : ys.length + s.size + 10 ≤ 140737488355328) : Calls Try.prog 64 #[.pointer (some ⟨B, 0, none⟩), .string s, .int .i64 65536] wr fun r w' => r = .returned (.tuple #[]) ∧ XM B w w' (ys ++ (enc s.size ++ sb s)) := by
  have e0 : ferr 0 (wte s.size 65536) = 0 := by unfold ferr wte; rw [if_pos rfl, if_neg (by omega), if_neg (by omega)]
  refine h.goes (fun v F hw => ?_)
  have := xwtext_c B B v ys 0 s 65536 F wr hw (by omega) hb
  rw [e0] at this
  unfold wadd at this
  rw [if_pos rfl] at this
  exact this
theorem XM.start (w : World) : XM w.heap.size w (w.alloc (.cells #[.slice none 0 0, .int .i64 0] 51 (0, 0))) [] := by
  refine ⟨.slice none 0 0, none, ⟨heap_new w _, ⟨rfl, .inl ⟨rfl, rfl⟩⟩, rfl, by simp, by simp [Bytes], by simp⟩, (Below.refl _ _).alloc (Nat.le_refl _) _, by simp⟩
/-- What the document's Texts answers. -/
def TxDoc (w : World) (n : Nat) (X : List ByteArray) (r : Ending) (w' : World) : Prop :=
  (terr X n ≠ 0 ∧ r = .returned (.tuple #[.slice none 0 0, .int .i64 (terr X n)]) ∧ Below w.heap.size w w') ∨
  (terr X n = 0 ∧ ∃ v, r = .returned (.tuple #[v, .int .i64 0]) ∧ Own w.heap.size w' v (enc n ++ tbt X n).length (enc n ++ tbt X n) ∧ Below w.heap.size w w')
set_option maxRecDepth 20000 in
set_option maxHeartbeats 2000000 in
theorem xtexts_c (a : Option Addr) (n cap : Nat) (X : List ByteArray) (w : World) (h : StrS w a n X) (hn : n ≤ 1048576) (hz : ∀ k, k ≤ n → tsz X k ≤ 1048576) :
    Calls Try.prog 34 #[.slice a n cap] w fun r w' => TxDoc w n X r w' := by
  have HS : Hid (StrS w a n X) := h
  have HZ : Hid (∀ k, k ≤ n → tsz X k ≤ 1048576) := hz
  obtain ⟨B, hB⟩ : ∃ B, B = w.heap.size := ⟨_, rfl⟩
  have HBW : Hid (B = w.heap.size) := hB
  have hn0 : ¬ (1048576 : Int) < n := by omega
  clear h hz
  go_enter Try.func34, Try.ntmps34
  go_wp2_with fail
  rw [← hB]
  generalize hW1 : World.alloc w _ = W1
  have H1 : Hid (XM B w W1 []) := by
    rw [← hW1, hB]
    exact XM.start w
  clear hW1 hB
  refine (H1.out.uint _ n (by first | rfl | go_num) (by omega) (by simp)).mono ?_
  rintro r w2 ⟨rfl, h2⟩
  have H2 : Hid (XM B w w2 (enc n ++ tbt X 0)) := by
    show XM _ _ _ _
    simp only [tbt, List.append_nil, List.nil_append] at h2 ⊢
    exact h2
  clear h2 H1
  go_wp2
  go_loopw [5, 21] (fun t i wr => ∃ k : Nat, k ≤ n ∧ i = .int .i64 k ∧ t = .int .i64 (tsz X k : Int) ∧ Hid (XM B w wr (enc n ++ tbt X k) ∧ terr X k = 0 ∧ (enc n ++ tbt X k).length ≤ 10 + 20 * k + tsz X k)) (fun _ i _ => n - (intOf i).toNat)
  case atStart => exact ⟨0, Nat.zero_le _, rfl, rfl, H2.out, rfl, by simp [tbt, tsz]; have := enc_leN n (by omega); omega⟩
  case round =>
    obtain ⟨k, hk, rfl, rfl, hr⟩ := hrel
    clear H2
    by_cases hlt : k < n
    · obtain ⟨b, off, rfl, hbw, hcl⟩ := HS.out.2.resolve_left (by omega)
      have hi1 : (k : Int) < n := by omega
      have hi0 : (0 : Int) ≤ (k : Int) := by omega
      obtain ⟨v0, F0, _, hbel, _⟩ := hr.out.1
      have hcell : wr.cell? ⟨b, off + k, none⟩ = some (.string (at' X k)) := (hbel.cell (p := ⟨b, off + k, none⟩) (by rw [HBW.out]; exact hbw)).trans (hcl k hlt)
      have HCE : Hid (∀ i, i < n → wr.cell? ⟨b, off + i, none⟩ = some (.string (at' X i))) := fun i hi => (hbel.cell (p := ⟨b, off + i, none⟩) (by rw [HBW.out]; exact hbw)).trans (hcl i hi)
      obtain ⟨s, hs⟩ : ∃ s, s = at' X k := ⟨_, rfl⟩
      obtain ⟨p, hp⟩ : ∃ p, p = prev X k := ⟨_, rfl⟩
      obtain ⟨T, hT⟩ : ∃ T, T = tsz X k := ⟨_, rfl⟩
      have hz1 := HZ.out (k + 1) (by omega)
      have hz2 : tsz X (k + 1) = T + s.size := by rw [hT, hs]; rfl
      have HSP : Hid (s = at' X k ∧ p = prev X k ∧ T = tsz X k ∧ tsz X (k + 1) = T + s.size) := ⟨hs, hp, hT, hz2⟩
      rw [← hs] at hcell
      rw [← hT]
      rw [hz2] at hz1
      have hTs : ¬ (268435456 : Int) < (T : Int) + (s.size : Int) := by omega
      clear hbel hcl hs hp hT hz2
      have HPB : Hid (p.size ≤ 1048576) := by
        show _ ≤ _
        rw [HSP.out.2.1]
        unfold prev
        split
        · simp
        · have := HZ.out k (by omega)
          have e : tsz X k = tsz X (k - 1) + (at' X (k - 1)).size := by
            obtain ⟨k', rfl⟩ : ∃ k', k = k' + 1 := ⟨k - 1, by omega⟩
            rfl
          omega
      by_cases h1 : 65536 < s.size
      · have HER : Hid (terr X n = 31) := by
          have : serr X k = 31 := by unfold serr; rw [← HSP.out.1, if_pos h1]
          show _ = _
          rw [terr_at hlt hr.out.2.1 (by rw [this]; omega), this]
        have hd1 : (65536 : Int) < (s.size : Int) := by omega
        have H5 : Hid (Below B w wr) := by obtain ⟨_, _, _, q, _⟩ := hr.out.1; exact q
        go_wp2_with fail
        go_ret2
        exact .inl ⟨by rw [HER.out]; omega, by rw [HER.out]; rfl, by rw [← HBW.out]; exact H5.out⟩
      · have hd1 : ¬ (65536 : Int) < (s.size : Int) := by omega
        by_cases hk0 : k = 0
        · have hkb : ¬ (0 : Int) < (k : Int) := by omega
          have HNX : Hid (terr X (k + 1) = 0) := by
            have : serr X k = 0 := by unfold serr; rw [← HSP.out.1, if_neg h1, if_neg (by unfold rises; simp [hk0])]
            show (if terr X k ≠ 0 then terr X k else serr X k) = 0
            rw [hr.out.2.1, this]; simp
          have HBB : Hid (enc 0 ++ (enc s.size ++ sb s) = sbt X k ∧ s.size ≤ 65536 ∧ (enc n ++ tbt X k).length ≤ 22020106) := by
            refine ⟨?_, by omega, by have := hr.out.2.2; have := HZ.out k (by omega); omega⟩
            unfold sbt scut
            have e : prev X k = ByteArray.empty := by rw [hk0]; exact prev_zero X
            rw [← HSP.out.1, e, lcs_none, show s.extract 0 s.size = s from ByteArray.extract_zero_size]
          clear hk0
          have hm0 : (0 : Int) ≤ (s.size : Int) := by omega
          go_wp2_with (first
            | ((fail_if_success (have z := H5)); go_at_call 61; go_must (refine (hr.out.1.uint _ 0 (by first | rfl | go_num) (by omega) (by have := HBB.out.2.2; omega)).mono ?_); rintro r w5 ⟨rfl, h5⟩; have H5 : Hid (XM B w w5 ((enc n ++ tbt X k) ++ enc 0)) := h5; clear h5)
            | (have z := H5; clear z; go_at_call 64; go_must (refine (H5.out.text s HBB.out.2.1 (by have e1 := HBB.out.2.2; have e2 := HBB.out.2.1; have e3 := enc_leN 0 (by omega); rw [List.length_append]; omega)).mono ?_); rintro r w6 ⟨rfl, h6⟩; have H6 : Hid (XM B w w6 (((enc n ++ tbt X k) ++ enc 0) ++ (enc s.size ++ sb s))) := h6; clear h6))
          have HFF : Hid (XM B w w6 (enc n ++ tbt X (k + 1)) ∧ terr X (k + 1) = 0 ∧ (enc n ++ tbt X (k + 1)).length ≤ 10 + 20 * (k + 1) + tsz X (k + 1)) := by
            have e1 := sbt_len X k (by rw [← HSP.out.1]; omega)
            have e2 := hr.out.2.2
            have e3 := HSP.out.2.2.2
            have e4 : tbt X (k + 1) = tbt X k ++ sbt X k := rfl
            refine ⟨by rw [e4, ← HBB.out.1]; simpa [List.append_assoc] using H6.out, HNX.out, ?_⟩
            rw [e4, ← List.append_assoc, List.length_append, e3]
            rw [← HSP.out.1] at e1
            have := HSP.out.2.2.1
            omega
          go_roundw
          case rel => exact ⟨k + 1, by omega, by go_num, by rw [HSP.out.2.2.2]; go_num, HFF.out⟩
          case measure => simp [intOf]; omega
        · have hkb : (0 : Int) < (k : Int) := by omega
          obtain ⟨k1, hk1⟩ : ∃ k1 : Nat, k1 + 1 = k := ⟨k - 1, by omega⟩
          have hkk : (k : Int) - 1 = (k1 : Int) := by omega
          have hc1 : wr.cell? ⟨b, off + k1, none⟩ = some (.string p) := by rw [HCE.out k1 (by omega), HSP.out.2.1, ← hk1, prev_succ]
          have hj1 : (k1 : Int) < n := by omega
          have hj0 : (0 : Int) ≤ (k1 : Int) := by omega
          obtain ⟨b1, hb1⟩ : ∃ b1, Op.bytesLess s.toList p.toList = b1 := ⟨_, rfl⟩
          obtain ⟨b2, hb2⟩ : ∃ b2, (s.toList == p.toList) = b2 := ⟨_, rfl⟩
          have hle : ∀ W, Sem.run Try.prog (binOp BinOp.leq 9 (.string s) (.string p)) W = .ok (.bool (b1 || b2)) W := fun W => by rw [← hb1, ← hb2]; rfl
          have HRB : Hid (rises X k = !(b1 || b2)) := by
            show rises X k = _
            unfold rises
            rw [← HSP.out.1, ← HSP.out.2.1, hb1, hb2]
            simp [hk0]
          clear hk0 hk1 hb1 hb2
          obtain ⟨b3, hb3⟩ : ∃ b3, (b1 || b2) = b3 := ⟨_, rfl⟩
          rw [hb3] at hle HRB
          clear hb3
          cases b3
          · have HNX : Hid (terr X (k + 1) = 0) := by
              have : serr X k = 0 := by unfold serr; rw [← HSP.out.1, if_neg h1, if_neg (by rw [HRB.out]; simp)]
              show (if terr X k ≠ 0 then terr X k else serr X k) = 0
              rw [hr.out.2.1, this]; simp
            have hlc := lcs_le p s
            obtain ⟨m, hm⟩ : ∃ m, m = lcs p s := ⟨_, rfl⟩
            rw [← hm] at hlc
            have HSH : Hid (∀ W, Calls Try.prog 75 #[.string p, .string s] W fun r w' => r = .returned (.int .i64 (m : Int)) ∧ ∃ n, w' = W.drewN n) := fun W => by rw [hm]; exact xshared_c p s (by have := HPB.out; omega) (by omega) W
            have HBB : Hid (enc m ++ (enc (s.extract m s.size).size ++ sb (s.extract m s.size)) = sbt X k ∧ (s.extract m s.size).size ≤ 65536 ∧ (enc n ++ tbt X k).length ≤ 22020106) := by
              refine ⟨?_, by simp; omega, by have := hr.out.2.2; have := HZ.out k (by omega); omega⟩
              unfold sbt scut
              rw [← HSP.out.1, ← HSP.out.2.1, hm]
            have hm0 : (0 : Int) ≤ (m : Int) := by omega
            have hm1 : (m : Int) ≤ (s.size : Int) := by omega
            clear hm
            go_wp2_with (first
              | (rw [hle])
              | (go_at_call 75; go_must (refine (HSH.out _).mono ?_); rintro r w4 ⟨rfl, h4⟩; have H3 : Hid (XM B w w4 (enc n ++ tbt X k)) := hr.out.1.drew h4; clear h4)
              | (have z := H3; clear z; (fail_if_success (have z := H5)); go_at_call 61; go_must (refine (H3.out.uint _ m (by first | rfl | go_num) (by omega) (by have := HBB.out.2.2; omega)).mono ?_); rintro r w5 ⟨rfl, h5⟩; have H5 : Hid (XM B w w5 ((enc n ++ tbt X k) ++ enc m)) := h5; clear h5)
              | (have z := H5; clear z; go_at_call 64; go_must (refine (H5.out.text (s.extract m s.size) HBB.out.2.1 (by have e1 := HBB.out.2.2; have e2 := HBB.out.2.1; have e3 := enc_leN m (by omega); rw [List.length_append]; omega)).mono ?_); rintro r w6 ⟨rfl, h6⟩; have H6 : Hid (XM B w w6 (((enc n ++ tbt X k) ++ enc m) ++ (enc (s.extract m s.size).size ++ sb (s.extract m s.size)))) := h6; clear h6))
            have HFF : Hid (XM B w w6 (enc n ++ tbt X (k + 1)) ∧ terr X (k + 1) = 0 ∧ (enc n ++ tbt X (k + 1)).length ≤ 10 + 20 * (k + 1) + tsz X (k + 1)) := by
              have e1 := sbt_len X k (by rw [← HSP.out.1]; omega)
              have e2 := hr.out.2.2
              have e3 := HSP.out.2.2.2
              have e4 : tbt X (k + 1) = tbt X k ++ sbt X k := rfl
              refine ⟨by rw [e4, ← HBB.out.1]; simpa [List.append_assoc] using H6.out, HNX.out, ?_⟩
              rw [e4, ← List.append_assoc, List.length_append, e3]
              rw [← HSP.out.1] at e1
              have := HSP.out.2.2.1
              omega
            go_roundw
            case rel => exact ⟨k + 1, by omega, by go_num, by rw [HSP.out.2.2.2]; go_num, HFF.out⟩
            case measure => simp [intOf]; omega
          · have HER : Hid (terr X n = 33) := by
              have : serr X k = 33 := by unfold serr; rw [← HSP.out.1, if_neg h1, if_pos (by rw [HRB.out]; rfl)]
              show _ = _
              rw [terr_at hlt hr.out.2.1 (by rw [this]; omega), this]
            have H5 : Hid (Below B w wr) := by obtain ⟨_, _, _, q, _⟩ := hr.out.1; exact q
            go_wp2_with (rw [hle])
            go_ret2
            exact .inl ⟨by rw [HER.out]; omega, by rw [HER.out]; rfl, by rw [← HBW.out]; exact H5.out⟩
    · obtain rfl : k = n := by omega
      have hge : ¬ (k : Int) < k := by omega
      obtain ⟨v, F, hx, hbel, _⟩ := hr.out.1
      obtain ⟨va, vc, rfl, _⟩ := hx.own.seg
      have H5 : Hid (Own B wr (.slice va (enc k ++ tbt X k).length vc) (enc k ++ tbt X k).length (enc k ++ tbt X k) ∧ Below B w wr) := ⟨hx.own, hbel⟩
      have c0 := hx.blk.c0
      obtain ⟨L, hL⟩ : ∃ L, L = (enc k ++ tbt X k).length := ⟨_, rfl⟩
      rw [← hL] at H5 c0
      have HL : Hid (L = (enc k ++ tbt X k).length) := hL
      clear hx hbel hL
      go_wp2_with fail
      go_ret2
      refine .inr ⟨hr.out.2.1, .slice va L vc, rfl, ?_, by rw [← HBW.out]; exact H5.out.2⟩
      rw [← HBW.out, ← HL.out]
      exact H5.out.1
end Go.Proofs.Ytfnfkcafjfhnlaa
