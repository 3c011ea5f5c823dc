/-
  What sha's take does: the state goes on as shz says. Condition: the bytes can be read, and lie in another block.
-/
import Derived.Test.YtlfppknpnfeplaaSTr
import Derived.Deep.RegionHeld3
namespace Go.Proofs.Ytlfppknpnfeplaa
set_option linter.unusedVariables false
open Go.RowKit

theorem shz_bytes (p : St × List Int) (xs : List Int) (hp : Bytes p.2) (hx : Bytes xs) (h : p.2.length < 64) : Bytes (shz p xs).2 := by
  induction xs generalizing p with
  | nil => exact hp
  | cons x xs ih =>
    have hx0 : 0 ≤ x ∧ x < 256 := hx.mem x (by simp)
    have hx1 : Bytes xs := bytes_of_mem fun z hz => hx.mem z (by simp [hz])
    show Bytes (shz (sbyte p x) xs).2
    by_cases h1 : p.2.length = 63
    · have e : sbyte p x = (blk p.1 (p.2 ++ [x]), []) := if_pos h1
      rw [e]; exact ih _ (fun i hi => by simp at hi) hx1 (by simp)
    · have e : sbyte p x = (p.1, p.2 ++ [x]) := if_neg h1
      rw [e]
      refine ih _ (bytes_of_mem fun z hz => ?_) hx1 (by simp; omega)
      rcases List.mem_append.1 hz with h2 | h2
      · exact hp.mem z h2
      · simp at h2; subst h2; exact hx0
theorem seg_far {w w' : World} {g b off len m : Nat} {xs : List Int} (h : Seg .u8 w (some ⟨b, off, none⟩) len xs) (hg : w.grownBy w' (some g)) (hb : b ≠ g) (hm : m ≤ len) : Seg .u8 w' (some ⟨b, off + m, none⟩) (len - m) (xs.drop m) := by
  refine ⟨by rw [List.length_drop, h.1], ?_⟩
  rcases h.2 with h0 | ⟨b', off', ha, hw, hc⟩
  · exact .inl (by omega)
  · cases ha
    refine .inr ⟨b, off + m, rfl, Nat.lt_of_lt_of_le hw hg.size, fun i hi => ?_⟩
    have e : w'.heap[b]? = w.heap[b]? := hg.block b hw (fun e => hb (Option.some.inj e))
    rw [World.cell?_of_block (w := w) (w' := w') (a := ⟨b, off + m + i, none⟩) e, Nat.add_assoc, hc (m + i) (by omega), List.getElem?_drop]
theorem wpList_store_eq {ops : Array Oper} {rest : List Oper} {op : Oper} {a : Act} {w : World} {Q : Exit → Act → World → Prop} (hgd : op.guard = none) (T : TypeId) (x y : Operand) (ho : op.op = .store T x y) (ad : Addr) (v : Value) (hx : a.eval x = .pointer (some ad)) (hy : a.eval y = v)
    (w' : World) (hst : (storeVar T ad v).run Try.prog w = .ok () w') (K : wpList Try.prog ops Q rest (a.put op.dst undef) w') : wpList Try.prog ops Q (op :: rest) a w := by
  refine wpList_plain hgd fun K' hK => ?_
  unfold Oper.wp execOp
  simp only [ho, hx, hy, Instr.storeAt, Instr.sureAddr, Sem.run_bind, Sem.run_pure, Result.andThen_ok, hst]
  exact hK _ _ K
theorem sta_step {T : TypeId} {pre : List Value} {w0 w w5 : World} {g : Nat} {s : St} {rs : List Int} {n : Int} (h : Sta T pre w g s rs n) (hg : w0.grownBy w (some g)) (hg5 : w.drew.grownBy w5 none) (s' : St) (o : Nat) (ho : pre.length = o) :
    ∃ w6, Sem.run Try.prog (storeCells ⟨g, o, none⟩ (wds s'.words).toList) w5 = .ok () w6 ∧ Sta T pre w6 g s' rs n ∧ w0.grownBy w6 (some g) := by
  have h5 : Sta T pre w5 g s rs n := Sta.gb (w := w.drew) h hg5
  obtain ⟨w6, h1, h2, h3⟩ := h5.setWords s' o ho
  exact ⟨w6, h1, h2, gb_trans (gb_trans (gb_drewN hg 1) (gb_wide hg5 _)) h3⟩
set_option maxRecDepth 20000 in
set_option maxHeartbeats 1000000 in
theorem take_c (T : TypeId) (pre : List Value) (g : Nat) (p : St × List Int) (n : Nat) (a : Option Addr) (len cap : Nat) (xs : List Int) (w : World) (h : Hs T pre w g p n) (hs : Seg .u8 w a len xs) (hx : Bytes xs) (hp : Bytes p.2) (hf : Far g a len) (hlc : len ≤ cap) (hcm : cap ≤ 9223372036854775807) (hn : n + len < 4611686018427387904) :
    Calls Try.prog 31 #[.pointer (some ⟨g, pre.length, none⟩), .slice a len cap] w fun r w' => r = .returned (.tuple #[]) ∧ Hs T pre w' g (shz p xs) (n + len) ∧ w.grownBy w' (some g) := by
  have H0 : Hid (Hs T pre w g (shz p (xs.take 0)) (n + 0) ∧ w.grownBy w (some g)) := ⟨h, World.grownBy.refl _ _⟩
  have HS : Hid (Seg .u8 w a (len - 0) (xs.drop 0) ∧ Far g a (len - 0)) := ⟨hs, hf⟩
  have HX : Hid (Bytes xs) := hx
  have HP : Hid (Bytes p.2) := hp
  have HPL : Hid (p.2.length < 64) := by show _ < _; rw [h.2]; omega
  have HXL : Hid (xs.length = len) := hs.1
  clear h hs hx hp hf
  obtain ⟨o, ho⟩ : ∃ o, o = pre.length := ⟨_, rfl⟩
  have HO : Hid (pre.length = o) := ho.symm
  rw [← ho]
  clear ho
  go_enter Try.func31, Try.ntmps31
  go_wp2_with fail
  go_loopw [1] (fun v wr => ∃ k : Nat, k ≤ len ∧ (∃ a', v = .slice a' (len - k) (cap - k) ∧ Hid (Seg .u8 wr a' (len - k) (xs.drop k) ∧ Far g a' (len - k))) ∧ Hid (Hs T pre wr g (shz p (xs.take k)) (n + k) ∧ w.grownBy wr (some g))) (fun v _ => slen v)
  case atStart => exact ⟨0, Nat.zero_le _, ⟨a, rfl, HS⟩, H0⟩
  case round =>
    obtain ⟨k, hk, ⟨a', rfl, hsf⟩, hr⟩ := hrel
    clear H0 HS
    by_cases hlt : k < len
    · obtain ⟨b, off, rfl, hbg⟩ := hsf.out.2.resolve_left (by omega)
      obtain ⟨q, hq⟩ : ∃ q, q = shz p (xs.take k) := ⟨_, rfl⟩
      rw [← hq] at hr
      have hul := hr.out.1.2
      obtain ⟨u, hu⟩ : ∃ u, u = q.2.length := ⟨_, rfl⟩
      rw [← hu] at hul
      have hu64 : u < 64 := by omega
      obtain ⟨L, hL⟩ : ∃ L, L = len - k := ⟨_, rfl⟩
      obtain ⟨C, hC⟩ : ∃ C, C = cap - k := ⟨_, rfl⟩
      rw [← hL] at hsf ⊢
      rw [← hC]
      obtain ⟨m, hm⟩ : ∃ m, m = Nat.min L (64 - u) := ⟨_, rfl⟩
      have hm1 : m ≤ L := by rw [hm]; exact Nat.min_le_left _ _
      have hm2 : u + m ≤ 64 := by have : m ≤ 64 - u := by rw [hm]; exact Nat.min_le_right _ _
                                  omega
      have hm0 : 0 < m := by rw [hm]; exact Nat.lt_min.2 ⟨by omega, by omega⟩
      have HOV : Hid (∀ W, Sta T pre W g q.1 (rz q.2) ((n + k : Nat) : Int) → Calls Try.prog 45 #[.pointer (some ⟨g, o, none⟩)] W fun r w' => r = .returned (.int .i64 (u : Int)) ∧ w' = W) := fun W hW => by
        have := over_c T pre g q.1 (rz q.2) (n + k) u hul W hW (by omega)
        rw [HO.out] at this; exact this
      have hsl : ∀ W : World, Sem.run Try.prog (Instr.sliceAt 65 (.pointer (some ⟨g, o + 8, none⟩)) (some (.int .i64 (u : Int))) none none) W = .ok (.slice (some ⟨g, o + 8 + u, none⟩) (64 - u) (64 - u)) W := fun W => by
        have := slice_from64 g (o + 8) u (by omega) (u : Int) rfl W
        rw [if_neg (by omega)] at this
        exact this
      have HR1 : Hid (Sta T pre wr.drew g q.1 (rz q.2) ((n + k : Nat) : Int)) := hr.out.1.1
      have HSG : Hid (Seg .u8 wr.drew (some ⟨b, off, none⟩) L (xs.drop k)) := hsf.out.1
      have hLp : (0 : Int) < (L : Int) := by omega
      have hLk : k + L ≤ len ∧ len ≤ k + L := by omega
      have hCk : k + C ≤ cap ∧ cap ≤ k + C := by omega
      have HM : Hid (Nat.min L (64 - u) = m) := hm.symm
      have HU : Hid (u = q.2.length ∧ u = (n + k) % 64) := ⟨hu, hul⟩
      have HQ : Hid (q = shz p (xs.take k)) := hq
      have HLC : Hid (L = len - k ∧ C = cap - k) := ⟨hL, hC⟩
      have hLC : L ≤ C := by omega
      clear hm hu hul hq hL hC
      go_wp2
      go_region_held3 (fun _ => True) (trivial) (first
        | (go_at_call 45; go_must (refine (HOV.out _ HR1.out).mono ?_); rintro r w1 ⟨rfl, rfl⟩)
        | (refine step_rest rfl (.tmp 13) (.tmp 14) rfl (some ⟨g, o + 8 + u, none⟩) (64 - u) (64 - u) C b off L rfl rfl T pre g u m q.1 (rz q.2) (xs.drop k) ((n + k : Nat) : Int) HR1.out HSG.out HM.out hm2 (by rw [HO.out]) ?_; intro w2 h1 h2; have H2 : Hid (Sta T pre w2 g q.1 ((rz q.2).take u ++ (xs.drop k).take m ++ (rz q.2).drop (u + m)) ((n + k : Nat) : Int) ∧ wr.grownBy w2 (some g)) := ⟨h1, gb_trans (gb_drewN (World.grownBy.refl _ _) 1) h2⟩; clear h1 h2))
      have HRZ : Hid ((rz q.2).take u ++ (xs.drop k).take m ++ (rz q.2).drop (u + m) = rz (q.2 ++ (xs.drop k).take m)) := by
        show _ = _
        have e : ((xs.drop k).take m).length = m := by rw [List.length_take, HSG.out.1]; omega
        have := rz_lay q.2 ((xs.drop k).take m) (by rw [e, ← HU.out.1]; exact hm2)
        rw [e, ← HU.out.1] at this
        exact this
      rw [HRZ.out] at H2
      obtain ⟨hs', hhs⟩ : ∃ hs', hs' = q.2 ++ (xs.drop k).take m := ⟨_, rfl⟩
      rw [← hhs] at H2
      have HHS : Hid (hs' = q.2 ++ (xs.drop k).take m) := hhs
      clear hhs HRZ
      obtain ⟨N1, hN1⟩ : ∃ N1, N1 = n + k := ⟨_, rfl⟩
      rw [← hN1] at H2
      have HN1 : Hid (N1 = n + k) := hN1
      have hN1b : N1 + m < 4611686018427387904 := by omega
      clear hN1
      have kc := H2.out.1.size
      have kf := H2.out.1.free (pre.length + 72)
      have H3 : Hid (Sta T pre (w2.setCell ⟨g, pre.length + 72, none⟩ (.int .i64 ((N1 : Int) + (m : Int)))) g q.1 (rz hs') ((N1 : Int) + (m : Int))) := H2.out.1.setSize _
      rw [HO.out] at kc kf H3
      have hb1 : (N1 : Int) + (m : Int) < 4611686018427387904 := by omega
      have hb0 : (0 : Int) ≤ (N1 : Int) := by omega
      have HG3 : Hid (wr.grownBy (w2.setCell ⟨g, o + 72, none⟩ (.int .i64 ((N1 : Int) + (m : Int)))) (some g)) := gb_trans H2.out.2 ⟨rfl, rfl, rfl, by simp, fun k _ hk => Below.heap_setCell _ _ _ _ (fun e => hk (by rw [e]))⟩
      have HSG2 : Hid (Seg .u8 (w2.setCell ⟨g, o + 72, none⟩ (.int .i64 ((N1 : Int) + (m : Int)))) (some ⟨b, off + m, none⟩) (L - m) ((xs.drop k).drop m)) := seg_far hsf.out.1 HG3.out hbg hm1
      have i1 : (m : Int) ≤ (L : Int) := by omega
      have i2 : (L : Int) ≤ (C : Int) := by omega
      have i3 : (0 : Int) ≤ (m : Int) := by omega
      have HOV2 : Hid (∀ W, Sta T pre W g q.1 (rz hs') ((N1 : Int) + (m : Int)) → Calls Try.prog 45 #[.pointer (some ⟨g, o, none⟩)] W fun r w' => r = .returned (.int .i64 (((N1 + m) % 64 : Nat) : Int)) ∧ w' = W) := fun W hW => by
        have := over_c T pre g q.1 (rz hs') (N1 + m) ((N1 + m) % 64) rfl W (by rw [Int.natCast_add]; exact hW) (by omega)
        rw [HO.out] at this; exact this
      obtain ⟨A, hif⟩ : ∃ A, (if C = m then (some ⟨b, off, none⟩ : Option Addr) else some ⟨b, off + m, none⟩) = A := ⟨_, rfl⟩
      have HA : Hid (∀ W, Seg .u8 W (some ⟨b, off + m, none⟩) (L - m) ((xs.drop k).drop m) → Seg .u8 W A (L - m) ((xs.drop k).drop m) ∧ Far g A (L - m)) := fun W hW => by
        rw [← hif]
        by_cases hCm : C = m
        · rw [if_pos hCm]
          exact ⟨⟨hW.1, .inl (by omega)⟩, .inl (by omega)⟩
        · rw [if_neg hCm]
          exact ⟨hW, .inr ⟨b, off + m, rfl, hbg⟩⟩
      have hdl : ((xs.drop k).take m).length = m := by rw [List.length_take, HSG.out.1]; omega
      have HDL : Hid (hs'.length = u + m) := by show _ = _; rw [HHS.out, List.length_append, hdl, HU.out.1]
      have HDR : Hid ((xs.drop k).drop m = xs.drop (k + m)) := by show _ = _; rw [List.drop_drop]
      have HTK : Hid (shz p (xs.take (k + m)) = shz q ((xs.drop k).take m)) := by show _ = _; rw [List.take_add, shz_app, ← HQ.out]
      have HQE : Hid ((q.1, q.2) = q) := rfl
      have HBQ : Hid (Bytes hs') := by
        show Bytes hs'
        rw [HHS.out]
        refine bytes_of_mem fun z hz => ?_
        rcases List.mem_append.1 hz with h | h
        · have hb := shz_bytes p (xs.take k) HP.out (bytes_of_mem fun z hz => HX.out.mem z (List.mem_of_mem_take hz)) HPL.out
          rw [← HQ.out] at hb
          exact hb.mem z h
        · exact HX.out.mem z (List.mem_of_mem_drop (List.mem_of_mem_take h))
      have HGR : Hid (w.grownBy wr (some g)) := hr.out.2
      by_cases hfull : u + m = 64
      · have hze : (((N1 + m) % 64 : Nat) : Int) = 0 := by have := HU.out.2; have := HN1.out; omega
        have HQ2 : Hid (shz p (xs.take (k + m)) = (blk q.1 hs', [])) := by
          show _ = _
          rw [HTK.out, HHS.out]
          exact shz_full q.1 q.2 _ (by rw [hdl, ← HU.out.1]; exact hfull) (by rw [← HU.out.1]; exact hu64)
        have HEND : Hid (k + m ≤ len ∧ ([] : List Int).length = (n + (k + m)) % 64 ∧ (N1 : Int) + (m : Int) = ((n + (k + m) : Nat) : Int) ∧ L - m = len - (k + m) ∧ C - m = cap - (k + m) ∧ 0 < m ∧ m ≤ L) := by
          have e1 := HU.out.2
          have e2 := HN1.out
          have e3 := HLC.out
          refine ⟨by omega, by show 0 = _; omega, by omega, by omega, by omega, hm0, hm1⟩
        have HBG : Hid (b ≠ g) := hbg
        rw [hze] at HOV2
        obtain ⟨s, hs⟩ : ∃ s, s = q.1 := ⟨_, rfl⟩
        rw [← hs] at H3 HOV2 HQ2
        obtain ⟨S', hS'⟩ : ∃ S', S' = blk s hs' := ⟨_, rfl⟩
        have HRZ2 : Hid (rz hs' = hs') := by show _ = _; unfold rz; rw [HDL.out, hfull]; simp
        rw [HRZ2.out] at H3 HOV2
        have HLN : Hid (hs'.length = 64) := by show _ = _; rw [HDL.out]; exact hfull
        have HBE : Hid (∀ X, Calls Try.prog 46 #[.agg (wds s.words), .agg (u8s hs')] X fun r w' => r = .returned (.agg (wds S'.words)) ∧ X.grownBy w' none) := fun X => by
          rw [hS']
          exact behind_c s hs' HLN.out HBQ.out X
        rw [← hS'] at HQ2
        generalize hW3 : World.setCell w2 _ _ = w3 at H3 HG3 HSG2
        have HW3 : Hid (World.setCell w2 ⟨g, o + 72, none⟩ (.int .i64 ((N1 : Int) + (m : Int))) = w3) := hW3
        clear hS' hs hW3 hsl hdl hze
        go_wp2_with fail
        rw [HW3.out]
        refine (HOV2.out _ H3.out).mono ?_
        rintro r w4 ⟨rfl, rfl⟩
        clear kc kf i1 i2 i3 hb1 hb0 hN1b hm1 hbg hLk hCk hLp hm2 hm0 hn hlc hcm hk hlt hLC hfull hu64
        go_wp2
        rw [← HO.out]
        refine tk_start (T := T) (pre := pre) (g := g) (s := s) (S' := S') (hs := hs') (n := (N1 : Int) + (m : Int)) (w0 := wr) (by kernel_rfl) (by kernel_rfl) H3.out (gb_drewN HG3.out 1) ?hs ?hf
        case hs =>
          rintro P a wx i oo hpl ⟨v30, v31, v32, v33, v34, v35, v36, v37, v38, v39, v40, v41, rfl, h0, h1, h2, h3, h4, h5, h6, h7, h8, h9, h10, h11, e912, e49, e89, hS, hG⟩ hoo hpi hcd K' hK
          obtain ⟨p0, p1, p2, p3, p4, p5, p6, p7, p8, p9, p10, p11, p12, rfl⟩ : ∃ p0 p1 p2 p3 p4 p5 p6 p7 p8 p9 p10 p11 p12, P = [p0, p1, p2, p3, p4, p5, p6, p7, p8, p9, p10, p11, p12] := by
            match P, hpl with
            | [p0, p1, p2, p3, p4, p5, p6, p7, p8, p9, p10, p11, p12], _ => exact ⟨p0, p1, p2, p3, p4, p5, p6, p7, p8, p9, p10, p11, p12, rfl⟩
          simp only [List.getD_cons_zero, List.getD_cons_succ] at h0 h1 h2 h3 h4 h5 h6 h7 h8 h9 h10 h11 e912 e49 e89 hS hpi
          match i, hoo with
          | 0, hoo =>
            cases hoo
            exact step_pure rfl (.pointer (some ⟨g, pre.length, none⟩)) (by first | rfl | kernel_rfl) (hK _ _ ⟨(.pointer (some ⟨g, pre.length, none⟩)), v31, v32, v33, v34, v35, v36, v37, v38, v39, v40, v41, rfl, fun _ => rfl, h1, h2, h3, h4, h5, h6, h7, h8, h9, h10, h11, e912, e49, e89, hS, hG⟩)
          | 1, hoo =>
            cases hoo
            exact step_pure rfl (.pointer (some ⟨g, pre.length, none⟩)) (by first | rfl | kernel_rfl) (hK _ _ ⟨v30, (.pointer (some ⟨g, pre.length, none⟩)), v32, v33, v34, v35, v36, v37, v38, v39, v40, v41, rfl, h0, fun _ => rfl, h2, h3, h4, h5, h6, h7, h8, h9, h10, h11, e912, e49, e89, hS, hG⟩)
          | 2, hoo =>
            cases hoo
            obtain rfl := h1 (show p1 = true from hcd)
            exact step_pure rfl (.pointer (some ⟨g, pre.length, none⟩)) (by first | rfl | kernel_rfl) (hK _ _ ⟨v30, (.pointer (some ⟨g, pre.length, none⟩)), (.pointer (some ⟨g, pre.length, none⟩)), v33, v34, v35, v36, v37, v38, v39, v40, v41, rfl, h0, fun _ => rfl, fun _ => rfl, h3, h4, h5, h6, h7, h8, h9, h10, h11, e912, e49, e89, hS, hG⟩)
          | 3, hoo =>
            cases hoo
            obtain rfl := h2 (show p2 = true from hcd)
            exact step_pure rfl (.pointer (some ⟨g, pre.length, none⟩)) (by first | rfl | kernel_rfl) (hK _ _ ⟨v30, v31, (.pointer (some ⟨g, pre.length, none⟩)), (.pointer (some ⟨g, pre.length, none⟩)), v34, v35, v36, v37, v38, v39, v40, v41, rfl, h0, h1, fun _ => rfl, fun _ => rfl, h4, h5, h6, h7, h8, h9, h10, h11, e912, e49, e89, hS, hG⟩)
          | 4, hoo =>
            cases hoo
            obtain rfl := h3 (show p3 = true from hcd)
            have q9 : p9 = false := e49 (by simpa using hpi)
            have q12 : p12 = false := e912 q9
            have hS2 : Sta T pre wx g s hs' ((N1 : Int) + (m : Int)) := by rw [q12] at hS; exact hS
            refine step_load_mid rfl 64 (.tmp 33) rfl Try.underlying64 rfl g pre.length (wds s.words) info8 rfl hS2.words8 (hK _ _ ⟨v30, v31, v32, (.pointer (some ⟨g, pre.length, none⟩)), (.agg (wds s.words)), v35, v36, v37, v38, v39, v40, v41, rfl, h0, h1, h2, fun _ => rfl, fun _ => rfl, h5, h6, h7, h8, h9, h10, h11, e912, (fun h => by cases h), e89, hS, hG⟩)
          | 5, hoo =>
            cases hoo
            exact step_pure rfl (.pointer (some ⟨g, pre.length, none⟩)) (by first | rfl | kernel_rfl) (hK _ _ ⟨v30, v31, v32, v33, v34, (.pointer (some ⟨g, pre.length, none⟩)), v36, v37, v38, v39, v40, v41, rfl, h0, h1, h2, h3, h4, fun _ => rfl, h6, h7, h8, h9, h10, h11, e912, e49, e89, hS, hG⟩)
          | 6, hoo =>
            cases hoo
            obtain rfl := h5 (show p5 = true from hcd)
            exact step_pure rfl (.pointer (some ⟨g, pre.length, none⟩)) (by first | rfl | kernel_rfl) (hK _ _ ⟨v30, v31, v32, v33, v34, (.pointer (some ⟨g, pre.length, none⟩)), (.pointer (some ⟨g, pre.length, none⟩)), v37, v38, v39, v40, v41, rfl, h0, h1, h2, h3, h4, fun _ => rfl, fun _ => rfl, h7, h8, h9, h10, h11, e912, e49, e89, hS, hG⟩)
          | 7, hoo =>
            cases hoo
            obtain rfl := h6 (show p6 = true from hcd)
            exact step_pure rfl (.pointer (some ⟨g, pre.length + 8, none⟩)) (by first | rfl | kernel_rfl) (hK _ _ ⟨v30, v31, v32, v33, v34, v35, (.pointer (some ⟨g, pre.length, none⟩)), (.pointer (some ⟨g, pre.length + 8, none⟩)), v38, v39, v40, v41, rfl, h0, h1, h2, h3, h4, h5, fun _ => rfl, fun _ => rfl, h8, h9, h10, h11, e912, e49, e89, hS, hG⟩)
          | 8, hoo =>
            cases hoo
            obtain rfl := h7 (show p7 = true from hcd)
            refine step_load_mid rfl 65 (.tmp 37) rfl Try.underlying65 rfl g (pre.length + 8) (u8s hs') (by rw [u8s_size, HLN.out]; exact info64b) rfl hS.rest64 (hK _ _ ⟨v30, v31, v32, v33, v34, v35, v36, (.pointer (some ⟨g, pre.length + 8, none⟩)), (.agg (u8s hs')), v39, v40, v41, rfl, h0, h1, h2, h3, h4, h5, h6, fun _ => rfl, fun _ => rfl, h9, h10, h11, e912, e49, (fun h => by cases h), hS, hG⟩)
          | 9, hoo =>
            cases hoo
            obtain ⟨q4, q8⟩ : p4 = true ∧ p8 = true := by simpa [tkCond] using hcd
            have q12 : p12 = false := e912 (by simpa using hpi)
            obtain rfl := h4 q4
            obtain rfl := h8 q8
            rw [if_pos (show Region.wanted _ _ = true from rfl)]
            go_simp
            refine (HBE.out wx).mono ?_
            rintro r w1 ⟨rfl, hg⟩
            exact hK _ _ ⟨v30, v31, v32, v33, (.agg (wds s.words)), v35, v36, v37, (.agg (u8s hs')), (.agg (wds S'.words)), v40, v41, rfl, h0, h1, h2, h3, fun _ => rfl, h5, h6, h7, fun _ => rfl, fun _ => rfl, h10, h11, (fun h => by cases h), (fun h => by rw [show p4 = false from h] at q4; cases q4), (fun h => by rw [show p8 = false from h] at q8; cases q8), hS.gb hg, gb_trans hG (gb_wide hg _)⟩
          | 10, hoo =>
            cases hoo
            obtain rfl := h0 (show p0 = true from hcd)
            exact step_pure rfl (.pointer (some ⟨g, pre.length, none⟩)) (by first | rfl | kernel_rfl) (hK _ _ ⟨(.pointer (some ⟨g, pre.length, none⟩)), v31, v32, v33, v34, v35, v36, v37, v38, v39, (.pointer (some ⟨g, pre.length, none⟩)), v41, rfl, fun _ => rfl, h1, h2, h3, h4, h5, h6, h7, h8, h9, fun _ => rfl, h11, e912, e49, e89, hS, hG⟩)
          | 11, hoo =>
            cases hoo
            obtain rfl := h10 (show p10 = true from hcd)
            exact step_pure rfl (.pointer (some ⟨g, pre.length, none⟩)) (by first | rfl | kernel_rfl) (hK _ _ ⟨v30, v31, v32, v33, v34, v35, v36, v37, v38, v39, (.pointer (some ⟨g, pre.length, none⟩)), (.pointer (some ⟨g, pre.length, none⟩)), rfl, h0, h1, h2, h3, h4, h5, h6, h7, h8, h9, fun _ => rfl, fun _ => rfl, e912, e49, e89, hS, hG⟩)
          | 12, hoo =>
            cases hoo
            obtain ⟨q11, q9⟩ : p11 = true ∧ p9 = true := by simpa [tkCond] using hcd
            have q12 : p12 = false := by simpa using hpi
            have hS2 : Sta T pre wx g s hs' ((N1 : Int) + (m : Int)) := by rw [q12] at hS; exact hS
            obtain rfl := h11 q11
            obtain rfl := h9 q9
            obtain ⟨w1, hst, hS1, hg1⟩ := hS2.putWords S'
            refine step_store_eq rfl 64 (.tmp 41) (.tmp 39) rfl ⟨g, pre.length, none⟩ (.agg (wds S'.words)) rfl rfl w1 hst (hK _ _ ⟨v30, v31, v32, v33, v34, v35, v36, v37, v38, (.agg (wds S'.words)), v40, (.pointer (some ⟨g, pre.length, none⟩)), rfl, h0, h1, h2, h3, h4, h5, h6, h7, h8, fun _ => rfl, h10, fun _ => rfl, (fun h => by rw [show p9 = false from h] at q9; cases q9), e49, e89, hS1, gb_trans hG hg1⟩)
          | i + 13, hoo => simp at hoo
        case hf =>
          rintro a w6 ⟨v30, v31, v32, v33, v34, v35, v36, v37, v38, v39, v40, v41, rfl, h0, h1, h2, h3, h4, h5, h6, h7, h8, h9, h10, h11, _, _, _, hS, hG⟩
          have H6 : Hid (Sta T pre w6 g S' hs' ((N1 : Int) + (m : Int)) ∧ wr.grownBy w6 (some g)) := ⟨hS, hG⟩
          clear hS hG h0 h1 h2 h3 h4 h5 h6 h7 h8 h9 h10 h11
          unfold tkAct
          rw [HO.out]
          obtain ⟨w7, hst7, hS7, hg7⟩ := H6.out.1.setRest
          rw [HO.out] at hst7
          have H7 : Hid (Sta T pre w7 g S' (rz []) ((N1 : Int) + (m : Int)) ∧ wr.grownBy w7 (some g)) := ⟨hS7, gb_trans H6.out.2 hg7⟩
          have HST7 : Hid (Sem.run Try.prog (storeVar 65 ⟨g, o + 8, none⟩ (.agg (u8s bz64))) w6 = .ok () w7) := hst7
          clear hS7 hg7 hst7
          go_wp2_with (first
            | (refine wpList_build_run rfl 65 _ rfl (.agg (u8s bz64)) (by kernel_rfl) ?_)
            | (refine wpList_store_eq rfl 65 (.tmp 45) (.tmp 43) rfl ⟨g, o + 8, none⟩ (.agg (u8s bz64)) rfl rfl w7 HST7.out ?_))
          obtain ⟨z1, z2, z3, z4, z5, z6, z7⟩ := HEND.out
          have HR1e : Hid (Seg .u8 w7 A (len - (k + m)) (xs.drop (k + m)) ∧ Far g A (len - (k + m))) := by
            have := HA.out w7 (seg_far hsf.out.1 H7.out.2 HBG.out z7)
            rw [z4, HDR.out] at this
            exact this
          have HR2e : Hid (Hs T pre w7 g (shz p (xs.take (k + m))) (n + (k + m)) ∧ w.grownBy w7 (some g)) :=
            ⟨⟨by rw [HQ2.out, ← z3]; exact H7.out.1, by rw [HQ2.out]; exact z2⟩, gb_trans HGR.out H7.out.2⟩
          rw [z4, z5]
          go_roundw
          case rel => (repeat apply Exists.intro); exact ⟨⟨k + m, z1, ⟨A, rfl, HR1e⟩, HR2e⟩, rfl⟩
          case measure => show len - (k + m) < L; omega
      · have hne : ¬ (((N1 + m) % 64 : Nat) : Int) = 0 := by have := HU.out.2; have := HN1.out; omega
        have HQ2 : Hid (shz p (xs.take (k + m)) = (q.1, hs')) := by
          show _ = _
          rw [HTK.out, HHS.out]
          exact shz_short q.1 _ q.2 (by rw [hdl, ← HU.out.1]; omega)
        have HEND : Hid (k + m ≤ len ∧ hs'.length = (n + (k + m)) % 64 ∧ (N1 : Int) + (m : Int) = ((n + (k + m) : Nat) : Int) ∧ L - m = len - (k + m) ∧ C - m = cap - (k + m) ∧ 0 < m ∧ m ≤ L) := by
          have e1 := HU.out.2
          have e2 := HN1.out
          have e3 := HLC.out
          have e4 := HDL.out
          refine ⟨by omega, by omega, by omega, by omega, by omega, hm0, hm1⟩
        obtain ⟨V, hV⟩ : ∃ V, V = (((N1 + m) % 64 : Nat) : Int) := ⟨_, rfl⟩
        rw [← hV] at HOV2 hne
        clear hV hdl
        go_wp2_with fail
        refine (HOV2.out _ H3.out).mono ?_
        rintro r w4 ⟨rfl, rfl⟩
        generalize hW3 : World.setCell w2 _ _ = w3 at H3 HG3 HSG2 ⊢
        clear hW3 kc kf i1 i2 i3 hb1 hb0 hN1b hm1 hfull hbg hLk hCk hLp hm2 hm0 hsl hn hlc hcm hk hlt hLC hif
        go_wp2
        obtain ⟨z1, z2, z3, z4, z5, z6, z7⟩ := HEND.out
        refine ⟨⟨k + m, z1, ⟨A, by rw [z4, z5], ?_⟩, ?_⟩, ?_⟩
        · have := HA.out w3 HSG2.out
          rw [z4, HDR.out] at this
          exact this
        · refine ⟨⟨?_, ?_⟩, gb_trans HGR.out HG3.out⟩
          · rw [HQ2.out, ← z3]; exact H3.out
          · rw [HQ2.out]; exact z2
        · show L - m < L; omega
    · obtain rfl : k = len := by omega
      have HE : Hid (xs.take k = xs) := List.take_of_length_le (by rw [HXL.out]; exact Nat.le_refl _)
      rw [HE.out] at hr
      have hz0 : k - k = 0 := by omega
      rw [hz0]
      go_wp2
      refine bodyPost_end (results_none rfl _ _ _) rfl ?_
      exact ⟨rfl, hr.out.1, hr.out.2⟩
end Go.Proofs.Ytlfppknpnfeplaa
