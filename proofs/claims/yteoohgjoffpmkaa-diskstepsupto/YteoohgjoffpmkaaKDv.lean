/-
  What disk's Rename does. Condition: the numbers are below 2^60.
-/
import Derived.Test.YteoohgjoffpmkaaKDr
namespace Go.Proofs.Yteoohgjoffpmkaa
open Go.RowKit
set_option linter.unusedVariables false

theorem txs_two (w : World) (n m : ByteArray) : Txs (w.alloc (.cells #[.string n, .string m] 9)) w.heap.size [n, m] := fun i s hs => by
  match i, hs with
  | 0, hs => cases hs; exact Bk.cell (blk_new w 9 #[.string n, .string m]).1 0
  | 1, hs => cases hs; exact Bk.cell (blk_new w 9 #[.string n, .string m]).1 1
  | i + 2, hs => simp at hs
/-- How many bytes more a Rename takes. -/
def rnN (D : Dk) (s t : ByteArray) : Int := (t.size : Int) - s.size - (if s = t then 0 else match D.seen t with
  | none => 0
  | some ys => (t.size : Int) + ys.length)
/-- What Rename answers, and the disk behind it. -/
def rnR (D : Dk) (s t : ByteArray) : Int × Dk :=
  if rdE D [s, t] ≠ 0 then (rdE D [s, t], D) else if D.seen s = none then (121, D) else if bgE D (rnN D s t) ≠ 0 then (bgE D (rnN D s t), bgD D (rnN D s t)) else (0, doD (bgD D (rnN D s t)) ⟨4, s, t, [], 0⟩ ((D.free : Int) - rnN D s t).toNat)
theorem rd_one {D : Dk} {s t : ByteArray} (h : rdE D [s, t] = 0) : rdE D [s] = 0 ∧ s.size ≤ 60 ∧ t.size ≤ 60 := by
  unfold rdE at h ⊢
  split at h
  · cases h
  · rename_i hd
    rw [if_neg hd]
    split at h
    · rename_i ha
      simp only [List.all_cons, List.all_nil, Bool.and_true, Bool.and_eq_true] at ha
      have h1 := ha.1
      have h2 := ha.2
      unfold nmB at h1 h2
      simp only [Bool.and_eq_true, decide_eq_true_eq] at h1 h2
      refine ⟨?_, h1.1.2, h2.1.2⟩
      simp [ha.1]
    · cases h
theorem rd_nm2 {D : Dk} {s t : ByteArray} (h : rdE D [s, t] = 0) : nmB t = true := by
  unfold rdE at h
  split at h
  · cases h
  · split at h
    · rename_i ha
      simp only [List.all_cons, List.all_nil, Bool.and_true, Bool.and_eq_true] at ha
      exact ha.2
    · cases h
theorem Dok.rename {D} (h : Dok D) (s t : ByteArray) (xs : List Int) (hs : D.seen s = some xs) (hf : rnN D s t ≤ D.free) : sok D.seen ⟨4, s, t, [], 0⟩ ∧ (∃ m, Tot (sdo D.seen ⟨4, s, t, [], 0⟩ (scnt ⟨4, s, t, [], 0⟩)) m ∧ ((D.free : Int) - rnN D s t).toNat + m = D.room) ∧ ((D.free : Int) - rnN D s t).toNat ≤ 67108864 := by
  obtain ⟨m, h1, h2⟩ := h.tot
  have hrm := h.room
  have hle := h1.le s xs hs
  have e : sdo D.seen ⟨4, s, t, [], 0⟩ (scnt ⟨4, s, t, [], 0⟩) = fset (fset D.seen s none) t (some xs) := by simp [sdo, hs]
  obtain ⟨a1, a2⟩ := h1.del s xs hs
  have key : ∃ m, Tot (fset (fset D.seen s none) t (some xs)) m ∧ ((D.free : Int) - rnN D s t).toNat + m = D.room := by
    by_cases hst : s = t
    · subst hst
      refine ⟨m, ?_, ?_⟩
      · rw [fset_fset, ← hs, fset_id]; exact h1
      · have e2 : rnN D s s = 0 := by simp [rnN]
        rw [e2] at hf ⊢
        omega
    · cases ht : D.seen t with
      | none =>
        have e2 : rnN D s t = (t.size : Int) - s.size := by simp [rnN, hst, ht]
        have z := a2.add t xs (by rw [fset_other _ _ _ _ (fun e => hst e.symm)]; exact ht)
        refine ⟨_, z, ?_⟩
        rw [e2] at hf ⊢
        omega
      | some ys =>
        have e2 : rnN D s t = (t.size : Int) - s.size - (t.size + ys.length) := by simp [rnN, hst, ht]
        have ht2 : (fset D.seen s none) t = some ys := by rw [fset_other _ _ _ _ (fun e => hst e.symm)]; exact ht
        have z := a2.set t ys xs ht2
        have hly := a2.le t ys ht2
        refine ⟨_, z, ?_⟩
        rw [e2] at hf ⊢
        omega
  refine ⟨⟨by simp, by simp, by simp, by simp, by simp, fun _ => by rw [hs]; simp, by simp⟩, by rw [e]; exact key, ?_⟩
  obtain ⟨m2, _, q⟩ := key
  omega
set_option maxRecDepth 20000 in
set_option maxHeartbeats 4000000 in
theorem renameA_c {G : Nat → Prop} (n t : ByteArray) (w : World) (g : Nat) (D : Dk) (h : DkM G w g D) (hd : Dok D) (hm : Dsm D) (hl : n.size ≤ 140737488355328) (hl2 : t.size ≤ 140737488355328) :
    Calls Try.prog 62 #[.pointer (some ⟨g, 0, none⟩), .string n, .string t] w (ActA G w g (rnR D n t)) := by
  obtain ⟨s, l, st, V, U, vs, Os, Ol, Od, h, hG⟩ := h
  obtain ⟨W1, hW1⟩ : ∃ W1, W1 = w.alloc (.cells #[.string n, .string t] 9) := ⟨_, rfl⟩
  have b1 : Below w.heap.size w W1 := by rw [hW1]; exact (Below.refl _ _).alloc (Nat.le_refl _) _
  have z1 : W1.heap.size = w.heap.size + 1 := by rw [hW1]; exact World.size_alloc _ _
  have h1 := h.below b1
  have HR : Hid (Calls Try.prog 54 #[.pointer (some ⟨g, 0, none⟩), .slice (some ⟨w.heap.size, 0, none⟩) 2 2] W1 fun r w' => r = .returned (.int .i64 (rdE D [n, t])) ∧ Below W1.heap.size W1 w') :=
    readyA_c g w.heap.size 2 2 _ _ s l st _ _ _ _ [n, t] W1 h1.bk (by rw [hW1]; exact txs_two w n t) rfl (by omega) (by omega) (by intro q hq; simp at hq; rcases hq with rfl | rfl; exact hl; exact hl2)
  have HB : Hid (∀ w2, Below W1.heap.size W1 w2 → Gr G w w2 ∧ DkI w2 g s l st V U vs Os Ol Od D) := fun w2 hb => ⟨Gr.ofB (b1.trans ⟨hb.os, hb.tape, hb.output, hb.size, fun j hj => hb.block j (by omega)⟩), h1.below hb⟩
  have HFN : Hid (∀ x1, DkI x1 g s l st V U vs Os Ol Od D → Calls Try.prog 65 #[.pointer (some ⟨g, 0, none⟩), .string n] x1 (FindA x1 V D n)) := fun x1 k => findA_c n x1 k hl
  have HG : Hid (∀ k, (k = g ∨ Os k ∨ Ol k ∨ Od k ∨ st.ownBlock = some k) → G k) := hG
  have HD : Hid (Dok D ∧ Dsm D) := ⟨hd, hm⟩
  clear h h1 b1 z1 hl hl2 hG hd hm
  rw [hW1] at HR
  by_cases he : rdE D [n, t] = 0
  · obtain ⟨r1, r2, r3⟩ := rd_one he
    rw [he] at HR
    cases hs : D.seen n with
    | none =>
      have HE : Hid (rdE D [n] = 0 ∧ D.seen n = none) := ⟨r1, hs⟩
      have e9 : rnR D n t = (121, D) := by simp [rnR, he, hs]
      rw [e9]
      clear he hs e9 r1 r2 r3
      go_enter Try.func62, Try.ntmps62
      go_wp2_with (first
        | ((fail_if_success (have z := H1)); go_at_call 54; go_must (refine (Calls.mono HR.out ?_)); rintro r x1 ⟨rfl, k1⟩; rw [← hW1] at k1; have H1 : Hid (Gr G w x1 ∧ DkI x1 g s l st V U vs Os Ol Od D) := HB.out x1 k1; clear k1 hW1)
        | (go_at_call 65; go_must (refine (Calls.mono (HFN.out _ H1.out.2) ?_)); rintro r x2 hx; have H2 : Hid (Gr G w x2 ∧ DkI x2 g s l st V U vs Os Ol Od D) := ⟨H1.out.1.trans (Gr.ofB hx.1), H1.out.2.below hx.1⟩; have hrr := find_not H1.out.2 hx HE.out.1 HE.out.2; subst hrr; clear hx))
      go_ret
      exact act_same H2.out.2 HG.out H2.out.1 HD.out.1 121
    | some xs =>
      have HE : Hid (rdE D [n] = 0 ∧ D.seen n = some xs) := ⟨r1, hs⟩
      obtain ⟨nd, hnd⟩ : ∃ nd, nd = rnN D n t := ⟨_, rfl⟩
      have HDO : Hid (bgE D nd = 0 → ∀ x2, Gr G w x2 → DkI x2 g s l st V U vs Os Ol Od (bgD D nd) → Calls Try.prog 75 #[.pointer (some ⟨g, 0, none⟩), .iface 127 (.agg #[.string n, .string t]), .int .i64 nd] x2 fun r x3 => r = .returned (.tuple #[]) ∧ ActA G w g (rnR D n t) (.returned (.int .i64 0)) x3) := by
        show _ → ∀ x2, _
        intro hb x2 q1 q2
        obtain ⟨d1, d2⟩ := HD.out
        have hbo := bg_ok hb
        have e9 : rnR D n t = (0, doD (bgD D nd) ⟨4, n, t, [], 0⟩ ((D.free : Int) - nd).toNat) := by rw [rnR, if_neg (by simp [he]), if_neg (by simp [hs]), ← hnd, if_neg (by simp [hb])]
        rw [e9]
        obtain ⟨zp, zq, zr⟩ := d1.rename n t xs hs (by rw [← hnd]; exact hbo)
        rw [← hnd] at zq zr
        obtain ⟨e1, e2, e3, e4, e5⟩ := bgD_seen D nd
        obtain ⟨mm, ht, hm2⟩ := d1.tot
        have hrm := d1.room
        obtain ⟨_, _, s3, s4⟩ := d2
        refine Calls.mono (doD_c _ ⟨4, n, t, [], 0⟩ nd ((D.free : Int) - nd).toNat x2 q2 (.inr (.inr (.inr (.inl ⟨rfl, rfl⟩)))) (by rw [e1]; exact zp) (by rw [e1]; exact d1.bnd) (by rw [e4]; omega) (by rw [e4]; omega) zr ⟨by omega, by omega⟩ (by rw [e3]; show _ + 1 ≤ _; omega) (by rw [e3]; omega)) ?_
        intro r x3 k1
        exact ⟨k1.1, act_do k1 HG.out (fun k hk => .inl hk) q1 ((d1.bg nd).doD _ _ (by rw [e1]; exact zp) (by rw [e1, e5]; exact zq) ⟨by simp, fun _ => rd_nm2 he⟩)⟩
      have HNO : Hid (bgE D nd ≠ 0 → rnR D n t = (bgE D nd, bgD D nd)) := by
        show _ → _
        intro hb
        rw [rnR, if_neg (by simp [he]), if_neg (by simp [hs]), ← hnd, if_pos hb]
      have hwa : wrap64 ((t.size : Int) - (n.size : Int)) = (t.size : Int) - n.size := IntWalk.wrap64_in _ ⟨by omega, by omega⟩
      have hwb : IntKind.i64.wrap ((t.size : Int) - (n.size : Int)) = (t.size : Int) - n.size := IntWalk.i64_in _ ⟨by omega, by omega⟩
      by_cases hst : n = t
      · subst hst
        have e0 : nd = 0 := by rw [hnd]; simp [rnN]
        have hne : (n == n) = true := (MapKept.bytes_beq n n).2 rfl
        clear hnd he hs r1 r2 r3 hwa hwb
        subst e0
        by_cases hb : bgE D 0 = 0
        · have HEb : Hid (bgE D 0 = 0) := hb
          have HDO2 : Hid _ := HDO.out hb
          clear hb HDO HNO
          go_enter Try.func62, Try.ntmps62
          go_wp2_with (first
            | ((fail_if_success (have z := H1)); go_at_call 54; go_must (refine (Calls.mono HR.out ?_)); rintro r x1 ⟨rfl, k1⟩; rw [← hW1] at k1; have H1 : Hid (Gr G w x1 ∧ DkI x1 g s l st V U vs Os Ol Od D) := HB.out x1 k1; clear k1 hW1)
            | (go_at_call 65; go_must (refine (Calls.mono (HFN.out _ H1.out.2) ?_)); rintro r x2 hx; have H2 : Hid (Gr G w x2 ∧ DkI x2 g s l st V U vs Os Ol Od D) := ⟨H1.out.1.trans (Gr.ofB hx.1), H1.out.2.below hx.1⟩; obtain ⟨a2, c2, hrr⟩ := find_there H1.out.2 hx HE.out.1 HE.out.2; subst hrr; have d2 : x2.cell? ⟨g, 2, none⟩ = some (.map (some s)) := Bk.cell H2.out.2.bk 2; clear hx)
            | (go_at_call 55; go_must (refine (Calls.mono (beginA_c _ _ H2.out.2 HD.out.2.1 HD.out.2.2.1) ?_)); rintro r x3 ⟨rfl, k1, k2, k3⟩; rw [HEb.out]; have H3 : Hid (Gr G w x3 ∧ DkI x3 g s l st V U vs Os Ol Od (bgD D 0)) := ⟨H2.out.1.trans (k2.wide (fun k _ e => HG.out k (.inl e))), k1⟩; clear k1 k2 k3)
            | (go_at_call 75; go_must (refine (Calls.mono (HDO2.out _ H3.out.1 H3.out.2) ?_)); rintro r x4 ⟨rfl, k1⟩; have H4 : Hid (ActA G w g (rnR D n n) (.returned (.int .i64 0)) x4) := k1; clear k1))
          go_ret
          exact H4.out
        · rw [HNO.out hb]
          obtain ⟨E, hE⟩ : ∃ E, E = bgE D 0 := ⟨_, rfl⟩
          have hEb : (E == 0) = false := by rw [hE]; simpa using hb
          have HEb : Hid (bgE D 0 = E) := hE.symm
          rw [← hE]
          clear hE hb HDO HNO
          go_enter Try.func62, Try.ntmps62
          go_wp2_with (first
            | ((fail_if_success (have z := H1)); go_at_call 54; go_must (refine (Calls.mono HR.out ?_)); rintro r x1 ⟨rfl, k1⟩; rw [← hW1] at k1; have H1 : Hid (Gr G w x1 ∧ DkI x1 g s l st V U vs Os Ol Od D) := HB.out x1 k1; clear k1 hW1)
            | (go_at_call 65; go_must (refine (Calls.mono (HFN.out _ H1.out.2) ?_)); rintro r x2 hx; have H2 : Hid (Gr G w x2 ∧ DkI x2 g s l st V U vs Os Ol Od D) := ⟨H1.out.1.trans (Gr.ofB hx.1), H1.out.2.below hx.1⟩; obtain ⟨a2, c2, hrr⟩ := find_there H1.out.2 hx HE.out.1 HE.out.2; subst hrr; have d2 : x2.cell? ⟨g, 2, none⟩ = some (.map (some s)) := Bk.cell H2.out.2.bk 2; clear hx)
            | (go_at_call 55; go_must (refine (Calls.mono (beginA_c _ _ H2.out.2 HD.out.2.1 HD.out.2.2.1) ?_)); rintro r x3 ⟨rfl, k1, k2, k3⟩; rw [HEb.out]; have H3 : Hid (Gr G w x3 ∧ DkI x3 g s l st V U vs Os Ol Od (bgD D 0)) := ⟨H2.out.1.trans (k2.wide (fun k _ e => HG.out k (.inl e))), k1⟩; clear k1 k2 k3))
          go_ret
          exact act_same H3.out.2 HG.out H3.out.1 (HD.out.1.bg _) E
      · have hne : (n == t) = false := by
          cases q : (n == t) with
          | false => rfl
          | true => exact absurd ((MapKept.bytes_beq n t).1 q) hst
        have hne2 : ¬ n.toList = t.toList := fun q => hst (by rw [ByteArray.toList_eq, ByteArray.toList_eq] at q; exact ByteArray.ext (Array.toList_inj.mp q))
        have hne3 : (n.toList == t.toList) = false := by simpa using hne2
        cases ht : D.seen t with
        | none =>
          have e0 : nd = (t.size : Int) - n.size := by rw [hnd]; simp [rnN, hst, ht]
          have HT : Hid (D.seen t = none) := ht
          replace hwa := hwa.trans e0.symm
          replace hwb := hwb.trans e0.symm
          clear hnd he hs r1 r2 r3 e0 ht hst
          by_cases hb : bgE D nd = 0
          · have HEb : Hid (bgE D nd = 0) := hb
            have HDO2 : Hid _ := HDO.out hb
            clear hb HDO HNO
            go_enter Try.func62, Try.ntmps62
            go_wp2_with (first
              | ((fail_if_success (have z := H1)); go_at_call 54; go_must (refine (Calls.mono HR.out ?_)); rintro r x1 ⟨rfl, k1⟩; rw [← hW1] at k1; have H1 : Hid (Gr G w x1 ∧ DkI x1 g s l st V U vs Os Ol Od D) := HB.out x1 k1; clear k1 hW1)
              | (go_at_call 65; go_must (refine (Calls.mono (HFN.out _ H1.out.2) ?_)); rintro r x2 hx; have H2 : Hid (Gr G w x2 ∧ DkI x2 g s l st V U vs Os Ol Od D) := ⟨H1.out.1.trans (Gr.ofB hx.1), H1.out.2.below hx.1⟩; obtain ⟨a2, c2, hrr⟩ := find_there H1.out.2 hx HE.out.1 HE.out.2; subst hrr; have d2 : x2.cell? ⟨g, 2, none⟩ = some (.map (some s)) := Bk.cell H2.out.2.bk 2; clear hx)
              | (go_at_call 37; go_must (refine (Calls.mono (haveA_c s V D.seen t _ H2.out.2.seen) ?_)); rintro r wq ⟨rfl, hq⟩; obtain rfl := hq.symm; clear hq; rw [HT.out])
              | (go_at_call 55; go_must (refine (Calls.mono (beginA_c _ _ H2.out.2 HD.out.2.1 HD.out.2.2.1) ?_)); rintro r x3 ⟨rfl, k1, k2, k3⟩; rw [HEb.out]; have H3 : Hid (Gr G w x3 ∧ DkI x3 g s l st V U vs Os Ol Od (bgD D nd)) := ⟨H2.out.1.trans (k2.wide (fun k _ e => HG.out k (.inl e))), k1⟩; clear k1 k2 k3)
              | (go_at_call 75; go_must (refine (Calls.mono (HDO2.out _ H3.out.1 H3.out.2) ?_)); rintro r x4 ⟨rfl, k1⟩; have H4 : Hid (ActA G w g (rnR D n t) (.returned (.int .i64 0)) x4) := k1; clear k1))
            go_ret
            exact H4.out
          · rw [HNO.out hb]
            obtain ⟨E, hE⟩ : ∃ E, E = bgE D nd := ⟨_, rfl⟩
            have hEb : (E == 0) = false := by rw [hE]; simpa using hb
            have HEb : Hid (bgE D nd = E) := hE.symm
            rw [← hE]
            clear hE hb HDO HNO
            go_enter Try.func62, Try.ntmps62
            go_wp2_with (first
              | ((fail_if_success (have z := H1)); go_at_call 54; go_must (refine (Calls.mono HR.out ?_)); rintro r x1 ⟨rfl, k1⟩; rw [← hW1] at k1; have H1 : Hid (Gr G w x1 ∧ DkI x1 g s l st V U vs Os Ol Od D) := HB.out x1 k1; clear k1 hW1)
              | (go_at_call 65; go_must (refine (Calls.mono (HFN.out _ H1.out.2) ?_)); rintro r x2 hx; have H2 : Hid (Gr G w x2 ∧ DkI x2 g s l st V U vs Os Ol Od D) := ⟨H1.out.1.trans (Gr.ofB hx.1), H1.out.2.below hx.1⟩; obtain ⟨a2, c2, hrr⟩ := find_there H1.out.2 hx HE.out.1 HE.out.2; subst hrr; have d2 : x2.cell? ⟨g, 2, none⟩ = some (.map (some s)) := Bk.cell H2.out.2.bk 2; clear hx)
              | (go_at_call 37; go_must (refine (Calls.mono (haveA_c s V D.seen t _ H2.out.2.seen) ?_)); rintro r wq ⟨rfl, hq⟩; obtain rfl := hq.symm; clear hq; rw [HT.out])
              | (go_at_call 55; go_must (refine (Calls.mono (beginA_c _ _ H2.out.2 HD.out.2.1 HD.out.2.2.1) ?_)); rintro r x3 ⟨rfl, k1, k2, k3⟩; rw [HEb.out]; have H3 : Hid (Gr G w x3 ∧ DkI x3 g s l st V U vs Os Ol Od (bgD D nd)) := ⟨H2.out.1.trans (k2.wide (fun k _ e => HG.out k (.inl e))), k1⟩; clear k1 k2 k3))
            go_ret
            exact act_same H3.out.2 HG.out H3.out.1 (HD.out.1.bg _) E
        | some ys =>
          have e0 : nd = (t.size : Int) - n.size - (t.size + ys.length) := by rw [hnd]; simp [rnN, hst, ht]
          have hyl : ys.length ≤ 67108864 := (HD.out.1.bnd t ys ht).1
          obtain ⟨m, hm1⟩ : ∃ m, m = ys.length := ⟨_, rfl⟩
          have HT : Hid (D.seen t = some ys ∧ m = ys.length) := ⟨ht, hm1⟩
          rw [← hm1] at e0 hyl
          have HTK : Hid (∀ a c W, Calls Try.prog 38 #[.string t, .slice a m c] W fun r w' => r = .returned (.int .i64 ((t.size : Int) + m)) ∧ w' = W) := fun a c W => takenA_c t a m c W (by omega) (by omega)
          obtain ⟨d0, hd0⟩ : ∃ d0, d0 = (t.size : Int) - n.size := ⟨_, rfl⟩
          replace hwa := hwa.trans hd0.symm
          replace hwb := hwb.trans hd0.symm
          have hwc : wrap64 (d0 - ((t.size : Int) + (m : Int))) = nd := by rw [e0, hd0]; exact IntWalk.wrap64_in _ ⟨by omega, by omega⟩
          have hwd : IntKind.i64.wrap (d0 - ((t.size : Int) + (m : Int))) = nd := by rw [e0, hd0]; exact IntWalk.i64_in _ ⟨by omega, by omega⟩
          clear hnd he hs r1 r2 r3 e0 ht hst hyl hm1 hd0
          by_cases hb : bgE D nd = 0
          · have HEb : Hid (bgE D nd = 0) := hb
            have HDO2 : Hid _ := HDO.out hb
            clear hb HDO HNO
            go_enter Try.func62, Try.ntmps62
            go_wp2_with (first
              | ((fail_if_success (have z := H1)); go_at_call 54; go_must (refine (Calls.mono HR.out ?_)); rintro r x1 ⟨rfl, k1⟩; rw [← hW1] at k1; have H1 : Hid (Gr G w x1 ∧ DkI x1 g s l st V U vs Os Ol Od D) := HB.out x1 k1; clear k1 hW1)
              | (go_at_call 65; go_must (refine (Calls.mono (HFN.out _ H1.out.2) ?_)); rintro r x2 hx; have H2 : Hid (Gr G w x2 ∧ DkI x2 g s l st V U vs Os Ol Od D) := ⟨H1.out.1.trans (Gr.ofB hx.1), H1.out.2.below hx.1⟩; obtain ⟨a2, c2, hrr⟩ := find_there H1.out.2 hx HE.out.1 HE.out.2; subst hrr; have d2 : x2.cell? ⟨g, 2, none⟩ = some (.map (some s)) := Bk.cell H2.out.2.bk 2; obtain ⟨vt, hvt, hvo, _⟩ := H2.out.2.seen.value HT.out.1; obtain ⟨at2, ct2, hve, _⟩ := hvo.seg; rw [← HT.out.2] at hve; have hlk := mps_look Try.underlying76 Try.underlying9 H2.out.2.seen.mp (.slice none 0 0) (hz_u8s x2) t false; rw [hvt, hve] at hlk; simp only [Bool.false_eq_true, if_false, Option.getD_some] at hlk; clear hvt hvo hve; clear hx)
              | (go_at_call 37; go_must (refine (Calls.mono (haveA_c s V D.seen t _ H2.out.2.seen) ?_)); rintro r wq ⟨rfl, hq⟩; obtain rfl := hq.symm; clear hq; rw [HT.out.1])
              | (go_at_call 38; go_must (refine (Calls.mono (HTK.out _ _ _) ?_)); rintro r wq ⟨rfl, hq⟩; obtain rfl := hq.symm; clear hq)
              | (go_at_call 55; go_must (refine (Calls.mono (beginA_c _ _ H2.out.2 HD.out.2.1 HD.out.2.2.1) ?_)); rintro r x3 ⟨rfl, k1, k2, k3⟩; rw [HEb.out]; have H3 : Hid (Gr G w x3 ∧ DkI x3 g s l st V U vs Os Ol Od (bgD D nd)) := ⟨H2.out.1.trans (k2.wide (fun k _ e => HG.out k (.inl e))), k1⟩; clear k1 k2 k3)
              | (go_at_call 75; go_must (refine (Calls.mono (HDO2.out _ H3.out.1 H3.out.2) ?_)); rintro r x4 ⟨rfl, k1⟩; have H4 : Hid (ActA G w g (rnR D n t) (.returned (.int .i64 0)) x4) := k1; clear k1))
            go_ret
            exact H4.out
          · rw [HNO.out hb]
            obtain ⟨E, hE⟩ : ∃ E, E = bgE D nd := ⟨_, rfl⟩
            have hEb : (E == 0) = false := by rw [hE]; simpa using hb
            have HEb : Hid (bgE D nd = E) := hE.symm
            rw [← hE]
            clear hE hb HDO HNO
            go_enter Try.func62, Try.ntmps62
            go_wp2_with (first
              | ((fail_if_success (have z := H1)); go_at_call 54; go_must (refine (Calls.mono HR.out ?_)); rintro r x1 ⟨rfl, k1⟩; rw [← hW1] at k1; have H1 : Hid (Gr G w x1 ∧ DkI x1 g s l st V U vs Os Ol Od D) := HB.out x1 k1; clear k1 hW1)
              | (go_at_call 65; go_must (refine (Calls.mono (HFN.out _ H1.out.2) ?_)); rintro r x2 hx; have H2 : Hid (Gr G w x2 ∧ DkI x2 g s l st V U vs Os Ol Od D) := ⟨H1.out.1.trans (Gr.ofB hx.1), H1.out.2.below hx.1⟩; obtain ⟨a2, c2, hrr⟩ := find_there H1.out.2 hx HE.out.1 HE.out.2; subst hrr; have d2 : x2.cell? ⟨g, 2, none⟩ = some (.map (some s)) := Bk.cell H2.out.2.bk 2; obtain ⟨vt, hvt, hvo, _⟩ := H2.out.2.seen.value HT.out.1; obtain ⟨at2, ct2, hve, _⟩ := hvo.seg; rw [← HT.out.2] at hve; have hlk := mps_look Try.underlying76 Try.underlying9 H2.out.2.seen.mp (.slice none 0 0) (hz_u8s x2) t false; rw [hvt, hve] at hlk; simp only [Bool.false_eq_true, if_false, Option.getD_some] at hlk; clear hvt hvo hve; clear hx)
              | (go_at_call 37; go_must (refine (Calls.mono (haveA_c s V D.seen t _ H2.out.2.seen) ?_)); rintro r wq ⟨rfl, hq⟩; obtain rfl := hq.symm; clear hq; rw [HT.out.1])
              | (go_at_call 38; go_must (refine (Calls.mono (HTK.out _ _ _) ?_)); rintro r wq ⟨rfl, hq⟩; obtain rfl := hq.symm; clear hq)
              | (go_at_call 55; go_must (refine (Calls.mono (beginA_c _ _ H2.out.2 HD.out.2.1 HD.out.2.2.1) ?_)); rintro r x3 ⟨rfl, k1, k2, k3⟩; rw [HEb.out]; have H3 : Hid (Gr G w x3 ∧ DkI x3 g s l st V U vs Os Ol Od (bgD D nd)) := ⟨H2.out.1.trans (k2.wide (fun k _ e => HG.out k (.inl e))), k1⟩; clear k1 k2 k3))
            go_ret
            exact act_same H3.out.2 HG.out H3.out.1 (HD.out.1.bg _) E
  · have e9 : rnR D n t = (rdE D [n, t], D) := by simp [rnR, he]
    rw [e9]
    clear e9
    obtain ⟨E, hE⟩ : ∃ E, E = rdE D [n, t] := ⟨_, rfl⟩
    rw [← hE] at HR he ⊢
    have hb : (E == 0) = false := by simpa using he
    clear he hE
    go_enter Try.func62, Try.ntmps62
    go_wp2_with ((fail_if_success (have z := H1)); go_at_call 54; go_must (refine (Calls.mono HR.out ?_)); rintro r x1 ⟨rfl, k1⟩; rw [← hW1] at k1; have H1 : Hid (Gr G w x1 ∧ DkI x1 g s l st V U vs Os Ol Od D) := HB.out x1 k1; clear k1 hW1)
    go_ret
    exact act_same H1.out.2 HG.out H1.out.1 HD.out.1 E
end Go.Proofs.Yteoohgjoffpmkaa
