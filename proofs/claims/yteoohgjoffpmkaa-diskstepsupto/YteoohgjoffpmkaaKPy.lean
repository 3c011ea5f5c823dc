/-
  What the law's play does with a disk. Condition: at most 2^30 things, texts of at most 2^46 bytes.
-/
import Derived.Test.YteoohgjoffpmkaaKPp
namespace Go.Proofs.Yteoohgjoffpmkaa
open Go.RowKit
set_option linter.unusedVariables false

/-- A disk in the midst of a law: all its blocks are G's or newer than w. -/
structure PyS (G : Nat → Prop) (w : World) (g j : Nat) (D : Dk) (wr : World) : Prop where
  m : DkM (fun k => G k ∨ (w.heap.size ≤ k ∧ k < wr.heap.size)) wr g D
  gr : Gr G w wr
  ok : Dok D
  sz : Dsz j D
theorem PyS.go {G : Nat → Prop} {w wr W w' : World} {g j : Nat} {D D' : Dk} {i : Nat} (h : PyS G w g j D wr) (hb : Below wr.heap.size wr W) (h1 : DkM (fun k => (G k ∨ (w.heap.size ≤ k ∧ k < wr.heap.size)) ∨ (W.heap.size ≤ k ∧ k < w'.heap.size)) w' g D') (h2 : Gr (fun k => G k ∨ (w.heap.size ≤ k ∧ k < wr.heap.size)) W w') (h3 : Dok D') (h4 : Dsz i D') : PyS G w g i D' w' := by
  have s1 := h.gr.size
  have s2 := hb.size
  have s3 := h2.size
  refine ⟨h1.weak (fun k hk => ?_), ?_, h3, h4⟩
  · rcases hk with (hk | hk) | hk
    · exact .inl hk
    · exact .inr ⟨hk.1, by omega⟩
    · exact .inr ⟨by omega, hk.2⟩
  · refine (h.gr.trans (Gr.ofB hb)).then h2 (fun i hi z => ?_)
    rcases z with z | z
    · exact z
    · omega
theorem PyS.gone {G : Nat → Prop} {w wr W : World} {g j : Nat} {D : Dk} (h : PyS G w g j D wr) (hb : Below wr.heap.size wr W) : PyS G w g j D W := by
  refine ⟨(h.m.below hb).weak (fun k hk => hk.imp id (fun z => ⟨z.1, by have := hb.size; omega⟩)), h.gr.trans (Gr.ofB hb), h.ok, h.sz⟩
def zOpK : Array Value := #[.int .i64 0, .string .empty, .string .empty, .string .empty, .int .i64 0, .int .i64 0, .int .i64 0]
theorem zOK (w : World) : (zeroValue 40).run Try.prog w = .ok (.agg zOpK) w := by
  have h : (Try.prog.info? 40).map (fun i => (i.zero, i.size)) = some (some (.agg zOpK), 7) := by kernel_rfl
  exact (zero_of_info h).1 w
theorem infoOp7 : (Try.prog.info? 40).map (·.size) = some 7 := by kernel_rfl
theorem infoAct5K : (Try.prog.info? 38).map (·.size) = some 5 := by kernel_rfl
theorem opc_one (o : Dop) : o.cells.toArray.all (·.oneCell') = true := by simp [Dop.cells, Value.oneCell']
/-- What is known of a thing's texts. -/
def Dop.sm (o : Dop) : Prop := o.ok ∧ o.s.size ≤ 70368744177664 ∧ o.t.size ≤ 70368744177664 ∧ o.d.size ≤ 70368744177664
theorem faD_ok {D : Dk} (h : Dok D) (n : Int) : Dok (faD D n) := by
  unfold faD
  split
  · exact h
  · exact ⟨h.ok, h.bn, h.se, h.tot, h.room, h.nm, h.all⟩
theorem start_ok {D : Dk} (h : Dok D) : Dok { D with down := false } := ⟨h.ok, h.bn, h.se, h.tot, h.room, h.nm, h.all⟩
set_option maxRecDepth 20000 in
set_option maxHeartbeats 4000000 in
theorem play_c {G : Nat → Prop} (g j0 : Nat) (D0 : Dk) (a : Option Addr) (n cap : Nat) (X : List Dop) (w : World) (hm : DkM G w g D0) (hok : Dok D0) (hsz : Dsz j0 D0) (hG : ∀ k, G k → k < w.heap.size) (hX : DOps w a n X) (hXg : 0 < n → ∀ b o s, a = some ⟨b, o, s⟩ → ¬ G b) (hsm : ∀ o ∈ X, o.sm) (hn : n ≤ 1073741824) (hj : j0 ≤ 1073741824) :
    Calls Try.prog 15 #[.pointer (some ⟨g, 0, none⟩), .slice a n cap] w fun r w' => r = .returned (.tuple #[]) ∧ ∃ D, PlR D0 X D ∧ PyS G w g (j0 + n) D w' := by
  have HX : Hid (DOps w a n X ∧ (0 < n → ∀ b o s, a = some ⟨b, o, s⟩ → ¬ G b) ∧ (∀ o ∈ X, o.sm) ∧ (∀ k, G k → k < w.heap.size)) := ⟨hX, hXg, hsm, hG⟩
  have HJ : Hid (j0 ≤ 1073741824 ∧ n ≤ 1073741824) := ⟨hj, hn⟩
  have H0 : Hid (∃ D, PlR D0 (X.take 0) D ∧ PyS G w g (j0 + 0) D w) := ⟨D0, rfl, hm.weak (fun k hk => .inl hk), Gr.refl _ _, hok, hsz⟩
  have hzo := zOK
  clear hX hXg hsm hG hm hok hsz hj
  go_enter Try.func15, Try.ntmps15
  go_wp2
  go_loopw [4] (fun i wr => ∃ j : Nat, j ≤ n ∧ i = .int .i64 j ∧ Hid (∃ D, PlR D0 (X.take j) D ∧ PyS G w g (j0 + j) D wr)) (fun i _ => n - (intOf i).toNat)
  case atStart => exact ⟨0, Nat.zero_le _, rfl, H0⟩
  case round =>
    obtain ⟨j, hj, rfl, HI⟩ := hrel
    clear H0
    by_cases hlt : j < n
    · obtain ⟨b, off, o, hab, hb, hxo, hrg⟩ := HX.out.1.at_ j hlt
      obtain ⟨D, hpl, hpy⟩ := HI.out
      have hoX := HX.out.2.2.1 o (List.mem_of_getElem? hxo)
      have HRG : Hid (wr.rangeAt b (off + j * 7) o.cells) := fun i v hv => (World.cell?_of_block (w := w) (w' := wr) (a := ⟨b, off + j * 7 + i, none⟩) (hpy.gr.block b hb (HX.out.2.1 (by omega) b off none hab))).trans (hrg i v hv)
      have HTK : Hid (∀ D1, OpT D o D1 → PlR D0 (X.take (j + 1)) D1) := fun D1 hD1 => by rw [List.take_add_one, hxo]; exact hpl.snoc hD1
      have HSZ : Hid (∀ D1, OpT D o D1 → Dsz (j0 + (j + 1)) D1) := fun D1 hD1 => dsz_op hpy.sz hpy.ok hoX.1 hD1
      have HP : Hid (PyS G w g (j0 + j) D wr) := hpy
      have HO : Hid o.sm := hoX
      have hi1 : (0 : Int) ≤ (j : Int) := by omega
      have hi2 : (j : Int) < (n : Int) := by omega
      have HN : Hid (j < n) := hlt
      have HA : Hid _ := hab
      clear hxo hrg hpl hpy hoX hb HI
      subst hab
      have HB1 : Hid (Bk 40 (wr.alloc (.cells zOpK 40)) wr.heap.size zOpK) := (blk_new wr _ _).1
      have HFIN : Hid (∀ D1 w', OpT D o D1 → PyS G w g (j0 + (j + 1)) D1 w' → ∃ D, PlR D0 (X.take (j + 1)) D ∧ PyS G w g (j0 + (j + 1)) D w') := fun D1 w' h1 h2 => ⟨D1, HTK.out D1 h1, h2⟩
      have HLD : Hid (∀ w2, Bk 40 w2 wr.heap.size o.cells.toArray → (wr.alloc (.cells zOpK 40)).grownBy w2 (some wr.heap.size) → Below wr.heap.size wr w2 ∧ w2.cell? ⟨wr.heap.size, 0, none⟩ = some (.int .i64 o.k) ∧ w2.cell? ⟨wr.heap.size, 5, none⟩ = some (.int .i64 o.kd) ∧ w2.cell? ⟨wr.heap.size, 6, none⟩ = some (.int .i64 o.n) ∧ w2.rangeAt wr.heap.size 0 [.int .i64 o.k, .string o.s, .string o.t, .string o.d, .int .i64 o.z]) := by
        show ∀ w2, _
        intro w2 h1 h2
        refine ⟨((Below.refl _ _).alloc (Nat.le_refl _) _).grown h2 (by rw [World.size_alloc]; omega) (fun k e => by cases e; exact Nat.le_refl _), Bk.cell h1 0, Bk.cell h1 5, Bk.cell h1 6, fun i v hv => ?_⟩
        rw [Nat.zero_add, Bk.cell h1 i]
        match i, hv with
        | 0, hv => exact hv
        | 1, hv => exact hv
        | 2, hv => exact hv
        | 3, hv => exact hv
        | 4, hv => exact hv
      have HOC : Hid (o.cells.toArray.all (·.oneCell') = true) := opc_one o
      obtain ⟨k, s, t, d, z, kd, m⟩ := o
      by_cases hk : 1 ≤ k ∧ k ≤ 6
      · obtain ⟨hk1, hk2⟩ := hk
        have HAC : Hid (∀ W, Below wr.heap.size wr W → Calls Try.prog 28 #[.pointer (some ⟨g, 0, none⟩), .agg #[.int .i64 k, .string s, .string t, .string d, .int .i64 z]] W fun r w' => r = .returned (.tuple #[.int .i64 (acR D k s t d z).1, .bool true]) ∧ PyS G w g (j0 + (j + 1)) (acR D k s t d z).2 w') := by
          show ∀ W, _
          intro W hW
          have hp := HP.out.gone hW
          refine Calls.mono (actD_c (G := fun k => G k ∨ (w.heap.size ≤ k ∧ k < wr.heap.size)) g D k s t d z W (HP.out.m.below hW) hp.ok (hp.sz.sm (by have := HJ.out; have := HN.out; omega)) (fun k hk => ?_) HO.out.2 (wf_bounds HO.out.1.2.1)) ?_
          · have h1 := hW.size
            have h2 := HP.out.gr.size
            rcases hk with hk | hk
            · have := HX.out.2.2.2 k hk; omega
            · omega
          · rintro r w' ⟨q1, q2, q3, q4⟩
            exact ⟨q1, HP.out.go hW q2 q3 q4 (HSZ.out _ (by unfold OpT; rw [if_pos ⟨hk1, hk2⟩]; rfl))⟩
        have HOP : Hid (OpT D ⟨k, s, t, d, z, kd, m⟩ (acR D k s t d z).2) := by unfold OpT; rw [if_pos ⟨hk1, hk2⟩]; rfl
        generalize acR D k s t d z = R at HAC HOP
        have d1 : (1 : Int) ≤ k := hk1
        have d2 : k ≤ 6 := hk2
        go_wp2_with (first
          | (refine wpList_load_mid rfl 40 (.tmp 14) rfl b (off + j * 7) rfl _ _ HRG.out Try.underlying40 rfl infoOp7 ?_)
          | ((fail_if_success (have z := H2)); refine wpList_store_bk 40 rfl (.tmp 5) (.tmp 15) rfl infoOp7 wr.heap.size zOpK (Dop.cells ⟨k, s, t, d, z, kd, m⟩).toArray rfl rfl HB1.out rfl rfl HOC.out ?_; intro w2 s1 s2; obtain ⟨q1, c0, c5, c6, q2⟩ := HLD.out w2 s1 s2; have H2 : Hid (Below wr.heap.size wr w2 ∧ w2.rangeAt wr.heap.size 0 [.int .i64 k, .string s, .string t, .string d, .int .i64 z]) := ⟨q1, q2⟩; clear q1 q2 s1 s2)
          | (refine wpList_load_mid rfl 38 (.tmp 27) rfl wr.heap.size 0 rfl _ _ H2.out.2 Try.underlying38 rfl infoAct5K ?_)
          | (go_at_call 28; go_must (refine (Calls.mono (HAC.out _ H2.out.1) ?_)); rintro r w3 ⟨rfl, k1⟩; have H9 : Hid (∃ D, PlR D0 (X.take (j + 1)) D ∧ PyS G w g (j0 + (j + 1)) D w3) := HFIN.out _ _ HOP.out k1; clear k1))
        go_roundw
        case rel => exact ⟨j + 1, by omega, by go_num, H9⟩
        case measure => simp [intOf]; omega
      · have HNK : Hid (¬ (1 ≤ k ∧ k ≤ 6)) := hk
        have HFA : Hid (kd = 7 → ∀ W, Below wr.heap.size wr W → Calls Try.prog 17 #[.pointer (some ⟨g, 0, none⟩), .int .i64 m] W fun r w' => r = .returned (.tuple #[]) ∧ ∃ D, PlR D0 (X.take (j + 1)) D ∧ PyS G w g (j0 + (j + 1)) D w') := by
          show _ → ∀ W, _
          intro e W hW
          have hop : OpT D ⟨k, s, t, d, z, kd, m⟩ (faD D m) := by unfold OpT; rw [if_neg HNK.out, if_pos e]
          refine Calls.mono (failA_c m W g D (HP.out.m.below hW)) ?_
          rintro r w' ⟨q1, q2, q3⟩
          exact ⟨q1, HFIN.out _ _ hop (HP.out.go hW (q2.weak (fun k z => .inl z)) q3 (faD_ok HP.out.ok m) (HSZ.out _ hop))⟩
        have HCR : Hid (kd = 8 → ∀ W, Below wr.heap.size wr W → Calls Try.prog 24 #[.pointer (some ⟨g, 0, none⟩), .int .i64 m] W fun r w' => r = .returned (.tuple #[]) ∧ ∃ D, PlR D0 (X.take (j + 1)) D ∧ PyS G w g (j0 + (j + 1)) D w') := by
          show _ → ∀ W, _
          intro e W hW
          refine Calls.mono (crashA_c m W g D (HP.out.m.below hW) HP.out.ok (HP.out.sz.sm (by have := HJ.out; have := HN.out; omega)) (wf_bounds HO.out.1.2.2).1 (wf_bounds HO.out.1.2.2).2) ?_
          rintro r w' ⟨q1, D1, q2, q3, q4, q5, q6⟩
          have hop : OpT D ⟨k, s, t, d, z, kd, m⟩ D1 := by unfold OpT; rw [if_neg HNK.out, if_neg (by simp only; omega), if_pos e]; exact ⟨q5, q6⟩
          exact ⟨q1, HFIN.out _ _ hop (HP.out.go hW q2 q3 q4 (HSZ.out _ hop))⟩
        have HST : Hid (kd = 9 → ∀ W, Below wr.heap.size wr W → Calls Try.prog 16 #[.pointer (some ⟨g, 0, none⟩)] W fun r w' => r = .returned (.tuple #[]) ∧ ∃ D, PlR D0 (X.take (j + 1)) D ∧ PyS G w g (j0 + (j + 1)) D w') := by
          show _ → ∀ W, _
          intro e W hW
          have hop : OpT D ⟨k, s, t, d, z, kd, m⟩ { D with down := false } := by unfold OpT; rw [if_neg HNK.out, if_neg (by simp only; omega), if_neg (by simp only; omega), if_pos e]
          refine Calls.mono (startA_c W g D (HP.out.m.below hW)) ?_
          rintro r w' ⟨q1, q2, q3⟩
          exact ⟨q1, HFIN.out _ _ hop (HP.out.go hW (q2.weak (fun k z => .inl z)) q3 (start_ok HP.out.ok) (HSZ.out _ hop))⟩
        have HID : Hid (kd ≠ 7 → kd ≠ 8 → kd ≠ 9 → ∀ W, Below wr.heap.size wr W → ∃ D, PlR D0 (X.take (j + 1)) D ∧ PyS G w g (j0 + (j + 1)) D W) := by
          show _ → _ → _ → ∀ W, _
          intro e1 e2 e3 W hW
          have hop : OpT D ⟨k, s, t, d, z, kd, m⟩ D := by unfold OpT; rw [if_neg HNK.out, if_neg e1, if_neg e2, if_neg e3]
          have hp := HP.out.gone hW
          exact HFIN.out _ _ hop ⟨hp.m, hp.gr, hp.ok, HSZ.out _ hop⟩
        clear HFIN HTK HSZ HP HNK HO
        have hkk : k < 1 ∨ (1 ≤ k ∧ 6 < k) := by omega
        clear hk
        rcases hkk with hk1 | ⟨hk1, hk2⟩
        · have d1 : ¬ (1 : Int) ≤ k := by omega
          by_cases e7 : kd = 7
          · subst e7
            go_wp2_with (first
              | (refine wpList_load_mid rfl 40 (.tmp 14) rfl b (off + j * 7) rfl _ _ HRG.out Try.underlying40 rfl infoOp7 ?_)
              | ((fail_if_success (have z := H2)); refine wpList_store_bk 40 rfl (.tmp 5) (.tmp 15) rfl infoOp7 wr.heap.size zOpK (Dop.cells ⟨k, s, t, d, z, 7, m⟩).toArray rfl rfl HB1.out rfl rfl HOC.out ?_; intro w2 s1 s2; obtain ⟨q1, c0, c5, c6, q2⟩ := HLD.out w2 s1 s2; have H2 : Hid (Below wr.heap.size wr w2 ∧ w2.rangeAt wr.heap.size 0 [.int .i64 k, .string s, .string t, .string d, .int .i64 z]) := ⟨q1, q2⟩; clear q1 q2 s1 s2)
              | (go_at_call 17; go_must (refine (Calls.mono (HFA.out rfl _ H2.out.1) ?_)); rintro r w3 ⟨rfl, k1⟩; have H9 : Hid (∃ D, PlR D0 (X.take (j + 1)) D ∧ PyS G w g (j0 + (j + 1)) D w3) := k1; clear k1))
            go_roundw
            case rel => exact ⟨j + 1, by omega, by go_num, H9⟩
            case measure => simp [intOf]; omega
          · by_cases e8 : kd = 8
            · subst e8
              go_wp2_with (first
                | (refine wpList_load_mid rfl 40 (.tmp 14) rfl b (off + j * 7) rfl _ _ HRG.out Try.underlying40 rfl infoOp7 ?_)
                | ((fail_if_success (have z := H2)); refine wpList_store_bk 40 rfl (.tmp 5) (.tmp 15) rfl infoOp7 wr.heap.size zOpK (Dop.cells ⟨k, s, t, d, z, 8, m⟩).toArray rfl rfl HB1.out rfl rfl HOC.out ?_; intro w2 s1 s2; obtain ⟨q1, c0, c5, c6, q2⟩ := HLD.out w2 s1 s2; have H2 : Hid (Below wr.heap.size wr w2 ∧ w2.rangeAt wr.heap.size 0 [.int .i64 k, .string s, .string t, .string d, .int .i64 z]) := ⟨q1, q2⟩; clear q1 q2 s1 s2)
                | (go_at_call 24; go_must (refine (Calls.mono (HCR.out rfl _ H2.out.1) ?_)); rintro r w3 ⟨rfl, k1⟩; have H9 : Hid (∃ D, PlR D0 (X.take (j + 1)) D ∧ PyS G w g (j0 + (j + 1)) D w3) := k1; clear k1))
              go_roundw
              case rel => exact ⟨j + 1, by omega, by go_num, H9⟩
              case measure => simp [intOf]; omega
            · by_cases e9 : kd = 9
              · subst e9
                go_wp2_with (first
                  | (refine wpList_load_mid rfl 40 (.tmp 14) rfl b (off + j * 7) rfl _ _ HRG.out Try.underlying40 rfl infoOp7 ?_)
                  | ((fail_if_success (have z := H2)); refine wpList_store_bk 40 rfl (.tmp 5) (.tmp 15) rfl infoOp7 wr.heap.size zOpK (Dop.cells ⟨k, s, t, d, z, 9, m⟩).toArray rfl rfl HB1.out rfl rfl HOC.out ?_; intro w2 s1 s2; obtain ⟨q1, c0, c5, c6, q2⟩ := HLD.out w2 s1 s2; have H2 : Hid (Below wr.heap.size wr w2 ∧ w2.rangeAt wr.heap.size 0 [.int .i64 k, .string s, .string t, .string d, .int .i64 z]) := ⟨q1, q2⟩; clear q1 q2 s1 s2)
                  | (go_at_call 16; go_must (refine (Calls.mono (HST.out rfl _ H2.out.1) ?_)); rintro r w3 ⟨rfl, k1⟩; have H9 : Hid (∃ D, PlR D0 (X.take (j + 1)) D ∧ PyS G w g (j0 + (j + 1)) D w3) := k1; clear k1))
                go_roundw
                case rel => exact ⟨j + 1, by omega, by go_num, H9⟩
                case measure => simp [intOf]; omega
              · have q7 : (kd == 7) = false := by simpa using e7
                have q8 : (kd == 8) = false := by simpa using e8
                have q9 : (kd == 9) = false := by simpa using e9
                go_wp2_with (first
                  | (refine wpList_load_mid rfl 40 (.tmp 14) rfl b (off + j * 7) rfl _ _ HRG.out Try.underlying40 rfl infoOp7 ?_)
                  | ((fail_if_success (have z := H2)); refine wpList_store_bk 40 rfl (.tmp 5) (.tmp 15) rfl infoOp7 wr.heap.size zOpK (Dop.cells ⟨k, s, t, d, z, kd, m⟩).toArray rfl rfl HB1.out rfl rfl HOC.out ?_; intro w2 s1 s2; obtain ⟨q1, c0, c5, c6, q2⟩ := HLD.out w2 s1 s2; have H2 : Hid (Below wr.heap.size wr w2 ∧ w2.rangeAt wr.heap.size 0 [.int .i64 k, .string s, .string t, .string d, .int .i64 z]) := ⟨q1, q2⟩; clear q1 q2 s1 s2))
                have H9 : Hid (∃ D, PlR D0 (X.take (j + 1)) D ∧ PyS G w g (j0 + (j + 1)) D w2) := HID.out e7 e8 e9 w2 H2.out.1
                go_roundw
                case rel => exact ⟨j + 1, by omega, by go_num, H9⟩
                case measure => simp [intOf]; omega
        · have d1 : (1 : Int) ≤ k := hk1
          have d2 : ¬ k ≤ 6 := by omega
          by_cases e7 : kd = 7
          · subst e7
            go_wp2_with (first
              | (refine wpList_load_mid rfl 40 (.tmp 14) rfl b (off + j * 7) rfl _ _ HRG.out Try.underlying40 rfl infoOp7 ?_)
              | ((fail_if_success (have z := H2)); refine wpList_store_bk 40 rfl (.tmp 5) (.tmp 15) rfl infoOp7 wr.heap.size zOpK (Dop.cells ⟨k, s, t, d, z, 7, m⟩).toArray rfl rfl HB1.out rfl rfl HOC.out ?_; intro w2 s1 s2; obtain ⟨q1, c0, c5, c6, q2⟩ := HLD.out w2 s1 s2; have H2 : Hid (Below wr.heap.size wr w2 ∧ w2.rangeAt wr.heap.size 0 [.int .i64 k, .string s, .string t, .string d, .int .i64 z]) := ⟨q1, q2⟩; clear q1 q2 s1 s2)
              | (go_at_call 17; go_must (refine (Calls.mono (HFA.out rfl _ H2.out.1) ?_)); rintro r w3 ⟨rfl, k1⟩; have H9 : Hid (∃ D, PlR D0 (X.take (j + 1)) D ∧ PyS G w g (j0 + (j + 1)) D w3) := k1; clear k1))
            go_roundw
            case rel => exact ⟨j + 1, by omega, by go_num, H9⟩
            case measure => simp [intOf]; omega
          · by_cases e8 : kd = 8
            · subst e8
              go_wp2_with (first
                | (refine wpList_load_mid rfl 40 (.tmp 14) rfl b (off + j * 7) rfl _ _ HRG.out Try.underlying40 rfl infoOp7 ?_)
                | ((fail_if_success (have z := H2)); refine wpList_store_bk 40 rfl (.tmp 5) (.tmp 15) rfl infoOp7 wr.heap.size zOpK (Dop.cells ⟨k, s, t, d, z, 8, m⟩).toArray rfl rfl HB1.out rfl rfl HOC.out ?_; intro w2 s1 s2; obtain ⟨q1, c0, c5, c6, q2⟩ := HLD.out w2 s1 s2; have H2 : Hid (Below wr.heap.size wr w2 ∧ w2.rangeAt wr.heap.size 0 [.int .i64 k, .string s, .string t, .string d, .int .i64 z]) := ⟨q1, q2⟩; clear q1 q2 s1 s2)
                | (go_at_call 24; go_must (refine (Calls.mono (HCR.out rfl _ H2.out.1) ?_)); rintro r w3 ⟨rfl, k1⟩; have H9 : Hid (∃ D, PlR D0 (X.take (j + 1)) D ∧ PyS G w g (j0 + (j + 1)) D w3) := k1; clear k1))
              go_roundw
              case rel => exact ⟨j + 1, by omega, by go_num, H9⟩
              case measure => simp [intOf]; omega
            · by_cases e9 : kd = 9
              · subst e9
                go_wp2_with (first
                  | (refine wpList_load_mid rfl 40 (.tmp 14) rfl b (off + j * 7) rfl _ _ HRG.out Try.underlying40 rfl infoOp7 ?_)
                  | ((fail_if_success (have z := H2)); refine wpList_store_bk 40 rfl (.tmp 5) (.tmp 15) rfl infoOp7 wr.heap.size zOpK (Dop.cells ⟨k, s, t, d, z, 9, m⟩).toArray rfl rfl HB1.out rfl rfl HOC.out ?_; intro w2 s1 s2; obtain ⟨q1, c0, c5, c6, q2⟩ := HLD.out w2 s1 s2; have H2 : Hid (Below wr.heap.size wr w2 ∧ w2.rangeAt wr.heap.size 0 [.int .i64 k, .string s, .string t, .string d, .int .i64 z]) := ⟨q1, q2⟩; clear q1 q2 s1 s2)
                  | (go_at_call 16; go_must (refine (Calls.mono (HST.out rfl _ H2.out.1) ?_)); rintro r w3 ⟨rfl, k1⟩; have H9 : Hid (∃ D, PlR D0 (X.take (j + 1)) D ∧ PyS G w g (j0 + (j + 1)) D w3) := k1; clear k1))
                go_roundw
                case rel => exact ⟨j + 1, by omega, by go_num, H9⟩
                case measure => simp [intOf]; omega
              · have q7 : (kd == 7) = false := by simpa using e7
                have q8 : (kd == 8) = false := by simpa using e8
                have q9 : (kd == 9) = false := by simpa using e9
                go_wp2_with (first
                  | (refine wpList_load_mid rfl 40 (.tmp 14) rfl b (off + j * 7) rfl _ _ HRG.out Try.underlying40 rfl infoOp7 ?_)
                  | ((fail_if_success (have z := H2)); refine wpList_store_bk 40 rfl (.tmp 5) (.tmp 15) rfl infoOp7 wr.heap.size zOpK (Dop.cells ⟨k, s, t, d, z, kd, m⟩).toArray rfl rfl HB1.out rfl rfl HOC.out ?_; intro w2 s1 s2; obtain ⟨q1, c0, c5, c6, q2⟩ := HLD.out w2 s1 s2; have H2 : Hid (Below wr.heap.size wr w2 ∧ w2.rangeAt wr.heap.size 0 [.int .i64 k, .string s, .string t, .string d, .int .i64 z]) := ⟨q1, q2⟩; clear q1 q2 s1 s2))
                have H9 : Hid (∃ D, PlR D0 (X.take (j + 1)) D ∧ PyS G w g (j0 + (j + 1)) D w2) := HID.out e7 e8 e9 w2 H2.out.1
                go_roundw
                case rel => exact ⟨j + 1, by omega, by go_num, H9⟩
                case measure => simp [intOf]; omega
    · obtain rfl : j = n := by omega
      rw [List.take_of_length_le (by have := HX.out.1.1; omega)] at HI
      go_wp2
      go_end0
      exact ⟨rfl, HI.out⟩
end Go.Proofs.Yteoohgjoffpmkaa
