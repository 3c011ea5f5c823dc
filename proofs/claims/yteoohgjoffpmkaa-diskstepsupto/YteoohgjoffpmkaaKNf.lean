/-
  What disk's New answers of any files. Condition: each file's name and bytes at most 2^46; at most 2^40 files.
-/
import Derived.Test.YteoohgjoffpmkaaKPq
namespace Go.Proofs.Yteoohgjoffpmkaa
open Go.RowKit
set_option linter.unusedVariables false

/-- One file more: its error, the files so far, the room that is left. -/
def nwS (R : Int × (ByteArray → Option (List Int)) × Nat) (p : ByteArray × List Int) : Int × (ByteArray → Option (List Int)) × Nat :=
  if R.1 ≠ 0 then R else if nmB p.1 = false then (120, R.2) else if (R.2.1 p.1).isSome = true then (122, R.2) else if R.2.2 < p.1.size + p.2.length then (123, R.2) else (0, fset R.2.1 p.1 (some p.2), R.2.2 - (p.1.size + p.2.length))
def nwR (room : Nat) (L : List (ByteArray × List Int)) : Int × (ByteArray → Option (List Int)) × Nat := L.foldl nwS (0, fun _ => none, room)
theorem nwR_snoc (room : Nat) (L : List (ByteArray × List Int)) (p : ByteArray × List Int) : nwR room (L ++ [p]) = nwS (nwR room L) p := by
  unfold nwR
  rw [List.foldl_append]; rfl
theorem nwS_stop {R} (h : R.1 ≠ 0) (L : List (ByteArray × List Int)) : L.foldl nwS R = R := by
  induction L with
  | nil => rfl
  | cons p L ih =>
    have e : nwS R p = R := by unfold nwS; rw [if_pos h]
    rw [List.foldl_cons, e, ih]
theorem nwR_stop {room : Nat} {L : List (ByteArray × List Int)} {j : Nat} (h : (nwR room (L.take j)).1 ≠ 0) : nwR room L = nwR room (L.take j) := by
  have e := (List.take_append_drop j L).symm
  unfold nwR at h ⊢
  rw [e, List.foldl_append, List.take_append_drop]
  exact nwS_stop h _
/-- What holds as long as no file was refused. -/
def NwOk (room : Nat) (R : Int × (ByteArray → Option (List Int)) × Nat) : Prop := (∃ n, Tot R.2.1 n ∧ R.2.2 + n = room) ∧ ∀ s xs, R.2.1 s = some xs → nmB s = true
theorem nwS_ok {room R} (h : NwOk room R) (p : ByteArray × List Int) : NwOk room (nwS R p) := by
  unfold nwS
  split
  · exact h
  split
  · exact h
  split
  · exact h
  split
  · exact h
  · rename_i h1 h2 h3 h4
    obtain ⟨⟨n, t1, t2⟩, hn⟩ := h
    have hno : R.2.1 p.1 = none := by
      cases hq : R.2.1 p.1 with
      | none => rfl
      | some x => rw [hq] at h3; simp at h3
    refine ⟨⟨_, t1.add p.1 p.2 hno, by show R.2.2 - (p.1.size + p.2.length) + _ = room; omega⟩, fun s xs hs => ?_⟩
    exact fset_nm hn (.inr (by simpa using h2)) s xs hs
theorem nwR_ok (room : Nat) (L : List (ByteArray × List Int)) : NwOk room (nwR room L) := by
  unfold nwR
  have h0 : NwOk room (0, fun _ => none, room) := ⟨⟨0, tot_none, rfl⟩, fun s xs hs => by cases hs⟩
  generalize ((0, fun _ => none, room) : Int × (ByteArray → Option (List Int)) × Nat) = R at h0
  induction L generalizing R with
  | nil => exact h0
  | cons p L ih => rw [List.foldl_cons]; exact ih _ (nwS_ok h0 p)
theorem NwOk.bnd {room R} (h : NwOk room R) (hr : room ≤ 67108864) : bnd R.2.1 := by
  obtain ⟨⟨n, t1, t2⟩, hn⟩ := h
  intro s xs hs
  have := t1.le s xs hs
  exact ⟨by omega, hn s xs hs⟩
/-- The disk that New makes. -/
def nwD (room : Nat) (R : Int × (ByteArray → Option (List Int)) × Nat) : Dk := ⟨room, R.2.2, R.2.1, R.2.1, [], 0, 0, false⟩
theorem nwD_ok {room R} (h : NwOk room R) (hr : room ≤ 67108864) : Dok (nwD room R) := by
  have hb := h.bnd hr
  obtain ⟨⟨n, t1, t2⟩, hn⟩ := h
  exact ⟨trivial, hb, rfl, ⟨n, t1, t2⟩, hr, hn, fun k => ⟨n, t1, by show n ≤ room; omega, hb⟩⟩
/-- Between two rounds of New. -/
structure NwI (w : World) (m : Nat) (F : ByteArray → Option (List Int)) (wr : World) : Prop where
  f : ∃ V, Fl (fun k => w.heap.size ≤ k ∧ k < wr.heap.size) wr m V F
  b : Below w.heap.size w wr
theorem NwI.gone {w : World} {m : Nat} {F : ByteArray → Option (List Int)} {wr w' : World} (h : NwI w m F wr) (hb : Below wr.heap.size wr w') : NwI w m F w' := by
  obtain ⟨⟨V, h1⟩, h2⟩ := h
  exact ⟨⟨V, (h1.gr (Gr.ofB (G := fun _ => False) hb) (fun _ _ z => z)).weak (fun k hk => ⟨hk.1, by have := hb.size; omega⟩)⟩, h2.trans (hb.mono h2.size)⟩
theorem NwI.put {w : World} {m : Nat} {F : ByteArray → Option (List Int)} {wr x1 : World} (h : NwI w m F wr) (s : ByteArray) {a : Option Addr} {c : Nat} {xs : List Int} (hb : Below wr.heap.size wr x1) (ho : Own wr.heap.size x1 (.slice a xs.length c) xs.length xs) (hx : Bytes xs) :
    ∃ x2, (Instr.mapUpdate 76 (.map (some m)) (.string s) (.slice a xs.length c)).run Try.prog x1 = .ok () x2 ∧ NwI w m (fset F s (some xs)) x2 ∧ Gr (fun k => k = m) x1 x2 ∧ x2.heap.size = x1.heap.size := by
  obtain ⟨⟨V, h1⟩, h2⟩ := h
  have f2 := h1.gr (G := fun _ => False) (Gr.ofB hb) (fun _ _ z => z)
  obtain ⟨x2, k1, k2, k3, k4⟩ := mps_upd Try.underlying76 Try.underlying9 f2.mp s (.slice a xs.length c)
  have hal := own_lt ho
  have hsz := hb.size
  have hml := h1.mp.lt
  refine ⟨x2, k1, ⟨⟨_, f2.put (O' := fun k => w.heap.size ≤ k ∧ k < x2.heap.size) (fun k hk => ⟨hk.1, by omega⟩) s _ xs k2 (own_gr (own_base0 ho) k3 (fun k hk e => by have := hal k hk; omega)) hx (fun t u ys ht hq ho2 => own_gr ho2 k3 (fun k hk => (f2.ov t u k hq hk).2)) (fun k hk => ⟨⟨by have := hal k hk; have := h2.size; omega, by have := hal k hk; omega⟩, by have := hal k hk; omega, fun t u ht hq e => ?_⟩)⟩, ?_⟩, k3, k4⟩
  · obtain ⟨ys, _, q3, _⟩ := h1.is t u hq
    have := (own_lt q3 k e).2
    have := hal k hk
    omega
  · have q2 : Below w.heap.size w x1 := h2.trans (hb.mono h2.size)
    exact q2.trans ⟨k3.os, k3.tape, k3.output, k3.size, fun k hk => k3.block k (Nat.lt_of_lt_of_le hk q2.size) (by have := h1.ob.1; omega)⟩
theorem taken_wrap (a b : Nat) (h1 : a ≤ 70368744177664) (h2 : b ≤ 70368744177664) : wrap64 ((a : Int) + b) = (a : Int) + b := by
  unfold wrap64
  omega
theorem infoFil2 : (Try.prog.info? 59).map (fun i => (i.zero, i.size)) = some (some (.agg #[.string .empty, .slice none 0 0]), 2) := by kernel_rfl
theorem zFl (w : World) : (zeroValue 59).run Try.prog w = .ok (.agg #[.string .empty, .slice none 0 0]) w := (zero_of_info infoFil2).1 w
theorem infoFil1 : (Try.prog.info? 59).map (·.size) = some 2 := by kernel_rfl
set_option maxRecDepth 20000 in
set_option maxHeartbeats 4000000 in
theorem newF_c (room : Nat) (a : Option Addr) (ca : Nat) (L : List FiM) (w : World) (hA : RFi w a L) (hr : room ≤ 67108864) (hn : L.length ≤ 1099511627776) (hs : ∀ f ∈ L, f.s.size ≤ 70368744177664 ∧ f.ys.length ≤ 70368744177664) (hz : ∀ f ∈ L, ∀ ua m uc, f.u = .slice ua m uc → ua = none → uc = 0) :
    Calls Try.prog 10 #[.int .i64 (room : Int), .slice a L.length ca] w fun r w' => Below w.heap.size w w' ∧ (((nwR room (L.map FiM.p)).1 ≠ 0 ∧ r = .returned (.tuple #[.pointer none, .int .i64 (nwR room (L.map FiM.p)).1])) ∨ ((nwR room (L.map FiM.p)).1 = 0 ∧ ∃ g, r = .returned (.tuple #[.pointer (some ⟨g, 0, none⟩), .int .i64 0]) ∧ DkM (fun k => w.heap.size ≤ k ∧ k < w'.heap.size) w' g (nwD room (nwR room (L.map FiM.p))))) := by
  obtain ⟨RR, hRR⟩ : ∃ RR, RR = nwR room (L.map FiM.p) := ⟨_, rfl⟩
  rw [← hRR]
  have HRR : Hid (RR = nwR room (L.map FiM.p)) := hRR
  have HA : Hid (RFi w a L ∧ ∀ f ∈ L, f.s.size ≤ 70368744177664 ∧ f.ys.length ≤ 70368744177664) := ⟨hA, hs⟩
  obtain ⟨n, hna⟩ : ∃ n, n = L.length := ⟨_, rfl⟩
  rw [← hna] at hn ⊢
  have HN : Hid (n = L.length ∧ room ≤ 67108864) := ⟨hna, hr⟩
  have q0 : ¬ (room : Int) < 0 := by omega
  have q1 : ¬ (67108864 : Int) < room := by omega
  have hmk := @run_makeMap Try.prog
  have hzf := zFl
  have HZ : Hid (∀ f ∈ L, ∀ ua m uc, f.u = .slice ua m uc → ua = none → uc = 0) := hz
  clear hA hna hs hRR hr hz
  go_enter Try.func10, Try.ntmps10
  go_wp2
  have H1 : Hid (NwI w w.heap.size (fun _ => none) (w.alloc (.map #[] 0))) := by
    have hsz := World.size_alloc w (.map #[] 0)
    exact ⟨⟨_, fl_none (mps_new w) ⟨Nat.le_refl _, by omega⟩⟩, (Below.refl _ _).alloc (Nat.le_refl _) _⟩
  go_loopw [6, 20] (fun v i wr => ∃ (j fr : Nat) (F : ByteArray → Option (List Int)), j ≤ n ∧ fr ≤ room ∧ v = .int .i64 (fr : Int) ∧ i = .int .i64 j ∧ Hid (nwR room ((L.map FiM.p).take j) = (0, F, fr) ∧ NwI w w.heap.size F wr)) (fun _ i _ => n - (intOf i).toNat)
  case atStart => exact ⟨0, room, fun _ => none, Nat.zero_le _, Nat.le_refl _, rfl, rfl, rfl, H1.out⟩
  case round =>
    obtain ⟨j, fr, F, hj, hfr, rfl, rfl, HI⟩ := hrel
    clear H1
    by_cases hlt : j < n
    · obtain ⟨f, hf⟩ : ∃ f, L[j]? = some f := ⟨_, List.getElem?_eq_getElem (by have := HN.out.1; omega)⟩
      obtain ⟨b, off, ua, uc, hab, hb, c0, c1, hu, hsg, hby⟩ := (HA.out.1.below HI.out.2.b) j f hf
      obtain ⟨hs1, hs2⟩ := HA.out.2 f (List.mem_of_getElem? hf)
      have hnz : ua = none → uc = 0 := HZ.out f (List.mem_of_getElem? hf) ua _ uc hu
      have HST : Hid (∀ R, nwS (0, F, fr) f.p = R → nwR room ((L.map FiM.p).take (j + 1)) = R) := fun R hR => by
        rw [List.take_add_one, List.getElem?_map, hf]
        show nwR room ((L.map FiM.p).take j ++ [f.p]) = R
        rw [nwR_snoc, HI.out.1, hR]
      have HSTOP : Hid (∀ R, R.1 ≠ 0 → nwS (0, F, fr) f.p = R → RR = R) := fun R hR hS => by
        have e := HST.out R hS
        rw [HRR.out, ← e]
        exact nwR_stop (by rw [e]; exact hR)
      obtain ⟨s, ys, u⟩ := f
      simp only at c0 c1 hu hsg hby hs1 hs2
      subst hu
      have hpp : FiM.p ⟨s, ys, .slice ua ys.length uc⟩ = (s, ys) := rfl
      rw [hpp] at HST HSTOP
      clear hpp
      obtain ⟨q, hq⟩ : ∃ q, q = ys.length := ⟨_, rfl⟩
      have HQ : Hid (q = ys.length) := hq
      rw [← hq] at c1 hsg hs2
      have HRG : Hid (wr.rangeAt b (off + j * 2) [.string s, .slice ua q uc]) := fun i v hv => by
        match i, hv with
        | 0, hv => exact c0.trans hv
        | 1, hv => exact c1.trans hv
      have HSG : Hid (Seg .u8 wr ua q ys ∧ Bytes ys ∧ (ua = none → uc = 0)) := ⟨hsg, hby, hnz⟩
      have HP : Hid (NwI w w.heap.size F wr) := HI.out.2
      have HB1 : Hid (Bk 59 (wr.alloc (.cells #[.string .empty, .slice none 0 0] 59)) wr.heap.size #[.string .empty, .slice none 0 0]) := (blk_new wr _ _).1
      have HLD : Hid (∀ w2, Bk 59 w2 wr.heap.size #[.string s, .slice ua q uc] → (wr.alloc (.cells #[.string .empty, .slice none 0 0] 59)).grownBy w2 (some wr.heap.size) → Below wr.heap.size wr w2 ∧ wr.heap.size < w2.heap.size ∧ w2.cell? ⟨wr.heap.size, 0, none⟩ = some (.string s) ∧ w2.cell? ⟨wr.heap.size, 1, none⟩ = some (.slice ua q uc)) := by
        show ∀ w2, _
        intro w2 h1 h2
        exact ⟨((Below.refl _ _).alloc (Nat.le_refl _) _).grown h2 (by rw [World.size_alloc]; omega) (fun k e => by cases e; exact Nat.le_refl _), lt_of_block h1, Bk.cell h1 0, Bk.cell h1 1⟩
      have hi1 : (0 : Int) ≤ (j : Int) := by omega
      have hi2 : (j : Int) < (n : Int) := by omega
      have HA2 : Hid _ := hab
      have hone : (#[.string s, .slice ua q uc] : Array Value).all (·.oneCell') = true := by simp [Value.oneCell']
      have HNM : Hid (∀ W, Calls Try.prog 36 #[.string s] W fun r w' => r = .returned (.bool (nmB s)) ∧ Below W.heap.size W w') := fun W => nameA_c s W (by omega)
      have HTK : Hid (∀ W, Calls Try.prog 38 #[.string s, .slice ua q uc] W fun r w' => r = .returned (.int .i64 ((s.size : Int) + q)) ∧ w' = W) := fun W => takenA_c s ua q uc W (by omega) (by omega)
      have HS12 : Hid (s.size ≤ 70368744177664 ∧ q ≤ 70368744177664) := ⟨hs1, hs2⟩
      clear hab hb c0 c1 hsg hby hnz hq hf hs1 hs2 HI
      obtain ⟨b', hb'⟩ : ∃ b', b' = b := ⟨_, rfl⟩
      have ha : a = some ⟨b, off, none⟩ := HA2.out
      subst ha
      cases hnm : nmB s with
      | false =>
        rw [hnm] at HNM
        have HE : Hid (RR = (120, F, fr)) := HSTOP.out (120, F, fr) (show (120 : Int) ≠ 0 by decide) (by unfold nwS; rw [if_neg (by simp), if_pos hnm])
        clear hnm
        go_wp2_with (first
          | (refine wpList_load_mid rfl 59 (.tmp 22) rfl b (off + j * 2) rfl _ _ HRG.out Try.underlying59 rfl infoFil1 ?_)
          | ((fail_if_success (have z := H2)); refine wpList_store_bk 59 rfl (.tmp 9) (.tmp 23) rfl infoFil1 wr.heap.size #[.string .empty, .slice none 0 0] #[.string s, .slice ua q uc] rfl rfl HB1.out rfl rfl hone ?_; intro w2 s1 s2; obtain ⟨z1, z2, e0, e1⟩ := HLD.out w2 s1 s2; have H2 : Hid (Below wr.heap.size wr w2 ∧ wr.heap.size < w2.heap.size) := ⟨z1, z2⟩; clear z1 z2 s1 s2)
          | ((fail_if_success (have z := H3)); go_at_call 36; go_must (refine (Calls.mono (HNM.out w2) ?_)); rintro r x1 ⟨rfl, k1⟩; have d0 : x1.cell? ⟨wr.heap.size, 0, none⟩ = some (.string s) := (k1.cell (p := ⟨wr.heap.size, 0, none⟩) H2.out.2).trans e0; have d1' : x1.cell? ⟨wr.heap.size, 1, none⟩ = some (.slice ua q uc) := (k1.cell (p := ⟨wr.heap.size, 1, none⟩) H2.out.2).trans e1; have H3 : Hid (NwI w w.heap.size F x1 ∧ Below wr.heap.size wr x1 ∧ wr.heap.size < x1.heap.size) := ⟨(HP.out.gone H2.out.1).gone k1, H2.out.1.trans (k1.mono H2.out.1.size), Nat.lt_of_lt_of_le H2.out.2 k1.size⟩; clear k1))
        go_ret2
        exact ⟨H3.out.1.b, .inl ⟨by rw [HE.out]; simp, by rw [HE.out]; rfl⟩⟩
      | true =>
        rw [hnm] at HNM
        cases hfs : (F s).isSome with
        | true =>
          have HE : Hid (RR = (122, F, fr)) := HSTOP.out (122, F, fr) (show (122 : Int) ≠ 0 by decide) (by unfold nwS; rw [if_neg (by simp), if_neg (by rw [hnm]; simp), if_pos hfs])
          have HHV : Hid (∀ W, NwI w w.heap.size F W → Calls Try.prog 37 #[.map (some w.heap.size), .string s] W fun r w' => r = .returned (.bool true) ∧ w' = W) := fun W hW => by
            obtain ⟨V, hV⟩ := hW.f
            rw [← hfs]
            exact haveA_c _ V F s W hV
          clear hnm hfs
          go_wp2_with (first
            | (refine wpList_load_mid rfl 59 (.tmp 22) rfl b (off + j * 2) rfl _ _ HRG.out Try.underlying59 rfl infoFil1 ?_)
            | ((fail_if_success (have z := H2)); refine wpList_store_bk 59 rfl (.tmp 9) (.tmp 23) rfl infoFil1 wr.heap.size #[.string .empty, .slice none 0 0] #[.string s, .slice ua q uc] rfl rfl HB1.out rfl rfl hone ?_; intro w2 s1 s2; obtain ⟨z1, z2, e0, e1⟩ := HLD.out w2 s1 s2; have H2 : Hid (Below wr.heap.size wr w2 ∧ wr.heap.size < w2.heap.size) := ⟨z1, z2⟩; clear z1 z2 s1 s2)
            | ((fail_if_success (have z := H3)); go_at_call 36; go_must (refine (Calls.mono (HNM.out w2) ?_)); rintro r x1 ⟨rfl, k1⟩; have d0 : x1.cell? ⟨wr.heap.size, 0, none⟩ = some (.string s) := (k1.cell (p := ⟨wr.heap.size, 0, none⟩) H2.out.2).trans e0; have d1' : x1.cell? ⟨wr.heap.size, 1, none⟩ = some (.slice ua q uc) := (k1.cell (p := ⟨wr.heap.size, 1, none⟩) H2.out.2).trans e1; have H3 : Hid (NwI w w.heap.size F x1 ∧ Below wr.heap.size wr x1 ∧ wr.heap.size < x1.heap.size) := ⟨(HP.out.gone H2.out.1).gone k1, H2.out.1.trans (k1.mono H2.out.1.size), Nat.lt_of_lt_of_le H2.out.2 k1.size⟩; clear k1)
            | (go_at_call 37; go_must (refine (Calls.mono (HHV.out _ H3.out.1) ?_)); rintro r wq ⟨rfl, hq⟩; obtain rfl := hq.symm; clear hq))
          go_ret2
          exact ⟨H3.out.1.b, .inl ⟨by rw [HE.out]; simp, by rw [HE.out]; rfl⟩⟩
        | false =>
          have HHV : Hid (∀ W, NwI w w.heap.size F W → Calls Try.prog 37 #[.map (some w.heap.size), .string s] W fun r w' => r = .returned (.bool false) ∧ w' = W) := fun W hW => by
            obtain ⟨V, hV⟩ := hW.f
            rw [← hfs]
            exact haveA_c _ V F s W hV
          by_cases hrm : fr < s.size + q
          · have HE : Hid (RR = (123, F, fr)) := HSTOP.out (123, F, fr) (show (123 : Int) ≠ 0 by decide) (by unfold nwS; rw [if_neg (by simp), if_neg (by rw [hnm]; simp), if_neg (by rw [hfs]; simp), if_pos (by rw [← HQ.out]; exact hrm)])
            have d1 : (fr : Int) < (s.size : Int) + q := by omega
            clear hnm hfs hrm
            go_wp2_with (first
              | (refine wpList_load_mid rfl 59 (.tmp 22) rfl b (off + j * 2) rfl _ _ HRG.out Try.underlying59 rfl infoFil1 ?_)
              | ((fail_if_success (have z := H2)); refine wpList_store_bk 59 rfl (.tmp 9) (.tmp 23) rfl infoFil1 wr.heap.size #[.string .empty, .slice none 0 0] #[.string s, .slice ua q uc] rfl rfl HB1.out rfl rfl hone ?_; intro w2 s1 s2; obtain ⟨z1, z2, e0, e1⟩ := HLD.out w2 s1 s2; have H2 : Hid (Below wr.heap.size wr w2 ∧ wr.heap.size < w2.heap.size) := ⟨z1, z2⟩; clear z1 z2 s1 s2)
              | ((fail_if_success (have z := H3)); go_at_call 36; go_must (refine (Calls.mono (HNM.out w2) ?_)); rintro r x1 ⟨rfl, k1⟩; have d0 : x1.cell? ⟨wr.heap.size, 0, none⟩ = some (.string s) := (k1.cell (p := ⟨wr.heap.size, 0, none⟩) H2.out.2).trans e0; have d1' : x1.cell? ⟨wr.heap.size, 1, none⟩ = some (.slice ua q uc) := (k1.cell (p := ⟨wr.heap.size, 1, none⟩) H2.out.2).trans e1; have H3 : Hid (NwI w w.heap.size F x1 ∧ Below wr.heap.size wr x1 ∧ wr.heap.size < x1.heap.size) := ⟨(HP.out.gone H2.out.1).gone k1, H2.out.1.trans (k1.mono H2.out.1.size), Nat.lt_of_lt_of_le H2.out.2 k1.size⟩; clear k1)
              | (go_at_call 37; go_must (refine (Calls.mono (HHV.out _ H3.out.1) ?_)); rintro r wq ⟨rfl, hq⟩; obtain rfl := hq.symm; clear hq)
              | (go_at_call 38; go_must (refine (Calls.mono (HTK.out _) ?_)); rintro r wq ⟨rfl, hq⟩; obtain rfl := hq.symm; clear hq))
            go_ret2
            exact ⟨H3.out.1.b, .inl ⟨by rw [HE.out]; simp, by rw [HE.out]; rfl⟩⟩
          · have HE : Hid (nwR room ((L.map FiM.p).take (j + 1)) = (0, fset F s (some ys), fr - (s.size + q))) := HST.out _ (by unfold nwS; rw [if_neg (by simp), if_neg (by rw [hnm]; simp), if_neg (by rw [hfs]; simp), if_neg (by rw [← HQ.out]; exact hrm), HQ.out])
            have d1 : ¬ (fr : Int) < (s.size : Int) + q := by omega
            have hw1 : (fr : Int) - ((s.size : Int) + q) = ((fr - (s.size + q) : Nat) : Int) := by omega
            have HFR : Hid (fr - (s.size + q) ≤ room) := by show _ ≤ _; omega
            have HPT : Hid (∀ W, Below wr.heap.size wr W → wr.heap.size < W.heap.size → W.cell? ⟨wr.heap.size, 0, none⟩ = some (.string s) → W.cell? ⟨wr.heap.size, 1, none⟩ = some (.slice ua q uc) → Calls Try.prog 39 #[.slice ua q uc] W fun r x2 => ∃ a' c' x3, r = .returned (.slice a' q c') ∧ (Instr.mapUpdate 76 (.map (some w.heap.size)) (.string s) (.slice a' q c')).run Try.prog x2 = .ok () x3 ∧ NwI w w.heap.size (fset F s (some ys)) x3 ∧ (x2.cell? ⟨wr.heap.size, 0, none⟩ = some (.string s) ∧ x2.cell? ⟨wr.heap.size, 1, none⟩ = some (.slice ua q uc)) ∧ (x3.cell? ⟨wr.heap.size, 0, none⟩ = some (.string s) ∧ x3.cell? ⟨wr.heap.size, 1, none⟩ = some (.slice ua q uc))) := by
              show ∀ W, _
              intro W hW hlt2 e0 e1
              refine Calls.mono (kclone_c ua q uc ys W (HSG.out.1.below hW) (by have := HS12.out; omega) HSG.out.2.2) ?_
              rintro r x2 ⟨a', c', rfl, k1, k2⟩
              rw [HQ.out] at k1 ⊢
              obtain ⟨x3, k3, k4, k5, k6⟩ := (HP.out.gone hW).put s (by exact k2) k1 HSG.out.2.1
              have f0 := (k2.cell (p := ⟨wr.heap.size, 0, none⟩) hlt2).trans e0
              have f1 := (k2.cell (p := ⟨wr.heap.size, 1, none⟩) hlt2).trans e1
              rw [HQ.out] at f1
              have hne : ¬ (wr.heap.size = w.heap.size) := by
                obtain ⟨V, hV⟩ := HP.out.f
                have := hV.mp.lt; omega
              have hbk : x3.heap[wr.heap.size]? = x2.heap[wr.heap.size]? := k5.block _ (Nat.lt_of_lt_of_le hlt2 k2.size) hne
              have g0 := (World.cell?_of_block (w := x2) (w' := x3) (a := ⟨wr.heap.size, 0, none⟩) hbk).trans f0
              have g1 := (World.cell?_of_block (w := x2) (w' := x3) (a := ⟨wr.heap.size, 1, none⟩) hbk).trans f1
              exact ⟨a', c', x3, rfl, k3, k4, ⟨f0, f1⟩, ⟨g0, g1⟩⟩
            clear hnm hfs hrm
            go_wp2_with (first
              | (refine wpList_load_mid rfl 59 (.tmp 22) rfl b (off + j * 2) rfl _ _ HRG.out Try.underlying59 rfl infoFil1 ?_)
              | ((fail_if_success (have z := H2)); refine wpList_store_bk 59 rfl (.tmp 9) (.tmp 23) rfl infoFil1 wr.heap.size #[.string .empty, .slice none 0 0] #[.string s, .slice ua q uc] rfl rfl HB1.out rfl rfl hone ?_; intro w2 s1 s2; obtain ⟨z1, z2, e0, e1⟩ := HLD.out w2 s1 s2; have H2 : Hid (Below wr.heap.size wr w2 ∧ wr.heap.size < w2.heap.size) := ⟨z1, z2⟩; clear z1 z2 s1 s2)
              | ((fail_if_success (have z := H3)); go_at_call 36; go_must (refine (Calls.mono (HNM.out w2) ?_)); rintro r x1 ⟨rfl, k1⟩; have d0 : x1.cell? ⟨wr.heap.size, 0, none⟩ = some (.string s) := (k1.cell (p := ⟨wr.heap.size, 0, none⟩) H2.out.2).trans e0; have d1' : x1.cell? ⟨wr.heap.size, 1, none⟩ = some (.slice ua q uc) := (k1.cell (p := ⟨wr.heap.size, 1, none⟩) H2.out.2).trans e1; have H3 : Hid (NwI w w.heap.size F x1 ∧ Below wr.heap.size wr x1 ∧ wr.heap.size < x1.heap.size) := ⟨(HP.out.gone H2.out.1).gone k1, H2.out.1.trans (k1.mono H2.out.1.size), Nat.lt_of_lt_of_le H2.out.2 k1.size⟩; clear k1)
              | (go_at_call 37; go_must (refine (Calls.mono (HHV.out _ H3.out.1) ?_)); rintro r wq ⟨rfl, hq⟩; obtain rfl := hq.symm; clear hq)
              | (go_at_call 38; go_must (refine (Calls.mono (HTK.out _) ?_)); rintro r wq ⟨rfl, hq⟩; obtain rfl := hq.symm; clear hq))
            have hSd : x1.drew.cell? ⟨wr.heap.size, 0, none⟩ = some (.string s) ∧ x1.drew.cell? ⟨wr.heap.size, 1, none⟩ = some (.slice ua q uc) := ⟨d0, d1'⟩
            go_region_held3 (fun W => W.cell? ⟨wr.heap.size, 0, none⟩ = some (.string s) ∧ W.cell? ⟨wr.heap.size, 1, none⟩ = some (.slice ua q uc)) (first | assumption) (first
              | (go_at_call 39; go_must (refine (Calls.mono (HPT.out x1.drew H3.out.2.1.drew H3.out.2.2 hSd.1 hSd.2) ?_)); rintro r x2 ⟨a', c', x3, rfl, hup, k4, hS2, hS3⟩; have H5 : Hid (NwI w w.heap.size (fset F s (some ys)) x3) := k4; clear k4))
            obtain ⟨g0, g1⟩ := hS3
            go_wp2_with (first
              | (go_at_call 38; go_must (refine (Calls.mono (HTK.out _) ?_)); rintro r wq ⟨rfl, hq⟩; obtain rfl := hq.symm; clear hq))
            go_roundw
            case rel => exact ⟨j + 1, fr - (s.size + q), fset F s (some ys), by omega, HFR.out, by first | rfl | go_num | (rw [← hw1]), by go_num, HE.out, H5.out⟩
            case measure => simp [intOf]; omega
    · obtain rfl : j = n := by omega
      have HE : Hid (RR = (0, F, fr)) := by
        show _ = _
        have := HI.out.1
        rw [List.take_of_length_le (by rw [List.length_map]; have := HN.out.1; omega)] at this
        rw [HRR.out]; exact this
      have HOK : Hid (NwOk room (0, F, fr)) := by
        show NwOk _ _
        rw [← HE.out, HRR.out]
        exact nwR_ok room _
      have HCP : Hid (Calls Try.prog 40 #[.map (some w.heap.size)] wr fun r w' => ∃ m, r = .returned (.map (some m)) ∧ wr.heap.size ≤ m ∧ Below wr.heap.size wr w' ∧ ∃ V', Fl (fun k => wr.heap.size ≤ k ∧ k < w'.heap.size) w' m V' F) := by
        obtain ⟨V, hV⟩ := HI.out.2.f
        exact copiedA_c _ wr hV (HOK.out.bnd HN.out.2)
      have HP : Hid (NwI w w.heap.size F wr) := HI.out.2
      clear HI
      go_wp2_with (go_at_call 40; go_must (refine (Calls.mono HCP.out ?_)); rintro r x1 ⟨m, rfl, k1, k2, k3⟩; have H2 : Hid (wr.heap.size ≤ m ∧ Below wr.heap.size wr x1 ∧ ∃ V', Fl (fun k => wr.heap.size ≤ k ∧ k < x1.heap.size) x1 m V' F) := ⟨k1, k2, k3⟩; clear k1 k2 k3)
      go_ret2
      obtain ⟨h1, h2, V', h3⟩ := H2.out
      have hp := HP.out.gone h2
      obtain ⟨V, h4⟩ := HP.out.f
      have h4' := h4.gr (G := fun _ => False) (Gr.ofB h2) (fun _ _ z => z)
      have hga : Below x1.heap.size x1 (x1.alloc (.cells (dcells room fr (some m) (some w.heap.size) (.slice none 0 0) 0 0 0 false) 83)) := (Below.refl _ _).alloc (Nat.le_refl _) _
      have sz := World.size_alloc x1 (.cells (dcells room fr (some m) (some w.heap.size) (.slice none 0 0) 0 0 0 false) 83)
      have hs1 := hp.b.size
      have hs2 := h2.size
      have hs3 := HP.out.b.size
      have hb2 : Below w.heap.size w x1 := hp.b
      refine ⟨hb2.alloc hs1 _, .inr ⟨by rw [HE.out], x1.heap.size, rfl, ?_⟩⟩
      rw [HE.out]
      refine ⟨m, w.heap.size, .slice none 0 0, V', V, [], fun k => wr.heap.size ≤ k ∧ k < x1.heap.size, fun k => w.heap.size ≤ k ∧ k < wr.heap.size, fun _ => False, ⟨(blk_new x1 83 _).1, h3.gr (G := fun _ => False) (Gr.ofB hga) (fun _ _ z => z), h4'.gr (G := fun _ => False) (Gr.ofB hga) (fun _ _ z => z), ⟨rfl, .inl ⟨rfl, rfl⟩⟩, ⟨rfl, fun i v p hv => by simp at hv⟩, ?_, ?_, fun k hk => hk.elim, by simp [Value.ownBlock]⟩, ?_⟩
      · rintro k ⟨z1, z2⟩
        exact ⟨by rw [World.size_alloc]; omega, by omega, by omega, fun z => z, by simp [Value.ownBlock]⟩
      · rintro k ⟨z1, z2⟩
        exact ⟨by rw [World.size_alloc]; omega, by omega, fun z => z, by simp [Value.ownBlock]⟩
      · rintro k (rfl | z | z | z | z)
        · exact ⟨by omega, by rw [World.size_alloc]; omega⟩
        · exact ⟨by omega, by rw [World.size_alloc]; omega⟩
        · exact ⟨by omega, by rw [World.size_alloc]; omega⟩
        · exact z.elim
        · simp [Value.ownBlock] at z
end Go.Proofs.Yteoohgjoffpmkaa
