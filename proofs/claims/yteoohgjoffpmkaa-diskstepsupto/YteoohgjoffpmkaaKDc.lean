/-
  What disk's Create and Append do. Condition: the numbers are below 2^60.
-/
import Derived.Test.YteoohgjoffpmkaaKDf
import Derived.Test.YteoohgjoffpmkaaKCl
namespace Go.Proofs.Yteoohgjoffpmkaa
open Go.RowKit
set_option linter.unusedVariables false

/-- What holds of every disk that a call made. -/
structure Dok (D : Dk) : Prop where
  ok : soks D.last D.steps
  bn : bnds D.last D.steps
  se : D.seen = sall D.last D.steps
  tot : ∃ n, Tot D.seen n ∧ D.free + n = D.room
  room : D.room ≤ 67108864
  nm : ∀ s xs, D.seen s = some xs → nmB s = true
  all : ∀ k, ∃ n, Tot (sfirst D.last D.steps k) n ∧ n ≤ D.room ∧ bnd (sfirst D.last D.steps k)
theorem Tot.le {F n} (h : Tot F n) (s : ByteArray) (xs : List Int) (hs : F s = some xs) : s.size + xs.length ≤ n := (h.del s xs hs).1
theorem Dok.bnd {D} (h : Dok D) : bnd D.seen := by
  obtain ⟨n, h1, h2⟩ := h.tot
  intro s xs hs
  have := h1.le s xs hs
  have := h.room
  exact ⟨by omega, h.nm s xs hs⟩
def doD (D : Dk) (p : Stp) (free' : Nat) : Dk := { D with free := free', seen := sdo D.seen p (scnt p), steps := D.steps ++ [p] }
theorem fset_nm {F : ByteArray → Option (List Int)} {t : ByteArray} {v : Option (List Int)} (h : ∀ s xs, F s = some xs → nmB s = true) (hv : v = none ∨ nmB t = true) : ∀ s xs, fset F t v s = some xs → nmB s = true := by
  intro s xs hs
  by_cases e : s = t
  · subst e
    rw [fset_same] at hs
    rcases hv with hv | hv
    · rw [hv] at hs; cases hs
    · exact hv
  · rw [fset_other _ _ _ _ e] at hs
    exact h s xs hs
theorem sdo_nm {F : ByteArray → Option (List Int)} {p : Stp} (h : ∀ s xs, F s = some xs → nmB s = true) (hp : sok F p) (hq : (p.kind = 1 → nmB p.s = true) ∧ (p.kind = 4 → nmB p.t = true)) (k : Nat) : ∀ s xs, sdo F p k s = some xs → nmB s = true := by
  have hin : F p.s ≠ none → nmB p.s = true := fun e => by
    obtain ⟨ys, hy⟩ := Option.ne_none_iff_exists'.1 e
    exact h _ _ hy
  unfold sdo
  split
  · rename_i h1; exact fset_nm h (.inr (hq.1 h1))
  split
  · rename_i h1; exact fset_nm h (.inr (hin (hp.2.2.2.1 h1).1))
  split
  · rename_i h1
    obtain ⟨ys, hy, _⟩ := hp.2.2.2.2.1 h1
    exact fset_nm h (.inr (h _ _ hy))
  split
  · rename_i h1; exact fset_nm (fset_nm h (.inl rfl)) (.inr (hq.2 h1))
  · exact fset_nm h (.inl rfl)
theorem sfirst_snoc (F : ByteArray → Option (List Int)) (L : List Stp) (p : Stp) (k : Nat) : sfirst F (L ++ [p]) k = if k ≤ scnts L then sfirst F L k else sdo (sall F L) p (k - scnts L) := by
  induction L generalizing F k with
  | nil =>
    show (if k = 0 then F else sfirst (sdo F p k) [] (k - scnt p)) = if k ≤ 0 then F else sdo F p (k - 0)
    by_cases h : k = 0
    · rw [if_pos h, if_pos (by omega)]
    · rw [if_neg h, if_neg (by omega)]; rfl
  | cons q L ih =>
    have hc : scnts (q :: L) = scnt q + scnts L := rfl
    rw [List.cons_append, hc]
    by_cases h0 : k = 0
    · subst h0
      rw [if_pos (by omega), sfirst_zero, sfirst_zero]
    · rw [sfirst_cons _ _ _ _ (by omega), sfirst_cons _ _ _ _ (by omega), ih]
      by_cases h1 : k - scnt q ≤ scnts L
      · rw [if_pos h1, if_pos (by omega)]
      · rw [if_neg h1, if_neg (by omega), sdo_more F q k (by omega), Nat.sub_sub]; rfl
/-- A step that is done in part takes no more than the whole. -/
theorem tot_part {F : ByteArray → Option (List Int)} {p : Stp} {n0 n : Nat} (h0 : Tot F n0) (hp : sok F p) (hn : Tot (sdo F p (scnt p)) n) (j : Nat) (hj : 0 < j) : ∃ m, Tot (sdo F p j) m ∧ m ≤ n := by
  by_cases hc : scnt p ≤ j
  · rw [sdo_more F p j hc]; exact ⟨n, hn, Nat.le_refl _⟩
  · by_cases h2 : p.kind = 2
    · obtain ⟨xs, hx⟩ := Option.ne_none_iff_exists'.1 (hp.2.2.2.1 h2).1
      have e : ∀ i, sdo F p i = fset F p.s (some (xs ++ p.xs.take i)) := fun i => by simp [sdo, h2, hx]
      have z := h0.set p.s xs (xs ++ p.xs.take j) hx
      have y := h0.set p.s xs (xs ++ p.xs.take (scnt p)) hx
      rw [e] at hn ⊢
      have := hn.uniq y
      refine ⟨_, z, ?_⟩
      rw [this]
      simp only [List.length_append, List.length_take]
      omega
    · have : scnt p = 1 := by simp [scnt, h2]
      omega
theorem Dok.doD {D} (h : Dok D) (p : Stp) (free' : Nat) (hp : sok D.seen p) (ht : ∃ n, Tot (sdo D.seen p (scnt p)) n ∧ free' + n = D.room) (hq : (p.kind = 1 → nmB p.s = true) ∧ (p.kind = 4 → nmB p.t = true)) : Dok (doD D p free') := by
  have hse := h.se
  have hnm := sdo_nm h.nm hp hq (scnt p)
  refine ⟨soks_snoc h.ok (hse ▸ hp), bnds_snoc h.bn ?_, ?_, ht, h.room, hnm, ?_⟩
  · obtain ⟨n, h1, h2⟩ := ht
    intro s xs hs
    replace hs : sdo D.seen p (scnt p) s = some xs := by rw [hse]; exact hs
    have := h1.le s xs hs
    have := h.room
    exact ⟨by omega, hnm s xs hs⟩
  · show sdo D.seen p (scnt p) = sall D.last (D.steps ++ [p])
    rw [sall_snoc, ← hse]
  · intro k
    show ∃ n, Tot (sfirst D.last (D.steps ++ [p]) k) n ∧ n ≤ D.room ∧ Go.Proofs.Yteoohgjoffpmkaa.bnd (sfirst D.last (D.steps ++ [p]) k)
    rw [sfirst_snoc]
    by_cases hk : k ≤ scnts D.steps
    · rw [if_pos hk]
      exact h.all k
    · rw [if_neg hk, ← hse]
      obtain ⟨n0, h0, _⟩ := h.tot
      obtain ⟨n, hn, hr⟩ := ht
      obtain ⟨m, hm1, hm2⟩ := tot_part h0 hp hn (k - scnts D.steps) (by omega)
      have hrm := h.room
      refine ⟨m, hm1, by omega, fun s xs hs => ⟨?_, sdo_nm h.nm hp hq _ s xs hs⟩⟩
      have := hm1.le s xs hs
      omega
theorem bgD_seen (D : Dk) (need : Int) : (bgD D need).seen = D.seen ∧ (bgD D need).last = D.last ∧ (bgD D need).steps = D.steps ∧ (bgD D need).free = D.free ∧ (bgD D need).room = D.room := by
  unfold bgD
  split <;> exact ⟨rfl, rfl, rfl, rfl, rfl⟩
theorem Dok.bg {D} (h : Dok D) (need : Int) : Dok (bgD D need) := by
  obtain ⟨h1, h2, h3, h4, h5⟩ := bgD_seen D need
  exact ⟨by rw [h2, h3]; exact h.ok, by rw [h2, h3]; exact h.bn, by rw [h1, h2, h3]; exact h.se, by rw [h1, h4, h5]; exact h.tot, by rw [h5]; exact h.room, by rw [h1]; exact h.nm, by rw [h2, h3, h5]; exact h.all⟩
/-- What an act of a disk leaves. -/
def ActA (G : Nat → Prop) (w : World) (g : Nat) (R : Int × Dk) (r : Ending) (w' : World) : Prop :=
  r = .returned (.int .i64 R.1) ∧ DkM (fun k => G k ∨ (w.heap.size ≤ k ∧ k < w'.heap.size)) w' g R.2 ∧ Gr G w w' ∧ Dok R.2
/-- The numbers of a disk are small. -/
def Dsm (D : Dk) : Prop := D.acts ≤ 1152921504606846976 ∧ D.fail ≤ 9223372036854775807 ∧ scnts D.steps ≤ 1152921504539738112 ∧ D.steps.length ≤ 1099511627775
theorem act_same {G : Nat → Prop} {w w' : World} {g s l st V U vs Os Ol Od D} (h : DkI w' g s l st V U vs Os Ol Od D) (hG : ∀ k, (k = g ∨ Os k ∨ Ol k ∨ Od k ∨ st.ownBlock = some k) → G k) (hg : Gr G w w') (hd : Dok D) (e : Int) : ActA G w g (e, D) (.returned (.int .i64 e)) w' :=
  ⟨rfl, ⟨s, l, st, V, U, vs, Os, Ol, Od, h, fun k hk => .inl (hG k hk)⟩, hg, hd⟩
theorem act_do {G Os Ol Od Od0 : Nat → Prop} {w x w' : World} {g s l st U vs' D' r} (h : DoA x g s l st U Os Ol Od vs' D' r w') (hG : ∀ k, (k = g ∨ Os k ∨ Ol k ∨ Od0 k ∨ st.ownBlock = some k) → G k) (hOd : ∀ k, Od k → Od0 k ∨ w.heap.size ≤ k) (hg : Gr G w x) (hd : Dok D') : ActA G w g (0, D') (.returned (.int .i64 0)) w' := by
  obtain ⟨_, ⟨st', V', Os', q1, q2, q3⟩, q4⟩ := h
  have hz := hg.size
  refine ⟨rfl, ⟨s, l, st', V', U, vs', Os', Ol, Od, q1, fun k hk => ?_⟩, hg.then q4 (fun k hk h2 => ?_), hd⟩
  · rcases hk with hk | hk | hk | hk | hk
    · exact .inl (hG k (.inl hk))
    · have z := (q1.hs k hk).1
      rcases q2 k hk with q | q
      · exact .inl (hG k (.inr (.inl q)))
      · exact .inr ⟨by omega, z⟩
    · exact .inl (hG k (.inr (.inr (.inl hk))))
    · have z := (q1.hd k hk).1
      rcases hOd k hk with q | q
      · exact .inl (hG k (.inr (.inr (.inr (.inl q)))))
      · exact .inr ⟨q, z⟩
    · have z := (own_lt q1.row k hk).2
      rcases q3 k hk with q | q
      · exact .inl (hG k (.inr (.inr (.inr (.inr q)))))
      · exact .inr ⟨by omega, z⟩
  · rcases h2 with q | q | q
    · exact hG k (.inl q)
    · exact hG k (.inr (.inl q))
    · exact hG k (.inr (.inr (.inr (.inr q))))
theorem rd_nm {D : Dk} {n : ByteArray} (h : rdE D [n] = 0) : nmB n = true := by
  unfold rdE at h
  split at h
  · cases h
  · split at h
    · rename_i ha; simpa using ha
    · cases h
/-- What Create answers, and the disk behind it. -/
def crR (D : Dk) (n : ByteArray) : Int × Dk :=
  if rdE D [n] ≠ 0 then (rdE D [n], D) else if (D.seen n).isSome then (122, D) else if bgE D n.size ≠ 0 then (bgE D n.size, bgD D n.size) else (0, doD (bgD D n.size) ⟨1, n, n, [], 0⟩ (D.free - n.size))
theorem bg_ok {D : Dk} {need : Int} (h : bgE D need = 0) : need ≤ D.free := by
  unfold bgE at h
  split at h
  · cases h
  · omega
theorem Dok.create {D} (h : Dok D) (n : ByteArray) (hn : D.seen n = none) (hf : n.size ≤ D.free) : sok D.seen ⟨1, n, n, [], 0⟩ ∧ ∃ m, Tot (sdo D.seen ⟨1, n, n, [], 0⟩ (scnt ⟨1, n, n, [], 0⟩)) m ∧ D.free - n.size + m = D.room := by
  obtain ⟨m, h1, h2⟩ := h.tot
  refine ⟨⟨by simp, by simp, fun _ => hn, by simp, by simp, by simp, by simp⟩, m + (n.size + 0), ?_, by omega⟩
  exact h1.add n [] hn
set_option maxRecDepth 20000 in
set_option maxHeartbeats 2000000 in
theorem createA_c {G : Nat → Prop} (n : ByteArray) (w : World) (g : Nat) (D : Dk) (h : DkM G w g D) (hd : Dok D) (hm : Dsm D) (hl : n.size ≤ 140737488355328) :
    Calls Try.prog 51 #[.pointer (some ⟨g, 0, none⟩), .string n] w (ActA G w g (crR D n)) := by
  obtain ⟨s, l, st, V, U, vs, Os, Ol, Od, h, hG⟩ := h
  obtain ⟨W1, hW1⟩ : ∃ W1, W1 = w.alloc (.cells #[.string n] 9) := ⟨_, rfl⟩
  have b1 : Below w.heap.size w W1 := by rw [hW1]; exact (Below.refl _ _).alloc (Nat.le_refl _) _
  have z1 : W1.heap.size = w.heap.size + 1 := by rw [hW1]; exact World.size_alloc _ _
  have h1 := h.below b1
  have HR : Hid (Calls Try.prog 54 #[.pointer (some ⟨g, 0, none⟩), .slice (some ⟨w.heap.size, 0, none⟩) 1 1] W1 fun r w' => r = .returned (.int .i64 (rdE D [n])) ∧ Below W1.heap.size W1 w') :=
    readyA_c g w.heap.size 1 1 _ _ s l st _ _ _ _ [n] W1 h1.bk (by rw [hW1]; exact txs_one w n) rfl (by omega) (by omega) (by intro q hq; rcases List.mem_singleton.1 hq with rfl; exact hl)
  have HB : Hid (∀ w2, Below W1.heap.size W1 w2 → Gr G w w2 ∧ DkI w2 g s l st V U vs Os Ol Od D) := fun w2 hb => ⟨Gr.ofB (b1.trans ⟨hb.os, hb.tape, hb.output, hb.size, fun j hj => hb.block j (by omega)⟩), h1.below hb⟩
  have HG : Hid (∀ k, (k = g ∨ Os k ∨ Ol k ∨ Od k ∨ st.ownBlock = some k) → G k) := hG
  have HD : Hid (Dok D ∧ Dsm D) := ⟨hd, hm⟩
  have HC : Hid (crR D n = if rdE D [n] ≠ 0 then (rdE D [n], D) else if (D.seen n).isSome then (122, D) else if bgE D n.size ≠ 0 then (bgE D n.size, bgD D n.size) else (0, doD (bgD D n.size) ⟨1, n, n, [], 0⟩ (D.free - n.size))) := rfl
  have hsz : (n.size : Int) ≤ 140737488355328 := by omega
  clear h h1 b1 z1 hl hG hd hm
  rw [hW1] at HR
  rw [HC.out]
  clear HC
  by_cases he : rdE D [n] = 0
  · have HNM : Hid (nmB n = true) := rd_nm he
    rw [he] at HR
    rw [if_neg (by simpa using he)]
    clear he
    cases hs : D.seen n with
    | some xs =>
      have HN : Hid (D.seen n = some xs) := hs
      clear hs
      rw [if_pos (by rfl)]
      go_enter Try.func51, Try.ntmps51
      go_wp2_with (first
        | (go_at_call 54; go_must (refine (Calls.mono HR.out ?_)); rintro r x1 ⟨rfl, k1⟩; rw [← hW1] at k1; have H1 : Hid (Gr G w x1 ∧ DkI x1 g s l st V U vs Os Ol Od D) := HB.out x1 k1; have c2 : x1.cell? ⟨g, 2, none⟩ = some (.map (some s)) := Bk.cell H1.out.2.bk 2; clear k1 hW1)
        | (go_at_call 37; go_must (refine (Calls.mono (haveA_c s V D.seen n _ H1.out.2.seen) ?_)); rintro r wq ⟨rfl, hq⟩; obtain rfl := hq.symm; clear hq; rw [HN.out]))
      go_ret
      exact act_same H1.out.2 HG.out H1.out.1 HD.out.1 122
    | none =>
      have HN : Hid (D.seen n = none) := hs
      clear hs
      rw [if_neg (by simp)]
      by_cases hb : bgE D n.size = 0
      · have HE : Hid (bgE D n.size = 0) := hb
        rw [if_neg (by simpa using hb)]
        clear hb
        have HF : Hid (∀ x2 x, Gr G w x2 → DoA x2 g s l st U Os Ol Od (vs ++ [.iface 118 (.agg #[.string n])]) (doD (bgD D n.size) ⟨1, n, n, [], 0⟩ (D.free - n.size)) (.returned (.tuple #[])) x → ActA G w g (0, doD (bgD D n.size) ⟨1, n, n, [], 0⟩ (D.free - n.size)) (.returned (.int .i64 0)) x) := by
          show ∀ x2 x, _
          intro x2 x k1 k2
          have z := HD.out.1.create n HN.out (by have := bg_ok HE.out; omega)
          obtain ⟨e1, e2, e3, e4, e5⟩ := bgD_seen D n.size
          exact act_do k2 HG.out (fun k hk => .inl hk) k1 ((HD.out.1.bg n.size).doD _ _ (by rw [e1]; exact z.1) (by rw [e1, e5]; exact z.2) ⟨fun _ => HNM.out, by simp⟩)
        have HDO : Hid (∀ x2, DkI x2 g s l st V U vs Os Ol Od (bgD D n.size) → Calls Try.prog 75 #[.pointer (some ⟨g, 0, none⟩), .iface 118 (.agg #[.string n]), .int .i64 (n.size : Int)] x2 (DoA x2 g s l st U Os Ol Od (vs ++ [.iface 118 (.agg #[.string n])]) (doD (bgD D n.size) ⟨1, n, n, [], 0⟩ (D.free - n.size)))) := by
          show ∀ x2, _
          intro x2 k1
          have hbo := bg_ok HE.out
          have z := HD.out.1.create n HN.out (by omega)
          obtain ⟨e1, e2, e3, e4, e5⟩ := bgD_seen D n.size
          obtain ⟨m, _, hm2⟩ := HD.out.1.tot
          have hrm := HD.out.1.room
          obtain ⟨_, _, s3, s4⟩ := HD.out.2
          exact doD_c _ ⟨1, n, n, [], 0⟩ n.size (D.free - n.size) x2 k1 (.inl ⟨rfl, rfl⟩) (by rw [e1]; exact z.1) (by rw [e1]; exact HD.out.1.bnd) (by rw [e4]; omega) (by rw [e4]; omega) (by omega) ⟨by omega, by omega⟩ (by rw [e3]; show _ + 1 ≤ _; omega) (by rw [e3]; omega)
        go_enter Try.func51, Try.ntmps51
        go_wp2_with (first
          | (go_at_call 54; go_must (refine (Calls.mono HR.out ?_)); rintro r x1 ⟨rfl, k1⟩; rw [← hW1] at k1; have H1 : Hid (Gr G w x1 ∧ DkI x1 g s l st V U vs Os Ol Od D) := HB.out x1 k1; have c2 : x1.cell? ⟨g, 2, none⟩ = some (.map (some s)) := Bk.cell H1.out.2.bk 2; clear k1 hW1)
          | (go_at_call 37; go_must (refine (Calls.mono (haveA_c s V D.seen n _ H1.out.2.seen) ?_)); rintro r wq ⟨rfl, hq⟩; obtain rfl := hq.symm; clear hq; rw [HN.out])
          | ((fail_if_success (have z := H2)); go_at_call 55; go_must (refine (Calls.mono (beginA_c n.size _ H1.out.2 HD.out.2.1 HD.out.2.2.1) ?_)); rintro r x2 ⟨rfl, k1, k2, k3⟩; rw [HE.out]; have H2 : Hid (Gr G w x2 ∧ DkI x2 g s l st V U vs Os Ol Od (bgD D n.size)) := ⟨H1.out.1.trans (k2.wide (fun k _ e => HG.out k (.inl e))), k1⟩; clear k1 k2 k3)
          | (go_at_call 75; go_must (refine (Calls.mono (HDO.out _ H2.out.2) ?_)); rintro r x3 k1; have hrr : r = .returned (.tuple #[]) := k1.1; subst hrr; have H3 : Hid (ActA G w g (0, doD (bgD D n.size) ⟨1, n, n, [], 0⟩ (D.free - n.size)) (.returned (.int .i64 0)) x3) := HF.out _ _ H2.out.1 k1; clear k1))
        go_ret
        exact H3.out
      · rw [if_pos hb]
        obtain ⟨E, hE⟩ : ∃ E, E = bgE D n.size := ⟨_, rfl⟩
        have hEb : (E == 0) = false := by rw [hE]; simpa using hb
        have HE : Hid (bgE D n.size = E) := hE.symm
        rw [← hE]
        clear hE hb
        go_enter Try.func51, Try.ntmps51
        go_wp2_with (first
          | (go_at_call 54; go_must (refine (Calls.mono HR.out ?_)); rintro r x1 ⟨rfl, k1⟩; rw [← hW1] at k1; have H1 : Hid (Gr G w x1 ∧ DkI x1 g s l st V U vs Os Ol Od D) := HB.out x1 k1; have c2 : x1.cell? ⟨g, 2, none⟩ = some (.map (some s)) := Bk.cell H1.out.2.bk 2; clear k1 hW1)
          | (go_at_call 37; go_must (refine (Calls.mono (haveA_c s V D.seen n _ H1.out.2.seen) ?_)); rintro r wq ⟨rfl, hq⟩; obtain rfl := hq.symm; clear hq; rw [HN.out])
          | (go_at_call 55; go_must (refine (Calls.mono (beginA_c n.size _ H1.out.2 HD.out.2.1 HD.out.2.2.1) ?_)); rintro r x2 ⟨rfl, k1, k2, k3⟩; rw [HE.out]; have H2 : Hid (Gr G w x2 ∧ DkI x2 g s l st V U vs Os Ol Od (bgD D n.size)) := ⟨H1.out.1.trans (k2.wide (fun k _ e => HG.out k (.inl e))), k1⟩; clear k1 k2 k3))
        go_ret
        exact act_same H2.out.2 HG.out H2.out.1 (HD.out.1.bg _) E
  · rw [if_pos he]
    obtain ⟨E, hE⟩ : ∃ E, E = rdE D [n] := ⟨_, rfl⟩
    rw [← hE] at HR he ⊢
    have hb : (E == 0) = false := by simpa using he
    clear he hE
    go_enter Try.func51, Try.ntmps51
    go_wp2_with (go_at_call 54; go_must (refine (Calls.mono HR.out ?_)); rintro r x1 ⟨rfl, k1⟩; rw [← hW1] at k1; have H1 : Hid (Gr G w x1 ∧ DkI x1 g s l st V U vs Os Ol Od D) := HB.out x1 k1; clear k1 hW1)
    go_ret
    exact act_same H1.out.2 HG.out H1.out.1 HD.out.1 E
end Go.Proofs.Yteoohgjoffpmkaa
