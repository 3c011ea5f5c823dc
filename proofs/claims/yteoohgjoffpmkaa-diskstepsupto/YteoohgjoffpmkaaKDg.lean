/-
  What disk's Append does. Condition: the numbers are below 2^60.
-/
import Derived.Test.YteoohgjoffpmkaaKDc
namespace Go.Proofs.Yteoohgjoffpmkaa
open Go.RowKit
set_option linter.unusedVariables false

theorem DkI.addOd {w x : World} {g s l st V U vs Os Ol Od D} (h : DkI w g s l st V U vs Os Ol Od D) (hb : Below w.heap.size w x) : DkI x g s l st V U vs Os Ol (fun k => Od k ∨ (w.heap.size ≤ k ∧ k < x.heap.size)) D := by
  have hst : ∀ k, st.ownBlock = some k → k < w.heap.size := fun k hk => (own_lt h.row k hk).2
  have hgl := lt_of_block h.bk
  have h1 := h.below hb
  refine ⟨h1.bk, h1.seen, h1.last, h1.row, h1.stl.weak (fun k hk => .inl hk), fun k hk => ?_, fun k hk => ?_, fun k hk => ?_, h1.hg⟩
  · have z := h1.hs k hk
    have z2 := (h.hs k hk).1
    exact ⟨z.1, z.2.1, z.2.2.1, fun q => q.elim z.2.2.2.1 (fun q => by omega), z.2.2.2.2⟩
  · have z := h1.hl k hk
    have z2 := (h.hl k hk).1
    exact ⟨z.1, z.2.1, fun q => q.elim z.2.2.1 (fun q => by omega), z.2.2.2⟩
  · rcases hk with hk | hk
    · exact h1.hd k hk
    · exact ⟨hk.2, by omega, fun e => by have := hst k e; omega⟩
/-- What Append answers, and the disk behind it. -/
def apR (D : Dk) (n : ByteArray) (ys : List Int) : Int × Dk :=
  if rdE D [n] ≠ 0 then (rdE D [n], D) else if D.seen n = none then (121, D) else if bgE D ys.length ≠ 0 then (bgE D ys.length, bgD D ys.length) else if ys.length = 0 then (0, bgD D ys.length) else (0, doD (bgD D ys.length) ⟨2, n, n, ys, 0⟩ (D.free - ys.length))
theorem Dok.extend {D} (h : Dok D) (n : ByteArray) (ys xs : List Int) (hn : D.seen n = some xs) (hy : 0 < ys.length) (hf : ys.length ≤ D.free) : sok D.seen ⟨2, n, n, ys, 0⟩ ∧ ∃ m, Tot (sdo D.seen ⟨2, n, n, ys, 0⟩ (scnt ⟨2, n, n, ys, 0⟩)) m ∧ D.free - ys.length + m = D.room := by
  obtain ⟨m, h1, h2⟩ := h.tot
  have hle := h1.le n xs hn
  have e : sdo D.seen ⟨2, n, n, ys, 0⟩ (scnt ⟨2, n, n, ys, 0⟩) = fset D.seen n (some (xs ++ ys)) := by
    simp [sdo, scnt, hn]
  refine ⟨⟨by simp, by simp, by simp, fun _ => ⟨by rw [hn]; simp, hy⟩, by simp, by simp, by simp⟩, m - xs.length + (xs ++ ys).length, ?_, by rw [List.length_append]; omega⟩
  rw [e]
  exact h1.set n xs (xs ++ ys) hn
set_option maxRecDepth 20000 in
set_option maxHeartbeats 2000000 in
theorem appendA_c {G : Nat → Prop} (n : ByteArray) (a : Option Addr) (len cap : Nat) (ys : List Int) (w : World) (g : Nat) (D : Dk) (h : DkM G w g D) (hd : Dok D) (hm : Dsm D) (hl : n.size ≤ 140737488355328) (hy : Seg .u8 w a len ys) (hyb : Bytes ys) (hnz : a = none → cap = 0) (hyl : len ≤ 140737488355328) (hga : ∀ b o q, a = some ⟨b, o, q⟩ → ¬ G b) :
    Calls Try.prog 52 #[.pointer (some ⟨g, 0, none⟩), .string n, .slice a len cap] w (ActA G w g (apR D n ys)) := by
  obtain ⟨s, l, st, V, U, vs, Os, Ol, Od, h, hG⟩ := h
  obtain rfl : len = ys.length := hy.1.symm
  obtain ⟨m, hm1⟩ : ∃ m, m = ys.length := ⟨_, rfl⟩
  have HR : Hid (Calls Try.prog 65 #[.pointer (some ⟨g, 0, none⟩), .string n] w (FindA w V D n)) := findA_c n w h hl
  have HB : Hid (∀ w2, Below w.heap.size w w2 → Gr G w w2 ∧ DkI w2 g s l st V U vs Os Ol Od D ∧ Seg .u8 w2 a m ys) := fun w2 hb => ⟨Gr.ofB hb, h.below hb, by rw [hm1]; exact hy.gr (G := fun _ => False) (Gr.ofB hb) (fun _ _ _ _ z => z)⟩
  have HG : Hid ((∀ k, (k = g ∨ Os k ∨ Ol k ∨ Od k ∨ st.ownBlock = some k) → G k) ∧ ∀ b o q, a = some ⟨b, o, q⟩ → ¬ G b) := ⟨hG, hga⟩
  have HD : Hid (Dok D ∧ Dsm D ∧ Bytes ys ∧ m = ys.length ∧ m ≤ 140737488355328) := ⟨hd, hm, hyb, hm1, by rw [hm1]; exact hyl⟩
  have HNZ : Hid (a = none → cap = 0) := hnz
  have HC : Hid (apR D n ys = if rdE D [n] ≠ 0 then (rdE D [n], D) else if D.seen n = none then (121, D) else if bgE D m ≠ 0 then (bgE D m, bgD D m) else if m = 0 then (0, bgD D m) else (0, doD (bgD D m) ⟨2, n, n, ys, 0⟩ (D.free - m))) := by rw [hm1]; rfl
  rw [HC.out, ← hm1]
  clear h hl hG hd hm HC hy hyb hnz hyl hga hm1
  have HFE : Hid (∀ r x1, FindA w V D n r x1 → (rdE D [n] ≠ 0 ∧ r = .returned (.tuple #[.slice none 0 0, .int .i64 (rdE D [n])])) ∨ (rdE D [n] = 0 ∧ D.seen n = none ∧ r = .returned (.tuple #[.slice none 0 0, .int .i64 121])) ∨ (rdE D [n] = 0 ∧ ∃ v, V n = some v ∧ r = .returned (.tuple #[v, .int .i64 0]))) := fun r x1 hx => hx.2
  by_cases he : rdE D [n] = 0
  · rw [if_neg (by simpa using he)]
    by_cases hs : D.seen n = none
    · rw [if_pos hs]
      have HE : Hid (rdE D [n] = 0 ∧ D.seen n = none) := ⟨he, hs⟩
      clear he hs
      go_enter Try.func52, Try.ntmps52
      go_wp2_with (go_at_call 65; go_must (refine (Calls.mono HR.out ?_)); rintro r x1 hx; have H1 : Hid (Gr G w x1 ∧ DkI x1 g s l st V U vs Os Ol Od D ∧ Seg .u8 x1 a m ys) := HB.out x1 hx.1; have hrr : r = .returned (.tuple #[.slice none 0 0, .int .i64 121]) := (by rcases hx.2 with q | q | q; exact absurd HE.out.1 q.1; exact q.2.2; obtain ⟨_, v, q2, _⟩ := q; obtain ⟨xs, q3, _⟩ := H1.out.2.1.seen.is n v q2; rw [HE.out.2] at q3; cases q3); subst hrr; clear hx)
      go_ret
      exact act_same H1.out.2.1 HG.out.1 H1.out.1 HD.out.1 121
    · rw [if_neg hs]
      obtain ⟨xs, hxs⟩ := Option.ne_none_iff_exists'.1 hs
      have HE : Hid (rdE D [n] = 0 ∧ D.seen n = some xs) := ⟨he, hxs⟩
      have HV : Hid (∀ r x1, FindA w V D n r x1 → ∃ v2 n2 c2, r = .returned (.tuple #[.slice v2 n2 c2, .int .i64 0])) := by
        show ∀ r x1, _
        intro r x1 hx
        rcases hx.2 with q | q | ⟨_, v, q2, q3⟩
        · exact absurd HE.out.1 q.1
        · rw [HE.out.2] at q; cases q.2.1
        · obtain ⟨zs, _, q4, _⟩ := (HB.out x1 hx.1).2.1.seen.is n v q2
          obtain ⟨a2, c2, rfl, _⟩ := q4.seg
          exact ⟨a2, _, c2, q3⟩
      clear he hs hxs
      by_cases hb : bgE D m = 0
      · rw [if_neg (by simpa using hb)]
        have HEb : Hid (bgE D m = 0) := hb
        clear hb
        by_cases h0 : m = 0
        · rw [if_pos h0]
          have hz0 : (m : Int) = 0 := by omega
          rw [h0] at HEb ⊢
          have H0 : Hid (m = 0) := h0
          subst h0
          clear hz0
          go_enter Try.func52, Try.ntmps52
          go_wp2_with (first
            | (go_at_call 65; go_must (refine (Calls.mono HR.out ?_)); rintro r x1 hx; have H1 : Hid (Gr G w x1 ∧ DkI x1 g s l st V U vs Os Ol Od D ∧ Seg .u8 x1 a 0 ys) := HB.out x1 hx.1; obtain ⟨v2, n2, c2, hrr⟩ := HV.out r x1 hx; subst hrr; clear hx)
            | (go_at_call 55; go_must (refine (Calls.mono (beginA_c _ _ H1.out.2.1 HD.out.2.1.1 HD.out.2.1.2.1) ?_)); rintro r x2 ⟨rfl, k1, k2, k3⟩; have H2 : Hid (Gr G w x2 ∧ DkI x2 g s l st V U vs Os Ol Od (bgD D ((0 : Nat) : Int))) := ⟨H1.out.1.trans (k2.wide (fun k _ e => HG.out.1 k (.inl e))), k1⟩; have hee := HEb.out; simp only [Int.ofNat_zero] at hee; rw [hee]; clear hee k1 k2 k3))
          go_ret
          exact act_same H2.out.2 HG.out.1 H2.out.1 (HD.out.1.bg _) 0
        · rw [if_neg h0]
          have hpos : (0 : Int) < m := by omega
          have HP : Hid (0 < m) := by show _ < _; omega
          clear h0
          have HCL : Hid (∀ x2, Seg .u8 x2 a m ys → Calls Try.prog 39 #[.slice a m cap] x2 fun r w' => ∃ a' c', r = .returned (.slice a' m c') ∧ Own x2.heap.size w' (.slice a' m c') m ys ∧ Below x2.heap.size x2 w') := fun x2 hx => kclone_c a m cap ys x2 hx HD.out.2.2.2.2 HNZ.out
          have HDO : Hid (∀ x2 x3 a' c', Gr G w x2 → DkI x2 g s l st V U vs Os Ol Od (bgD D m) → Own x2.heap.size x3 (.slice a' m c') m ys → Below x2.heap.size x2 x3 → Calls Try.prog 75 #[.pointer (some ⟨g, 0, none⟩), .iface 120 (.agg #[.string n, .slice a' m c']), .int .i64 (m : Int)] x3 fun r x4 => r = .returned (.tuple #[]) ∧ ActA G w g (0, doD (bgD D m) ⟨2, n, n, ys, 0⟩ (D.free - m)) (.returned (.int .i64 0)) x4) := by
            show ∀ x2 x3 a' c', _
            intro x2 x3 a' c' q1 q2 q3 q4
            obtain ⟨d1, d2, d3, d4, d5⟩ := HD.out
            have hbo := bg_ok HEb.out
            have z := d1.extend n ys xs HE.out.2 (by rw [← d4]; exact HP.out) (by omega)
            obtain ⟨e1, e2, e3, e4, e5⟩ := bgD_seen D m
            obtain ⟨mm, _, hm2⟩ := d1.tot
            have hrm := d1.room
            obtain ⟨_, _, s3, s4⟩ := d2
            have hown := q3
            obtain ⟨a9, c9, e9, hsg, hn9, hle⟩ := q3.seg
            cases e9
            have hlt := own_lt hown
            have hsz := q1.size
            have hab : ∀ b o q, a' = some ⟨b, o, q⟩ → x2.heap.size ≤ b ∧ b < x3.heap.size := by
              intro b o q e
              subst e
              exact hlt b rfl
            have hcn : scnt ⟨2, n, n, ys, 0⟩ = m := by rw [d4]; rfl
            rw [d4] at hsg hle ⊢
            refine Calls.mono (doD_c _ ⟨2, n, n, ys, 0⟩ ys.length (D.free - ys.length) x3 (q2.addOd q4) (.inr (.inl ⟨rfl, a', c', rfl, hsg, d3, hn9, hle, (by show ys.length ≤ 67108864; rw [← d4]; omega), fun b o q e => .inr (hab b o q e)⟩)) (by rw [e1]; exact z.1) (by rw [e1]; exact d1.bnd) (by rw [← d4, e4]; omega) (by rw [e4]; omega) (by omega) ⟨by omega, by omega⟩ (by rw [hcn, e3]; omega) (by rw [e3]; omega)) ?_
            intro r x4 k1
            refine ⟨k1.1, ?_⟩
            have k2 : DoA x3 g s l st U Os Ol (fun k => Od k ∨ (x2.heap.size ≤ k ∧ k < x3.heap.size)) (vs ++ [.iface 120 (.agg #[.string n, .slice a' ys.length c'])]) (doD (bgD D m) ⟨2, n, n, ys, 0⟩ (D.free - ys.length)) r x4 := by
              rw [d4]; rw [d4] at k1; exact k1
            have z2 := (d1.bg m).doD ⟨2, n, n, ys, 0⟩ (D.free - ys.length) (by rw [e1]; exact z.1) (by rw [e1, e5]; exact z.2) ⟨by simp, by simp⟩
            have := act_do (w := w) k2 HG.out.1 (fun k hk => hk.elim .inl (fun hk => .inr (by omega))) (q1.trans (Gr.ofB q4)) z2
            rw [d4] at this
            exact this
          go_enter Try.func52, Try.ntmps52
          go_wp2_with (first
            | (go_at_call 65; go_must (refine (Calls.mono HR.out ?_)); rintro r x1 hx; have H1 : Hid (Gr G w x1 ∧ DkI x1 g s l st V U vs Os Ol Od D ∧ Seg .u8 x1 a m ys) := HB.out x1 hx.1; obtain ⟨v2, n2, c2, hrr⟩ := HV.out r x1 hx; subst hrr; clear hx)
            | (go_at_call 55; go_must (refine (Calls.mono (beginA_c _ _ H1.out.2.1 HD.out.2.1.1 HD.out.2.1.2.1) ?_)); rintro r x2 ⟨rfl, k1, k2, k3⟩; have H2 : Hid (Gr G w x2 ∧ DkI x2 g s l st V U vs Os Ol Od (bgD D m) ∧ Seg .u8 x2 a m ys) := ⟨H1.out.1.trans (k2.wide (fun k _ e => HG.out.1 k (.inl e))), k1, H1.out.2.2.gr k2 (fun b o q e1 e2 => HG.out.2 b o q e1 (HG.out.1 b (.inl e2)))⟩; rw [HEb.out]; clear k1 k2 k3)
            | (go_at_call 39; go_must (refine (Calls.mono (HCL.out _ H2.out.2.2) ?_)); rintro r x3 ⟨a', c', rfl, k1, k2⟩; have H3 : Hid (Calls Try.prog 75 #[.pointer (some ⟨g, 0, none⟩), .iface 120 (.agg #[.string n, .slice a' m c']), .int .i64 (m : Int)] x3 fun r x4 => r = .returned (.tuple #[]) ∧ ActA G w g (0, doD (bgD D m) ⟨2, n, n, ys, 0⟩ (D.free - m)) (.returned (.int .i64 0)) x4) := HDO.out _ x3 a' c' H2.out.1 H2.out.2.1 k1 k2; clear k1 k2)
            | (go_at_call 75; go_must (refine (Calls.mono H3.out ?_)); rintro r x4 ⟨rfl, k1⟩; have H4 : Hid (ActA G w g (0, doD (bgD D m) ⟨2, n, n, ys, 0⟩ (D.free - m)) (.returned (.int .i64 0)) x4) := k1; clear k1))
          go_ret
          exact H4.out
      · rw [if_pos hb]
        obtain ⟨E, hE⟩ : ∃ E, E = bgE D m := ⟨_, rfl⟩
        have hEb : (E == 0) = false := by rw [hE]; simpa using hb
        have HEb : Hid (bgE D m = E) := hE.symm
        rw [← hE]
        clear hE hb
        go_enter Try.func52, Try.ntmps52
        go_wp2_with (first
          | (go_at_call 65; go_must (refine (Calls.mono HR.out ?_)); rintro r x1 hx; have H1 : Hid (Gr G w x1 ∧ DkI x1 g s l st V U vs Os Ol Od D ∧ Seg .u8 x1 a m ys) := HB.out x1 hx.1; obtain ⟨v2, n2, c2, hrr⟩ := HV.out r x1 hx; subst hrr; clear hx)
          | (go_at_call 55; go_must (refine (Calls.mono (beginA_c _ _ H1.out.2.1 HD.out.2.1.1 HD.out.2.1.2.1) ?_)); rintro r x2 ⟨rfl, k1, k2, k3⟩; have H2 : Hid (Gr G w x2 ∧ DkI x2 g s l st V U vs Os Ol Od (bgD D m)) := ⟨H1.out.1.trans (k2.wide (fun k _ e => HG.out.1 k (.inl e))), k1⟩; rw [HEb.out]; clear k1 k2 k3))
        go_ret
        exact act_same H2.out.2 HG.out.1 H2.out.1 (HD.out.1.bg _) E
  · rw [if_pos he]
    obtain ⟨E, hE⟩ : ∃ E, E = rdE D [n] := ⟨_, rfl⟩
    have HE : Hid (rdE D [n] = E ∧ E ≠ 0) := ⟨hE.symm, by rw [hE]; exact he⟩
    rw [← hE]
    have hb : (E == 0) = false := by rw [hE]; simpa using he
    clear he hE
    go_enter Try.func52, Try.ntmps52
    go_wp2_with (go_at_call 65; go_must (refine (Calls.mono HR.out ?_)); rintro r x1 hx; have H1 : Hid (Gr G w x1 ∧ DkI x1 g s l st V U vs Os Ol Od D ∧ Seg .u8 x1 a m ys) := HB.out x1 hx.1; have hrr : r = .returned (.tuple #[.slice none 0 0, .int .i64 E]) := (by rcases hx.2 with q | q | q; rw [HE.out.1] at q; exact q.2; exact absurd (HE.out.1.symm.trans q.1) HE.out.2; exact absurd (HE.out.1.symm.trans q.1) HE.out.2); subst hrr; clear hx)
    go_ret
    exact act_same H1.out.2.1 HG.out.1 H1.out.1 HD.out.1 E
end Go.Proofs.Yteoohgjoffpmkaa
