/-
  What disk's Remove and Cut do. Condition: the numbers are below 2^60.
-/
import Derived.Test.YteoohgjoffpmkaaKDs
namespace Go.Proofs.Yteoohgjoffpmkaa
open Go.RowKit
set_option linter.unusedVariables false

theorem takenA_c (n : ByteArray) (a : Option Addr) (m c : Nat) (w : World) (h1 : n.size ≤ 140737488355328) (h2 : m ≤ 140737488355328) : Calls Try.prog 38 #[.string n, .slice a m c] w fun r w' => r = .returned (.int .i64 ((n.size : Int) + m)) ∧ w' = w := by
  have hw : wrap64 ((n.size : Int) + (m : Int)) = (n.size : Int) + m := IntWalk.wrap64_in _ ⟨by omega, by omega⟩
  have hw2 : IntKind.i64.wrap ((n.size : Int) + (m : Int)) = (n.size : Int) + m := IntWalk.i64_in _ ⟨by omega, by omega⟩
  clear h1 h2
  go_enter Try.func38, Try.ntmps38
  go_wp2
  go_ret
  exact ⟨rfl, rfl⟩
/-- find, of a file that is there. -/
theorem find_there {w : World} {g s l st V U vs Os Ol Od D n xs r x1} (h : DkI w g s l st V U vs Os Ol Od D) (hx : FindA w V D n r x1) (he : rdE D [n] = 0) (hs : D.seen n = some xs) : ∃ a c, r = .returned (.tuple #[.slice a xs.length c, .int .i64 0]) := by
  rcases hx.2 with q | q | ⟨_, v, q2, q3⟩
  · exact absurd he q.1
  · rw [hs] at q; cases q.2.1
  · obtain ⟨zs, q5, q4, _⟩ := (h.below hx.1).seen.is n v q2
    rw [hs] at q5; cases q5
    obtain ⟨a2, c2, rfl, _⟩ := q4.seg
    exact ⟨a2, c2, q3⟩
theorem find_not {w : World} {g s l st V U vs Os Ol Od D n r x1} (h : DkI w g s l st V U vs Os Ol Od D) (hx : FindA w V D n r x1) (he : rdE D [n] = 0) (hs : D.seen n = none) : r = .returned (.tuple #[.slice none 0 0, .int .i64 121]) := by
  rcases hx.2 with q | q | ⟨_, v, q2, q3⟩
  · exact absurd he q.1
  · exact q.2.2
  · obtain ⟨zs, q5, q4, _⟩ := (h.below hx.1).seen.is n v q2
    rw [hs] at q5; cases q5
theorem find_bad {w : World} {V D n r x1} (hx : FindA w V D n r x1) (he : rdE D [n] ≠ 0) : r = .returned (.tuple #[.slice none 0 0, .int .i64 (rdE D [n])]) := by
  rcases hx.2 with q | q | q
  · exact q.2
  · exact absurd q.1 he
  · exact absurd q.1 he
/-- What Remove answers, and the disk behind it. -/
def rmR (D : Dk) (n : ByteArray) : Int × Dk :=
  if rdE D [n] ≠ 0 then (rdE D [n], D) else match D.seen n with
    | none => (121, D)
    | some xs => if bgE D (-((n.size : Int) + xs.length)) ≠ 0 then (bgE D (-((n.size : Int) + xs.length)), bgD D (-((n.size : Int) + xs.length))) else (0, doD (bgD D (-((n.size : Int) + xs.length))) ⟨5, n, n, [], 0⟩ (D.free + (n.size + xs.length)))
theorem Dok.remove {D} (h : Dok D) (n : ByteArray) (xs : List Int) (hn : D.seen n = some xs) : sok D.seen ⟨5, n, n, [], 0⟩ ∧ ∃ m, Tot (sdo D.seen ⟨5, n, n, [], 0⟩ (scnt ⟨5, n, n, [], 0⟩)) m ∧ D.free + (n.size + xs.length) + m = D.room := by
  obtain ⟨m, h1, h2⟩ := h.tot
  obtain ⟨h3, h4⟩ := h1.del n xs hn
  exact ⟨⟨by simp, by simp, by simp, by simp, by simp, by simp, fun _ => by rw [hn]; simp⟩, m - (n.size + xs.length), h4, by omega⟩
set_option maxRecDepth 20000 in
set_option maxHeartbeats 2000000 in
theorem removeA_c {G : Nat → Prop} (n : ByteArray)  (w : World) (g : Nat) (D : Dk) (h : DkM G w g D) (hd : Dok D) (hm : Dsm D) (hl : n.size ≤ 140737488355328)  :
    Calls Try.prog 63 #[.pointer (some ⟨g, 0, none⟩), .string n] w (ActA G w g (rmR D n)) := by
  obtain ⟨s, l, st, V, U, vs, Os, Ol, Od, h, hG⟩ := h
  have HR : Hid (Calls Try.prog 65 #[.pointer (some ⟨g, 0, none⟩), .string n] w (FindA w V D n)) := findA_c n w h hl
  have HI : Hid (DkI w g s l st V U vs Os Ol Od D) := h
  have HG : Hid (∀ k, (k = g ∨ Os k ∨ Ol k ∨ Od k ∨ st.ownBlock = some k) → G k) := hG
  have HD : Hid (Dok D ∧ Dsm D ∧ n.size ≤ 140737488355328) := ⟨hd, hm, hl⟩
  clear h hl hG hd hm
  by_cases he : rdE D [n] = 0
  · cases hs : D.seen n with
    | none =>
      have HE : Hid (rdE D [n] = 0 ∧ D.seen n = none) := ⟨he, hs⟩
      have e9 : rmR D n = (121, D) := by simp [rmR, he, hs]
      rw [e9]
      clear he hs e9
      go_enter Try.func63, Try.ntmps63
      go_wp2_with (go_at_call 65; go_must (refine (Calls.mono HR.out ?_)); rintro r x1 hx; have H1 : Hid (Gr G w x1 ∧ DkI x1 g s l st V U vs Os Ol Od D) := ⟨Gr.ofB hx.1, HI.out.below hx.1⟩; have hrr := find_not HI.out hx HE.out.1 HE.out.2; subst hrr; clear hx)
      go_ret
      exact act_same H1.out.2 HG.out H1.out.1 HD.out.1 121
    | some xs =>
      have HE : Hid (rdE D [n] = 0 ∧ D.seen n = some xs) := ⟨he, hs⟩
      have hxl : xs.length ≤ 67108864 := (HD.out.1.bnd n xs hs).1
      have HEC : Hid (D.seen n = some xs ∧ rdE D [n] = 0) := ⟨hs, he⟩
      obtain ⟨nd, hnd⟩ : ∃ nd, nd = -((n.size : Int) + xs.length) := ⟨_, rfl⟩
      obtain ⟨m, hm1⟩ : ∃ m, m = xs.length := ⟨_, rfl⟩
      have hnl := HD.out.2.2
      have HT : Hid (∀ a c W, Calls Try.prog 38 #[.string n, .slice a m c] W fun r w' => r = .returned (.int .i64 ((n.size : Int) + m)) ∧ w' = W) := fun a c W => takenA_c n a m c W HD.out.2.2 (by omega)
      have hw1 : wrap64 (-((n.size : Int) + (m : Int))) = nd := by rw [hnd, hm1]; exact IntWalk.wrap64_in _ ⟨by omega, by omega⟩
      have hw2 : IntKind.i64.wrap (-((n.size : Int) + (m : Int))) = nd := by rw [hnd, hm1]; exact IntWalk.i64_in _ ⟨by omega, by omega⟩
      have HXM : Hid (m = xs.length ∧ nd = -((n.size : Int) + xs.length)) := ⟨hm1, hnd⟩
      clear hxl hnl
      by_cases hb : bgE D nd = 0
      · have HEb : Hid (bgE D nd = 0) := hb
        have e9 : rmR D n = (0, doD (bgD D nd) ⟨5, n, n, [], 0⟩ (D.free + (n.size + xs.length))) := by rw [rmR, if_neg (by simp [he]), hs]; simp only []; rw [← hnd]; simp [hb]
        rw [e9]
        have HDO : Hid (∀ x2, Gr G w x2 → DkI x2 g s l st V U vs Os Ol Od (bgD D nd) → Calls Try.prog 75 #[.pointer (some ⟨g, 0, none⟩), .iface 128 (.agg #[.string n]), .int .i64 nd] x2 fun r x3 => r = .returned (.tuple #[]) ∧ ActA G w g (0, doD (bgD D nd) ⟨5, n, n, [], 0⟩ (D.free + (n.size + xs.length))) (.returned (.int .i64 0)) x3) := by
          show ∀ x2, _
          intro x2 q1 q2
          obtain ⟨d1, d2, d3⟩ := HD.out; obtain ⟨x1m, x2m⟩ := HXM.out
          have zp := d1.remove n xs HE.out.2
          obtain ⟨e1, e2, e3, e4, e5⟩ := bgD_seen D nd
          obtain ⟨mm, ht, hm2⟩ := d1.tot
          have hle := ht.le n xs HE.out.2
          have hrm := d1.room
          obtain ⟨_, _, s3, s4⟩ := d2
          refine Calls.mono (doD_c _ ⟨5, n, n, [], 0⟩ nd (D.free + (n.size + xs.length)) x2 q2 (.inr (.inr (.inr (.inr ⟨rfl, rfl⟩)))) (by rw [e1]; exact zp.1) (by rw [e1]; exact d1.bnd) (by rw [e4]; omega) (by rw [e4]; omega) (by omega) ⟨by omega, by omega⟩ (by rw [e3]; show _ + 1 ≤ _; omega) (by rw [e3]; omega)) ?_
          intro r x3 k1
          exact ⟨k1.1, act_do k1 HG.out (fun k hk => .inl hk) q1 ((d1.bg nd).doD _ _ (by rw [e1]; exact zp.1) (by rw [e1, e5]; exact zp.2) ⟨by simp, by simp⟩)⟩
        clear hb e9 HEC hnd hm1 he hs
        go_enter Try.func63, Try.ntmps63
        go_wp2_with (first
          | (go_at_call 65; go_must (refine (Calls.mono HR.out ?_)); rintro r x1 hx; have H1 : Hid (Gr G w x1 ∧ DkI x1 g s l st V U vs Os Ol Od D) := ⟨Gr.ofB hx.1, HI.out.below hx.1⟩; obtain ⟨a2, c2, hrr⟩ := find_there HI.out hx HE.out.1 HE.out.2; rw [← HXM.out.1] at hrr; subst hrr; clear hx)
          | (go_at_call 38; go_must (refine (Calls.mono (HT.out _ _ _) ?_)); rintro r wq ⟨rfl, hq⟩; obtain rfl := hq.symm; clear hq)
          | (go_at_call 55; go_must (refine (Calls.mono (beginA_c _ _ H1.out.2 HD.out.2.1.1 HD.out.2.1.2.1) ?_)); rintro r x2 ⟨rfl, k1, k2, k3⟩; rw [HEb.out]; have H2 : Hid (Gr G w x2 ∧ DkI x2 g s l st V U vs Os Ol Od (bgD D nd)) := ⟨H1.out.1.trans (k2.wide (fun k _ e => HG.out k (.inl e))), k1⟩; clear k1 k2 k3)
          | (go_at_call 75; go_must (refine (Calls.mono (HDO.out _ H2.out.1 H2.out.2) ?_)); rintro r x3 ⟨rfl, k1⟩; have H3 : Hid (ActA G w g (0, doD (bgD D nd) ⟨5, n, n, [], 0⟩ (D.free + (n.size + xs.length))) (.returned (.int .i64 0)) x3) := k1; clear k1))
        go_ret
        exact H3.out
      · have e9 : rmR D n = (bgE D nd, bgD D nd) := by rw [rmR, if_neg (by simp [he]), hs]; simp only []; rw [← hnd]; simp [hb]
        rw [e9]
        obtain ⟨E, hE⟩ : ∃ E, E = bgE D nd := ⟨_, rfl⟩
        have hEb : (E == 0) = false := by rw [hE]; simpa using hb
        have HEb : Hid (bgE D nd = E) := hE.symm
        rw [← hE]
        clear hE hb e9 HEC hnd hm1 he hs
        go_enter Try.func63, Try.ntmps63
        go_wp2_with (first
          | (go_at_call 65; go_must (refine (Calls.mono HR.out ?_)); rintro r x1 hx; have H1 : Hid (Gr G w x1 ∧ DkI x1 g s l st V U vs Os Ol Od D) := ⟨Gr.ofB hx.1, HI.out.below hx.1⟩; obtain ⟨a2, c2, hrr⟩ := find_there HI.out hx HE.out.1 HE.out.2; rw [← HXM.out.1] at hrr; subst hrr; clear hx)
          | (go_at_call 38; go_must (refine (Calls.mono (HT.out _ _ _) ?_)); rintro r wq ⟨rfl, hq⟩; obtain rfl := hq.symm; clear hq)
          | (go_at_call 55; go_must (refine (Calls.mono (beginA_c _ _ H1.out.2 HD.out.2.1.1 HD.out.2.1.2.1) ?_)); rintro r x2 ⟨rfl, k1, k2, k3⟩; rw [HEb.out]; have H2 : Hid (Gr G w x2 ∧ DkI x2 g s l st V U vs Os Ol Od (bgD D nd)) := ⟨H1.out.1.trans (k2.wide (fun k _ e => HG.out k (.inl e))), k1⟩; clear k1 k2 k3))
        go_ret
        exact act_same H2.out.2 HG.out H2.out.1 (HD.out.1.bg _) E
  · have e9 : rmR D n = (rdE D [n], D) := by simp [rmR, he]
    rw [e9]
    clear e9
    obtain ⟨E, hE⟩ : ∃ E, E = rdE D [n] := ⟨_, rfl⟩
    have HE : Hid (∀ r x1, FindA w V D n r x1 → r = .returned (.tuple #[.slice none 0 0, .int .i64 E])) := by
      show ∀ r x1, _
      intro r x1 hx
      rw [hE]; exact find_bad hx he
    have hb : (E == 0) = false := by rw [hE]; simpa using he
    rw [← hE]
    clear he hE
    go_enter Try.func63, Try.ntmps63
    go_wp2_with (go_at_call 65; go_must (refine (Calls.mono HR.out ?_)); rintro r x1 hx; have H1 : Hid (Gr G w x1 ∧ DkI x1 g s l st V U vs Os Ol Od D) := ⟨Gr.ofB hx.1, HI.out.below hx.1⟩; have hrr := HE.out r x1 hx; subst hrr; clear hx)
    go_ret
    exact act_same H1.out.2 HG.out H1.out.1 HD.out.1 E
/-- What Cut answers, and the disk behind it. -/
def ctR (D : Dk) (n : ByteArray) (sz : Int) : Int × Dk :=
  if rdE D [n] ≠ 0 then (rdE D [n], D) else match D.seen n with
    | none => (121, D)
    | some xs => if sz < 0 ∨ (xs.length : Int) < sz then (1, D) else if bgE D (sz - xs.length) ≠ 0 then (bgE D (sz - xs.length), bgD D (sz - xs.length)) else (0, doD (bgD D (sz - xs.length)) ⟨3, n, n, [], sz.toNat⟩ (D.free + (xs.length - sz.toNat)))
theorem Dok.cut {D} (h : Dok D) (n : ByteArray) (xs : List Int) (z : Nat) (hn : D.seen n = some xs) (hz : z ≤ xs.length) : sok D.seen ⟨3, n, n, [], z⟩ ∧ ∃ m, Tot (sdo D.seen ⟨3, n, n, [], z⟩ (scnt ⟨3, n, n, [], z⟩)) m ∧ D.free + (xs.length - z) + m = D.room := by
  obtain ⟨m, h1, h2⟩ := h.tot
  have hle := h1.le n xs hn
  have e : sdo D.seen ⟨3, n, n, [], z⟩ (scnt ⟨3, n, n, [], z⟩) = fset D.seen n (some (xs.take z)) := by simp [sdo, hn]
  refine ⟨⟨by simp, by simp, by simp, by simp, fun _ => ⟨xs, hn, hz⟩, by simp, by simp⟩, m - xs.length + (xs.take z).length, ?_, by rw [List.length_take]; omega⟩
  rw [e]
  exact h1.set n xs (xs.take z) hn
set_option maxRecDepth 20000 in
set_option maxHeartbeats 2000000 in
theorem cutA_c {G : Nat → Prop} (n : ByteArray) (sz : Int) (w : World) (g : Nat) (D : Dk) (h : DkM G w g D) (hd : Dok D) (hm : Dsm D) (hl : n.size ≤ 140737488355328) (hz1 : -9223372036854775808 ≤ sz ∧ sz ≤ 9223372036854775807) :
    Calls Try.prog 61 #[.pointer (some ⟨g, 0, none⟩), .string n, .int .i64 sz] w (ActA G w g (ctR D n sz)) := by
  obtain ⟨s, l, st, V, U, vs, Os, Ol, Od, h, hG⟩ := h
  have HR : Hid (Calls Try.prog 65 #[.pointer (some ⟨g, 0, none⟩), .string n] w (FindA w V D n)) := findA_c n w h hl
  have HI : Hid (DkI w g s l st V U vs Os Ol Od D) := h
  have HG : Hid (∀ k, (k = g ∨ Os k ∨ Ol k ∨ Od k ∨ st.ownBlock = some k) → G k) := hG
  have HD : Hid (Dok D ∧ Dsm D ∧ n.size ≤ 140737488355328) := ⟨hd, hm, hl⟩
  clear h hl hG hd hm
  by_cases he : rdE D [n] = 0
  · cases hs : D.seen n with
    | none =>
      have HE : Hid (rdE D [n] = 0 ∧ D.seen n = none) := ⟨he, hs⟩
      have e9 : ctR D n sz = (121, D) := by simp [ctR, he, hs]
      rw [e9]
      clear he hs e9
      go_enter Try.func61, Try.ntmps61
      go_wp2_with (go_at_call 65; go_must (refine (Calls.mono HR.out ?_)); rintro r x1 hx; have H1 : Hid (Gr G w x1 ∧ DkI x1 g s l st V U vs Os Ol Od D) := ⟨Gr.ofB hx.1, HI.out.below hx.1⟩; have hrr := find_not HI.out hx HE.out.1 HE.out.2; subst hrr; clear hx)
      go_ret
      exact act_same H1.out.2 HG.out H1.out.1 HD.out.1 121
    | some xs =>
      have HE : Hid (rdE D [n] = 0 ∧ D.seen n = some xs) := ⟨he, hs⟩
      have hxl : xs.length ≤ 67108864 := (HD.out.1.bnd n xs hs).1
      have HEC : Hid (D.seen n = some xs ∧ rdE D [n] = 0) := ⟨hs, he⟩
      obtain ⟨m, hm1⟩ : ∃ m, m = xs.length := ⟨_, rfl⟩
      by_cases hsz : sz < 0 ∨ (xs.length : Int) < sz
      · have e9 : ctR D n sz = (1, D) := by rw [ctR, if_neg (by simp [he]), hs]; simp only []; rw [if_pos hsz]
        rw [e9]
        have HXM : Hid (m = xs.length) := hm1
        rw [← hm1] at hsz
        clear he hs e9 HEC hm1 hxl
        by_cases q0 : sz < 0
        · clear hsz
          go_enter Try.func61, Try.ntmps61
          go_wp2_with (go_at_call 65; go_must (refine (Calls.mono HR.out ?_)); rintro r x1 hx; have H1 : Hid (Gr G w x1 ∧ DkI x1 g s l st V U vs Os Ol Od D) := ⟨Gr.ofB hx.1, HI.out.below hx.1⟩; obtain ⟨a2, c2, hrr⟩ := find_there HI.out hx HE.out.1 HE.out.2; rw [← HXM.out] at hrr; subst hrr; clear hx)
          go_ret
          exact act_same H1.out.2 HG.out H1.out.1 HD.out.1 1
        · have q1 : (m : Int) < sz := by omega
          clear hsz
          go_enter Try.func61, Try.ntmps61
          go_wp2_with (go_at_call 65; go_must (refine (Calls.mono HR.out ?_)); rintro r x1 hx; have H1 : Hid (Gr G w x1 ∧ DkI x1 g s l st V U vs Os Ol Od D) := ⟨Gr.ofB hx.1, HI.out.below hx.1⟩; obtain ⟨a2, c2, hrr⟩ := find_there HI.out hx HE.out.1 HE.out.2; rw [← HXM.out] at hrr; subst hrr; clear hx)
          go_ret
          exact act_same H1.out.2 HG.out H1.out.1 HD.out.1 1
      have hsz2 : 0 ≤ sz ∧ sz ≤ xs.length := by omega
      obtain ⟨z, rfl⟩ : ∃ z : Nat, sz = (z : Int) := ⟨sz.toNat, by omega⟩
      have hzx : z ≤ xs.length := by omega
      obtain ⟨nd, hnd⟩ : ∃ nd, nd = (z : Int) - xs.length := ⟨_, rfl⟩
      have q0 : ¬ (z : Int) < 0 := by omega
      have q1 : ¬ (m : Int) < (z : Int) := by omega
      have hw1 : wrap64 ((z : Int) - (m : Int)) = nd := by rw [hnd, hm1]; exact IntWalk.wrap64_in _ ⟨by omega, by omega⟩
      have hw2 : IntKind.i64.wrap ((z : Int) - (m : Int)) = nd := by rw [hnd, hm1]; exact IntWalk.i64_in _ ⟨by omega, by omega⟩
      have HXM : Hid (m = xs.length ∧ nd = (z : Int) - xs.length ∧ z ≤ xs.length) := ⟨hm1, hnd, hzx⟩
      clear hxl hsz2
      by_cases hb : bgE D nd = 0
      · have HEb : Hid (bgE D nd = 0) := hb
        have e9 : ctR D n (z : Int) = (0, doD (bgD D nd) ⟨3, n, n, [], z⟩ (D.free + (xs.length - z))) := by rw [ctR, if_neg (by simp [he]), hs]; simp only []; rw [if_neg hsz, ← hnd]; simp [hb]
        rw [e9]
        have HDO : Hid (∀ x2, Gr G w x2 → DkI x2 g s l st V U vs Os Ol Od (bgD D nd) → Calls Try.prog 75 #[.pointer (some ⟨g, 0, none⟩), .iface 125 (.agg #[.string n, .int .i64 (z : Int)]), .int .i64 nd] x2 fun r x3 => r = .returned (.tuple #[]) ∧ ActA G w g (0, doD (bgD D nd) ⟨3, n, n, [], z⟩ (D.free + (xs.length - z))) (.returned (.int .i64 0)) x3) := by
          show ∀ x2, _
          intro x2 q1 q2
          obtain ⟨d1, d2, d3⟩ := HD.out; obtain ⟨x1m, x2m, x3m⟩ := HXM.out
          have zp := d1.cut n xs z HE.out.2 HXM.out.2.2
          obtain ⟨e1, e2, e3, e4, e5⟩ := bgD_seen D nd
          obtain ⟨mm, ht, hm2⟩ := d1.tot
          have hle := ht.le n xs HE.out.2
          have hrm := d1.room
          obtain ⟨_, _, s3, s4⟩ := d2
          refine Calls.mono (doD_c _ ⟨3, n, n, [], z⟩ nd (D.free + (xs.length - z)) x2 q2 (.inr (.inr (.inl ⟨rfl, rfl⟩))) (by rw [e1]; exact zp.1) (by rw [e1]; exact d1.bnd) (by rw [e4]; omega) (by rw [e4]; omega) (by omega) ⟨by omega, by omega⟩ (by rw [e3]; show _ + 1 ≤ _; omega) (by rw [e3]; omega)) ?_
          intro r x3 k1
          exact ⟨k1.1, act_do k1 HG.out (fun k hk => .inl hk) q1 ((d1.bg nd).doD _ _ (by rw [e1]; exact zp.1) (by rw [e1, e5]; exact zp.2) ⟨by simp, by simp⟩)⟩
        clear hb e9 HEC hnd hm1 he hs hsz hzx
        go_enter Try.func61, Try.ntmps61
        go_wp2_with (first
          | (go_at_call 65; go_must (refine (Calls.mono HR.out ?_)); rintro r x1 hx; have H1 : Hid (Gr G w x1 ∧ DkI x1 g s l st V U vs Os Ol Od D) := ⟨Gr.ofB hx.1, HI.out.below hx.1⟩; obtain ⟨a2, c2, hrr⟩ := find_there HI.out hx HE.out.1 HE.out.2; rw [← HXM.out.1] at hrr; subst hrr; clear hx)
          | (go_at_call 55; go_must (refine (Calls.mono (beginA_c _ _ H1.out.2 HD.out.2.1.1 HD.out.2.1.2.1) ?_)); rintro r x2 ⟨rfl, k1, k2, k3⟩; rw [HEb.out]; have H2 : Hid (Gr G w x2 ∧ DkI x2 g s l st V U vs Os Ol Od (bgD D nd)) := ⟨H1.out.1.trans (k2.wide (fun k _ e => HG.out k (.inl e))), k1⟩; clear k1 k2 k3)
          | (go_at_call 75; go_must (refine (Calls.mono (HDO.out _ H2.out.1 H2.out.2) ?_)); rintro r x3 ⟨rfl, k1⟩; have H3 : Hid (ActA G w g (0, doD (bgD D nd) ⟨3, n, n, [], z⟩ (D.free + (xs.length - z))) (.returned (.int .i64 0)) x3) := k1; clear k1))
        go_ret
        exact H3.out
      · have e9 : ctR D n (z : Int) = (bgE D nd, bgD D nd) := by rw [ctR, if_neg (by simp [he]), hs]; simp only []; rw [if_neg hsz, ← hnd]; simp [hb]
        rw [e9]
        obtain ⟨E, hE⟩ : ∃ E, E = bgE D nd := ⟨_, rfl⟩
        have hEb : (E == 0) = false := by rw [hE]; simpa using hb
        have HEb : Hid (bgE D nd = E) := hE.symm
        rw [← hE]
        clear hE hb e9 HEC hnd hm1 he hs hsz hzx
        go_enter Try.func61, Try.ntmps61
        go_wp2_with (first
          | (go_at_call 65; go_must (refine (Calls.mono HR.out ?_)); rintro r x1 hx; have H1 : Hid (Gr G w x1 ∧ DkI x1 g s l st V U vs Os Ol Od D) := ⟨Gr.ofB hx.1, HI.out.below hx.1⟩; obtain ⟨a2, c2, hrr⟩ := find_there HI.out hx HE.out.1 HE.out.2; rw [← HXM.out.1] at hrr; subst hrr; clear hx)
          | (go_at_call 55; go_must (refine (Calls.mono (beginA_c _ _ H1.out.2 HD.out.2.1.1 HD.out.2.1.2.1) ?_)); rintro r x2 ⟨rfl, k1, k2, k3⟩; rw [HEb.out]; have H2 : Hid (Gr G w x2 ∧ DkI x2 g s l st V U vs Os Ol Od (bgD D nd)) := ⟨H1.out.1.trans (k2.wide (fun k _ e => HG.out k (.inl e))), k1⟩; clear k1 k2 k3))
        go_ret
        exact act_same H2.out.2 HG.out H2.out.1 (HD.out.1.bg _) E
  · have e9 : ctR D n sz = (rdE D [n], D) := by simp [ctR, he]
    rw [e9]
    clear e9
    obtain ⟨E, hE⟩ : ∃ E, E = rdE D [n] := ⟨_, rfl⟩
    have HE : Hid (∀ r x1, FindA w V D n r x1 → r = .returned (.tuple #[.slice none 0 0, .int .i64 E])) := by
      show ∀ r x1, _
      intro r x1 hx
      rw [hE]; exact find_bad hx he
    have hb : (E == 0) = false := by rw [hE]; simpa using he
    rw [← hE]
    clear he hE
    go_enter Try.func61, Try.ntmps61
    go_wp2_with (go_at_call 65; go_must (refine (Calls.mono HR.out ?_)); rintro r x1 hx; have H1 : Hid (Gr G w x1 ∧ DkI x1 g s l st V U vs Os Ol Od D) := ⟨Gr.ofB hx.1, HI.out.below hx.1⟩; have hrr := HE.out r x1 hx; subst hrr; clear hx)
    go_ret
    exact act_same H1.out.2 HG.out H1.out.1 HD.out.1 E
end Go.Proofs.Yteoohgjoffpmkaa
