/-
  What the law's write does with a pack Writer and the document's Writer: what the plain function wst gives of each. Condition: what is laid down takes at most 2^47 bytes.
-/
import Derived.Test.YtdedmmodlbnnfaaWFl
import Derived.Test.YtdedmmodlbnnfaaWDig
import Derived.Test.YtdedmmodlbnnfaaWSt
import Derived.Test.YtdedmmodlbnnfaaWRow
import Derived.Test.YtdedmmodlbnnfaaWInt
import Derived.Test.YtdedmmodlbnnfaaWTx
import Derived.Test.YtdedmmodlbnnfaaWDig
import Derived.Test.YtdedmmodlbnnfaaWBy
namespace Go.Proofs.Ytdedmmodlbnnfaa
open Go.RowKit
set_option linter.unusedVariables false

/-- Both writers, apart from each other, with blocks of S alone. -/
def Two (B : Nat) (w : World) (gw g : Nat) (ys : List Int) (e : Int) (zs : List Int) (d : Int) (S : Nat → Prop) : Prop :=
  ∃ fs v F, WS w gw ys e fs ∧ XW B w g v zs d F ∧ gw ≠ g ∧ F ≠ some gw ∧ g ∉ fs ∧ (∀ k, F = some k → k ∉ fs) ∧ ∀ k, (k = gw ∨ k = g ∨ F = some k ∨ k ∈ fs) → S k
/-- What a call of both comes to. -/
def TGoes (B : Nat) (w : World) (S : Nat → Prop) (w' : World) (gw g : Nat) (ys : List Int) (e : Int) (zs : List Int) (d : Int) : Prop :=
  ∃ S', Two B w' gw g ys e zs d S' ∧ Gr S w w' ∧ ∀ k, S' k → S k ∨ w.heap.size ≤ k
theorem Two.gr {G : Nat → Prop} {B w w' gw g ys e zs d S} (h : Two B w gw g ys e zs d S) (hg : Gr G w w') (hn : ∀ k, S k → ¬ G k) : Two B w' gw g ys e zs d S := by
  obtain ⟨fs, v, F, h1, h2, h3, h4, h5, h6, h7⟩ := h
  exact ⟨fs, v, F, h1.gr hg (hn _ (h7 _ (.inl rfl))) (fun k hk => hn _ (h7 _ (.inr (.inr (.inr hk))))), h2.gr hg (hn _ (h7 _ (.inr (.inl rfl)))) (fun k hk => hn _ (h7 _ (.inr (.inr (.inl hk))))), h3, h4, h5, h6, h7⟩
theorem Two.new {B w w' gw g ys e zs d S} (h : Two B w gw g ys e zs d S) (hg : w.grownBy w' none) : Two B w' gw g ys e zs d S := h.gr (G := fun _ => False) (Gr.of hg (by simp)) (by simp)
theorem Two.stay {B w gw g ys e zs d S} (h : Two B w gw g ys e zs d S) : TGoes B w S w gw g ys e zs d := ⟨S, h, Gr.refl _ _, fun k hk => .inl hk⟩
theorem TGoes.pre {B w0 w w' gw g ys e zs d S} (hg : w0.grownBy w none) (h : TGoes B w S w' gw g ys e zs d) : TGoes B w0 S w' gw g ys e zs d := by
  obtain ⟨S', h1, h2, h3⟩ := h
  refine ⟨S', h1, (Gr.of hg (by simp)).trans h2, fun k hk => ?_⟩
  rcases h3 k hk with h | h
  · exact .inl h
  · exact .inr (Nat.le_trans hg.size h)
/-- The first half of a call of both: the program's Writer has gone on. -/
theorem two_half {B w1 w2 gw g ys' e' zs d S v F fs} (hs : (∀ k, (k = gw ∨ k = g ∨ F = some k ∨ k ∈ fs) → S k)) (hx : XW B w1 g v zs d F) (h3 : gw ≠ g) (h4 : F ≠ some gw) (h5 : g ∉ fs) (h6 : ∀ k, F = some k → k ∉ fs)
    (h : WGoes w1 gw fs w2 ys' e') : ∃ fs', WS w2 gw ys' e' fs' ∧ XW B w2 g v zs d F ∧ g ∉ fs' ∧ (∀ k, F = some k → k ∉ fs') ∧ Gr S w1 w2 ∧ (∀ k ∈ fs', S k ∨ w1.heap.size ≤ k) := by
  obtain ⟨fs', k1, k2, k3⟩ := h
  have hgl := lt_of_block hx.blk
  have hFl : ∀ k, F = some k → k < w1.heap.size := fun k hk => by
    have := hx.own.lo k (by rw [hx.fb]; exact hk)
    exact this.2
  refine ⟨fs', k1, hx.gr k2 (fun q => h3 q.symm) (fun k hk q => h4 (by rw [hk, q])), ?_, ?_, k2.wide (fun k _ hk => hs k (.inl hk)), fun k hk => ?_⟩
  · intro q
    rcases k3 _ q with q | q
    · exact h5 q
    · omega
  · intro k hk q
    rcases k3 _ q with q | q
    · exact h6 k hk q
    · have := hFl k hk; omega
  · rcases k3 _ hk with q | q
    · exact .inl (hs k (.inr (.inr (.inr q))))
    · exact .inr q
/-- The second half: the document's has, too. -/
theorem two_done {B w1 w2 w3 gw g ys e zs d zs' d' S v F fs} (hS : ∀ k, (k = gw ∨ k = g ∨ F = some k) → S k) (h3 : gw ≠ g) (h4 : F ≠ some gw) (hw : WS w2 gw ys e fs) (hx : XW B w2 g v zs d F) (h5 : g ∉ fs) (h6 : ∀ k, F = some k → k ∉ fs) (hg : Gr S w1 w2) (hf : ∀ k ∈ fs, S k ∨ w1.heap.size ≤ k)
    (h : XGoes B w2 g F w3 zs' d') : TGoes B w1 S w3 gw g ys e zs' d' := by
  obtain ⟨v', F', k1, k2, k3⟩ := h
  have hF' : ∀ k, F' = some k → F = some k ∨ w2.heap.size ≤ k := fun k hk => by
    rcases k3 with q | ⟨j, q, r⟩
    · exact .inl (q ▸ hk)
    · rw [hk] at q; cases q; exact .inr r
  have hwl := hw.lt
  have hfl : ∀ k ∈ fs, k < w2.heap.size := fun k hk => by
    obtain ⟨d0, ps, u, cs, _, hch, _⟩ := hw
    exact hch.lt k hk
  refine ⟨fun k => k = gw ∨ k = g ∨ F' = some k ∨ k ∈ fs, ⟨fs, v', F', hw.gr k2 ?_ ?_, k1, h3, ?_, h5, ?_, fun k hk => hk⟩, ?_, ?_⟩
  · rintro (q | q)
    · exact h3 q
    · exact h4 q
  · rintro k hk (q | q)
    · exact h5 (q ▸ hk)
    · exact h6 k q hk
  · intro q
    rcases hF' _ q with q | q
    · exact h4 q
    · omega
  · intro k hk q
    rcases hF' _ hk with r | r
    · exact h6 k r q
    · have := hfl k q; omega
  · refine hg.trans (k2.wide ?_)
    rintro k _ (q | q)
    · exact hS k (.inr (.inl q))
    · exact hS k (.inr (.inr q))
  · rintro k (q | q | q | q)
    · exact .inl (hS k (.inl q))
    · exact .inl (hS k (.inr (.inl q)))
    · rcases hF' _ q with r | r
      · exact .inl (hS k (.inr (.inr r)))
      · exact .inr (Nat.le_trans hg.size r)
    · exact hf k q

set_option maxRecDepth 20000 in
set_option maxHeartbeats 8000000 in
theorem write_both (B gw g : Nat) (ys : List Int) (e : Int) (zs : List Int) (d : Int) (S : Nat → Prop) (o : OpD) (O : Array Value) (w : World) (h : Two B w gw g ys e zs d S) (hO : O = o.cells.toArray) (ho : o.Ok) (hw : o.weight ≤ 1048576) (hb : ys.length ≤ 70368744177664) (hb' : zs.length ≤ 70368744177664) :
    Calls Try.prog 7 #[.pointer (some ⟨gw, 0, none⟩), .pointer (some ⟨g, 0, none⟩), .agg O] w fun r w' => r = .returned (.tuple #[]) ∧ TGoes B w S w' gw g (wst o ys e).1 (wst o ys e).2 (wst o zs d).1 (wst o zs d).2 := by
  have HTW : Hid (Two B w gw g ys e zs d S) := h
  obtain ⟨fs, v, F, hws, hxw, n1, n2, n3, n4, n5⟩ := h
  have HW : Hid (XW B w g v zs d F ∧ WS w gw ys e fs) := ⟨hxw, hws⟩
  have HAP : Hid (gw ≠ g ∧ F ≠ some gw ∧ g ∉ fs ∧ (∀ k, F = some k → k ∉ fs) ∧ ∀ k, (k = gw ∨ k = g ∨ F = some k ∨ k ∈ fs) → S k) := ⟨n1, n2, n3, n4, n5⟩
  clear hws hxw n1 n2 n3 n4 n5
  have HO : Hid (O = o.cells.toArray) := hO
  have HOK : Hid (o.Ok) := ho
  obtain ⟨N, hN⟩ : ∃ N, N = w.heap.size := ⟨_, rfl⟩
  have HNW : Hid (N = w.heap.size ∧ gw < N) := ⟨hN, by rw [hN]; exact HW.out.2.lt⟩
  have HBB : Hid (Bk 39 (w.alloc (.cells O 39)) w.heap.size o.cells.toArray) := by rw [hO]; exact heap_new w _
  obtain ⟨b0, b1, b2, b3, b4, b5⟩ := HBB.out.opcell
  have HBD : Hid ((0 ≤ o.v ∧ o.v < 18446744073709551616) ∧ (-9223372036854775808 ≤ o.n ∧ o.n ≤ 9223372036854775807) ∧ (-9223372036854775808 ≤ o.ver ∧ o.ver ≤ 9223372036854775807) ∧ (ys.length ≤ 70368744177664 ∧ zs.length ≤ 70368744177664) ∧ o.s.size + o.key.size + o.val.size ≤ 1048576) := by
    have q1 := wf_u64 ho.v
    have q2 := bounds_i64 ho.n
    have q3 := bounds_i64 ho.ver
    unfold OpD.weight at hw
    exact ⟨q1, ⟨by omega, by omega⟩, ⟨by omega, by omega⟩, ⟨hb, hb'⟩, by omega⟩
  clear hO ho hw hb hb'
  by_cases h0 : o.call = 0
  · have hst : wst o ys e = (wadd e ys (enc o.v.toNat), e) := by unfold wst; simp [h0]
    have hst' : wst o zs d = (wadd d zs (enc o.v.toNat), d) := by unfold wst; simp [h0]
    rw [hst, hst']
    rw [h0] at b0
    clear hst hst' HTW
    go_enter Try.func7, Try.ntmps7
    go_wp2_with fail
    rw [← hN]
    generalize hW1 : World.alloc w _ = W1
    have H1 : Hid (XW B W1 g v zs d F ∧ WS W1 gw ys e fs ∧ Bk 39 W1 N o.cells.toArray ∧ w.grownBy W1 none) := by
      rw [← hW1, hN, HO.out]; exact ⟨HW.out.1.new (World.grownBy_alloc _ _ _), HW.out.2.new (World.grownBy_alloc _ _ _), heap_new w _, World.grownBy_alloc _ _ _⟩
    clear hW1 hN b0 b1 b2 b3 b4 b5 HBB
    refine (wuint_c gw ys e o.v fs W1 H1.out.2.1 HBD.out.1.1 HBD.out.1.2 (by have := HBD.out.2.2.2.1.1; omega)).mono ?_
    rintro r w2 ⟨rfl, hg2⟩
    have HNB : Hid (Bk 39 w2 N o.cells.toArray) := by
      obtain ⟨_, _, q, _⟩ := hg2
      exact H1.out.2.2.1.gr q (by have := HNW.out.2; omega)
    obtain ⟨fs2, k1, k2, k3, k4, k5, k6⟩ := two_half (S := S) HAP.out.2.2.2.2 H1.out.1 HAP.out.1 HAP.out.2.1 HAP.out.2.2.1 HAP.out.2.2.2.1 hg2
    have H2 : Hid (_ ∧ _ ∧ _ ∧ _ ∧ _ ∧ _ ∧ _) := ⟨k2, k1, HNB.out, k3, k4, k5, k6⟩
    clear hg2 HNB k1 k2 k3 k4 k5 k6
    obtain ⟨d0, d1, d2, d3, d4, d5⟩ := H2.out.2.2.1.opcell
    go_wp2_with fail
    refine (xwuint_c B g v zs d o.v F _ H2.out.1 HBD.out.1.1 HBD.out.1.2 (by have := HBD.out.2.2.2.1.2; omega)).mono ?_
    rintro r w3 ⟨rfl, h3⟩
    have H3 : Hid (TGoes B w S w3 gw g ((wadd e ys (enc o.v.toNat), e)).1 ((wadd e ys (enc o.v.toNat), e)).2 ((wadd d zs (enc o.v.toNat), d)).1 ((wadd d zs (enc o.v.toNat), d)).2) := TGoes.pre H1.out.2.2.2 (two_done (fun k hk => HAP.out.2.2.2.2 k (by rcases hk with q | q | q; exact .inl q; exact .inr (.inl q); exact .inr (.inr (.inl q)))) HAP.out.1 HAP.out.2.1 H2.out.2.1 H2.out.1 H2.out.2.2.2.1 H2.out.2.2.2.2.1 H2.out.2.2.2.2.2.1 H2.out.2.2.2.2.2.2 h3)
    clear h3
    go_wp2
    go_end0
    exact ⟨rfl, H3.out⟩
  by_cases h1 : o.call = 1
  · have hst : wst o ys e = (wadd (ferr e (wie o.n o.most)) ys (enc o.n.toNat), ferr e (wie o.n o.most)) := by unfold wst; simp [h1]
    have hst' : wst o zs d = (wadd (ferr d (wie o.n o.most)) zs (enc o.n.toNat), ferr d (wie o.n o.most)) := by unfold wst; simp [h1]
    rw [hst, hst']
    rw [h1] at b0
    clear hst hst' HTW
    go_enter Try.func7, Try.ntmps7
    go_wp2_with fail
    rw [← hN]
    generalize hW1 : World.alloc w _ = W1
    have H1 : Hid (XW B W1 g v zs d F ∧ WS W1 gw ys e fs ∧ Bk 39 W1 N o.cells.toArray ∧ w.grownBy W1 none) := by
      rw [← hW1, hN, HO.out]; exact ⟨HW.out.1.new (World.grownBy_alloc _ _ _), HW.out.2.new (World.grownBy_alloc _ _ _), heap_new w _, World.grownBy_alloc _ _ _⟩
    clear hW1 hN b0 b1 b2 b3 b4 b5 HBB
    refine (wint_c gw ys e o.n o.most fs W1 H1.out.2.1 HBD.out.2.1.2 (by have := HBD.out.2.2.2.1.1; omega)).mono ?_
    rintro r w2 ⟨rfl, hg2⟩
    have HNB : Hid (Bk 39 w2 N o.cells.toArray) := by
      obtain ⟨_, _, q, _⟩ := hg2
      exact H1.out.2.2.1.gr q (by have := HNW.out.2; omega)
    obtain ⟨fs2, k1, k2, k3, k4, k5, k6⟩ := two_half (S := S) HAP.out.2.2.2.2 H1.out.1 HAP.out.1 HAP.out.2.1 HAP.out.2.2.1 HAP.out.2.2.2.1 hg2
    have H2 : Hid (_ ∧ _ ∧ _ ∧ _ ∧ _ ∧ _ ∧ _) := ⟨k2, k1, HNB.out, k3, k4, k5, k6⟩
    clear hg2 HNB k1 k2 k3 k4 k5 k6
    obtain ⟨d0, d1, d2, d3, d4, d5⟩ := H2.out.2.2.1.opcell
    go_wp2_with fail
    refine (xwint_c B g v zs d o.n o.most F _ H2.out.1 HBD.out.2.1.2 HBD.out.2.1.1 (by have := HBD.out.2.2.2.1.2; omega)).mono ?_
    rintro r w3 ⟨rfl, h3⟩
    have H3 : Hid (TGoes B w S w3 gw g ((wadd (ferr e (wie o.n o.most)) ys (enc o.n.toNat), ferr e (wie o.n o.most))).1 ((wadd (ferr e (wie o.n o.most)) ys (enc o.n.toNat), ferr e (wie o.n o.most))).2 ((wadd (ferr d (wie o.n o.most)) zs (enc o.n.toNat), ferr d (wie o.n o.most))).1 ((wadd (ferr d (wie o.n o.most)) zs (enc o.n.toNat), ferr d (wie o.n o.most))).2) := TGoes.pre H1.out.2.2.2 (two_done (fun k hk => HAP.out.2.2.2.2 k (by rcases hk with q | q | q; exact .inl q; exact .inr (.inl q); exact .inr (.inr (.inl q)))) HAP.out.1 HAP.out.2.1 H2.out.2.1 H2.out.1 H2.out.2.2.2.1 H2.out.2.2.2.2.1 H2.out.2.2.2.2.2.1 H2.out.2.2.2.2.2.2 h3)
    clear h3
    go_wp2
    go_end0
    exact ⟨rfl, H3.out⟩
  by_cases h2 : o.call = 2
  · have hst : wst o ys e = (wadd (ferr e (wte o.s.size o.most)) ys (enc o.s.size ++ sb o.s), ferr e (wte o.s.size o.most)) := by unfold wst; simp [h2]
    have hst' : wst o zs d = (wadd (ferr d (wte o.s.size o.most)) zs (enc o.s.size ++ sb o.s), ferr d (wte o.s.size o.most)) := by unfold wst; simp [h2]
    rw [hst, hst']
    rw [h2] at b0
    clear hst hst' HTW
    go_enter Try.func7, Try.ntmps7
    go_wp2_with fail
    rw [← hN]
    generalize hW1 : World.alloc w _ = W1
    have H1 : Hid (XW B W1 g v zs d F ∧ WS W1 gw ys e fs ∧ Bk 39 W1 N o.cells.toArray ∧ w.grownBy W1 none) := by
      rw [← hW1, hN, HO.out]; exact ⟨HW.out.1.new (World.grownBy_alloc _ _ _), HW.out.2.new (World.grownBy_alloc _ _ _), heap_new w _, World.grownBy_alloc _ _ _⟩
    clear hW1 hN b0 b1 b2 b3 b4 b5 HBB
    refine (wtext_c gw ys e o.s o.most fs W1 H1.out.2.1 (by have := HBD.out.2.2.2.2; omega) (by have := HBD.out.2.2.2; omega)).mono ?_
    rintro r w2 ⟨rfl, hg2⟩
    have HNB : Hid (Bk 39 w2 N o.cells.toArray) := by
      obtain ⟨_, _, q, _⟩ := hg2
      exact H1.out.2.2.1.gr q (by have := HNW.out.2; omega)
    obtain ⟨fs2, k1, k2, k3, k4, k5, k6⟩ := two_half (S := S) HAP.out.2.2.2.2 H1.out.1 HAP.out.1 HAP.out.2.1 HAP.out.2.2.1 HAP.out.2.2.2.1 hg2
    have H2 : Hid (_ ∧ _ ∧ _ ∧ _ ∧ _ ∧ _ ∧ _) := ⟨k2, k1, HNB.out, k3, k4, k5, k6⟩
    clear hg2 HNB k1 k2 k3 k4 k5 k6
    obtain ⟨d0, d1, d2, d3, d4, d5⟩ := H2.out.2.2.1.opcell
    go_wp2_with fail
    refine (xwtext_c B g v zs d o.s o.most F _ H2.out.1 (by have := HBD.out.2.2.2.2; omega) (by have := HBD.out.2.2.2; omega)).mono ?_
    rintro r w3 ⟨rfl, h3⟩
    have H3 : Hid (TGoes B w S w3 gw g ((wadd (ferr e (wte o.s.size o.most)) ys (enc o.s.size ++ sb o.s), ferr e (wte o.s.size o.most))).1 ((wadd (ferr e (wte o.s.size o.most)) ys (enc o.s.size ++ sb o.s), ferr e (wte o.s.size o.most))).2 ((wadd (ferr d (wte o.s.size o.most)) zs (enc o.s.size ++ sb o.s), ferr d (wte o.s.size o.most))).1 ((wadd (ferr d (wte o.s.size o.most)) zs (enc o.s.size ++ sb o.s), ferr d (wte o.s.size o.most))).2) := TGoes.pre H1.out.2.2.2 (two_done (fun k hk => HAP.out.2.2.2.2 k (by rcases hk with q | q | q; exact .inl q; exact .inr (.inl q); exact .inr (.inr (.inl q)))) HAP.out.1 HAP.out.2.1 H2.out.2.1 H2.out.1 H2.out.2.2.2.1 H2.out.2.2.2.2.1 H2.out.2.2.2.2.2.1 H2.out.2.2.2.2.2.2 h3)
    clear h3
    go_wp2
    go_end0
    exact ⟨rfl, H3.out⟩
  by_cases h3 : o.call = 3
  · have hst : wst o ys e = (wadd e ys [fb o.f], e) := by unfold wst; simp [h3]
    have hst' : wst o zs d = (wadd d zs [fb o.f], d) := by unfold wst; simp [h3]
    rw [hst, hst']
    rw [h3] at b0
    clear hst hst' HTW
    go_enter Try.func7, Try.ntmps7
    go_wp2_with fail
    rw [← hN]
    generalize hW1 : World.alloc w _ = W1
    have H1 : Hid (XW B W1 g v zs d F ∧ WS W1 gw ys e fs ∧ Bk 39 W1 N o.cells.toArray ∧ w.grownBy W1 none) := by
      rw [← hW1, hN, HO.out]; exact ⟨HW.out.1.new (World.grownBy_alloc _ _ _), HW.out.2.new (World.grownBy_alloc _ _ _), heap_new w _, World.grownBy_alloc _ _ _⟩
    clear hW1 hN b0 b1 b2 b3 b4 b5 HBB
    refine (wflag_c gw ys e o.f fs W1 H1.out.2.1 (by have := HBD.out.2.2.2.1.1; omega)).mono ?_
    rintro r w2 ⟨rfl, hg2⟩
    have HNB : Hid (Bk 39 w2 N o.cells.toArray) := by
      obtain ⟨_, _, q, _⟩ := hg2
      exact H1.out.2.2.1.gr q (by have := HNW.out.2; omega)
    obtain ⟨fs2, k1, k2, k3, k4, k5, k6⟩ := two_half (S := S) HAP.out.2.2.2.2 H1.out.1 HAP.out.1 HAP.out.2.1 HAP.out.2.2.1 HAP.out.2.2.2.1 hg2
    have H2 : Hid (_ ∧ _ ∧ _ ∧ _ ∧ _ ∧ _ ∧ _) := ⟨k2, k1, HNB.out, k3, k4, k5, k6⟩
    clear hg2 HNB k1 k2 k3 k4 k5 k6
    obtain ⟨d0, d1, d2, d3, d4, d5⟩ := H2.out.2.2.1.opcell
    go_wp2_with fail
    refine (xwflag_c B g v zs d o.f F _ H2.out.1 (by have := HBD.out.2.2.2.1.2; omega)).mono ?_
    rintro r w3 ⟨rfl, h3⟩
    have H3 : Hid (TGoes B w S w3 gw g ((wadd e ys [fb o.f], e)).1 ((wadd e ys [fb o.f], e)).2 ((wadd d zs [fb o.f], d)).1 ((wadd d zs [fb o.f], d)).2) := TGoes.pre H1.out.2.2.2 (two_done (fun k hk => HAP.out.2.2.2.2 k (by rcases hk with q | q | q; exact .inl q; exact .inr (.inl q); exact .inr (.inr (.inl q)))) HAP.out.1 HAP.out.2.1 H2.out.2.1 H2.out.1 H2.out.2.2.2.1 H2.out.2.2.2.2.1 H2.out.2.2.2.2.2.1 H2.out.2.2.2.2.2.2 h3)
    clear h3
    go_wp2
    go_end0
    exact ⟨rfl, H3.out⟩
  by_cases h4 : o.call = 4
  · have hst : wst o ys e = (wadd e ys o.ds, e) := by unfold wst; simp [h4]
    have hst' : wst o zs d = (wadd d zs o.ds, d) := by unfold wst; simp [h4]
    rw [hst, hst']
    rw [h4] at b0
    clear hst hst' HTW
    go_enter Try.func7, Try.ntmps7
    go_wp2_with (first
      | (refine wpList_load_mid rfl 35 (.tmp 59) rfl w.heap.size 6 rfl (o.ds.map (Value.int .u8)) _ (HBB.out.opD HOK.out) Try.underlying35 rfl (infoD32 HOK.out) ?_))
    rw [← hN]
    generalize hW1 : World.alloc w _ = W1
    have H1 : Hid (XW B W1 g v zs d F ∧ WS W1 gw ys e fs ∧ Bk 39 W1 N o.cells.toArray ∧ w.grownBy W1 none) := by
      rw [← hW1, hN, HO.out]; exact ⟨HW.out.1.new (World.grownBy_alloc _ _ _), HW.out.2.new (World.grownBy_alloc _ _ _), heap_new w _, World.grownBy_alloc _ _ _⟩
    clear hW1 hN b0 b1 b2 b3 b4 b5 HBB
    refine (wdigest_c gw ys e o.ds _ fs W1 H1.out.2.1 rfl HOK.out.len HOK.out.bytes (by have := HBD.out.2.2.2.1.1; omega)).mono ?_
    rintro r w2 ⟨rfl, hg2⟩
    have HNB : Hid (Bk 39 w2 N o.cells.toArray) := by
      obtain ⟨_, _, q, _⟩ := hg2
      exact H1.out.2.2.1.gr q (by have := HNW.out.2; omega)
    obtain ⟨fs2, k1, k2, k3, k4, k5, k6⟩ := two_half (S := S) HAP.out.2.2.2.2 H1.out.1 HAP.out.1 HAP.out.2.1 HAP.out.2.2.1 HAP.out.2.2.2.1 hg2
    have H2 : Hid (_ ∧ _ ∧ _ ∧ _ ∧ _ ∧ _ ∧ _) := ⟨k2, k1, HNB.out, k3, k4, k5, k6⟩
    clear hg2 HNB k1 k2 k3 k4 k5 k6
    obtain ⟨d0, d1, d2, d3, d4, d5⟩ := H2.out.2.2.1.opcell
    go_wp2_with (first
      | (refine wpList_load_mid rfl 35 (.tmp 63) rfl N 6 rfl (o.ds.map (Value.int .u8)) _ (H2.out.2.2.1.opD HOK.out) Try.underlying35 rfl (infoD32 HOK.out) ?_))
    refine (xwdigest_c B g v zs d o.ds _ F _ H2.out.1 rfl HOK.out.len HOK.out.bytes (by have := HBD.out.2.2.2.1.2; omega)).mono ?_
    rintro r w3 ⟨rfl, h3⟩
    have H3 : Hid (TGoes B w S w3 gw g ((wadd e ys o.ds, e)).1 ((wadd e ys o.ds, e)).2 ((wadd d zs o.ds, d)).1 ((wadd d zs o.ds, d)).2) := TGoes.pre H1.out.2.2.2 (two_done (fun k hk => HAP.out.2.2.2.2 k (by rcases hk with q | q | q; exact .inl q; exact .inr (.inl q); exact .inr (.inr (.inl q)))) HAP.out.1 HAP.out.2.1 H2.out.2.1 H2.out.1 H2.out.2.2.2.1 H2.out.2.2.2.2.1 H2.out.2.2.2.2.2.1 H2.out.2.2.2.2.2.2 h3)
    clear h3
    go_wp2
    go_end0
    exact ⟨rfl, H3.out⟩
  by_cases h5 : o.call = 5
  · have hst : wst o ys e = (wadd (ferr e (wre o.key o.val o.ver)) ys (rowB o.key o.val o.ver), ferr e (wre o.key o.val o.ver)) := by unfold wst; simp [h5]
    have hst' : wst o zs d = (wadd (ferr d (wre o.key o.val o.ver)) zs (rowB o.key o.val o.ver), ferr d (wre o.key o.val o.ver)) := by unfold wst; simp [h5]
    rw [hst, hst']
    rw [h5] at b0
    clear hst hst' HTW
    go_enter Try.func7, Try.ntmps7
    go_wp2_with (first
      | (refine wpList_load_mid rfl 37 (.tmp 69) rfl w.heap.size 38 rfl ([.string o.key, .string o.val, .int .i64 o.ver]) _ (HBB.out.opR HOK.out) Try.underlying37 rfl (infoRow3) ?_))
    rw [← hN]
    generalize hW1 : World.alloc w _ = W1
    have H1 : Hid (XW B W1 g v zs d F ∧ WS W1 gw ys e fs ∧ Bk 39 W1 N o.cells.toArray ∧ w.grownBy W1 none) := by
      rw [← hW1, hN, HO.out]; exact ⟨HW.out.1.new (World.grownBy_alloc _ _ _), HW.out.2.new (World.grownBy_alloc _ _ _), heap_new w _, World.grownBy_alloc _ _ _⟩
    clear hW1 hN b0 b1 b2 b3 b4 b5 HBB
    refine (wrow_c gw ys e o.key o.val o.ver fs W1 H1.out.2.1 (by have := HBD.out.2.2.2.2; omega) (by have := HBD.out.2.2.2.2; omega) HBD.out.2.2.1.2 (by have := HBD.out.2.2.2; omega)).mono ?_
    rintro r w2 ⟨rfl, hg2⟩
    have HNB : Hid (Bk 39 w2 N o.cells.toArray) := by
      obtain ⟨_, _, q, _⟩ := hg2
      exact H1.out.2.2.1.gr q (by have := HNW.out.2; omega)
    obtain ⟨fs2, k1, k2, k3, k4, k5, k6⟩ := two_half (S := S) HAP.out.2.2.2.2 H1.out.1 HAP.out.1 HAP.out.2.1 HAP.out.2.2.1 HAP.out.2.2.2.1 hg2
    have H2 : Hid (_ ∧ _ ∧ _ ∧ _ ∧ _ ∧ _ ∧ _) := ⟨k2, k1, HNB.out, k3, k4, k5, k6⟩
    clear hg2 HNB k1 k2 k3 k4 k5 k6
    obtain ⟨d0, d1, d2, d3, d4, d5⟩ := H2.out.2.2.1.opcell
    go_wp2_with (first
      | (refine wpList_load_mid rfl 37 (.tmp 73) rfl N 38 rfl ([.string o.key, .string o.val, .int .i64 o.ver]) _ (H2.out.2.2.1.opR HOK.out) Try.underlying37 rfl (infoRow3) ?_))
    refine (xwrow_c B g v zs d o.key o.val o.ver F _ H2.out.1 (by have := HBD.out.2.2.2.2; omega) (by have := HBD.out.2.2.2.2; omega) HBD.out.2.2.1.2 HBD.out.2.2.1.1 (by have := HBD.out.2.2.2; omega)).mono ?_
    rintro r w3 ⟨rfl, h3⟩
    have H3 : Hid (TGoes B w S w3 gw g ((wadd (ferr e (wre o.key o.val o.ver)) ys (rowB o.key o.val o.ver), ferr e (wre o.key o.val o.ver))).1 ((wadd (ferr e (wre o.key o.val o.ver)) ys (rowB o.key o.val o.ver), ferr e (wre o.key o.val o.ver))).2 ((wadd (ferr d (wre o.key o.val o.ver)) zs (rowB o.key o.val o.ver), ferr d (wre o.key o.val o.ver))).1 ((wadd (ferr d (wre o.key o.val o.ver)) zs (rowB o.key o.val o.ver), ferr d (wre o.key o.val o.ver))).2) := TGoes.pre H1.out.2.2.2 (two_done (fun k hk => HAP.out.2.2.2.2 k (by rcases hk with q | q | q; exact .inl q; exact .inr (.inl q); exact .inr (.inr (.inl q)))) HAP.out.1 HAP.out.2.1 H2.out.2.1 H2.out.1 H2.out.2.2.2.1 H2.out.2.2.2.2.1 H2.out.2.2.2.2.2.1 H2.out.2.2.2.2.2.2 h3)
    clear h3
    go_wp2
    go_end0
    exact ⟨rfl, H3.out⟩
  by_cases h6 : o.call = 6
  · have hst : wst o ys e = (ys, ferr e o.n) := by unfold wst; simp [h6]
    have hst' : wst o zs d = (zs, ferr d o.n) := by unfold wst; simp [h6]
    rw [hst, hst']
    rw [h6] at b0
    clear hst hst' HTW
    go_enter Try.func7, Try.ntmps7
    go_wp2_with fail
    rw [← hN]
    generalize hW1 : World.alloc w _ = W1
    have H1 : Hid (XW B W1 g v zs d F ∧ WS W1 gw ys e fs ∧ Bk 39 W1 N o.cells.toArray ∧ w.grownBy W1 none) := by
      rw [← hW1, hN, HO.out]; exact ⟨HW.out.1.new (World.grownBy_alloc _ _ _), HW.out.2.new (World.grownBy_alloc _ _ _), heap_new w _, World.grownBy_alloc _ _ _⟩
    clear hW1 hN b0 b1 b2 b3 b4 b5 HBB
    refine (wfail_c gw ys e o.n fs W1 H1.out.2.1).mono ?_
    rintro r w2 ⟨rfl, hg2⟩
    have HNB : Hid (Bk 39 w2 N o.cells.toArray) := by
      obtain ⟨_, _, q, _⟩ := hg2
      exact H1.out.2.2.1.gr q (by have := HNW.out.2; omega)
    obtain ⟨fs2, k1, k2, k3, k4, k5, k6⟩ := two_half (S := S) HAP.out.2.2.2.2 H1.out.1 HAP.out.1 HAP.out.2.1 HAP.out.2.2.1 HAP.out.2.2.2.1 hg2
    have H2 : Hid (_ ∧ _ ∧ _ ∧ _ ∧ _ ∧ _ ∧ _) := ⟨k2, k1, HNB.out, k3, k4, k5, k6⟩
    clear hg2 HNB k1 k2 k3 k4 k5 k6
    obtain ⟨d0, d1, d2, d3, d4, d5⟩ := H2.out.2.2.1.opcell
    go_wp2_with fail
    refine (xwfail_c B g v zs d o.n F _ H2.out.1).mono ?_
    rintro r w3 ⟨rfl, h3⟩
    have H3 : Hid (TGoes B w S w3 gw g ((ys, ferr e o.n)).1 ((ys, ferr e o.n)).2 ((zs, ferr d o.n)).1 ((zs, ferr d o.n)).2) := TGoes.pre H1.out.2.2.2 (two_done (fun k hk => HAP.out.2.2.2.2 k (by rcases hk with q | q | q; exact .inl q; exact .inr (.inl q); exact .inr (.inr (.inl q)))) HAP.out.1 HAP.out.2.1 H2.out.2.1 H2.out.1 H2.out.2.2.2.1 H2.out.2.2.2.2.1 H2.out.2.2.2.2.2.1 H2.out.2.2.2.2.2.2 h3)
    clear h3
    go_wp2
    go_end0
    exact ⟨rfl, H3.out⟩
  have hst : wst o ys e = (ys, e) := by unfold wst; simp [h0, h1, h2, h3, h4, h5, h6]
  have hst' : wst o zs d = (zs, d) := by unfold wst; simp [h0, h1, h2, h3, h4, h5, h6]
  rw [hst, hst']
  have q0 : (o.call == 0) = false := by simp [h0]
  have q1 : (o.call == 1) = false := by simp [h1]
  have q2 : (o.call == 2) = false := by simp [h2]
  have q3 : (o.call == 3) = false := by simp [h3]
  have q4 : (o.call == 4) = false := by simp [h4]
  have q5 : (o.call == 5) = false := by simp [h5]
  have q6 : (o.call == 6) = false := by simp [h6]
  clear h0 h1 h2 h3 h4 h5 h6 hst hst'
  go_enter Try.func7, Try.ntmps7
  go_wp2
  go_end0
  exact ⟨rfl, TGoes.pre (World.grownBy_alloc _ _ _) (HTW.out.new (World.grownBy_alloc _ _ _)).stay⟩
end Go.Proofs.Ytdedmmodlbnnfaa
