/-
  What the document's Without and With answer. Conditions: the chain can be read, and has at most 2^43 nodes.
-/
import Derived.Test.YtekefbbjocekiaaCGw
namespace Go.Proofs.Ytekefbbjocekiaa
open Go.RowKit Go.ChangeShapes Go.WideShapes
set_option linter.unusedVariables false

/-- append of numbers that can be read to numbers of one's own, in a region that draws its order. -/
theorem step_growI {ops : Array Oper} {o : Oper} {a : Act} {w : World} {K : Act → World → Prop} {Q : Exit → Act → World → Prop} {E : Prop} (hgd : o.guard = none) (s x : Operand)
    (hop : o.op = Op.call { callee := Callee.builtin Builtin.append, args := #[s, x], argTypes := #[25, 25] }) (B n : Nat) (v : Value) (xs : List Int) (hs : a.eval s = v) (hown : OwI B w v n xs)
    (ad : Addr) (m c : Nat) (ys : List Int) (hx : a.eval x = .slice (some ad) m c) (hy : Seg .i64 w (some ad) m ys) (hm : 0 < n + m) (hb : n + m ≤ 17592186044416) (hbase : B ≤ w.heap.size)
    (hK : ∀ a' c' w', OwI B w' (.slice a' (n + m) c') (n + m) (xs ++ ys) → Below B w w' → K (a.put o.dst (.slice a' (n + m) c')) w') :
    if Region.wanted o (yielded ops a.tmps) = true then Oper.wp Try.prog o a w K Q else E := by
  have hw : Region.wanted o (yielded ops a.tmps) = true := by simp [Region.wanted, hgd]
  rw [if_pos hw]
  obtain ⟨i, hi, hz, h4, h5⟩ := info_parts Try.infoI64
  refine wp_append_own w s x 25 hop B 3 i (.int .i64 0) 1 8 Try.underlying25 hi hz h4 h5 rfl (by decide) v n (xs.map (Value.int .i64)) hs hown ad m c (ys.map (Value.int .i64)) hx (by simp [hy.1]) (seg_news' hy ad rfl) ?_ (by unfold maxLen; omega) (by omega) hbase ?_
  · intro u hu; obtain ⟨z, _, rfl⟩ := List.mem_map.1 hu; rfl
  · intro v' w' hown' hg _
    have ho : OwI B w' v' (n + m) (xs ++ ys) := by unfold OwI; rw [List.map_append]; exact hown'
    obtain ⟨a', c', rfl, _⟩ := ho.seg
    refine hK a' c' w' ho ((Below.refl _ _).grown hg hbase ?_)
    intro k hk
    exact (OwI.lo (show OwI B w v n xs from hown) k hk).1
theorem Cf2.belowB {T U : TypeId} {w wr w' : World} {N B : Nat} {e f : Int} {u v : Value} (h : Cf2 T U w wr N e f u v) (hb : Below B wr w') (h1 : N + 1 < B) (h2 : w.heap.size ≤ B) : Cf2 T U w w' N e f u v :=
  ⟨(hb.block N (by omega)).trans h.l, (hb.block (N + 1) h1).trans h.r, h.b.trans (hb.mono h2)⟩
set_option maxRecDepth 20000 in
set_option maxHeartbeats 4000000 in
theorem qwithout_c (e : Int) (a : Option Addr) (n c : Nat) (xs : List Int) (x : Int) (w : World) (h : Seg .i64 w a n xs) (hnz : a = none → c = 0) (hnc : n ≤ c) (hl : n ≤ 1152921504606846976) :
    Calls Try.prog 27 #[.agg #[.int .i64 e, .slice a n c], .int .i64 x] w (StA w (woP e xs x) (woE e xs x) (woX e xs x)) := by
  have h0 := cf2_new 33 33 w e 0 (.slice a n c) (.slice none 0 0)
  have H0 : Hid (Cf2 33 33 w ((w.alloc (.cells #[.int .i64 e, .slice a n c] 33)).alloc (.cells #[.int .i64 0, .slice none 0 0] 33)) w.heap.size e 0 (.slice a n c) (.slice none 0 0)) := h0
  have HC : Hid _ := qcheck_c e a n c xs _ (h.below h0.b) hnc
  have HP : Hid (∀ W, Below w.heap.size w W → Calls Try.prog 38 #[.slice a n c, .int .i64 x] W fun r w' => r = .returned (.int .i64 (pla xs x)) ∧ w' = W) := fun W hb => place_c a n c xs x W (h.below hb) hl
  have HS : Hid (Seg .i64 w a n xs ∧ xs.length = n ∧ (a = none → c = 0) ∧ n ≤ c) := ⟨h, h.1, hnz, hnc⟩
  have hlen := h.1
  clear h h0 hnz
  by_cases hk : chk e xs = 0
  · have hck : (chk e xs != 0) = false := by rw [hk]; rfl
    have hch := chk_ok.1 hk
    have hbd := pla_bd xs x
    by_cases hp : pla xs x < 0
    · have HR : Hid (woE e xs x = 161 ∧ woX e xs x = [] ∧ woP e xs x = 0) := wo_no (by unfold woE; rw [if_neg (by simp [hk]), if_pos hp]) (by decide)
      have hd : decide (pla xs x < (0 : Int)) = true := decide_eq_true hp
      clear hk hp hch hbd hlen hnc hl
      go_enter Try.func27, Try.ntmps27
      go_wp2_with (first
        | (go_at_call 14; go_must (refine (Calls.mono HC.out ?_)); rintro r w1 ⟨rfl, hb⟩; have H1 : Hid (Cf2 33 33 w w1 w.heap.size e 0 (.slice a n c) (.slice none 0 0)) := H0.out.below hb; have p0 := H1.out.l.c0; have p1 := H1.out.l.c1; have q0 := H1.out.r.c0; have q1 := H1.out.r.c1; have g0 := H1.out.r.fz 0; have g1 := H1.out.r.fz 1; clear hb)
        | (go_at_call 38; go_must (refine (Calls.mono (HP.out _ H1.out.b) ?_)); rintro r wq ⟨rfl, hq⟩; obtain rfl := hq.symm; clear hq))
      have HF : Hid (CfB 33 ((w1.setCell ⟨w.heap.size + 1, 0, none⟩ (.int .i64 0)).setCell ⟨w.heap.size + 1, 1, none⟩ (.slice none 0 0)) (w.heap.size + 1) 0 (.slice none 0 0)) := cf_set H1.out.r 0 _
      refine bodyPost_ret (results_cellO Try.results27 _ _ _ ⟨w.heap.size + 1, 0, none⟩ _ _ rfl rfl (bk_load Try.underlying33 rfl infoQf HF.out rfl)) rfl ?_
      refine ⟨none, 0, by rw [HR.out.1, HR.out.2.1, HR.out.2.2]; rfl, by rw [HR.out.2.1]; exact owI_nil _ _, ?_⟩
      exact (H1.out.b.setCell (p := ⟨w.heap.size + 1, 0, none⟩) (Nat.le_succ _) _).setCell (p := ⟨w.heap.size + 1, 1, none⟩) (Nat.le_succ _) _
    have hd : decide (pla xs x < (0 : Int)) = false := decide_eq_false hp
    obtain ⟨P, hP⟩ : ∃ P : Nat, pla xs x = (P : Int) := ⟨(pla xs x).toNat, by omega⟩
    rw [hP] at HP hbd hd
    have hPn : P < n := by omega
    by_cases h1 : n = 1
    · have HR : Hid (woE e xs x = 162 ∧ woX e xs x = [] ∧ woP e xs x = 0) := wo_no (by unfold woE; rw [if_neg (by simp [hk]), if_neg hp, hlen, if_pos h1]) (by decide)
      have hb2 : ((n : Int) == 1) = true := by simp [h1]
      clear hk hp h1 hch hbd hlen hnc hP hPn hl
      go_enter Try.func27, Try.ntmps27
      go_wp2_with (first
        | (go_at_call 14; go_must (refine (Calls.mono HC.out ?_)); rintro r w1 ⟨rfl, hb⟩; have H1 : Hid (Cf2 33 33 w w1 w.heap.size e 0 (.slice a n c) (.slice none 0 0)) := H0.out.below hb; have p0 := H1.out.l.c0; have p1 := H1.out.l.c1; have q0 := H1.out.r.c0; have q1 := H1.out.r.c1; have g0 := H1.out.r.fz 0; have g1 := H1.out.r.fz 1; clear hb)
        | (go_at_call 38; go_must (refine (Calls.mono (HP.out _ H1.out.b) ?_)); rintro r wq ⟨rfl, hq⟩; obtain rfl := hq.symm; clear hq))
      have HF : Hid (CfB 33 ((w1.setCell ⟨w.heap.size + 1, 0, none⟩ (.int .i64 0)).setCell ⟨w.heap.size + 1, 1, none⟩ (.slice none 0 0)) (w.heap.size + 1) 0 (.slice none 0 0)) := cf_set H1.out.r 0 _
      refine bodyPost_ret (results_cellO Try.results27 _ _ _ ⟨w.heap.size + 1, 0, none⟩ _ _ rfl rfl (bk_load Try.underlying33 rfl infoQf HF.out rfl)) rfl ?_
      refine ⟨none, 0, by rw [HR.out.1, HR.out.2.1, HR.out.2.2]; rfl, by rw [HR.out.2.1]; exact owI_nil _ _, ?_⟩
      exact (H1.out.b.setCell (p := ⟨w.heap.size + 1, 0, none⟩) (Nat.le_succ _) _).setCell (p := ⟨w.heap.size + 1, 1, none⟩) (Nat.le_succ _) _
    have hb2 : ((n : Int) == 1) = false := by simp; omega
    by_cases he : e = 1099511627776
    · have HR : Hid (woE e xs x = 160 ∧ woX e xs x = [] ∧ woP e xs x = 0) := wo_no (by unfold woE; rw [if_neg (by simp [hk]), if_neg hp, hlen, if_neg h1, if_pos he]) (by decide)
      have hee : (e == 1099511627776) = true := by simp [he]
      clear hk hp h1 hch hbd hlen hnc hP hPn hl he
      go_enter Try.func27, Try.ntmps27
      go_wp2_with (first
        | (go_at_call 14; go_must (refine (Calls.mono HC.out ?_)); rintro r w1 ⟨rfl, hb⟩; have H1 : Hid (Cf2 33 33 w w1 w.heap.size e 0 (.slice a n c) (.slice none 0 0)) := H0.out.below hb; have p0 := H1.out.l.c0; have p1 := H1.out.l.c1; have q0 := H1.out.r.c0; have q1 := H1.out.r.c1; have g0 := H1.out.r.fz 0; have g1 := H1.out.r.fz 1; clear hb)
        | (go_at_call 38; go_must (refine (Calls.mono (HP.out _ H1.out.b) ?_)); rintro r wq ⟨rfl, hq⟩; obtain rfl := hq.symm; clear hq))
      have HF : Hid (CfB 33 ((w1.setCell ⟨w.heap.size + 1, 0, none⟩ (.int .i64 0)).setCell ⟨w.heap.size + 1, 1, none⟩ (.slice none 0 0)) (w.heap.size + 1) 0 (.slice none 0 0)) := cf_set H1.out.r 0 _
      refine bodyPost_ret (results_cellO Try.results27 _ _ _ ⟨w.heap.size + 1, 0, none⟩ _ _ rfl rfl (bk_load Try.underlying33 rfl infoQf HF.out rfl)) rfl ?_
      refine ⟨none, 0, by rw [HR.out.1, HR.out.2.1, HR.out.2.2]; rfl, by rw [HR.out.2.1]; exact owI_nil _ _, ?_⟩
      exact (H1.out.b.setCell (p := ⟨w.heap.size + 1, 0, none⟩) (Nat.le_succ _) _).setCell (p := ⟨w.heap.size + 1, 1, none⟩) (Nat.le_succ _) _
    have hee : (e == 1099511627776) = false := by simpa using he
    have hE0 := woE_0 hk (by omega : 0 ≤ pla xs x) (by omega) he
    have HR : Hid (woE e xs x = 0 ∧ woX e xs x = xs.take P ++ xs.drop (P + 1) ∧ woP e xs x = e + 1 ∧ (xs.take P ++ xs.drop (P + 1)).length = P + (n - (P + 1))) := by
      refine ⟨hE0, ?_, ?_, by simp; omega⟩
      · unfold woX; rw [if_pos hE0, hP, Int.toNat_natCast]
      · unfold woP; rw [if_pos hE0]
    have hPc : P ≤ c := by omega
    have hPc2 : P + 1 ≤ n := by omega
    have s1 := slice_ih a n c P hPc
    have s2 : ∀ W, (Instr.slice 25 (.slice a n c) (some (.int .i64 ((P : Int) + 1))) none none).run Try.prog W = .ok (.slice (cutI a c (P + 1)) (n - (P + 1)) (c - (P + 1))) W := fun W => by
      have := slice_il a n c (P + 1) hPc2 W
      rwa [Int.natCast_add, Int.natCast_one] at this
    have hwa : wrap64 ((P : Int) + 1) = (P : Int) + 1 := by rw [IntWalk.wrap64_in _ ⟨by omega, by omega⟩]
    have hwb : IntKind.i64.wrap ((P : Int) + 1) = (P : Int) + 1 := by rw [IntWalk.i64_in _ ⟨by omega, by omega⟩]
    have hwe : wrap64 (e + 1) = e + 1 := by rw [IntWalk.wrap64_in _ ⟨by omega, by omega⟩]
    have hwf : IntKind.i64.wrap (e + 1) = e + 1 := by rw [IntWalk.i64_in _ ⟨by omega, by omega⟩]
    have HSG : Hid (∃ ad, cutI a c (P + 1) = some ad ∧ ∀ W, Below w.heap.size w W → Seg .i64 W (some ad) (n - (P + 1)) (xs.drop (P + 1))) := by
      have ha : a ≠ none := fun z => by have := HS.out.2.2.1 z; omega
      obtain ⟨ad0, rfl⟩ := Option.ne_none_iff_exists'.1 ha
      have hx : ∃ ad, cutI (some ad0) c (P + 1) = some ad := by unfold cutI; split <;> exact ⟨_, rfl⟩
      obtain ⟨ad, had⟩ := hx
      refine ⟨ad, had, fun W hb => ?_⟩
      have := seg_cutI (HS.out.1.below hb) (P + 1) n (by omega) (Nat.le_refl _) hnc
      rwa [List.take_of_length_le (by omega), had] at this
    obtain ⟨ad, had, HSD⟩ := HSG.out
    rw [had] at s2
    replace HSD : Hid _ := HSD
    have HST : Hid (∀ W u v, ((W.cell? ⟨w.heap.size, 0, none⟩ = some (.int .i64 e) ∧ W.cell? ⟨w.heap.size, 1, none⟩ = some (.slice a n c)) ∧ Hid (CfB 33 W w.heap.size e (.slice a n c) ∧ Below w.heap.size w W)) → ((((W.setCell ⟨w.heap.size + 1, 0, none⟩ u).setCell ⟨w.heap.size + 1, 1, none⟩ v).cell? ⟨w.heap.size, 0, none⟩ = some (.int .i64 e) ∧ ((W.setCell ⟨w.heap.size + 1, 0, none⟩ u).setCell ⟨w.heap.size + 1, 1, none⟩ v).cell? ⟨w.heap.size, 1, none⟩ = some (.slice a n c)) ∧ Hid (CfB 33 ((W.setCell ⟨w.heap.size + 1, 0, none⟩ u).setCell ⟨w.heap.size + 1, 1, none⟩ v) w.heap.size e (.slice a n c) ∧ Below w.heap.size w ((W.setCell ⟨w.heap.size + 1, 0, none⟩ u).setCell ⟨w.heap.size + 1, 1, none⟩ v)))) := fun W u v h => by
      have q := cf_other (cf_other h.2.out.1 (w.heap.size + 1) 0 (by omega) u) (w.heap.size + 1) 1 (by omega) v
      exact ⟨⟨q.c0, q.c1⟩, q, (h.2.out.2.setCell (p := ⟨w.heap.size + 1, 0, none⟩) (Nat.le_succ _) _).setCell (p := ⟨w.heap.size + 1, 1, none⟩) (Nat.le_succ _) _⟩
    have HSA : Hid (∀ W o, ((W.cell? ⟨w.heap.size, 0, none⟩ = some (.int .i64 e) ∧ W.cell? ⟨w.heap.size, 1, none⟩ = some (.slice a n c)) ∧ Hid (CfB 33 W w.heap.size e (.slice a n c) ∧ Below w.heap.size w W)) → (((W.alloc o).cell? ⟨w.heap.size, 0, none⟩ = some (.int .i64 e) ∧ (W.alloc o).cell? ⟨w.heap.size, 1, none⟩ = some (.slice a n c)) ∧ Hid (CfB 33 (W.alloc o) w.heap.size e (.slice a n c) ∧ Below w.heap.size w (W.alloc o)))) := fun W o h => by
      have q := h.2.out.1.below (alloc_b W o)
      exact ⟨⟨q.c0, q.c1⟩, q, h.2.out.2.trans ((alloc_b W o).mono h.2.out.2.size)⟩
    have hn8 : n ≤ 8 := by omega
    have hn2 : 0 < P + (n - (P + 1)) := by omega
    have hn9 : P + (n - (P + 1)) ≤ 17592186044416 := by omega
    clear hk hp h1 hch hbd hlen hnc hP he hl hE0 HSG had
    go_enter Try.func27, Try.ntmps27
    go_wp2_with (first
      | (go_at_call 14; go_must (refine (Calls.mono HC.out ?_)); rintro r w1 ⟨rfl, hb⟩; have H1 : Hid (Cf2 33 33 w w1 w.heap.size e 0 (.slice a n c) (.slice none 0 0)) := H0.out.below hb; have p0 := H1.out.l.c0; have p1 := H1.out.l.c1; have q0 := H1.out.r.c0; have q1 := H1.out.r.c1; have g0 := H1.out.r.fz 0; have g1 := H1.out.r.fz 1; clear hb)
      | (go_at_call 38; go_must (refine (Calls.mono (HP.out _ H1.out.b) ?_)); rintro r wq ⟨rfl, hq⟩; obtain rfl := hq.symm; clear hq)
      | (at_builtin; refine wpList_append_growI _ rfl (.const (.slice none 0 0)) (.tmp 34) rfl w1.heap.size 0 _ [] rfl (owI_nil _ _) a P c (xs.take P) rfl HS.out.2.2.1 (seg_take (HS.out.1.below H1.out.b) P (Nat.le_of_lt hPn)) (by omega) (Nat.le_refl _) ?_; intro v2 w2 hm hb; rw [Nat.zero_add, List.nil_append] at hm; have H2 : Hid (OwI w1.heap.size w2 v2 P (xs.take P) ∧ Cf2 33 33 w w2 w.heap.size e 0 (.slice a n c) (.slice none 0 0) ∧ w1.heap.size ≤ w2.heap.size) := ⟨hm, H1.out.below hb, hb.size⟩; have b0' := H2.out.2.1.l.c0; have b1' := H2.out.2.1.l.c1; clear hm hb))
    have hS5 : (w2.cell? ⟨w.heap.size, 0, none⟩ = some (.int .i64 e) ∧ w2.cell? ⟨w.heap.size, 1, none⟩ = some (.slice a n c)) ∧ Hid (CfB 33 w2 w.heap.size e (.slice a n c) ∧ Below w.heap.size w w2) := ⟨⟨H2.out.2.1.l.c0, H2.out.2.1.l.c1⟩, H2.out.2.1.l, H2.out.2.1.b⟩
    have hSd : (w2.drew.cell? ⟨w.heap.size, 0, none⟩ = some (.int .i64 e) ∧ w2.drew.cell? ⟨w.heap.size, 1, none⟩ = some (.slice a n c)) ∧ Hid (CfB 33 w2.drew w.heap.size e (.slice a n c) ∧ Below w.heap.size w w2.drew) := ⟨⟨H2.out.2.1.l.c0, H2.out.2.1.l.c1⟩, H2.out.2.1.l, H2.out.2.1.b.drew⟩
    go_region_held3 (fun W => (W.cell? ⟨w.heap.size, 0, none⟩ = some (.int .i64 e) ∧ W.cell? ⟨w.heap.size, 1, none⟩ = some (.slice a n c)) ∧ Hid (CfB 33 W w.heap.size e (.slice a n c) ∧ Below w.heap.size w W)) (first | assumption | exact HST.out _ _ _ (by assumption)) (first
      | (refine step_growI rfl (.tmp 39) (.tmp 44) rfl w1.heap.size P v2 (xs.take P) rfl (H2.out.1.below ((Below.refl _ _).drew)) ad (n - (P + 1)) (c - (P + 1)) (xs.drop (P + 1)) rfl (HSD.out _ hSd.2.out.2) hn2 hn9 H2.out.2.2 ?_; intro a' c' w8 ho8 hb8; have H8 : Hid (OwI w1.heap.size w8 (.slice a' (P + (n - (P + 1))) c') (P + (n - (P + 1))) (xs.take P ++ xs.drop (P + 1)) ∧ Cf2 33 33 w w8 w.heap.size e 0 (.slice a n c) (.slice none 0 0)) := ⟨ho8, Cf2.belowB (H2.out.2.1.drewN 1) hb8 H1.out.r.lt H1.out.b.size⟩; have hS8 : (w8.cell? ⟨w.heap.size, 0, none⟩ = some (.int .i64 e) ∧ w8.cell? ⟨w.heap.size, 1, none⟩ = some (.slice a n c)) ∧ Hid (CfB 33 w8 w.heap.size e (.slice a n c) ∧ Below w.heap.size w w8) := ⟨⟨H8.out.2.l.c0, H8.out.2.l.c1⟩, H8.out.2.l, H8.out.2.b⟩; have r0 := H8.out.2.r.c0; have r1 := H8.out.2.r.c1; have t0 := H8.out.2.r.fz 0; have t1 := H8.out.2.r.fz 1; clear ho8 hb8))
    go_wp2
    have HF : Hid (CfB 33 ((w8.setCell ⟨w.heap.size + 1, 0, none⟩ (.int .i64 (e + 1))).setCell ⟨w.heap.size + 1, 1, none⟩ (.slice a' (P + (n - (P + 1))) c')) (w.heap.size + 1) (e + 1) (.slice a' (P + (n - (P + 1))) c')) := cf_set H8.out.2.r _ _
    refine bodyPost_ret (results_cellO Try.results27 _ _ _ ⟨w.heap.size + 1, 0, none⟩ _ _ rfl rfl (bk_load Try.underlying33 rfl infoQf HF.out rfl)) rfl ?_
    have l5 := H1.out.r.lt
    refine ⟨a', c', by rw [HR.out.1, HR.out.2.1, HR.out.2.2.1, HR.out.2.2.2]; rfl, ?_, ?_⟩
    · rw [HR.out.2.1, HR.out.2.2.2]
      exact ((H8.out.1.other (w.heap.size + 1) 0 l5 _).other (w.heap.size + 1) 1 l5 _).base (by omega)
    · exact (H8.out.2.b.setCell (p := ⟨w.heap.size + 1, 0, none⟩) (Nat.le_succ _) _).setCell (p := ⟨w.heap.size + 1, 1, none⟩) (Nat.le_succ _) _
  · have hck : (chk e xs != 0) = true := by simpa using hk
    have HR : Hid (woE e xs x = chk e xs ∧ woX e xs x = [] ∧ woP e xs x = 0) := wo_no (by unfold woE; rw [if_pos hk]) hk
    clear hk hlen hnc hl
    go_enter Try.func27, Try.ntmps27
    go_wp2_with (first
      | (go_at_call 14; go_must (refine (Calls.mono HC.out ?_)); rintro r w1 ⟨rfl, hb⟩; have H1 : Hid (Cf2 33 33 w w1 w.heap.size e 0 (.slice a n c) (.slice none 0 0)) := H0.out.below hb; have p0 := H1.out.l.c0; have p1 := H1.out.l.c1; have q0 := H1.out.r.c0; have q1 := H1.out.r.c1; have g0 := H1.out.r.fz 0; have g1 := H1.out.r.fz 1; clear hb))
    have HF : Hid (CfB 33 ((w1.setCell ⟨w.heap.size + 1, 0, none⟩ (.int .i64 0)).setCell ⟨w.heap.size + 1, 1, none⟩ (.slice none 0 0)) (w.heap.size + 1) 0 (.slice none 0 0)) := cf_set H1.out.r 0 _
    refine bodyPost_ret (results_cellO Try.results27 _ _ _ ⟨w.heap.size + 1, 0, none⟩ _ _ rfl rfl (bk_load Try.underlying33 rfl infoQf HF.out rfl)) rfl ?_
    refine ⟨none, 0, by rw [HR.out.1, HR.out.2.1, HR.out.2.2]; rfl, by rw [HR.out.2.1]; exact owI_nil _ _, ?_⟩
    exact (H1.out.b.setCell (p := ⟨w.heap.size + 1, 0, none⟩) (Nat.le_succ _) _).setCell (p := ⟨w.heap.size + 1, 1, none⟩) (Nat.le_succ _) _

set_option maxRecDepth 20000 in
set_option maxHeartbeats 4000000 in
theorem qwith_c (e : Int) (a : Option Addr) (n c : Nat) (xs : List Int) (x : Int) (w : World) (h : Seg .i64 w a n xs) (hnz : a = none → c = 0) (hnc : n ≤ c) (hl : n ≤ 1152921504606846976) :
    Calls Try.prog 28 #[.agg #[.int .i64 e, .slice a n c], .int .i64 x] w (StA w (wiP e xs x) (wiE e xs x) (wiX e xs x)) := by
  have h0 := cf2_new 33 33 w e 0 (.slice a n c) (.slice none 0 0)
  have H0 : Hid (Cf2 33 33 w ((w.alloc (.cells #[.int .i64 e, .slice a n c] 33)).alloc (.cells #[.int .i64 0, .slice none 0 0] 33)) w.heap.size e 0 (.slice a n c) (.slice none 0 0)) := h0
  have HC : Hid _ := qcheck_c e a n c xs _ (h.below h0.b) hnc
  have HP : Hid (∀ W, Below w.heap.size w W → Calls Try.prog 38 #[.slice a n c, .int .i64 x] W fun r w' => r = .returned (.int .i64 (pla xs x)) ∧ w' = W) := fun W hb => place_c a n c xs x W (h.below hb) hl
  have HS : Hid (Seg .i64 w a n xs ∧ xs.length = n ∧ (a = none → c = 0) ∧ n ≤ c) := ⟨h, h.1, hnz, hnc⟩
  have hlen := h.1
  clear h h0 hnz
  by_cases hk : chk e xs = 0
  · have hck : (chk e xs != 0) = false := by rw [hk]; rfl
    have hch := chk_ok.1 hk
    have hbd := pla_bd xs x
    by_cases hx1 : x < 1
    · have hd1 : decide (x < (1 : Int)) = true := decide_eq_true hx1
      have HR : Hid (wiE e xs x = 161 ∧ wiX e xs x = [] ∧ wiP e xs x = 0) := wi_no (by unfold wiE; rw [if_neg (by simp [hk]), if_pos (.inl (by omega))]) (by decide)
      clear hk hx1 hch hbd hlen hnc hl
      go_enter Try.func28, Try.ntmps28
      go_wp2_with (first
        | (go_at_call 14; go_must (refine (Calls.mono HC.out ?_)); rintro r w1 ⟨rfl, hb⟩; have H1 : Hid (Cf2 33 33 w w1 w.heap.size e 0 (.slice a n c) (.slice none 0 0)) := H0.out.below hb; have p0 := H1.out.l.c0; have p1 := H1.out.l.c1; have q0 := H1.out.r.c0; have q1 := H1.out.r.c1; have g0 := H1.out.r.fz 0; have g1 := H1.out.r.fz 1; clear hb))
      have HF : Hid (CfB 33 ((w1.setCell ⟨w.heap.size + 1, 0, none⟩ (.int .i64 0)).setCell ⟨w.heap.size + 1, 1, none⟩ (.slice none 0 0)) (w.heap.size + 1) 0 (.slice none 0 0)) := cf_set H1.out.r 0 _
      refine bodyPost_ret (results_cellO Try.results28 _ _ _ ⟨w.heap.size + 1, 0, none⟩ _ _ rfl rfl (bk_load Try.underlying33 rfl infoQf HF.out rfl)) rfl ?_
      refine ⟨none, 0, by rw [HR.out.1, HR.out.2.1, HR.out.2.2]; rfl, by rw [HR.out.2.1]; exact owI_nil _ _, ?_⟩
      exact (H1.out.b.setCell (p := ⟨w.heap.size + 1, 0, none⟩) (Nat.le_succ _) _).setCell (p := ⟨w.heap.size + 1, 1, none⟩) (Nat.le_succ _) _
    have hd1 : decide (x < (1 : Int)) = false := decide_eq_false hx1
    by_cases hx2 : 8 < x
    · have hd2 : decide ((8 : Int) < x) = true := decide_eq_true hx2
      have HR : Hid (wiE e xs x = 161 ∧ wiX e xs x = [] ∧ wiP e xs x = 0) := wi_no (by unfold wiE; rw [if_neg (by simp [hk]), if_pos (.inl (by omega))]) (by decide)
      clear hk hx1 hx2 hch hbd hlen hnc hl
      go_enter Try.func28, Try.ntmps28
      go_wp2_with (first
        | (go_at_call 14; go_must (refine (Calls.mono HC.out ?_)); rintro r w1 ⟨rfl, hb⟩; have H1 : Hid (Cf2 33 33 w w1 w.heap.size e 0 (.slice a n c) (.slice none 0 0)) := H0.out.below hb; have p0 := H1.out.l.c0; have p1 := H1.out.l.c1; have q0 := H1.out.r.c0; have q1 := H1.out.r.c1; have g0 := H1.out.r.fz 0; have g1 := H1.out.r.fz 1; clear hb))
      have HF : Hid (CfB 33 ((w1.setCell ⟨w.heap.size + 1, 0, none⟩ (.int .i64 0)).setCell ⟨w.heap.size + 1, 1, none⟩ (.slice none 0 0)) (w.heap.size + 1) 0 (.slice none 0 0)) := cf_set H1.out.r 0 _
      refine bodyPost_ret (results_cellO Try.results28 _ _ _ ⟨w.heap.size + 1, 0, none⟩ _ _ rfl rfl (bk_load Try.underlying33 rfl infoQf HF.out rfl)) rfl ?_
      refine ⟨none, 0, by rw [HR.out.1, HR.out.2.1, HR.out.2.2]; rfl, by rw [HR.out.2.1]; exact owI_nil _ _, ?_⟩
      exact (H1.out.b.setCell (p := ⟨w.heap.size + 1, 0, none⟩) (Nat.le_succ _) _).setCell (p := ⟨w.heap.size + 1, 1, none⟩) (Nat.le_succ _) _
    have hd2 : decide ((8 : Int) < x) = false := decide_eq_false hx2
    by_cases hm : x ∈ xs
    · have HR : Hid (wiE e xs x = 161 ∧ wiX e xs x = [] ∧ wiP e xs x = 0) := wi_no (by unfold wiE; rw [if_neg (by simp [hk]), if_pos (.inr hm)]) (by decide)
      have hd3 : decide ((0 : Int) ≤ pla xs x) = true := decide_eq_true (by have := mt (pla_neg (xs := xs) (n := x)).1 (fun z => z hm); omega)
      clear hk hx1 hx2 hm hch hbd hlen hnc hl
      go_enter Try.func28, Try.ntmps28
      go_wp2_with (first
        | (go_at_call 14; go_must (refine (Calls.mono HC.out ?_)); rintro r w1 ⟨rfl, hb⟩; have H1 : Hid (Cf2 33 33 w w1 w.heap.size e 0 (.slice a n c) (.slice none 0 0)) := H0.out.below hb; have p0 := H1.out.l.c0; have p1 := H1.out.l.c1; have q0 := H1.out.r.c0; have q1 := H1.out.r.c1; have g0 := H1.out.r.fz 0; have g1 := H1.out.r.fz 1; clear hb)
        | (go_at_call 38; go_must (refine (Calls.mono (HP.out _ H1.out.b) ?_)); rintro r wq ⟨rfl, hq⟩; obtain rfl := hq.symm; clear hq))
      have HF : Hid (CfB 33 ((w1.setCell ⟨w.heap.size + 1, 0, none⟩ (.int .i64 0)).setCell ⟨w.heap.size + 1, 1, none⟩ (.slice none 0 0)) (w.heap.size + 1) 0 (.slice none 0 0)) := cf_set H1.out.r 0 _
      refine bodyPost_ret (results_cellO Try.results28 _ _ _ ⟨w.heap.size + 1, 0, none⟩ _ _ rfl rfl (bk_load Try.underlying33 rfl infoQf HF.out rfl)) rfl ?_
      refine ⟨none, 0, by rw [HR.out.1, HR.out.2.1, HR.out.2.2]; rfl, by rw [HR.out.2.1]; exact owI_nil _ _, ?_⟩
      exact (H1.out.b.setCell (p := ⟨w.heap.size + 1, 0, none⟩) (Nat.le_succ _) _).setCell (p := ⟨w.heap.size + 1, 1, none⟩) (Nat.le_succ _) _
    have hd3 : decide ((0 : Int) ≤ pla xs x) = false := decide_eq_false (by rw [pla_no hm]; omega)
    by_cases he : e = 1099511627776
    · have HR : Hid (wiE e xs x = 160 ∧ wiX e xs x = [] ∧ wiP e xs x = 0) := wi_no (by unfold wiE; rw [if_neg (by simp [hk]), if_neg (by rintro (z | z); exact z (by omega); exact hm z), if_pos he]) (by decide)
      have hee : (e == 1099511627776) = true := by simp [he]
      clear hk hx1 hx2 hm hch hbd hlen hnc hl he
      go_enter Try.func28, Try.ntmps28
      go_wp2_with (first
        | (go_at_call 14; go_must (refine (Calls.mono HC.out ?_)); rintro r w1 ⟨rfl, hb⟩; have H1 : Hid (Cf2 33 33 w w1 w.heap.size e 0 (.slice a n c) (.slice none 0 0)) := H0.out.below hb; have p0 := H1.out.l.c0; have p1 := H1.out.l.c1; have q0 := H1.out.r.c0; have q1 := H1.out.r.c1; have g0 := H1.out.r.fz 0; have g1 := H1.out.r.fz 1; clear hb)
        | (go_at_call 38; go_must (refine (Calls.mono (HP.out _ H1.out.b) ?_)); rintro r wq ⟨rfl, hq⟩; obtain rfl := hq.symm; clear hq))
      have HF : Hid (CfB 33 ((w1.setCell ⟨w.heap.size + 1, 0, none⟩ (.int .i64 0)).setCell ⟨w.heap.size + 1, 1, none⟩ (.slice none 0 0)) (w.heap.size + 1) 0 (.slice none 0 0)) := cf_set H1.out.r 0 _
      refine bodyPost_ret (results_cellO Try.results28 _ _ _ ⟨w.heap.size + 1, 0, none⟩ _ _ rfl rfl (bk_load Try.underlying33 rfl infoQf HF.out rfl)) rfl ?_
      refine ⟨none, 0, by rw [HR.out.1, HR.out.2.1, HR.out.2.2]; rfl, by rw [HR.out.2.1]; exact owI_nil _ _, ?_⟩
      exact (H1.out.b.setCell (p := ⟨w.heap.size + 1, 0, none⟩) (Nat.le_succ _) _).setCell (p := ⟨w.heap.size + 1, 1, none⟩) (Nat.le_succ _) _
    have hee : (e == 1099511627776) = false := by simpa using he
    have hE0 := wiE_0 hk (by omega) hm he
    have HR : Hid (wiE e xs x = 0 ∧ wiX e xs x = xs ++ [x] ∧ wiP e xs x = e + 1 ∧ (xs ++ [x]).length = n + 1) := by
      refine ⟨hE0, ?_, ?_, by simp; omega⟩
      · unfold wiX; rw [if_pos hE0]
      · unfold wiP; rw [if_pos hE0]
    have hwe : wrap64 (e + 1) = e + 1 := by rw [IntWalk.wrap64_in _ ⟨by omega, by omega⟩]
    have hwf : IntKind.i64.wrap (e + 1) = e + 1 := by rw [IntWalk.i64_in _ ⟨by omega, by omega⟩]
    have hn8 : n ≤ 8 := by omega
    have hn2 : 0 < n + 1 := by omega
    have hn9 : n + 1 ≤ 17592186044416 := by omega
    have HSX : Hid (∀ W : World, Seg .i64 (W.alloc (.cells #[.int .i64 x] 3)) (some ⟨W.heap.size, 0, none⟩) 1 [x]) := fun W => seg_new W .i64 _ _ 1 [x] rfl rfl
    have HST : Hid (∀ W u v, ((W.cell? ⟨w.heap.size, 0, none⟩ = some (.int .i64 e) ∧ W.cell? ⟨w.heap.size, 1, none⟩ = some (.slice a n c)) ∧ Hid (CfB 33 W w.heap.size e (.slice a n c) ∧ Below w.heap.size w W)) → ((((W.setCell ⟨w.heap.size + 1, 0, none⟩ u).setCell ⟨w.heap.size + 1, 1, none⟩ v).cell? ⟨w.heap.size, 0, none⟩ = some (.int .i64 e) ∧ ((W.setCell ⟨w.heap.size + 1, 0, none⟩ u).setCell ⟨w.heap.size + 1, 1, none⟩ v).cell? ⟨w.heap.size, 1, none⟩ = some (.slice a n c)) ∧ Hid (CfB 33 ((W.setCell ⟨w.heap.size + 1, 0, none⟩ u).setCell ⟨w.heap.size + 1, 1, none⟩ v) w.heap.size e (.slice a n c) ∧ Below w.heap.size w ((W.setCell ⟨w.heap.size + 1, 0, none⟩ u).setCell ⟨w.heap.size + 1, 1, none⟩ v)))) := fun W u v h => by
      have q := cf_other (cf_other h.2.out.1 (w.heap.size + 1) 0 (by omega) u) (w.heap.size + 1) 1 (by omega) v
      exact ⟨⟨q.c0, q.c1⟩, q, (h.2.out.2.setCell (p := ⟨w.heap.size + 1, 0, none⟩) (Nat.le_succ _) _).setCell (p := ⟨w.heap.size + 1, 1, none⟩) (Nat.le_succ _) _⟩
    have HSA : Hid (∀ W o, ((W.cell? ⟨w.heap.size, 0, none⟩ = some (.int .i64 e) ∧ W.cell? ⟨w.heap.size, 1, none⟩ = some (.slice a n c)) ∧ Hid (CfB 33 W w.heap.size e (.slice a n c) ∧ Below w.heap.size w W)) → (((W.alloc o).cell? ⟨w.heap.size, 0, none⟩ = some (.int .i64 e) ∧ (W.alloc o).cell? ⟨w.heap.size, 1, none⟩ = some (.slice a n c)) ∧ Hid (CfB 33 (W.alloc o) w.heap.size e (.slice a n c) ∧ Below w.heap.size w (W.alloc o)))) := fun W o h => by
      have q := h.2.out.1.below (alloc_b W o)
      exact ⟨⟨q.c0, q.c1⟩, q, h.2.out.2.trans ((alloc_b W o).mono h.2.out.2.size)⟩
    clear hk hx1 hx2 hm hch hbd hlen hnc he hl hE0
    go_enter Try.func28, Try.ntmps28
    go_wp2_with (first
      | (go_at_call 14; go_must (refine (Calls.mono HC.out ?_)); rintro r w1 ⟨rfl, hb⟩; have H1 : Hid (Cf2 33 33 w w1 w.heap.size e 0 (.slice a n c) (.slice none 0 0)) := H0.out.below hb; have p0 := H1.out.l.c0; have p1 := H1.out.l.c1; have q0 := H1.out.r.c0; have q1 := H1.out.r.c1; have g0 := H1.out.r.fz 0; have g1 := H1.out.r.fz 1; clear hb)
      | (go_at_call 38; go_must (refine (Calls.mono (HP.out _ H1.out.b) ?_)); rintro r wq ⟨rfl, hq⟩; obtain rfl := hq.symm; clear hq)
      | (at_builtin; refine wpList_append_growI _ rfl (.const (.slice none 0 0)) (.tmp 33) rfl w1.heap.size 0 _ [] rfl (owI_nil _ _) a n c xs rfl HS.out.2.2.1 (HS.out.1.below H1.out.b) (by omega) (Nat.le_refl _) ?_; intro v2 w2 hm hb; rw [Nat.zero_add, List.nil_append] at hm; have H2 : Hid (OwI w1.heap.size w2 v2 n xs ∧ Cf2 33 33 w w2 w.heap.size e 0 (.slice a n c) (.slice none 0 0) ∧ w1.heap.size ≤ w2.heap.size) := ⟨hm, H1.out.below hb, hb.size⟩; have b0' := H2.out.2.1.l.c0; have b1' := H2.out.2.1.l.c1; clear hm hb))
    have hS5 : (w2.cell? ⟨w.heap.size, 0, none⟩ = some (.int .i64 e) ∧ w2.cell? ⟨w.heap.size, 1, none⟩ = some (.slice a n c)) ∧ Hid (CfB 33 w2 w.heap.size e (.slice a n c) ∧ Below w.heap.size w w2) := ⟨⟨H2.out.2.1.l.c0, H2.out.2.1.l.c1⟩, H2.out.2.1.l, H2.out.2.1.b⟩
    have hSd : (w2.drew.cell? ⟨w.heap.size, 0, none⟩ = some (.int .i64 e) ∧ w2.drew.cell? ⟨w.heap.size, 1, none⟩ = some (.slice a n c)) ∧ Hid (CfB 33 w2.drew w.heap.size e (.slice a n c) ∧ Below w.heap.size w w2.drew) := ⟨⟨H2.out.2.1.l.c0, H2.out.2.1.l.c1⟩, H2.out.2.1.l, H2.out.2.1.b.drew⟩
    go_region_held3 (fun W => (W.cell? ⟨w.heap.size, 0, none⟩ = some (.int .i64 e) ∧ W.cell? ⟨w.heap.size, 1, none⟩ = some (.slice a n c)) ∧ Hid (CfB 33 W w.heap.size e (.slice a n c) ∧ Below w.heap.size w W)) (first | assumption | exact HSA.out _ _ (by assumption) | exact HST.out _ _ _ (by assumption)) (first
      | (refine step_growI rfl (.tmp 38) (.tmp 40) rfl w1.heap.size n v2 xs rfl ((H2.out.1.below ((Below.refl _ _).drew)).below (alloc_b w2.drew (.cells #[.int .i64 x] 3))) ⟨w2.heap.size, 0, none⟩ 1 1 [x] rfl (HSX.out w2.drew) hn2 hn9 (Nat.le_trans H2.out.2.2 (alloc_b w2.drew (.cells #[.int .i64 x] 3)).size) ?_; intro a' c' w8 ho8 hb8; have H8 : Hid (OwI w1.heap.size w8 (.slice a' (n + 1) c') (n + 1) (xs ++ [x]) ∧ Cf2 33 33 w w8 w.heap.size e 0 (.slice a n c) (.slice none 0 0)) := ⟨ho8, Cf2.belowB (Cf2.below (H2.out.2.1.drewN 1) (alloc_b w2.drew (.cells #[.int .i64 x] 3))) hb8 H1.out.r.lt H1.out.b.size⟩; have hS8 : (w8.cell? ⟨w.heap.size, 0, none⟩ = some (.int .i64 e) ∧ w8.cell? ⟨w.heap.size, 1, none⟩ = some (.slice a n c)) ∧ Hid (CfB 33 w8 w.heap.size e (.slice a n c) ∧ Below w.heap.size w w8) := ⟨⟨H8.out.2.l.c0, H8.out.2.l.c1⟩, H8.out.2.l, H8.out.2.b⟩; have r0 := H8.out.2.r.c0; have r1 := H8.out.2.r.c1; have t0 := H8.out.2.r.fz 0; have t1 := H8.out.2.r.fz 1; clear ho8 hb8))
    go_wp2
    have HF : Hid (CfB 33 ((w8.setCell ⟨w.heap.size + 1, 0, none⟩ (.int .i64 (e + 1))).setCell ⟨w.heap.size + 1, 1, none⟩ (.slice a' (n + 1) c')) (w.heap.size + 1) (e + 1) (.slice a' (n + 1) c')) := cf_set H8.out.2.r _ _
    refine bodyPost_ret (results_cellO Try.results28 _ _ _ ⟨w.heap.size + 1, 0, none⟩ _ _ rfl rfl (bk_load Try.underlying33 rfl infoQf HF.out rfl)) rfl ?_
    have l5 := H1.out.r.lt
    refine ⟨a', c', by rw [HR.out.1, HR.out.2.1, HR.out.2.2.1, HR.out.2.2.2]; rfl, ?_, ?_⟩
    · rw [HR.out.2.1, HR.out.2.2.2]
      exact ((H8.out.1.other (w.heap.size + 1) 0 l5 _).other (w.heap.size + 1) 1 l5 _).base (by omega)
    · exact (H8.out.2.b.setCell (p := ⟨w.heap.size + 1, 0, none⟩) (Nat.le_succ _) _).setCell (p := ⟨w.heap.size + 1, 1, none⟩) (Nat.le_succ _) _
  · have hck : (chk e xs != 0) = true := by simpa using hk
    have HR : Hid (wiE e xs x = chk e xs ∧ wiX e xs x = [] ∧ wiP e xs x = 0) := wi_no (by unfold wiE; rw [if_pos hk]) hk
    clear hk hlen hnc hl
    go_enter Try.func28, Try.ntmps28
    go_wp2_with (first
      | (go_at_call 14; go_must (refine (Calls.mono HC.out ?_)); rintro r w1 ⟨rfl, hb⟩; have H1 : Hid (Cf2 33 33 w w1 w.heap.size e 0 (.slice a n c) (.slice none 0 0)) := H0.out.below hb; have p0 := H1.out.l.c0; have p1 := H1.out.l.c1; have q0 := H1.out.r.c0; have q1 := H1.out.r.c1; have g0 := H1.out.r.fz 0; have g1 := H1.out.r.fz 1; clear hb))
    have HF : Hid (CfB 33 ((w1.setCell ⟨w.heap.size + 1, 0, none⟩ (.int .i64 0)).setCell ⟨w.heap.size + 1, 1, none⟩ (.slice none 0 0)) (w.heap.size + 1) 0 (.slice none 0 0)) := cf_set H1.out.r 0 _
    refine bodyPost_ret (results_cellO Try.results28 _ _ _ ⟨w.heap.size + 1, 0, none⟩ _ _ rfl rfl (bk_load Try.underlying33 rfl infoQf HF.out rfl)) rfl ?_
    refine ⟨none, 0, by rw [HR.out.1, HR.out.2.1, HR.out.2.2]; rfl, by rw [HR.out.2.1]; exact owI_nil _ _, ?_⟩
    exact (H1.out.b.setCell (p := ⟨w.heap.size + 1, 0, none⟩) (Nat.le_succ _) _).setCell (p := ⟨w.heap.size + 1, 1, none⟩) (Nat.le_succ _) _
end Go.Proofs.Ytekefbbjocekiaa
