/-
  What config's Without and With answer. Conditions: the chain can be read, and has at most 2^43 nodes.
-/
import Derived.Test.YtekefbbjocekiabCGb
namespace Go.Proofs.Ytekefbbjocekiab
open Go.RowKit Go.ChangeShapes Go.WideShapes
set_option linter.unusedVariables false

theorem cf2_st {T U V : TypeId} {w w1 w4 : World} {N : Nat} {e f : Int} {u v : Value} {cs : Array Value} (h : Cf2 T U w w1 N e f u v) (k : (w1.alloc (.cells cs V)).grownBy w4 (some w1.heap.size)) : Cf2 T U w w4 N e f u v := by
  have l1 := h.l.lt
  have l2 := h.r.lt
  refine ⟨?_, ?_, ?_⟩
  · exact (k.block N (by simp; omega) (by intro z; injection z with z; omega)).trans ((heap_alloc_old _ _ l1).trans h.l)
  · exact (k.block (N + 1) (by simp; omega) (by intro z; injection z with z; omega)).trans ((heap_alloc_old _ _ l2).trans h.r)
  · exact (h.b.alloc h.b.size _).grown k (by simp; exact Nat.le_succ_of_le h.b.size) (by rintro q hq; cases hq; exact h.b.size)
theorem wo_no {e : Int} {xs : List Int} {x er : Int} (h : woE e xs x = er) (hr : er ≠ 0) : woE e xs x = er ∧ woX e xs x = [] ∧ woP e xs x = 0 := by
  refine ⟨h, ?_, ?_⟩
  · unfold woX; rw [h, if_neg hr]
  · unfold woP; rw [h, if_neg hr]
theorem wi_no {e : Int} {xs : List Int} {x er : Int} (h : wiE e xs x = er) (hr : er ≠ 0) : wiE e xs x = er ∧ wiX e xs x = [] ∧ wiP e xs x = 0 := by
  refine ⟨h, ?_, ?_⟩
  · unfold wiX; rw [h, if_neg hr]
  · unfold wiP; rw [h, if_neg hr]
theorem ofP_pla {e : Int} {xs : List Int} {x : Int} (h : chk e xs = 0) : ofP e xs x = pla xs x + 1 := if_pos h
theorem woE_0 {e : Int} {xs : List Int} {x : Int} (h : chk e xs = 0) (h2 : 0 ≤ pla xs x) (h3 : xs.length ≠ 1) (h4 : e ≠ 1099511627776) : woE e xs x = 0 := by
  unfold woE; rw [if_neg (by simp [h]), if_neg (by omega), if_neg h3, if_neg h4]
theorem wiE_0 {e : Int} {xs : List Int} {x : Int} (h : chk e xs = 0) (h2 : 1 ≤ x ∧ x ≤ 8) (h3 : x ∉ xs) (h4 : e ≠ 1099511627776) : wiE e xs x = 0 := by
  unfold wiE; rw [if_neg (by simp [h]), if_neg (by rintro (z | z); exact z h2; exact h3 z), if_neg h4]
/-- What both answer. -/
def StA (w : World) (P E : Int) (X : List Int) (r : Ending) (w' : World) : Prop := ∃ a' c', r = .returned (.tuple #[.agg #[.int .i64 P, .slice a' X.length c'], .int .i64 E]) ∧ OwI w.heap.size w' (.slice a' X.length c') X.length X ∧ Below w.heap.size w w'
set_option maxRecDepth 20000 in
set_option maxHeartbeats 4000000 in
theorem without_c (e : Int) (a : Option Addr) (n c : Nat) (xs : List Int) (x : Int) (w : World) (h : Seg .i64 w a n xs) (hnz : a = none → c = 0) (hnc : n ≤ c) :
    Calls Try.prog 22 #[.agg #[.int .i64 e, .slice a n c], .int .i64 x] w (StA w (woP e xs x) (woE e xs x) (woX e xs x)) := by
  have h0 := cf2_new 25 25 w e 0 (.slice a n c) (.slice none 0 0)
  have H0 : Hid (Cf2 25 25 w ((w.alloc (.cells #[.int .i64 e, .slice a n c] 25)).alloc (.cells #[.int .i64 0, .slice none 0 0] 25)) w.heap.size e 0 (.slice a n c) (.slice none 0 0)) := h0
  have HL : Hid _ := look_c e a n c xs _ (h.below h0.b)
  have HO : Hid (∀ W, Calls Try.prog 42 #[.agg (lkP e xs).toArray, .int .i64 x] W fun r w' => r = .returned (.int .i64 (ofP e xs x)) ∧ Below W.heap.size W w') := fun W => of_c e xs x W
  have HNO : Hid (∀ x W, Calls Try.prog 45 #[.int .i64 x] W fun r w' => r = .returned (.bool (isN x)) ∧ w' = W) := isnode_c
  have HS : Hid (Seg .i64 w a n xs ∧ xs.length = n ∧ (a = none → c = 0) ∧ n ≤ c) := ⟨h, h.1, hnz, hnc⟩
  have hlen := h.1
  clear h h0 hnz
  by_cases hk : chk e xs = 0
  · have hck : (chk e xs != 0) = false := by rw [hk]; rfl
    have HO' : Hid (ofP e xs x = pla xs x + 1) := ofP_pla hk
    rw [HO'.out] at HO
    have hch := chk_ok.1 hk
    have hbd := pla_bd xs x
    by_cases hp : pla xs x < 0
    · have HR : Hid (woE e xs x = 161 ∧ woX e xs x = [] ∧ woP e xs x = 0) := wo_no (by unfold woE; rw [if_neg (by simp [hk]), if_pos hp]) (by decide)
      have hz : pla xs x = -1 := by omega
      rw [hz] at HO
      clear hk hp hz hch hbd hlen hnc
      go_enter Try.func22, Try.ntmps22
      go_wp2_with (first
        | (go_at_call 41; go_must (refine (Calls.mono HL.out ?_)); rintro r w1 ⟨rfl, hb⟩; have H1 : Hid (Cf2 25 25 w w1 w.heap.size e 0 (.slice a n c) (.slice none 0 0)) := H0.out.below hb; clear hb)
        | (refine wpList_store_bk 77 rfl (.tmp 6) (.tmp 12) rfl infoPl w1.heap.size zer9 _ rfl rfl (heap_new _ _) rfl (by simp [lkP_length]) (lkP_one _ _) ?_; intro w4 k1 k2; go_must (have H4 : Hid (Cf2 25 25 w w4 w.heap.size e 0 (.slice a n c) (.slice none 0 0) ∧ Bk 77 w4 w1.heap.size (lkP e xs).toArray) := ⟨cf2_st H1.out k2, k1⟩); have p0 := H4.out.1.l.c0; have p1 := H4.out.1.l.c1; have k0 := H4.out.1.r.c0; have k1' := H4.out.1.r.c1; have f0 := H4.out.1.r.fz 0; have f1 := H4.out.1.r.fz 1; clear k1 k2)
        | (refine wpList_load_bk 77 rfl (.tmp 6) rfl Try.underlying77 rfl infoPl w1.heap.size _ rfl H4.out.2 (by simp [lkP_length]) ?_)
        | (go_at_call 42; go_must (refine (Calls.mono (HO.out _) ?_)); rintro r w5 ⟨rfl, hb⟩; have H5 : Hid (Cf2 25 25 w w5 w.heap.size e 0 (.slice a n c) (.slice none 0 0)) := H4.out.1.below hb; have p0' := H5.out.l.c0; have p1' := H5.out.l.c1; have q0 := H5.out.r.c0; have q1 := H5.out.r.c1; have g0 := H5.out.r.fz 0; have g1 := H5.out.r.fz 1; clear hb))
      have HF : Hid (CfB 25 ((w5.setCell ⟨w.heap.size + 1, 0, none⟩ (.int .i64 0)).setCell ⟨w.heap.size + 1, 1, none⟩ (.slice none 0 0)) (w.heap.size + 1) 0 (.slice none 0 0)) := cf_set H5.out.r 0 _
      refine bodyPost_ret (results_cellO Try.results22 _ _ _ ⟨w.heap.size + 1, 0, none⟩ _ _ rfl rfl (bk_load Try.underlying25 rfl infoCf HF.out rfl)) rfl ?_
      refine ⟨none, 0, by rw [HR.out.1, HR.out.2.1, HR.out.2.2]; rfl, by rw [HR.out.2.1]; exact owI_nil _ _, ?_⟩
      exact (H5.out.b.setCell (p := ⟨w.heap.size + 1, 0, none⟩) (Nat.le_succ _) _).setCell (p := ⟨w.heap.size + 1, 1, none⟩) (Nat.le_succ _) _
    obtain ⟨P, hP⟩ : ∃ P : Nat, pla xs x = (P : Int) := ⟨(pla xs x).toNat, by omega⟩
    rw [hP] at HO hbd
    have hPn : P < n := by omega
    have hpz : ((P : Int) + 1 == 0) = false := by simp; omega
    by_cases h1 : n = 1
    · have HR : Hid (woE e xs x = 162 ∧ woX e xs x = [] ∧ woP e xs x = 0) := wo_no (by unfold woE; rw [if_neg (by simp [hk]), if_neg hp, hlen, if_pos h1]) (by decide)
      have hb2 : ((n : Int) == 1) = true := by simp [h1]
      clear hk hp h1 hch hbd hlen hnc hP hPn
      go_enter Try.func22, Try.ntmps22
      go_wp2_with (first
        | (go_at_call 41; go_must (refine (Calls.mono HL.out ?_)); rintro r w1 ⟨rfl, hb⟩; have H1 : Hid (Cf2 25 25 w w1 w.heap.size e 0 (.slice a n c) (.slice none 0 0)) := H0.out.below hb; clear hb)
        | (refine wpList_store_bk 77 rfl (.tmp 6) (.tmp 12) rfl infoPl w1.heap.size zer9 _ rfl rfl (heap_new _ _) rfl (by simp [lkP_length]) (lkP_one _ _) ?_; intro w4 k1 k2; go_must (have H4 : Hid (Cf2 25 25 w w4 w.heap.size e 0 (.slice a n c) (.slice none 0 0) ∧ Bk 77 w4 w1.heap.size (lkP e xs).toArray) := ⟨cf2_st H1.out k2, k1⟩); have p0 := H4.out.1.l.c0; have p1 := H4.out.1.l.c1; have k0 := H4.out.1.r.c0; have k1' := H4.out.1.r.c1; have f0 := H4.out.1.r.fz 0; have f1 := H4.out.1.r.fz 1; clear k1 k2)
        | (refine wpList_load_bk 77 rfl (.tmp 6) rfl Try.underlying77 rfl infoPl w1.heap.size _ rfl H4.out.2 (by simp [lkP_length]) ?_)
        | (go_at_call 42; go_must (refine (Calls.mono (HO.out _) ?_)); rintro r w5 ⟨rfl, hb⟩; have H5 : Hid (Cf2 25 25 w w5 w.heap.size e 0 (.slice a n c) (.slice none 0 0)) := H4.out.1.below hb; have p0' := H5.out.l.c0; have p1' := H5.out.l.c1; have q0 := H5.out.r.c0; have q1 := H5.out.r.c1; have g0 := H5.out.r.fz 0; have g1 := H5.out.r.fz 1; clear hb))
      have HF : Hid (CfB 25 ((w5.setCell ⟨w.heap.size + 1, 0, none⟩ (.int .i64 0)).setCell ⟨w.heap.size + 1, 1, none⟩ (.slice none 0 0)) (w.heap.size + 1) 0 (.slice none 0 0)) := cf_set H5.out.r 0 _
      refine bodyPost_ret (results_cellO Try.results22 _ _ _ ⟨w.heap.size + 1, 0, none⟩ _ _ rfl rfl (bk_load Try.underlying25 rfl infoCf HF.out rfl)) rfl ?_
      refine ⟨none, 0, by rw [HR.out.1, HR.out.2.1, HR.out.2.2]; rfl, by rw [HR.out.2.1]; exact owI_nil _ _, ?_⟩
      exact (H5.out.b.setCell (p := ⟨w.heap.size + 1, 0, none⟩) (Nat.le_succ _) _).setCell (p := ⟨w.heap.size + 1, 1, none⟩) (Nat.le_succ _) _
    have hb2 : ((n : Int) == 1) = false := by simp; omega
    have hPc : P ≤ c := by omega
    have hPc2 : P + 1 ≤ n := by omega
    have s1 := slice_ih a n c P hPc
    have s2 : ∀ W, (Instr.slice 23 (.slice a n c) (some (.int .i64 ((P : Int) + 1))) none none).run Try.prog W = .ok (.slice (cutI a c (P + 1)) (n - (P + 1)) (c - (P + 1))) W := fun W => by
      have := slice_il a n c (P + 1) hPc2 W
      rwa [Int.natCast_add, Int.natCast_one] at this
    have hwa : wrap64 ((P : Int) + 1 - 1) = (P : Int) := by rw [IntWalk.wrap64_in _ ⟨by omega, by omega⟩]; omega
    have hwc : wrap64 (P : Int) = (P : Int) := by rw [IntWalk.wrap64_in _ ⟨by omega, by omega⟩]
    have hwd : IntKind.i64.wrap (P : Int) = (P : Int) := by rw [IntWalk.i64_in _ ⟨by omega, by omega⟩]
    have hwb : IntKind.i64.wrap ((P : Int) + 1 - 1) = (P : Int) := by rw [IntWalk.i64_in _ ⟨by omega, by omega⟩]; omega
    have HSG : Hid (∀ W, Below w.heap.size w W → Seg .i64 W a P (xs.take P) ∧ Seg .i64 W (cutI a c (P + 1)) (n - (P + 1)) (xs.drop (P + 1)) ∧ (cutI a c (P + 1) = none → c - (P + 1) = 0)) := by
      show ∀ W, _
      intro W hb
      have hs := HS.out.1.below hb
      refine ⟨seg_take hs P (by omega), ?_, ?_⟩
      · have := seg_cutI hs (P + 1) n (by omega) (Nat.le_refl _) hnc
        rwa [List.take_of_length_le (by omega)] at this
      · intro z
        unfold cutI at z
        split at z
        · omega
        · cases a with
          | none => have := HS.out.2.2.1 rfl; omega
          | some ad => simp at z
    have HST : Hid (∀ W W5, Below W.heap.size W W5 → ((W.cell? ⟨w.heap.size, 0, none⟩ = some (.int .i64 e) ∧ W.cell? ⟨w.heap.size, 1, none⟩ = some (.slice a n c)) ∧ Hid (CfB 25 W w.heap.size e (.slice a n c) ∧ Below w.heap.size w W)) → ((W5.cell? ⟨w.heap.size, 0, none⟩ = some (.int .i64 e) ∧ W5.cell? ⟨w.heap.size, 1, none⟩ = some (.slice a n c)) ∧ Hid (CfB 25 W5 w.heap.size e (.slice a n c) ∧ Below w.heap.size w W5))) := fun W W5 hb h => ⟨⟨(h.2.out.1.below hb).c0, (h.2.out.1.below hb).c1⟩, h.2.out.1.below hb, h.2.out.2.trans (hb.mono h.2.out.2.size)⟩
    have HSE : Hid (∀ W u v, ((W.cell? ⟨w.heap.size, 0, none⟩ = some (.int .i64 e) ∧ W.cell? ⟨w.heap.size, 1, none⟩ = some (.slice a n c)) ∧ Hid (CfB 25 W w.heap.size e (.slice a n c) ∧ Below w.heap.size w W)) → ((((W.setCell ⟨w.heap.size + 1, 0, none⟩ u).setCell ⟨w.heap.size + 1, 1, none⟩ v).cell? ⟨w.heap.size, 0, none⟩ = some (.int .i64 e) ∧ ((W.setCell ⟨w.heap.size + 1, 0, none⟩ u).setCell ⟨w.heap.size + 1, 1, none⟩ v).cell? ⟨w.heap.size, 1, none⟩ = some (.slice a n c)) ∧ Hid (CfB 25 ((W.setCell ⟨w.heap.size + 1, 0, none⟩ u).setCell ⟨w.heap.size + 1, 1, none⟩ v) w.heap.size e (.slice a n c) ∧ Below w.heap.size w ((W.setCell ⟨w.heap.size + 1, 0, none⟩ u).setCell ⟨w.heap.size + 1, 1, none⟩ v)))) := fun W u v h => by
      have q := cf_other (cf_other h.2.out.1 (w.heap.size + 1) 0 (by omega) u) (w.heap.size + 1) 1 (by omega) v
      exact ⟨⟨q.c0, q.c1⟩, q, (h.2.out.2.setCell (p := ⟨w.heap.size + 1, 0, none⟩) (Nat.le_succ _) _).setCell (p := ⟨w.heap.size + 1, 1, none⟩) (Nat.le_succ _) _⟩
    by_cases he : e = 1099511627776
    · have HR : Hid (woE e xs x = 160 ∧ woX e xs x = [] ∧ woP e xs x = 0) := wo_no (by unfold woE; rw [if_neg (by simp [hk]), if_neg hp, hlen, if_neg h1, if_pos he]) (by decide)
      have HBN : Hid (∀ b W, Calls Try.prog 44 #[.int .i64 e, .slice (some ⟨b, 0, none⟩) 2 2] W fun r w' => r = .returned (.tuple #[.agg #[.int .i64 0, .slice none 0 0], .int .i64 160]) ∧ Below W.heap.size W w') := by rw [he]; exact fun b W => behind_no b W
      clear hk hp h1 hch hbd hlen hnc hP he hPc hPc2
      go_enter Try.func22, Try.ntmps22
      go_wp2_with (first
        | (go_at_call 41; go_must (refine (Calls.mono HL.out ?_)); rintro r w1 ⟨rfl, hb⟩; have H1 : Hid (Cf2 25 25 w w1 w.heap.size e 0 (.slice a n c) (.slice none 0 0)) := H0.out.below hb; clear hb)
        | (refine wpList_store_bk 77 rfl (.tmp 6) (.tmp 12) rfl infoPl w1.heap.size zer9 _ rfl rfl (heap_new _ _) rfl (by simp [lkP_length]) (lkP_one _ _) ?_; intro w4 k1 k2; go_must (have H4 : Hid (Cf2 25 25 w w4 w.heap.size e 0 (.slice a n c) (.slice none 0 0) ∧ Bk 77 w4 w1.heap.size (lkP e xs).toArray) := ⟨cf2_st H1.out k2, k1⟩); have p0 := H4.out.1.l.c0; have p1 := H4.out.1.l.c1; have k0 := H4.out.1.r.c0; have k1' := H4.out.1.r.c1; have f0 := H4.out.1.r.fz 0; have f1 := H4.out.1.r.fz 1; clear k1 k2)
        | (refine wpList_load_bk 77 rfl (.tmp 6) rfl Try.underlying77 rfl infoPl w1.heap.size _ rfl H4.out.2 (by simp [lkP_length]) ?_)
        | (go_at_call 42; go_must (refine (Calls.mono (HO.out _) ?_)); rintro r w5 ⟨rfl, hb⟩; have H5 : Hid (Cf2 25 25 w w5 w.heap.size e 0 (.slice a n c) (.slice none 0 0)) := H4.out.1.below hb; have p0' := H5.out.l.c0; have p1' := H5.out.l.c1; have q0 := H5.out.r.c0; have q1 := H5.out.r.c1; have g0 := H5.out.r.fz 0; have g1 := H5.out.r.fz 1; clear hb))
      have hS5 : (w5.cell? ⟨w.heap.size, 0, none⟩ = some (.int .i64 e) ∧ w5.cell? ⟨w.heap.size, 1, none⟩ = some (.slice a n c)) ∧ Hid (CfB 25 w5 w.heap.size e (.slice a n c) ∧ Below w.heap.size w w5) := ⟨⟨H5.out.l.c0, H5.out.l.c1⟩, H5.out.l, H5.out.b⟩
      have hSd : (w5.drew.cell? ⟨w.heap.size, 0, none⟩ = some (.int .i64 e) ∧ w5.drew.cell? ⟨w.heap.size, 1, none⟩ = some (.slice a n c)) ∧ Hid (CfB 25 w5.drew w.heap.size e (.slice a n c) ∧ Below w.heap.size w w5.drew) := ⟨⟨H5.out.l.c0, H5.out.l.c1⟩, H5.out.l, H5.out.b.drew⟩
      go_region_held3 (fun W => (W.cell? ⟨w.heap.size, 0, none⟩ = some (.int .i64 e) ∧ W.cell? ⟨w.heap.size, 1, none⟩ = some (.slice a n c)) ∧ Hid (CfB 25 W w.heap.size e (.slice a n c) ∧ Below w.heap.size w W)) (first | assumption | exact HST.out _ _ (alloc_b _ _) (by assumption) | exact HSE.out _ _ _ (by assumption)) (first
        | (go_at_call 44; refine (Calls.mono (HBN.out _ _) ?_); rintro r w7 ⟨rfl, hb7⟩; have hS7 := HST.out _ w7 hb7 (HST.out _ _ (alloc_b _ _) hSd); have HC7 : Hid (Cf2 25 25 w w7 w.heap.size e 0 (.slice a n c) (.slice none 0 0)) := Cf2.below (Cf2.below (H5.out.drewN 1) (alloc_b _ _)) hb7; have r0 := HC7.out.r.c0; have r1 := HC7.out.r.c1; have t0 := HC7.out.r.fz 0; have t1 := HC7.out.r.fz 1))
      go_wp2
      have HF : Hid (CfB 25 ((w7.setCell ⟨w.heap.size + 1, 0, none⟩ (.int .i64 0)).setCell ⟨w.heap.size + 1, 1, none⟩ (.slice none 0 0)) (w.heap.size + 1) 0 (.slice none 0 0)) := cf_set HC7.out.r 0 _
      refine bodyPost_ret (results_cellO Try.results22 _ _ _ ⟨w.heap.size + 1, 0, none⟩ _ _ rfl rfl (bk_load Try.underlying25 rfl infoCf HF.out rfl)) rfl ?_
      refine ⟨none, 0, by rw [HR.out.1, HR.out.2.1, HR.out.2.2]; rfl, by rw [HR.out.2.1]; exact owI_nil _ _, ?_⟩
      exact (HC7.out.b.setCell (p := ⟨w.heap.size + 1, 0, none⟩) (Nat.le_succ _) _).setCell (p := ⟨w.heap.size + 1, 1, none⟩) (Nat.le_succ _) _
    have hE0 := woE_0 hk (by omega : 0 ≤ pla xs x) (by omega) he
    have HR : Hid (woE e xs x = 0 ∧ woX e xs x = xs.take P ++ xs.drop (P + 1) ∧ woP e xs x = e + 1 ∧ (xs.take P ++ xs.drop (P + 1)).length = P + (n - (P + 1))) := by
      refine ⟨hE0, ?_, ?_, by simp; omega⟩
      · unfold woX; rw [if_pos hE0, hP, Int.toNat_natCast]
      · unfold woP; rw [if_pos hE0]
    have HBH : Hid (∀ b W, b = W.heap.size → Below w.heap.size w W → Calls Try.prog 44 #[.int .i64 e, .slice (some ⟨b, 0, none⟩) 2 2] (W.alloc (.cells #[.slice a P c, .slice (cutI a c (P + 1)) (n - (P + 1)) (c - (P + 1))] 23)) fun r w' => ∃ a' c', r = .returned (.tuple #[.agg #[.int .i64 (e + 1), .slice a' (P + (n - (P + 1))) c'], .int .i64 0]) ∧ OwI (W.alloc (.cells #[.slice a P c, .slice (cutI a c (P + 1)) (n - (P + 1)) (c - (P + 1))] 23)).heap.size w' (.slice a' (P + (n - (P + 1))) c') (P + (n - (P + 1))) (xs.take P ++ xs.drop (P + 1)) ∧ Below (W.alloc (.cells #[.slice a P c, .slice (cutI a c (P + 1)) (n - (P + 1)) (c - (P + 1))] 23)).heap.size (W.alloc (.cells #[.slice a P c, .slice (cutI a c (P + 1)) (n - (P + 1)) (c - (P + 1))] 23)) w') := by
      show ∀ b W, _
      intro b W hbw hb
      subst hbw
      have hb2 := hb.trans ((alloc_b W (.cells #[.slice a P c, .slice (cutI a c (P + 1)) (n - (P + 1)) (c - (P + 1))] 23)).mono hb.size)
      obtain ⟨g1, g2, g3⟩ := HSG.out _ hb2
      have hnew := heap_new W (.cells #[.slice a P c, .slice (cutI a c (P + 1)) (n - (P + 1)) (c - (P + 1))] 23)
      exact behind_c e W.heap.size P c (n - (P + 1)) (c - (P + 1)) a (cutI a c (P + 1)) _ _ _ (cell_of_row _ _ _ _ _ _ hnew) (cell_of_row _ _ _ _ _ _ hnew) (by simp) HS.out.2.2.1 g3 g1 g2 (by omega) (by omega)
    clear hk hp h1 hch hbd hlen hnc hP he hPc hPc2 hE0
    go_enter Try.func22, Try.ntmps22
    go_wp2_with (first
      | (go_at_call 41; go_must (refine (Calls.mono HL.out ?_)); rintro r w1 ⟨rfl, hb⟩; have H1 : Hid (Cf2 25 25 w w1 w.heap.size e 0 (.slice a n c) (.slice none 0 0)) := H0.out.below hb; clear hb)
      | (refine wpList_store_bk 77 rfl (.tmp 6) (.tmp 12) rfl infoPl w1.heap.size zer9 _ rfl rfl (heap_new _ _) rfl (by simp [lkP_length]) (lkP_one _ _) ?_; intro w4 k1 k2; go_must (have H4 : Hid (Cf2 25 25 w w4 w.heap.size e 0 (.slice a n c) (.slice none 0 0) ∧ Bk 77 w4 w1.heap.size (lkP e xs).toArray) := ⟨cf2_st H1.out k2, k1⟩); have p0 := H4.out.1.l.c0; have p1 := H4.out.1.l.c1; have k0 := H4.out.1.r.c0; have k1' := H4.out.1.r.c1; have f0 := H4.out.1.r.fz 0; have f1 := H4.out.1.r.fz 1; clear k1 k2)
      | (refine wpList_load_bk 77 rfl (.tmp 6) rfl Try.underlying77 rfl infoPl w1.heap.size _ rfl H4.out.2 (by simp [lkP_length]) ?_)
      | (go_at_call 42; go_must (refine (Calls.mono (HO.out _) ?_)); rintro r w5 ⟨rfl, hb⟩; have H5 : Hid (Cf2 25 25 w w5 w.heap.size e 0 (.slice a n c) (.slice none 0 0)) := H4.out.1.below hb; have p0' := H5.out.l.c0; have p1' := H5.out.l.c1; have q0 := H5.out.r.c0; have q1 := H5.out.r.c1; have g0 := H5.out.r.fz 0; have g1 := H5.out.r.fz 1; clear hb))
    have hS5 : (w5.cell? ⟨w.heap.size, 0, none⟩ = some (.int .i64 e) ∧ w5.cell? ⟨w.heap.size, 1, none⟩ = some (.slice a n c)) ∧ Hid (CfB 25 w5 w.heap.size e (.slice a n c) ∧ Below w.heap.size w w5) := ⟨⟨H5.out.l.c0, H5.out.l.c1⟩, H5.out.l, H5.out.b⟩
    have hSd : (w5.drew.cell? ⟨w.heap.size, 0, none⟩ = some (.int .i64 e) ∧ w5.drew.cell? ⟨w.heap.size, 1, none⟩ = some (.slice a n c)) ∧ Hid (CfB 25 w5.drew w.heap.size e (.slice a n c) ∧ Below w.heap.size w w5.drew) := ⟨⟨H5.out.l.c0, H5.out.l.c1⟩, H5.out.l, H5.out.b.drew⟩
    go_region_held3 (fun W => (W.cell? ⟨w.heap.size, 0, none⟩ = some (.int .i64 e) ∧ W.cell? ⟨w.heap.size, 1, none⟩ = some (.slice a n c)) ∧ Hid (CfB 25 W w.heap.size e (.slice a n c) ∧ Below w.heap.size w W)) (first | assumption | exact HST.out _ _ (alloc_b _ _) (by assumption) | exact HSE.out _ _ _ (by assumption)) (first
      | (go_at_call 44; refine (Calls.mono (HBH.out _ w5.drew rfl hSd.2.out.2) ?_); rintro r w7 ⟨a', c', rfl, ho7, hb7⟩; have hS7 := HST.out _ w7 hb7 (HST.out _ _ (alloc_b _ _) hSd); have H7 : Hid (OwI w5.heap.size w7 (.slice a' (P + (n - (P + 1))) c') (P + (n - (P + 1))) (xs.take P ++ xs.drop (P + 1))) := ho7.base (by simp); have HC7 : Hid (Cf2 25 25 w w7 w.heap.size e 0 (.slice a n c) (.slice none 0 0)) := Cf2.below (Cf2.below (H5.out.drewN 1) (alloc_b _ _)) hb7; have r0 := HC7.out.r.c0; have r1 := HC7.out.r.c1; have t0 := HC7.out.r.fz 0; have t1 := HC7.out.r.fz 1; clear ho7))
    go_wp2
    have HF : Hid (CfB 25 ((w7.setCell ⟨w.heap.size + 1, 0, none⟩ (.int .i64 (e + 1))).setCell ⟨w.heap.size + 1, 1, none⟩ (.slice a' (P + (n - (P + 1))) c')) (w.heap.size + 1) (e + 1) (.slice a' (P + (n - (P + 1))) c')) := cf_set HC7.out.r _ _
    refine bodyPost_ret (results_cellO Try.results22 _ _ _ ⟨w.heap.size + 1, 0, none⟩ _ _ rfl rfl (bk_load Try.underlying25 rfl infoCf HF.out rfl)) rfl ?_
    have l5 := H5.out.r.lt
    refine ⟨a', c', by rw [HR.out.1, HR.out.2.1, HR.out.2.2.1, HR.out.2.2.2]; rfl, ?_, ?_⟩
    · rw [HR.out.2.1, HR.out.2.2.2]
      exact ((H7.out.other (w.heap.size + 1) 0 l5 _).other (w.heap.size + 1) 1 l5 _).base (by omega)
    · exact (HC7.out.b.setCell (p := ⟨w.heap.size + 1, 0, none⟩) (Nat.le_succ _) _).setCell (p := ⟨w.heap.size + 1, 1, none⟩) (Nat.le_succ _) _
  · have hck : (chk e xs != 0) = true := by simpa using hk
    have HR : Hid (woE e xs x = chk e xs ∧ woX e xs x = [] ∧ woP e xs x = 0) := wo_no (by unfold woE; rw [if_pos hk]) hk
    have HO' : Hid (ofP e xs x = 0) := if_neg hk
    rw [HO'.out] at HO
    clear hk hlen hnc
    go_enter Try.func22, Try.ntmps22
    go_wp2_with (first
      | (go_at_call 41; go_must (refine (Calls.mono HL.out ?_)); rintro r w1 ⟨rfl, hb⟩; have H1 : Hid (Cf2 25 25 w w1 w.heap.size e 0 (.slice a n c) (.slice none 0 0)) := H0.out.below hb; clear hb)
      | (refine wpList_store_bk 77 rfl (.tmp 6) (.tmp 12) rfl infoPl w1.heap.size zer9 _ rfl rfl (heap_new _ _) rfl (by simp [lkP_length]) (lkP_one _ _) ?_; intro w4 k1 k2; go_must (have H4 : Hid (Cf2 25 25 w w4 w.heap.size e 0 (.slice a n c) (.slice none 0 0) ∧ Bk 77 w4 w1.heap.size (lkP e xs).toArray) := ⟨cf2_st H1.out k2, k1⟩); have p0 := H4.out.1.l.c0; have p1 := H4.out.1.l.c1; have k0 := H4.out.1.r.c0; have k1' := H4.out.1.r.c1; have f0 := H4.out.1.r.fz 0; have f1 := H4.out.1.r.fz 1; clear k1 k2)
      | (refine wpList_load_bk 77 rfl (.tmp 6) rfl Try.underlying77 rfl infoPl w1.heap.size _ rfl H4.out.2 (by simp [lkP_length]) ?_)
      | (go_at_call 42; go_must (refine (Calls.mono (HO.out _) ?_)); rintro r w5 ⟨rfl, hb⟩; have H5 : Hid (Cf2 25 25 w w5 w.heap.size e 0 (.slice a n c) (.slice none 0 0)) := H4.out.1.below hb; have p0' := H5.out.l.c0; have p1' := H5.out.l.c1; have q0 := H5.out.r.c0; have q1 := H5.out.r.c1; have g0 := H5.out.r.fz 0; have g1 := H5.out.r.fz 1; clear hb))
    have HF : Hid (CfB 25 ((w5.setCell ⟨w.heap.size + 1, 0, none⟩ (.int .i64 0)).setCell ⟨w.heap.size + 1, 1, none⟩ (.slice none 0 0)) (w.heap.size + 1) 0 (.slice none 0 0)) := cf_set H5.out.r 0 _
    refine bodyPost_ret (results_cellO Try.results22 _ _ _ ⟨w.heap.size + 1, 0, none⟩ _ _ rfl rfl (bk_load Try.underlying25 rfl infoCf HF.out rfl)) rfl ?_
    refine ⟨none, 0, by rw [HR.out.1, HR.out.2.1, HR.out.2.2]; rfl, by rw [HR.out.2.1]; exact owI_nil _ _, ?_⟩
    exact (H5.out.b.setCell (p := ⟨w.heap.size + 1, 0, none⟩) (Nat.le_succ _) _).setCell (p := ⟨w.heap.size + 1, 1, none⟩) (Nat.le_succ _) _

set_option maxRecDepth 20000 in
set_option maxHeartbeats 4000000 in
theorem with_c (e : Int) (a : Option Addr) (n c : Nat) (xs : List Int) (x : Int) (w : World) (h : Seg .i64 w a n xs) (hnz : a = none → c = 0) (hnc : n ≤ c) :
    Calls Try.prog 23 #[.agg #[.int .i64 e, .slice a n c], .int .i64 x] w (StA w (wiP e xs x) (wiE e xs x) (wiX e xs x)) := by
  have h0 := cf2_new 25 25 w e 0 (.slice a n c) (.slice none 0 0)
  have H0 : Hid (Cf2 25 25 w ((w.alloc (.cells #[.int .i64 e, .slice a n c] 25)).alloc (.cells #[.int .i64 0, .slice none 0 0] 25)) w.heap.size e 0 (.slice a n c) (.slice none 0 0)) := h0
  have HL : Hid _ := look_c e a n c xs _ (h.below h0.b)
  have HO : Hid (∀ W, Calls Try.prog 42 #[.agg (lkP e xs).toArray, .int .i64 x] W fun r w' => r = .returned (.int .i64 (ofP e xs x)) ∧ Below W.heap.size W w') := fun W => of_c e xs x W
  have HNO : Hid (∀ x W, Calls Try.prog 45 #[.int .i64 x] W fun r w' => r = .returned (.bool (isN x)) ∧ w' = W) := isnode_c
  have HS : Hid (Seg .i64 w a n xs ∧ xs.length = n ∧ (a = none → c = 0) ∧ n ≤ c) := ⟨h, h.1, hnz, hnc⟩
  have hlen := h.1
  clear h h0 hnz
  by_cases hk : chk e xs = 0
  · have hck : (chk e xs != 0) = false := by rw [hk]; rfl
    have HO' : Hid (ofP e xs x = pla xs x + 1) := ofP_pla hk
    rw [HO'.out] at HO
    have hch := chk_ok.1 hk
    have hbd := pla_bd xs x
    by_cases hx : ¬ (1 ≤ x ∧ x ≤ 8)
    · have HR : Hid (wiE e xs x = 161 ∧ wiX e xs x = [] ∧ wiP e xs x = 0) := wi_no (by unfold wiE; rw [if_neg (by simp [hk]), if_pos (.inl hx)]) (by decide)
      have hN : isN x = false := isN_no hx
      clear hk hx hch hbd hlen hnc
      go_enter Try.func23, Try.ntmps23
      go_wp2_with (first
        | (go_at_call 41; go_must (refine (Calls.mono HL.out ?_)); rintro r w1 ⟨rfl, hb⟩; have H1 : Hid (Cf2 25 25 w w1 w.heap.size e 0 (.slice a n c) (.slice none 0 0)) := H0.out.below hb; clear hb)
        | (refine wpList_store_bk 77 rfl (.tmp 6) (.tmp 11) rfl infoPl w1.heap.size zer9 _ rfl rfl (heap_new _ _) rfl (by simp [lkP_length]) (lkP_one _ _) ?_; intro w4 k1 k2; go_must (have H4 : Hid (Cf2 25 25 w w4 w.heap.size e 0 (.slice a n c) (.slice none 0 0) ∧ Bk 77 w4 w1.heap.size (lkP e xs).toArray) := ⟨cf2_st H1.out k2, k1⟩); have p0 := H4.out.1.l.c0; have p1 := H4.out.1.l.c1; have k0 := H4.out.1.r.c0; have k1' := H4.out.1.r.c1; have f0 := H4.out.1.r.fz 0; have f1 := H4.out.1.r.fz 1; clear k1 k2)
        | (go_at_call 45; refine (Calls.mono (HNO.out _ _) ?_); rintro r wq ⟨rfl, hq⟩; obtain rfl := hq.symm; clear hq))
      have HF : Hid (CfB 25 ((w4.setCell ⟨w.heap.size + 1, 0, none⟩ (.int .i64 0)).setCell ⟨w.heap.size + 1, 1, none⟩ (.slice none 0 0)) (w.heap.size + 1) 0 (.slice none 0 0)) := cf_set H4.out.1.r 0 _
      refine bodyPost_ret (results_cellO Try.results23 _ _ _ ⟨w.heap.size + 1, 0, none⟩ _ _ rfl rfl (bk_load Try.underlying25 rfl infoCf HF.out rfl)) rfl ?_
      refine ⟨none, 0, by rw [HR.out.1, HR.out.2.1, HR.out.2.2]; rfl, by rw [HR.out.2.1]; exact owI_nil _ _, ?_⟩
      exact (H4.out.1.b.setCell (p := ⟨w.heap.size + 1, 0, none⟩) (Nat.le_succ _) _).setCell (p := ⟨w.heap.size + 1, 1, none⟩) (Nat.le_succ _) _
    have hx1 : 1 ≤ x ∧ x ≤ 8 := Decidable.not_not.1 hx
    have hN : isN x = true := isN_yes hx1.1 hx1.2
    by_cases hm : x ∈ xs
    · have HR : Hid (wiE e xs x = 161 ∧ wiX e xs x = [] ∧ wiP e xs x = 0) := wi_no (by unfold wiE; rw [if_neg (by simp [hk]), if_pos (.inr hm)]) (by decide)
      obtain ⟨P, hP⟩ : ∃ P : Nat, pla xs x = (P : Int) := ⟨(pla xs x).toNat, by have := mt (pla_neg (xs := xs) (n := x)).1 (fun z => z hm); omega⟩
      rw [hP] at HO
      have hpz : ((P : Int) + 1 != 0) = true := by simp; omega
      clear hk hx hx1 hm hch hbd hlen hnc hP
      go_enter Try.func23, Try.ntmps23
      go_wp2_with (first
        | (go_at_call 41; go_must (refine (Calls.mono HL.out ?_)); rintro r w1 ⟨rfl, hb⟩; have H1 : Hid (Cf2 25 25 w w1 w.heap.size e 0 (.slice a n c) (.slice none 0 0)) := H0.out.below hb; clear hb)
        | (refine wpList_store_bk 77 rfl (.tmp 6) (.tmp 11) rfl infoPl w1.heap.size zer9 _ rfl rfl (heap_new _ _) rfl (by simp [lkP_length]) (lkP_one _ _) ?_; intro w4 k1 k2; go_must (have H4 : Hid (Cf2 25 25 w w4 w.heap.size e 0 (.slice a n c) (.slice none 0 0) ∧ Bk 77 w4 w1.heap.size (lkP e xs).toArray) := ⟨cf2_st H1.out k2, k1⟩); have p0 := H4.out.1.l.c0; have p1 := H4.out.1.l.c1; have k0 := H4.out.1.r.c0; have k1' := H4.out.1.r.c1; have f0 := H4.out.1.r.fz 0; have f1 := H4.out.1.r.fz 1; clear k1 k2)
        | (refine wpList_load_bk 77 rfl (.tmp 6) rfl Try.underlying77 rfl infoPl w1.heap.size _ rfl H4.out.2 (by simp [lkP_length]) ?_)
        | (refine wpList_load_bkG 77 (by rfl) (.tmp 6) rfl Try.underlying77 rfl infoPl w1.heap.size _ rfl H4.out.2 (by simp [lkP_length]) ?_)
        | (go_at_call 42; go_must (refine (Calls.mono (HO.out _) ?_)); rintro r w6 ⟨rfl, hb⟩; have H6 : Hid (Cf2 25 25 w w6 w.heap.size e 0 (.slice a n c) (.slice none 0 0)) := H4.out.1.below hb; have p0' := H6.out.l.c0; have p1' := H6.out.l.c1; have q0 := H6.out.r.c0; have q1 := H6.out.r.c1; have g0 := H6.out.r.fz 0; have g1 := H6.out.r.fz 1; clear hb)
        | (go_at_call 45; refine (Calls.mono (HNO.out _ _) ?_); rintro r wq ⟨rfl, hq⟩; obtain rfl := hq.symm; clear hq))
      have HF : Hid (CfB 25 ((w6.setCell ⟨w.heap.size + 1, 0, none⟩ (.int .i64 0)).setCell ⟨w.heap.size + 1, 1, none⟩ (.slice none 0 0)) (w.heap.size + 1) 0 (.slice none 0 0)) := cf_set H6.out.r 0 _
      refine bodyPost_ret (results_cellO Try.results23 _ _ _ ⟨w.heap.size + 1, 0, none⟩ _ _ rfl rfl (bk_load Try.underlying25 rfl infoCf HF.out rfl)) rfl ?_
      refine ⟨none, 0, by rw [HR.out.1, HR.out.2.1, HR.out.2.2]; rfl, by rw [HR.out.2.1]; exact owI_nil _ _, ?_⟩
      exact (H6.out.b.setCell (p := ⟨w.heap.size + 1, 0, none⟩) (Nat.le_succ _) _).setCell (p := ⟨w.heap.size + 1, 1, none⟩) (Nat.le_succ _) _
    have hz : pla xs x = -1 := pla_no hm
    rw [hz] at HO
    replace HO : Hid (∀ W, Calls Try.prog 42 #[.agg (lkP e xs).toArray, .int .i64 x] W fun r w' => r = .returned (.int .i64 0) ∧ Below W.heap.size W w') := HO
    by_cases he : e = 1099511627776
    · have HR : Hid (wiE e xs x = 160 ∧ wiX e xs x = [] ∧ wiP e xs x = 0) := wi_no (by unfold wiE; rw [if_neg (by simp [hk]), if_neg (by rintro (z | z); exact z hx1; exact hm z), if_pos he]) (by decide)
      have HBN : Hid (∀ b W, Calls Try.prog 44 #[.int .i64 e, .slice (some ⟨b, 0, none⟩) 2 2] W fun r w' => r = .returned (.tuple #[.agg #[.int .i64 0, .slice none 0 0], .int .i64 160]) ∧ Below W.heap.size W w') := by rw [he]; exact fun b W => behind_no b W
      clear hk hx hx1 hm hch hbd hlen hnc hz he
      go_enter Try.func23, Try.ntmps23
      go_wp2_with (first
        | (go_at_call 41; go_must (refine (Calls.mono HL.out ?_)); rintro r w1 ⟨rfl, hb⟩; have H1 : Hid (Cf2 25 25 w w1 w.heap.size e 0 (.slice a n c) (.slice none 0 0)) := H0.out.below hb; clear hb)
        | (refine wpList_store_bk 77 rfl (.tmp 6) (.tmp 11) rfl infoPl w1.heap.size zer9 _ rfl rfl (heap_new _ _) rfl (by simp [lkP_length]) (lkP_one _ _) ?_; intro w4 k1 k2; go_must (have H4 : Hid (Cf2 25 25 w w4 w.heap.size e 0 (.slice a n c) (.slice none 0 0) ∧ Bk 77 w4 w1.heap.size (lkP e xs).toArray) := ⟨cf2_st H1.out k2, k1⟩); have p0 := H4.out.1.l.c0; have p1 := H4.out.1.l.c1; have k0 := H4.out.1.r.c0; have k1' := H4.out.1.r.c1; have f0 := H4.out.1.r.fz 0; have f1 := H4.out.1.r.fz 1; clear k1 k2)
        | (refine wpList_load_bk 77 rfl (.tmp 6) rfl Try.underlying77 rfl infoPl w1.heap.size _ rfl H4.out.2 (by simp [lkP_length]) ?_)
        | (refine wpList_load_bkG 77 (by rfl) (.tmp 6) rfl Try.underlying77 rfl infoPl w1.heap.size _ rfl H4.out.2 (by simp [lkP_length]) ?_)
        | (go_at_call 42; go_must (refine (Calls.mono (HO.out _) ?_)); rintro r w6 ⟨rfl, hb⟩; have H6 : Hid (Cf2 25 25 w w6 w.heap.size e 0 (.slice a n c) (.slice none 0 0)) := H4.out.1.below hb; have p0' := H6.out.l.c0; have p1' := H6.out.l.c1; have q0 := H6.out.r.c0; have q1 := H6.out.r.c1; have g0 := H6.out.r.fz 0; have g1 := H6.out.r.fz 1; clear hb)
        | (go_at_call 45; refine (Calls.mono (HNO.out _ _) ?_); rintro r wq ⟨rfl, hq⟩; obtain rfl := hq.symm; clear hq)
        | (go_at_call 44; go_must (refine (Calls.mono (HBN.out _ _) ?_)); rintro r w7 ⟨rfl, hb7⟩; go_must (have H7 : Hid (Cf2 25 25 w w7 w.heap.size e 0 (.slice a n c) (.slice none 0 0)) := ((H6.out.below (alloc_b _ _)).below (alloc_b _ _)).below hb7); have r0 := H7.out.r.c0; have r1 := H7.out.r.c1; have t0 := H7.out.r.fz 0; have t1 := H7.out.r.fz 1; clear hb7))
      have HF : Hid (CfB 25 ((w7.setCell ⟨w.heap.size + 1, 0, none⟩ (.int .i64 0)).setCell ⟨w.heap.size + 1, 1, none⟩ (.slice none 0 0)) (w.heap.size + 1) 0 (.slice none 0 0)) := cf_set H7.out.r 0 _
      refine bodyPost_ret (results_cellO Try.results23 _ _ _ ⟨w.heap.size + 1, 0, none⟩ _ _ rfl rfl (bk_load Try.underlying25 rfl infoCf HF.out rfl)) rfl ?_
      refine ⟨none, 0, by rw [HR.out.1, HR.out.2.1, HR.out.2.2]; rfl, by rw [HR.out.2.1]; exact owI_nil _ _, ?_⟩
      exact (H7.out.b.setCell (p := ⟨w.heap.size + 1, 0, none⟩) (Nat.le_succ _) _).setCell (p := ⟨w.heap.size + 1, 1, none⟩) (Nat.le_succ _) _
    have hE0 := wiE_0 hk hx1 hm he
    have HR : Hid (wiE e xs x = 0 ∧ wiX e xs x = xs ++ [x] ∧ wiP e xs x = e + 1 ∧ (xs ++ [x]).length = n + 1) := by
      refine ⟨hE0, ?_, ?_, by simp; omega⟩
      · unfold wiX; rw [if_pos hE0]
      · unfold wiP; rw [if_pos hE0]
    have HBH : Hid (∀ b b1 W, b1 = W.heap.size → b = W.heap.size + 1 → Below w.heap.size w W → Calls Try.prog 44 #[.int .i64 e, .slice (some ⟨b, 0, none⟩) 2 2] ((W.alloc (.cells #[.int .i64 x] 3)).alloc (.cells #[.slice a n c, .slice (some ⟨b1, 0, none⟩) 1 1] 23)) fun r w' => ∃ a' c', r = .returned (.tuple #[.agg #[.int .i64 (e + 1), .slice a' (n + 1) c'], .int .i64 0]) ∧ OwI W.heap.size w' (.slice a' (n + 1) c') (n + 1) (xs ++ [x]) ∧ Below ((W.alloc (.cells #[.int .i64 x] 3)).alloc (.cells #[.slice a n c, .slice (some ⟨b1, 0, none⟩) 1 1] 23)).heap.size ((W.alloc (.cells #[.int .i64 x] 3)).alloc (.cells #[.slice a n c, .slice (some ⟨b1, 0, none⟩) 1 1] 23)) w') := by
      show ∀ b b1 W, _
      intro b b1 W hb1 hbw hb
      subst hb1 hbw
      have x1 := alloc_b W (.cells #[.int .i64 x] 3)
      have x2 := alloc_b (W.alloc (.cells #[.int .i64 x] 3)) (.cells #[.slice a n c, .slice (some ⟨W.heap.size, 0, none⟩) 1 1] 23)
      have hb2 := (hb.trans (x1.mono hb.size)).trans (x2.mono (Nat.le_trans hb.size x1.size))
      have hnew := heap_new (W.alloc (.cells #[.int .i64 x] 3)) (.cells #[.slice a n c, .slice (some ⟨W.heap.size, 0, none⟩) 1 1] 23)
      rw [World.size_alloc] at hnew
      have hsx := (seg_new W .i64 #[.int .i64 x] 3 1 [x] rfl rfl).below x2
      refine (behind_c e (W.heap.size + 1) n c 1 1 a (some ⟨W.heap.size, 0, none⟩) xs [x] _ (cell_of_row _ _ _ _ _ _ hnew) (cell_of_row _ _ _ _ _ _ hnew) (by simp) HS.out.2.2.1 (fun z => by cases z) (HS.out.1.below hb2) hsx (by omega) (by omega)).mono ?_
      rintro r w' ⟨a', c', h1, h2, h3⟩
      exact ⟨a', c', h1, h2.base (by simp; omega), h3⟩
    clear hk hx hx1 hm hch hbd hlen hnc hz he hE0
    go_enter Try.func23, Try.ntmps23
    go_wp2_with (first
      | (go_at_call 41; go_must (refine (Calls.mono HL.out ?_)); rintro r w1 ⟨rfl, hb⟩; have H1 : Hid (Cf2 25 25 w w1 w.heap.size e 0 (.slice a n c) (.slice none 0 0)) := H0.out.below hb; clear hb)
      | (refine wpList_store_bk 77 rfl (.tmp 6) (.tmp 11) rfl infoPl w1.heap.size zer9 _ rfl rfl (heap_new _ _) rfl (by simp [lkP_length]) (lkP_one _ _) ?_; intro w4 k1 k2; go_must (have H4 : Hid (Cf2 25 25 w w4 w.heap.size e 0 (.slice a n c) (.slice none 0 0) ∧ Bk 77 w4 w1.heap.size (lkP e xs).toArray) := ⟨cf2_st H1.out k2, k1⟩); have p0 := H4.out.1.l.c0; have p1 := H4.out.1.l.c1; have k0 := H4.out.1.r.c0; have k1' := H4.out.1.r.c1; have f0 := H4.out.1.r.fz 0; have f1 := H4.out.1.r.fz 1; clear k1 k2)
      | (refine wpList_load_bk 77 rfl (.tmp 6) rfl Try.underlying77 rfl infoPl w1.heap.size _ rfl H4.out.2 (by simp [lkP_length]) ?_)
      | (refine wpList_load_bkG 77 (by rfl) (.tmp 6) rfl Try.underlying77 rfl infoPl w1.heap.size _ rfl H4.out.2 (by simp [lkP_length]) ?_)
      | (go_at_call 42; go_must (refine (Calls.mono (HO.out _) ?_)); rintro r w6 ⟨rfl, hb⟩; have H6 : Hid (Cf2 25 25 w w6 w.heap.size e 0 (.slice a n c) (.slice none 0 0)) := H4.out.1.below hb; have p0' := H6.out.l.c0; have p1' := H6.out.l.c1; have q0 := H6.out.r.c0; have q1 := H6.out.r.c1; have g0 := H6.out.r.fz 0; have g1 := H6.out.r.fz 1; clear hb)
      | (go_at_call 45; refine (Calls.mono (HNO.out _ _) ?_); rintro r wq ⟨rfl, hq⟩; obtain rfl := hq.symm; clear hq)
      | (go_at_call 44; go_must (refine (Calls.mono (HBH.out _ _ w6 rfl rfl H6.out.b) ?_)); rintro r w7 ⟨a', c', rfl, ho7, hb7⟩; go_must (have H7 : Hid (Cf2 25 25 w w7 w.heap.size e 0 (.slice a n c) (.slice none 0 0) ∧ OwI w6.heap.size w7 (.slice a' (n + 1) c') (n + 1) (xs ++ [x])) := ⟨((H6.out.below (alloc_b _ _)).below (alloc_b _ _)).below hb7, ho7⟩); have r0 := H7.out.1.r.c0; have r1 := H7.out.1.r.c1; have t0 := H7.out.1.r.fz 0; have t1 := H7.out.1.r.fz 1; clear hb7 ho7))
    have HF : Hid (CfB 25 ((w7.setCell ⟨w.heap.size + 1, 0, none⟩ (.int .i64 (e + 1))).setCell ⟨w.heap.size + 1, 1, none⟩ (.slice a' (n + 1) c')) (w.heap.size + 1) (e + 1) (.slice a' (n + 1) c')) := cf_set H7.out.1.r _ _
    refine bodyPost_ret (results_cellO Try.results23 _ _ _ ⟨w.heap.size + 1, 0, none⟩ _ _ rfl rfl (bk_load Try.underlying25 rfl infoCf HF.out rfl)) rfl ?_
    have l5 := H6.out.r.lt
    refine ⟨a', c', by rw [HR.out.1, HR.out.2.1, HR.out.2.2.1, HR.out.2.2.2]; rfl, ?_, ?_⟩
    · rw [HR.out.2.1, HR.out.2.2.2]
      exact ((H7.out.2.other (w.heap.size + 1) 0 l5 _).other (w.heap.size + 1) 1 l5 _).base (by omega)
    · exact (H7.out.1.b.setCell (p := ⟨w.heap.size + 1, 0, none⟩) (Nat.le_succ _) _).setCell (p := ⟨w.heap.size + 1, 1, none⟩) (Nat.le_succ _) _
  · have hck : (chk e xs != 0) = true := by simpa using hk
    have HR : Hid (wiE e xs x = chk e xs ∧ wiX e xs x = [] ∧ wiP e xs x = 0) := wi_no (by unfold wiE; rw [if_pos hk]) hk
    clear hk hlen hnc HO
    go_enter Try.func23, Try.ntmps23
    go_wp2_with (first
      | (go_at_call 41; go_must (refine (Calls.mono HL.out ?_)); rintro r w1 ⟨rfl, hb⟩; have H1 : Hid (Cf2 25 25 w w1 w.heap.size e 0 (.slice a n c) (.slice none 0 0)) := H0.out.below hb; clear hb)
      | (refine wpList_store_bk 77 rfl (.tmp 6) (.tmp 11) rfl infoPl w1.heap.size zer9 _ rfl rfl (heap_new _ _) rfl (by simp [lkP_length]) (lkP_one _ _) ?_; intro w4 k1 k2; go_must (have H4 : Hid (Cf2 25 25 w w4 w.heap.size e 0 (.slice a n c) (.slice none 0 0) ∧ Bk 77 w4 w1.heap.size (lkP e xs).toArray) := ⟨cf2_st H1.out k2, k1⟩); have p0 := H4.out.1.l.c0; have p1 := H4.out.1.l.c1; have k0 := H4.out.1.r.c0; have k1' := H4.out.1.r.c1; have f0 := H4.out.1.r.fz 0; have f1 := H4.out.1.r.fz 1; clear k1 k2))
    have HF : Hid (CfB 25 ((w4.setCell ⟨w.heap.size + 1, 0, none⟩ (.int .i64 0)).setCell ⟨w.heap.size + 1, 1, none⟩ (.slice none 0 0)) (w.heap.size + 1) 0 (.slice none 0 0)) := cf_set H4.out.1.r 0 _
    refine bodyPost_ret (results_cellO Try.results23 _ _ _ ⟨w.heap.size + 1, 0, none⟩ _ _ rfl rfl (bk_load Try.underlying25 rfl infoCf HF.out rfl)) rfl ?_
    refine ⟨none, 0, by rw [HR.out.1, HR.out.2.1, HR.out.2.2]; rfl, by rw [HR.out.2.1]; exact owI_nil _ _, ?_⟩
    exact (H4.out.1.b.setCell (p := ⟨w.heap.size + 1, 0, none⟩) (Nat.le_succ _) _).setCell (p := ⟨w.heap.size + 1, 1, none⟩) (Nat.le_succ _) _
end Go.Proofs.Ytekefbbjocekiab
