/-
  What span's Buckets answers of whatever ranges: the numbers of the buckets that meet one of them, rising. Condition: at most 2^40 ranges.
-/
import Derived.Test.YtdjcokepeifojaaNTo
import Derived.Test.YtdjcokepeifojaaNRr
import Derived.Test.YtdjcokepeifojaaNAw
import Derived.Test.YtdjcokepeifojaaNCt
import Derived.Laws.EntriesVeiled
namespace Go.Proofs.Ytdjcokepeifojaa
set_option linter.unusedVariables false
open Go.RowKit Go.Shelf
attribute [local go_sem] Oper.semAt_some

/-- How many elements a slice in a variable has. -/
def lenAt (W : World) (P : Nat) : Nat := match W.cell? ⟨P, 0, none⟩ with | some (.slice _ n _) => n | _ => 0
theorem lenAt_is {W : World} {P n c : Nat} {a : Option Addr} (h : W.cell? ⟨P, 0, none⟩ = some (.slice a n c)) : lenAt W P = n := by unfold lenAt; rw [h]
/-- A rest of a row of ranges, in a variable of its own. -/
def RstI (g P : Nat) (R : List Rg) (j : Nat) (a : Option Addr) (c : Nat) (W : World) : Prop :=
  j ≤ R.length ∧ W.heap[P]? = some (.cells #[.slice a (R.length - j) c] 24 (0, 0)) ∧ (j < R.length → a = some ⟨g, j * 2, none⟩ ∧ R.length - j ≤ c)
/-- Between two rounds. -/
def StI {N : Nat} (D n : Nat) (g P : Nat) (R : List Rg) (w1 : World) (pre : List (Fin N)) (W : World) : Prop :=
  ∃ j ms a c v, RstI g P R j a c W ∧ W.heap[P + 1]? = some (.cells #[v] 22 (0, 0)) ∧ W.ownsRow (P + 3) 3 1 v ms.length (i64s ms) ∧ ms.length ≤ pre.length ∧ (pre.map Fin.val = List.range pre.length → BI D n R pre.length j ms) ∧ Below P w1 W ∧ P + 3 ≤ W.heap.size
/-- Where it was left. -/
def StX {N : Nat} (D n : Nat) (P : Nat) (R : List Rg) (w1 : World) (pre : List (Fin N)) (W : World) : Prop :=
  ∃ ms v, W.heap[P + 1]? = some (.cells #[v] 22 (0, 0)) ∧ W.ownsRow (P + 3) 3 1 v ms.length (i64s ms) ∧ (pre.map Fin.val = List.range pre.length → ms = mt D R n) ∧ Below P w1 W
theorem sti_from {N B : Nat} {D n : Nat} {g P : Nat} {R : List Rg} {w1 : World} (h1 : P ≤ w1.heap.size) (hB : P ≤ B) : OwnFrom B (StI (N := N) D n g P R w1) := by
  rintro pre W W' row ⟨j, ms, a, c, v, hr, h2, h3, h4, h5, h6, h7⟩ hg hrow
  exact ⟨j, ms, a, c, v, ⟨hr.1, block_kept hr.2.1 hg (fun r e => (hrow r e).2), hr.2.2⟩, block_kept h2 hg (fun r e => (hrow r e).2), own_kept h3 hg (fun r e => (hrow r e).2), h4, h5, ownFrom_below (β := Unit) h1 hB () W W' row h6 hg hrow, Nat.le_trans h7 hg.size⟩
theorem stx_from {N B : Nat} {D n : Nat} {P : Nat} {R : List Rg} {w1 : World} (h1 : P ≤ w1.heap.size) (hB : P ≤ B) : OwnFrom B (StX (N := N) D n P R w1) := by
  rintro pre W W' row ⟨ms, v, h2, h3, h5, h6⟩ hg hrow
  exact ⟨ms, v, block_kept h2 hg (fun r e => (hrow r e).2), own_kept h3 hg (fun r e => (hrow r e).2), h5, ownFrom_below (β := Unit) h1 hB () W W' row h6 hg hrow⟩
theorem own_two {W : World} {B P k : Nat} {cs cs2 : Array Value} {T : TypeId} (hP : W.heap[P]? = some (.cells cs T (0, 0))) {W' : World} {v : Value} {n : Nat} {xs : List Value} {e : TypeId} {size : Nat} (h : W.ownsRow B e size v n xs) (hg : W.grownBy W' (some P)) (hPB : P < B) : W'.ownsRow B e size v n xs := own_far h hg hPB
theorem RstI.other {g P j : Nat} {R : List Rg} {a : Option Addr} {c : Nat} {W W' : World} {row : Option Nat} (h : RstI g P R j a c W) (hg : W.grownBy W' row) (hne : row ≠ some P) : RstI g P R j a c W' :=
  ⟨h.1, (hg.block P (lt_block h.2.1) (fun e => hne e.symm)).trans h.2.1, h.2.2⟩
theorem RstI.set {g P j : Nat} {R : List Rg} {W : World} {v0 : Value} (hb : W.heap[P]? = some (.cells #[v0] 24 (0, 0))) (hj : j < R.length) {a : Option Addr} {c m : Nat} (hm : m = R.length - j) (ha : j + 1 < R.length → a = some ⟨g, (j + 1) * 2, none⟩ ∧ R.length - (j + 1) ≤ c) : RstI g P R (j + 1) a c (W.setCell ⟨P, 0, none⟩ (.slice a (m - 1) c)) := by
  refine ⟨hj, ?_, ha⟩
  rw [heap_setCell_same W P 0 _ _ _ hb, show m - 1 = R.length - (j + 1) by omega]
  rfl
theorem lenAt_set {W : World} {P m c : Nat} {a : Option Addr} {v0 : Value} {T : TypeId} (hb : W.heap[P]? = some (.cells #[v0] T (0, 0))) : lenAt (W.setCell ⟨P, 0, none⟩ (.slice a m c)) P = m :=
  by
  have h : (W.setCell ⟨P, 0, none⟩ (.slice a m c)).heap[P]? = some (.cells #[.slice a m c] T (0, 0)) := by rw [heap_setCell_same W P 0 _ _ _ hb]; rfl
  exact lenAt_is (cell_one h)
set_option maxRecDepth 100000 in
set_option maxHeartbeats 4000000 in
theorem buckets_c (d : Int) (A : List Rg) (a : Option Addr) (ca : Nat) (w : World) (hA : Cells w a (flR A)) (hn : A.length ≤ 1099511627776) :
    Calls Try.prog 7 #[.int .i64 d, .slice a A.length ca] w fun e w' => ∃ v, e = .returned (.tuple #[v, .int .i64 (dE d)]) ∧ w'.ownsRow w.heap.size 3 1 v (bmt d A).length (i64s (bmt d A)) ∧ w.grownBy w' none := by
  have HC : Hid _ := fun w => count_c d w
  rcases deep_cases d with ⟨D, rfl, h1, h3⟩ | h
  · have hnb := nbk_bd D h1 h3
    obtain ⟨n, hnn⟩ : ∃ n : Nat, nbk D = (n : Int) := ⟨(nbk D).toNat, by omega⟩
    have HE : Hid (dE (D : Int) = 0) := by show _ = _; unfold dE; rw [if_neg (by omega)]
    have HB : Hid (bmt (D : Int) A = mt D A n) := by show _ = _; unfold bmt; rw [hnn]; rfl
    rw [HE.out, HB.out]
    have HNB : Hid (nbk D = (n : Int)) := hnn
    have HNM : Hid _ := normal_c A a ca w hA hn
    rw [hnn] at HC hnb
    have HPA : Hid _ := fun r t w => past_c r t w
    have HD : Hid (1 ≤ D ∧ D ≤ 3) := ⟨h1, h3⟩
    obtain ⟨L, hL⟩ : ∃ L, L = A.length := ⟨_, rfl⟩
    rw [← hL] at hn HNM ⊢
    have hz : ¬ (n : Int) = 0 := by omega
    clear hnn hA hL h1 h3
    refine (callsIn_wide (n := 9)).1 ?_
    refine callsIn_of_wp_marks Try.func7 rfl trivial ?_ rfl
    simp only [Try.ntmps7, List.size_toArray, List.length_cons, List.length_nil, Nat.reduceAdd, Nat.reduceSub, Array.replicate_succ, Array.replicate_zero, List.push_toArray, List.append_toArray, List.nil_append, List.cons_append]
    refine wpIn_wide.2 ?_
    go_wp2_with (first
      | (go_at_call 16; go_must (refine (HC.out _).mono ?_); rintro e w0 ⟨rfl, hq⟩; obtain rfl := hq.symm)
      | (go_at_call 11; go_must (refine (Calls.mono HNM.out ?_)); rintro e w1 ⟨v, R, rfl, k1, k2, k3, k4, k5⟩; obtain ⟨xa, xc, rfl, hcl, hcc, hcn, hcg⟩ := own_cells k1; have H1 : Hid (Cells w1 xa (flR R) ∧ R.length ≤ xc ∧ (xa = none ∨ ∃ g, xa = some ⟨g, 0, none⟩) ∧ Nrm R ∧ (∀ t, lHas R t = lHas A t) ∧ R.length ≤ 2 * L + 1 ∧ w.grownBy w1 none) := ⟨hcl, hcc, hcg.imp id (fun h => by obtain ⟨g, e, _⟩ := h; exact ⟨g, e⟩), k2, k3, k4, k5⟩; clear k1 k2 k3 k4 k5 hcl hcc hcn hcg; obtain ⟨P, hP⟩ : ∃ P, P = w1.heap.size := ⟨_, rfl⟩; have HP : Hid (P = w1.heap.size) := hP; clear hP; obtain ⟨M, hM⟩ : ∃ M, M = R.length := ⟨_, rfl⟩; rw [← hM]; have HM : Hid (M = R.length) := hM; clear hM)
      | (go_at_call 18; go_must (refine (callsIn_wide.1 (all_in 5 _ _)).mono ?_); rintro e w4 ⟨rfl, hw⟩; have HW4 : Hid (w4 = ((w1.alloc (.cells #[.slice xa M xc] 24)).alloc (.cells #[.slice none 0 0] 22)).alloc (.cells #[.int .i64 (D : Int)] 3)) := hw; clear hw))
    clear HC
    have hw4 := HW4.out
    have hz4 : w4.heap.size = P + 3 := by rw [hw4, HP.out]; simp
    have HB4 : Hid (Below P w1 w4) := by rw [hw4, HP.out]; exact (((Below.refl _ w1).alloc (Nat.le_refl _) _).alloc (by simp) _).alloc (by simp; omega) _
    have HV0 : Hid (w4.heap[P]? = some (.cells #[.slice xa M xc] 24 (0, 0))) := by
      rw [hw4, HP.out]; exact (Below.heap_alloc _ _ _ (by simp; omega)).trans ((Below.heap_alloc _ _ _ (by simp)).trans (heap_new w1 _))
    have HV1 : Hid (w4.heap[P + 1]? = some (.cells #[.slice none 0 0] 22 (0, 0))) := by
      rw [hw4, HP.out]; have := heap_new (w1.alloc (.cells #[.slice xa M xc] 24)) (.cells #[.slice none 0 0] 22); rw [World.size_alloc] at this; exact (Below.heap_alloc _ _ _ (by simp)).trans this
    have HV2 : Hid (w4.heap[P + 2]? = some (.cells #[.int .i64 (D : Int)] 3 (0, 0))) := by
      rw [hw4, HP.out]; have := heap_new ((w1.alloc (.cells #[.slice xa M xc] 24)).alloc (.cells #[.slice none 0 0] 22)) (.cells #[.int .i64 (D : Int)] 3); rw [World.size_alloc, World.size_alloc] at this; exact this
    have HZ4 : Hid (w4.heap.size = P + 3) := hz4
    simp only [← HP.out]
    clear hw4 hz4 HW4
    obtain ⟨g, HXA⟩ : ∃ g, Hid (M ≠ 0 → xa = some ⟨g, 0, none⟩) := by
      rcases H1.out.2.2.1 with h | ⟨g, h⟩
      · refine ⟨0, fun hm => ?_⟩
        rcases H1.out.1 with h0 | ⟨b, off, hb, _⟩
        · have h2 := congrArg List.length h0
          rw [flR_len] at h2
          have := HM.out
          simp at h2; omega
        · rw [h] at hb; cases hb
      · exact ⟨g, fun _ => h⟩
    have HFIN : Hid (∀ (W : World) (Dm : Nat) (ms : List Int) (v : Value), P + 3 ≤ Dm → W.heap[P + 1]? = some (.cells #[v] 22 (0, 0)) → W.ownsRow (P + 3) 3 1 v ms.length (i64s ms) → ms = mt D R n → Below P w1 W → W.heap[Dm]? = some (.deferred (some [])) →
        (W.putObj Dm (.deferred none)).ownsRow w.heap.size 3 1 v (mt D A n).length (i64s (mt D A n)) ∧ w.grownBy (W.putObj Dm (.deferred none)) none) := fun W Dm ms v hDm h2 h3 h4 h5 h6 => by
      have e : ms = mt D A n := h4.trans (mt_same H1.out.2.2.2.2.1 D n)
      have hw : w.grownBy w1 none := H1.out.2.2.2.2.2.2
      have hP := HP.out
      have hw2 := hw.size
      refine ⟨?_, ?_⟩
      · rw [← e]
        exact own_base (own_kept h3 (grownBy_putObj' W Dm (.deferred none)) (fun r e => by cases e; exact ⟨_, h6, rfl⟩)) (by omega)
      · have hg1 : w1.grownBy W none := below_gb (by rw [← hP]; exact h5)
        exact gb_newer (gb_trans hw hg1) (grownBy_putObj' W Dm (.deferred none)) (by omega)
    refine (wpIn_wide (n := 9)).1 ?_
    refine wpIn_rangeFunc_ownH rfl (by decide) (gf := 29) (lb := #[.pointer (some ⟨P + 2, 0, none⟩)]) rfl trivial (enters_of Try.func29 (by kernel_rfl) rfl)
      (all_stops 8 (by omega) (P + 2) (D : Int) n HNB.out w4 (by rw [HZ4.out]; omega) HV2.out) BsK.trans (BsK.put (by rw [HZ4.out]; omega)) (Below.refl _ _) (fun _ => rfl)
      (StI D n g P R w1) (fun cd pre V => cd = .exit 0 ∧ StX D n P R w1 pre V)
      (sti_from (by rw [HP.out]; exact Nat.le_refl _) (by rw [HZ4.out]; omega))
      (fun cd s X Y row hs hg hr => ⟨hs.1, stx_from (by rw [HP.out]; exact Nat.le_refl _) (by rw [HZ4.out]; omega) s X Y row hs.2 hg hr⟩)
      ⟨0, [], xa, xc, .slice none 0 0, ⟨Nat.zero_le _, by rw [Nat.sub_zero, ← HM.out]; exact HV0.out, fun h => ⟨by rw [Nat.zero_mul]; exact HXA.out (by have := HM.out; omega), by rw [Nat.sub_zero]; exact H1.out.2.1⟩⟩, HV1.out, own_none _ _ _ _, Nat.le_refl _, fun _ => bi_none D n R, HB4.out, Nat.le_of_eq HZ4.out.symm⟩
      (fun x a' V => ∃ b, (∃ u' : Nat → Value, a' = { tmps := #[u' 0, u' 1, u' 2, u' 3, u' 4, u' 5, .pointer (some ⟨P, 0, none⟩), .pointer (some ⟨P + 1, 0, none⟩), .int .i64 (x.val : Int), .pointer (some ⟨b, 0, none⟩), u' 10, u' 11, u' 12, u' 13, u' 14, u' 15, u' 16, u' 17, u' 18, u' 19, u' 20, u' 21, u' 22, u' 23, u' 24, u' 25, u' 26, u' 27, u' 28, u' 29, u' 30, u' 31, u' 32, u' 33, u' 34, u' 35, u' 36, u' 37, u' 38, u' 39, u' 40, u' 41, u' 42, u' 43, u' 44, u' 45, u' 46], defers := [] }) ∧ V.heap[b]? = some (.cells #[.string (ofR D (x.val : Int)).1, .string (ofR D (x.val : Int)).2] 39 (0, 0)) ∧ P + 2 < b)
      (fun x a' _ X Y row hs hg hr => by obtain ⟨b, h1, h2, h3⟩ := hs; exact ⟨b, h1, block_kept h2 hg (fun r e => (hr r e).2), h3⟩)
      ?assign ?body ?done ?stop
    case stop =>
      rintro Dm cd pre V hDm ⟨k, hk, hpre⟩ ⟨rfl, ms, v, k1, k2, k3, k4⟩ hK
      have hlen : pre.length = k + 1 := by have := congrArg List.length hpre; simpa using this
      have HR : Hid _ := HFIN.out V Dm ms v (by rw [← HZ4.out]; exact hDm) k1 k2 (k3 (by rw [hlen]; exact hpre)) k4 hK
      have c1 := cell_one k1
      have HK : Hid (V.heap[Dm]? = some (.deferred (some []))) := hK
      clear k1 k2 k3 k4 hK hlen hpre
      refine wpIn_wide.2 ?_
      go_wp2
      refine ⟨by simp, .inl ⟨_, _, rfl, run_takeDeferred HK.out, ?_⟩⟩
      exact ⟨.tuple #[v, .int .i64 0], by simp [results, Try.results7, go_sem], v, rfl, HR.out.1, HR.out.2⟩
    case done =>
      rintro Dm xs V hDm hS ⟨j, ms, a', c', v, k0, k1, k2, k3, k4, k5, k6⟩ hK
      have hlen : xs.length = n := by have := congrArg List.length hS; simpa using this
      have hb := (k4 (by rw [hlen]; exact hS)).is
      rw [hlen] at hb
      have HR : Hid _ := HFIN.out V Dm ms v (by rw [← HZ4.out]; exact hDm) k1 k2 hb k5 hK
      have c1 := cell_one k1
      have HK : Hid (V.heap[Dm]? = some (.deferred (some []))) := hK
      clear k0 k1 k2 k3 k4 k5 hK hlen hb hS
      go_wp2
      refine ⟨by simp, .inl ⟨_, _, rfl, run_takeDeferred HK.out, ?_⟩⟩
      exact ⟨.tuple #[v, .int .i64 0], by simp [results, Try.results7, go_sem], v, rfl, HR.out.1, HR.out.2⟩
    case assign =>
      rintro l pre x V K hi hK
      have HHK : Hid _ := hK
      have HI : Hid (StI D n g P R w1 pre V) := hi
      have HS : Hid (P + 3 ≤ V.heap.size) := by obtain ⟨j, ms, a', c', v, k0, k1, k2, k3, k4, k5, k6⟩ := hi; exact k6
      clear hK hi
      dsimp only [encK, rv]
      generalize ofR (D : Int) (x.val : Int) = r at *
      obtain ⟨f, u⟩ := r
      gi_wp2
      refine HHK.out _ _ (keepsFrom_below ((Below.refl _ V).alloc (Nat.le_refl _) _)) (Below.heap_alloc _ _ _ (by have := HS.out; omega)) ((sti_from (by rw [HP.out]; exact Nat.le_refl _) (by rw [HZ4.out]; omega : P ≤ w4.heap.size)).alloc _ HI.out) ⟨V.heap.size, exU (by kernel_rfl), heap_new V _, by have := HS.out; omega⟩
    case body =>
      rintro l pre x a' V hl ⟨r0, hr0⟩ ⟨j, ms, a0, c0, v, k0, k1, k2, k3, k4, k5, k6⟩ ⟨b, ⟨u', rfl⟩, hblk, hPb⟩ hlt
      have hxn := x.isLt
      obtain ⟨G, hG⟩ : ∃ G : Prop, G = ((pre ++ [x]).map Fin.val = List.range (pre ++ [x]).length) := ⟨_, rfl⟩
      have HGG : Hid (G → pre.map Fin.val = List.range pre.length ∧ x.val = pre.length) := fun h => (good_snoc pre x).1 (by rw [← hG]; exact h)
      have HGE : Hid (G = ((pre ++ [x]).map Fin.val = List.range (pre ++ [x]).length)) := hG
      obtain ⟨QB, hQB⟩ : ∃ QB : Nat → Prop, QB = fun j1 => G → BI D n R x.val j1 ms := ⟨_, rfl⟩
      have HQ0 : Hid (QB j) := by rw [hQB]; intro h; obtain ⟨e1, e2⟩ := HGG.out h; rw [e2]; exact k4 e1
      have HQP : Hid (∀ j1, QB j1 → j1 < R.length → rPast (R.getD j1 rg0) (ofR (D : Int) (x.val : Int)).1 = true → QB (j1 + 1)) := by rw [hQB]; exact fun j1 q hj hp h => bi_past HD.out.1 HD.out.2 HNB.out (q h) hxn hj hp
      have HQE : Hid (∀ j1, QB j1 → R.length ≤ j1 → (pre ++ [x]).map Fin.val = List.range (pre ++ [x]).length → ms = mt D R n) := by rw [hQB, ← hG]; exact fun j1 q hj h => bi_done (q h) (by omega) hj
      have HQY : Hid (∀ j1, QB j1 → j1 < R.length → rPast (R.getD j1 rg0) (ofR (D : Int) (x.val : Int)).1 = false → rPast (ofR (D : Int) (x.val : Int)) (R.getD j1 rg0).1 = false → (pre ++ [x]).map Fin.val = List.range (pre ++ [x]).length → BI D n R (pre ++ [x]).length j1 (ms ++ [(x.val : Int)])) := by
        rw [hQB, ← hG]
        intro j1 q hj hp hq h
        rw [List.length_append, ← (HGG.out h).2]
        exact bi_yes HD.out.1 HD.out.2 HNB.out H1.out.2.2.2.1 (q h) hxn hj hp hq
      have HQN : Hid (∀ j1, QB j1 → j1 < R.length → rPast (ofR (D : Int) (x.val : Int)) (R.getD j1 rg0).1 = true → (pre ++ [x]).map Fin.val = List.range (pre ++ [x]).length → BI D n R (pre ++ [x]).length j1 ms) := by
        rw [hQB, ← hG]
        intro j1 q hj hq h
        rw [List.length_append, ← (HGG.out h).2]
        exact bi_no HD.out.1 HD.out.2 HNB.out H1.out.2.2.2.1 (q h) hxn hj hq
      clear hQB hG HGE HGG
      generalize ofR (D : Int) (x.val : Int) = r at HQP HQY HQN hblk
      obtain ⟨f, u⟩ := r
      simp only at hblk HQP HQY
      have HV : Hid (V.heap[P]? = some (.cells #[.slice a0 (M - j) c0] 24 (0, 0)) ∧ V.heap[P + 1]? = some (.cells #[v] 22 (0, 0)) ∧ V.ownsRow (P + 3) 3 1 v ms.length (i64s ms) ∧ ms.length ≤ pre.length ∧ Below P w1 V ∧ P + 3 ≤ V.heap.size ∧ V.heap[b]? = some (.cells #[.string f, .string u] 39 (0, 0)) ∧ P + 2 < b) := ⟨by rw [HM.out]; exact k0.2.1, k1, k2, k3, k5, k6, hblk, hPb⟩
      have HR0 : Hid (RstI g P R j a0 c0 V) := k0
      clear k0 k1 k2 k3 k4 k5 k6 hblk hPb hr0
      have hWB : w4.heap.size = P + 3 := HZ4.out
      gi_wp2
      gi_loopw [30] (fun v wr => Hid (∃ j1 a1 c1, RstI g P R j1 a1 c1 wr ∧ QB j1) ∧ Hid (V.grownBy wr (some P))) (fun _ wr => lenAt wr P)
      case atStart => exact ⟨⟨j, a0, c0, HR0.out, HQ0.out⟩, gb_wide (gb_refl _) _⟩
      case round =>
        obtain ⟨hq1, hr⟩ := hrel
        obtain ⟨j1, a1, c1, hR1, hQ1⟩ := hq1.out
        have HR1 : Hid (RstI g P R j1 a1 c1 wr) := hR1
        have HQ1 : Hid (QB j1) := hQ1
        clear hR1 hQ1 hq1
        have HWP : Hid (Below P w1 wr) := HV.out.2.2.2.2.1.grown hr.out (by have := HV.out.2.2.2.2.2.1; omega) (fun k e => by cases e; exact Nat.le_refl _)
        have HCB : Hid (wr.heap[b]? = some (.cells #[.string f, .string u] 39 (0, 0))) := (hr.out.block b (lt_block HV.out.2.2.2.2.2.2.1) (fun e => by have := HV.out.2.2.2.2.2.2.2; cases e; omega)).trans HV.out.2.2.2.2.2.2.1
        have b0 : wr.cell? ⟨b, 0, none⟩ = some (.string f) := by rw [cell_of_row wr b 0 _ _ _ HCB.out]; rfl
        have b1 : wr.cell? ⟨b, 1, none⟩ = some (.string u) := by rw [cell_of_row wr b 1 _ _ _ HCB.out]; rfl
        by_cases hj : j1 < M
        · obtain ⟨ha1, hc1⟩ := HR1.out.2.2 (by rw [← HM.out]; exact hj)
          subst ha1
          obtain ⟨m1, hm1⟩ : ∃ m1, m1 = M - j1 := ⟨_, rfl⟩
          have HM1 : Hid (m1 = M - j1) := hm1
          have cP : wr.cell? ⟨P, 0, none⟩ = some (.slice (some ⟨g, j1 * 2, none⟩) m1 c1) := by
            have := cell_one HR1.out.2.1
            rw [← HM.out, ← hm1] at this; exact this
          have fP : wr.frozen? ⟨P, 0, none⟩ = false := frozen_of_row wr P 0 _ _ HR1.out.2.1
          have HHP : Hid (wr.heap[P]? = some (.cells #[.slice (some ⟨g, j1 * 2, none⟩) m1 c1] 24 (0, 0))) := by rw [hm1, HM.out]; exact HR1.out.2.1
          rw [← HM.out, ← hm1] at hc1
          have hm0 : 0 < m1 := by omega
          obtain ⟨bb, oo, hab, hba, e0, e1⟩ := cells_rg H1.out.1 j1 (by rw [← HM.out]; exact hj)
          have hxa := HXA.out (by omega)
          rw [hxa] at hab
          cases hab
          rw [Nat.zero_add] at e0 e1
          have e0r := (HWP.out.cell (p := ⟨g, j1 * 2, none⟩) (by rw [HP.out]; exact hba)).trans e0
          have e1r := (HWP.out.cell (p := ⟨g, j1 * 2 + 1, none⟩) (by rw [HP.out]; exact hba)).trans e1
          have HQP1 : Hid _ := HQP.out j1 HQ1.out (by rw [← HM.out]; exact hj)
          have HQY1 : Hid _ := HQY.out j1 HQ1.out (by rw [← HM.out]; exact hj)
          have HQN1 : Hid _ := HQN.out j1 HQ1.out (by rw [← HM.out]; exact hj)
          have er : R.getD j1 (.empty, .empty) = R.getD j1 rg0 := rfl
          rw [er] at e0r e1r
          clear e0 e1 hxa hba hm1 er
          generalize R.getD j1 rg0 = s at e0r e1r HQP1 HQY1 HQN1
          obtain ⟨sf, su⟩ := s
          simp only at e0r e1r HQY1 HQN1
          have q0 : ∀ p, (gw wr p).cell? ⟨P, 0, none⟩ = some (.slice (some ⟨g, j1 * 2, none⟩) m1 c1) := fun p => cell_gw cP p
          have q1 : ∀ p, (gw wr p).cell? ⟨b, 0, none⟩ = some (.string f) := fun p => cell_gw b0 p
          have l1 : ∀ p, (loadVar 39 ⟨g, j1 * 2, none⟩).run Try.prog (gw wr p) = .ok (.agg #[.string sf, .string su]) (gw wr p) := fun p => load_rg (cell_gw e0r p) (cell_gw e1r p)
          have HP1 : Hid _ := HPA.out (sf, su) f
          unfold rv at HP1
          have hm2 : (0 : Int) < (m1 : Int) := by omega
          have hm3 : ¬ m1 = 0 := by omega
          cases hp : rPast (sf, su) f
          · rw [hp] at HP1
            gi_wp2
            refine wpIn_region_gbR (by kernel_rfl) (by kernel_rfl) (by kernel_rfl) ?_
            repeat (first
              | (refine wpQuiet_loadv rfl 39 _ rfl ⟨g, j1 * 2, none⟩ _ rfl (fun w hw => by obtain ⟨p, rfl⟩ := hw; exact l1 p) ?_)
              | quiet_step (first
                | (go_at_call 19; exact calls_gb (HP1.out _))))
            refine wpQuiet_nil ?_
            intro _ hw'
            obtain ⟨pq, rfl⟩ := hw'
            obtain ⟨W5, hW5⟩ : ∃ W5, gw wr pq = W5 := ⟨_, rfl⟩
            have HG5 : Hid (wr.grownBy W5 none) := by rw [← hW5]; exact gw_gb _ _
            rw [hW5]
            clear hW5 q0 q1 l1
            have cP5 := cell_kept HG5.out cP
            have b05 := cell_kept HG5.out b0
            have b15 := cell_kept HG5.out b1
            have e05 := cell_kept HG5.out e0r
            have q0 : ∀ p, (gw W5 p).cell? ⟨P, 0, none⟩ = some (.slice (some ⟨g, j1 * 2, none⟩) m1 c1) := fun p => cell_gw cP5 p
            have q1 : ∀ p, (gw W5 p).cell? ⟨g, j1 * 2, none⟩ = some (.string sf) := fun p => cell_gw e05 p
            have l2 : ∀ p, (loadVar 39 ⟨b, 0, none⟩).run Try.prog (gw W5 p) = .ok (.agg #[.string f, .string u]) (gw W5 p) := fun p => load_rg (cell_gw b05 p) (cell_gw b15 p)
            have HP2 : Hid _ := HPA.out (f, u) sf
            have hmi : ((m1 : Int) == 0) = false := by rw [beq_eq_false_iff_ne]; omega
            unfold rv at HP2
            cases hq : rPast (f, u) sf
            · rw [hq] at HP2
              gi_wp2
              refine wpIn_region_gbR (by kernel_rfl) (by kernel_rfl) (by kernel_rfl) ?_
              repeat (first
                | (refine wpQuiet_loadv rfl 39 _ rfl ⟨b, 0, none⟩ _ rfl (fun w hw => by obtain ⟨p, rfl⟩ := hw; exact l2 p) ?_)
                | quiet_step (first
                  | (go_at_call 19; exact calls_gb (HP2.out _))))
              refine wpQuiet_nil ?_
              intro _ hw'
              obtain ⟨pq2, rfl⟩ := hw'
              obtain ⟨W6, hW6⟩ : ∃ W6, gw W5 pq2 = W6 := ⟨_, rfl⟩
              have HG6 : Hid (wr.grownBy W6 none) := by rw [← hW6]; exact gb_trans HG5.out (gw_gb _ _)
              rw [hW6]
              clear hW6 q0 q1 l2
              have HVG : Hid (V.grownBy W6 (some P)) := gb_trans hr.out (gb_wide HG6.out _)
              have HO6 : Hid (W6.ownsRow (P + 3) 3 1 v ms.length (i64s ms)) := own_far HV.out.2.2.1 HVG.out (by omega)
              have HP6 : Hid (W6.heap[P + 1]? = some (.cells #[v] 22 (0, 0))) := (HVG.out.block (P + 1) (lt_block HV.out.2.1) (fun e => by have := Option.some.inj e; omega)).trans HV.out.2.1
              have c6 := cell_one HP6.out
              obtain ⟨m, hm⟩ : ∃ m, m = ms.length := ⟨_, rfl⟩
              have HMS : Hid (m = ms.length) := hm
              rw [← hm] at HO6
              have HS6 : Hid (P + 3 ≤ W6.heap.size) := Nat.le_trans HV.out.2.2.2.2.2.1 HVG.out.size
              have hmb : m ≤ 4096 := by have := HV.out.2.2.2.1; omega
              have HFL : Hid (i64s (ms ++ [(x.val : Int)]) = i64s ms ++ (#[Value.int .i64 (x.val : Int)] : Array Value).toList) := by show _ = _; simp [i64s]
              clear hm
              gi_wp2_with (first
                | (refine wpListIn_lit rfl _ _ 22 rfl (P + 3) 3 _ 1 8 Try.underlying22 infoInt rfl (by decide) W6 #[.int .i64 (x.val : Int)] rfl v m (i64s ms) rfl HO6.out rfl rfl (by simp [Value.oneCell']) (by unfold maxLen; omega) (by omega) HS6.out ?_; intro v7 w7 ho7 hb7 hg7; obtain ⟨a7, k7, rfl, -⟩ := own_cells ho7; have H7 : Hid (w7.ownsRow (P + 3) 3 1 (.slice a7 (m + 1) k7) (m + 1) (i64s (ms ++ [(x.val : Int)])) ∧ W6.grownBy w7 v.ownBlock) := ⟨(by rw [HFL.out]; exact ho7), hg7⟩; have HP7 : Hid (w7.heap[P + 1]? = some (.cells #[v] 22 (0, 0))) := (hg7.block (P + 1) (lt_block HP6.out) (fun e => by have := own_block_ge HO6.out _ e.symm; omega)).trans HP6.out; have c7 := cell_one HP7.out; have f7 : w7.frozen? ⟨P + 1, 0, none⟩ = false := frozen_of_row w7 _ 0 _ _ HP7.out; clear ho7 hb7 hg7))
              have HR7 : Hid (W6.grownBy w7 v.ownBlock ∧ v.ownBlock ≠ some P ∧ v.ownBlock ≠ some (P + 2)) := ⟨H7.out.2, fun e => by have := own_block_ge HO6.out _ e; omega, fun e => by have := own_block_ge HO6.out _ e; omega⟩
              have HG7 : Hid (w7.grownBy (w7.setCell ⟨P + 1, 0, none⟩ (.slice a7 (m + 1) k7)) (some (P + 1))) := gb_set _ _ _ _
              refine ⟨?_, ?_, ?_⟩
              · exact (keeps_row HV.out.1 HVG.out).trans (((KeepsOthers.of_grownBy H7.out.2 (own_row_cells HO6.out)).from _).trans (keeps_row HP7.out HG7.out))
              · show _ = _
                rw [HG7.out.block (P + 2) (by have := HS6.out; have := H7.out.2.size; omega) (fun e => by have := Option.some.inj e; omega), H7.out.2.block (P + 2) (by have := HS6.out; omega) (fun e => HR7.out.2.2 e.symm)]
                exact HVG.out.block (P + 2) (by have := HV.out.2.2.2.2.2.1; omega) (fun e => by have := Option.some.inj e; omega)
              · refine ⟨j1, ms ++ [(x.val : Int)], _, c1, .slice a7 (m + 1) k7, ((HR1.out.other HG6.out (fun e => by cases e)).other H7.out.2 HR7.out.2.1).other HG7.out (fun e => by have := Option.some.inj e; omega), ?_, ?_, by rw [List.length_append, List.length_append]; have := HV.out.2.2.2.1; simp; omega, fun h => HQY1.out hp hq h, ?_, ?_⟩
                · rw [heap_setCell_same w7 (P + 1) 0 _ _ _ HP7.out]; rfl
                · rw [List.length_append, ← HMS.out]
                  exact own_far H7.out.1 HG7.out (by omega)
                · exact ((HV.out.2.2.2.2.1.grown HVG.out (by have := HV.out.2.2.2.2.2.1; omega) (fun k e => by cases e; exact Nat.le_refl _)).grown H7.out.2 (by have := HS6.out; omega) (fun k e => by have := own_block_ge HO6.out _ e; omega)).grown HG7.out (by have := HS6.out; have := H7.out.2.size; omega) (fun k e => by cases e; omega)
                · have := HS6.out; have := H7.out.2.size; have := HG7.out.size; omega
            · rw [hq] at HP2
              gi_wp2
              refine wpIn_region_gbR (by kernel_rfl) (by kernel_rfl) (by kernel_rfl) ?_
              repeat (first
                | (refine wpQuiet_loadv rfl 39 _ rfl ⟨b, 0, none⟩ _ rfl (fun w hw => by obtain ⟨p, rfl⟩ := hw; exact l2 p) ?_)
                | quiet_step (first
                  | (go_at_call 19; exact calls_gb (HP2.out _))))
              refine wpQuiet_nil ?_
              intro _ hw'
              obtain ⟨pq2, rfl⟩ := hw'
              obtain ⟨W6, hW6⟩ : ∃ W6, gw W5 pq2 = W6 := ⟨_, rfl⟩
              have HG6 : Hid (wr.grownBy W6 none) := by rw [← hW6]; exact gb_trans HG5.out (gw_gb _ _)
              rw [hW6]
              clear hW6 q0 q1 l2
              have HVG : Hid (V.grownBy W6 (some P)) := gb_trans hr.out (gb_wide HG6.out _)
              have HIX : Hid (StI D n g P R w1 (pre ++ [x]) W6) := ⟨j1, ms, _, c1, v, HR1.out.other HG6.out (fun e => by cases e), (HVG.out.block (P + 1) (lt_block HV.out.2.1) (fun e => by have := Option.some.inj e; omega)).trans HV.out.2.1, own_far HV.out.2.2.1 HVG.out (by omega), by rw [List.length_append]; have := HV.out.2.2.2.1; omega, fun h => HQN1.out hq h, HV.out.2.2.2.2.1.grown HVG.out (by have := HV.out.2.2.2.2.2.1; omega) (fun k e => by cases e; exact Nat.le_refl _), Nat.le_trans HV.out.2.2.2.2.2.1 HVG.out.size⟩
              gi_wp2
              exact ⟨keeps_row HV.out.1 HVG.out, HVG.out.block (P + 2) (by have := HV.out.2.2.2.2.2.1; omega) (fun e => by have := Option.some.inj e; omega), HIX.out⟩
          · rw [hp] at HP1
            gi_wp2
            refine wpIn_region_gbR (by kernel_rfl) (by kernel_rfl) (by kernel_rfl) ?_
            repeat (first
              | (refine wpQuiet_loadv rfl 39 _ rfl ⟨g, j1 * 2, none⟩ _ rfl (fun w hw => by obtain ⟨p, rfl⟩ := hw; exact l1 p) ?_)
              | quiet_step (first
                | (go_at_call 19; exact calls_gb (HP1.out _))))
            refine wpQuiet_nil ?_
            intro _ hw'
            obtain ⟨pq, rfl⟩ := hw'
            obtain ⟨W5, hW5⟩ : ∃ W5, gw wr pq = W5 := ⟨_, rfl⟩
            have HG5 : Hid (wr.grownBy W5 none) := by rw [← hW5]; exact gw_gb _ _
            rw [hW5]
            clear hW5 q0 q1 l1
            have cP5 := cell_kept HG5.out cP
            have HH5 : Hid (W5.heap[P]? = some (.cells #[.slice (some ⟨g, j1 * 2, none⟩) m1 c1] 24 (0, 0))) := (HG5.out.block P (lt_block HHP.out) (fun e => by cases e)).trans HHP.out
            have fP5 : W5.frozen? ⟨P, 0, none⟩ = false := frozen_of_row W5 P 0 _ _ HH5.out
            have hm4 : (1 : Int) ≤ (m1 : Int) := by omega
            have hm5 : (m1 : Int) ≤ (c1 : Int) := by omega
            have hm6 : 1 ≤ m1 := hm0
            by_cases hc1e : c1 = 1
            · gi_wp2
              have hj1 : j1 < R.length := by have := HM.out; omega
              have hml : m1 = R.length - j1 := by have := HM.out; have := HM1.out; omega
              refine ⟨⟨⟨j1 + 1, _, _, RstI.set HH5.out hj1 hml (fun h => by have := hc1; omega), HQP1.out hp⟩, gb_trans hr.out (gb_trans (gb_wide HG5.out _) (gb_set _ _ _ _))⟩, ?_⟩
              rw [lenAt_set HH5.out, lenAt_is cP]; omega
            · gi_wp2
              have hj1 : j1 < R.length := by have := HM.out; omega
              have hml : m1 = R.length - j1 := by have := HM.out; have := HM1.out; omega
              refine ⟨⟨⟨j1 + 1, _, _, RstI.set HH5.out hj1 hml (fun h => ⟨by rw [Nat.add_mul, Nat.one_mul], by omega⟩), HQP1.out hp⟩, gb_trans hr.out (gb_trans (gb_wide HG5.out _) (gb_set _ _ _ _))⟩, ?_⟩
              rw [lenAt_set HH5.out, lenAt_is cP]; omega
        · have hje : R.length - j1 = 0 := by have := HR1.out.1; have := HM.out; omega
          have HJE : Hid (R.length ≤ j1) := by show _ ≤ _; omega
          have cP : wr.cell? ⟨P, 0, none⟩ = some (.slice a1 0 c1) := by
            have := cell_one HR1.out.2.1
            rw [hje] at this; exact this
          have HVG : Hid (∀ W6, wr.grownBy W6 none → V.grownBy W6 (some P)) := fun W6 h => gb_trans hr.out (gb_wide h _)
          have q0 : ∀ p, (gw wr p).cell? ⟨P, 0, none⟩ = some (.slice a1 0 c1) := fun p => cell_gw cP p
          clear hje hj
          gi_wp2
          refine wpIn_region_gbR (by kernel_rfl) (by kernel_rfl) (by kernel_rfl) ?_
          repeat (quiet_step (fail))
          refine wpQuiet_nil ?_
          intro _ hw'
          obtain ⟨pq, rfl⟩ := hw'
          have q1 := q0 pq
          have HV6 : Hid (V.grownBy (gw wr pq) (some P)) := HVG.out _ (gw_gb _ _)
          generalize gw wr pq = W6 at *
          gi_wp2
          refine ⟨keeps_row HV.out.1 HV6.out, rfl, ms, v, (HV6.out.block (P + 1) (lt_block HV.out.2.1) (fun e => by have := Option.some.inj e; omega)).trans HV.out.2.1, own_far HV.out.2.2.1 HV6.out (by omega), fun h => HQE.out j1 HQ1.out HJE.out h, HV.out.2.2.2.2.1.grown HV6.out (by have := HV.out.2.2.2.2.2.1; omega) (fun k e => by cases e; exact Nat.le_refl _)⟩
  · have HE : Hid (dE d = 61) := by show _ = _; unfold dE; rw [if_pos (nbk_none h)]
    have HB : Hid (bmt d A = []) := by show _ = _; unfold bmt; rw [nbk_none h]; rfl
    rw [HE.out, HB.out]
    rw [nbk_none h] at HC
    clear hA
    go_enter Try.func7, Try.ntmps7
    go_wp2_with (first
      | (go_at_call 16; go_must (refine (HC.out _).mono ?_); rintro e w1 ⟨rfl, hq⟩; obtain rfl := hq.symm))
    go_ret2
    first
      | exact ⟨_, rfl, own_none _ _ _ _, gb_refl _⟩
      | exact ⟨rfl, own_none _ _ _ _, gb_refl _⟩
end Go.Proofs.Ytdjcokepeifojaa
