/-
  What config's Check, Head, Tail, Prev, Next and Role answer, and the document's At, Beside and Role. Condition: the chain can be read.
-/
import Derived.Test.YtekefbbjocekiabCGl
namespace Go.Proofs.Ytekefbbjocekiab
open Go.RowKit
set_option linter.unusedVariables false

theorem lkP_one (e : Int) (xs : List Int) : (lkP e xs).toArray.all (·.oneCell') = true := by
  unfold lkP
  split <;> (simp [plcs]; intro _ _; rfl)
/-- A call's memory: the chain stays. -/
theorem Seg.b {k : IntKind} {w w' : World} {a : Option Addr} {len : Nat} {xs : List Int} (h : Seg k w a len xs) (hb : Below w.heap.size w w') : Seg k w' a len xs := h.below hb
def inB (v a b : Int) : Bool := decide (a ≤ v) && decide (v ≤ b)
theorem inB_yes {v a b : Int} (h1 : a ≤ v) (h2 : v ≤ b) : inB v a b = true := by unfold inB; rw [decide_eq_true h1, decide_eq_true h2]; rfl
theorem inB_no {v a b : Int} (h : ¬ (a ≤ v ∧ v ≤ b)) : inB v a b = false := by
  unfold inB
  by_cases h1 : a ≤ v
  · rw [decide_eq_true h1, decide_eq_false (fun h2 => h ⟨h1, h2⟩)]; rfl
  · rw [decide_eq_false h1]; rfl
theorem within_c (v a b : Int) (w : World) : Calls Try.prog 38 #[.int .i64 v, .int .i64 a, .int .i64 b] w fun r w' => r = .returned (.bool (inB v a b)) ∧ w' = w := by
  by_cases h1 : a ≤ v
  · have hd1 : decide (a ≤ v) = true := decide_eq_true h1
    by_cases h2 : v ≤ b
    · have hd2 : decide (v ≤ b) = true := decide_eq_true h2
      have HR : Hid (inB v a b = true) := inB_yes h1 h2
      go_enter Try.func38, Try.ntmps38
      go_wp2
      go_ret
      exact ⟨by rw [HR.out]; rfl, rfl⟩
    · have hd2 : decide (v ≤ b) = false := decide_eq_false h2
      have HR : Hid (inB v a b = false) := inB_no (fun h => h2 h.2)
      go_enter Try.func38, Try.ntmps38
      go_wp2
      go_ret
      exact ⟨by rw [HR.out]; rfl, rfl⟩
  · have hd1 : decide (a ≤ v) = false := decide_eq_false h1
    have HR : Hid (inB v a b = false) := inB_no (fun h => h1 h.1)
    go_enter Try.func38, Try.ntmps38
    go_wp2
    go_ret
    exact ⟨by rw [HR.out]; rfl, rfl⟩
set_option maxRecDepth 20000 in
set_option maxHeartbeats 2000000 in
theorem check_c (e : Int) (a : Option Addr) (n c : Nat) (xs : List Int) (w : World) (h : Seg .i64 w a n xs) : Calls Try.prog 27 #[.agg #[.int .i64 e, .slice a n c]] w fun r w' => r = .returned (.int .i64 (chk e xs)) ∧ Below w.heap.size w w' := by
  have b0 : Below w.heap.size w (w.alloc (.cells #[.int .i64 e, .slice a n c] 25)) := (Below.refl _ _).alloc (Nat.le_refl _) _
  have HL : Hid _ := look_c e a n c xs _ (h.below b0)
  have HB : Hid (Below w.heap.size w (w.alloc (.cells #[.int .i64 e, .slice a n c] 25))) := b0
  clear h b0
  go_enter Try.func27, Try.ntmps27
  go_wp2_with (first
    | (go_at_call 41; go_must (refine (Calls.mono HL.out ?_)); rintro r w1 ⟨rfl, hb⟩; have H1 : Hid (Below w.heap.size w w1) := HB.out.trans (hb.mono HB.out.size); clear hb)
    | (refine wpList_store_bk 77 rfl (.tmp 3) (.tmp 8) rfl infoPl w1.heap.size zer9 _ rfl rfl (heap_new _ _) rfl (by simp [lkP_length]) (lkP_one _ _) ?_; intro w4 k1 k2; have H4 : Hid (Below w.heap.size w w4) := (H1.out.alloc H1.out.size _).grown k2 (by simp; exact Nat.le_succ_of_le H1.out.size) (by rintro q hq; cases hq; exact H1.out.size); clear k1 k2))
  go_ret
  exact ⟨rfl, H4.out⟩
/-- What places.of answers of look's places. -/
def ofP (e : Int) (xs : List Int) (n : Int) : Int := if chk e xs = 0 then pla xs n + 1 else 0
theorem lkP_at (e : Int) (xs : List Int) (X : Nat) (hX : X ≤ 8) : (lkP e xs)[X]? = some (.int .i64 (ofP e xs (X : Int))) := by
  unfold lkP ofP
  by_cases h : chk e xs = 0
  · rw [if_pos h, if_pos h]
    have := plcs_at xs (X : Int) (by omega) (by omega)
    rwa [Int.toNat_natCast] at this
  · rw [if_neg h, if_neg h]
    have := plcs_at [] (X : Int) (by omega) (by omega)
    rw [Int.toNat_natCast, pla_no (by simp)] at this
    exact this
theorem ofP_out {e : Int} {xs : List Int} {n : Int} (h : ¬ (1 ≤ n ∧ n ≤ 8)) : ofP e xs n = 0 := by
  unfold ofP
  by_cases hc : chk e xs = 0
  · rw [if_pos hc, pla_no (fun hm => h ((chk_ok.1 hc).2.2.1 n hm))]; rfl
  · rw [if_neg hc]
theorem of_c (e : Int) (xs : List Int) (n : Int) (w : World) : Calls Try.prog 42 #[.agg (lkP e xs).toArray, .int .i64 n] w fun r w' => r = .returned (.int .i64 (ofP e xs n)) ∧ Below w.heap.size w w' := by
  have HB : Hid (Below w.heap.size w (w.alloc (.cells (lkP e xs).toArray 77))) := (Below.refl _ _).alloc (Nat.le_refl _) _
  have HNO : Hid (∀ x W, Calls Try.prog 45 #[.int .i64 x] W fun r w' => r = .returned (.bool (isN x)) ∧ w' = W) := isnode_c
  by_cases h : 1 ≤ n ∧ n ≤ 8
  · obtain ⟨X, rfl⟩ : ∃ X : Nat, n = (X : Int) := ⟨n.toNat, by omega⟩
    have hX : X < 9 := by omega
    have hc : (w.alloc (.cells (lkP e xs).toArray 77)).cell? ⟨w.heap.size, X, none⟩ = some (.int .i64 (ofP e xs (X : Int))) := by
      rw [cell_of_row _ _ _ _ _ _ (heap_new w _), List.getElem?_toArray]
      exact lkP_at e xs X (by omega)
    have hb : isN (X : Int) = true := isN_yes h.1 h.2
    clear h
    go_enter Try.func42, Try.ntmps42
    go_wp2_with (go_at_call 45; refine (Calls.mono (HNO.out _ _) ?_); rintro r wq ⟨rfl, hq⟩; obtain rfl := hq.symm; clear hq)
    go_ret
    exact ⟨rfl, HB.out⟩
  · have hb : isN n = false := isN_no h
    have HR : Hid (ofP e xs n = 0) := ofP_out h
    clear h
    go_enter Try.func42, Try.ntmps42
    go_wp2_with (go_at_call 45; refine (Calls.mono (HNO.out _ _) ?_); rintro r wq ⟨rfl, hq⟩; obtain rfl := hq.symm; clear hq)
    go_ret
    exact ⟨by rw [HR.out]; rfl, HB.out⟩
theorem atC_bad {e : Int} {xs : List Int} {i : Int} (h : chk e xs ≠ 0) : atC e xs i = 0 := if_neg (fun z => h z.1)
theorem atC_out {e : Int} {xs : List Int} {i : Int} (h : ¬ (0 ≤ i ∧ i < xs.length)) : atC e xs i = 0 := if_neg (fun z => h z.2)
theorem atC_in {e : Int} {xs : List Int} {i : Nat} {x : Int} (h : chk e xs = 0) (hx : xs[i]? = some x) : atC e xs (i : Int) = x := by
  have hl := (List.getElem?_eq_some_iff.1 hx).1
  unfold atC
  rw [if_pos ⟨h, by omega, by omega⟩, Int.toNat_natCast, hx]; rfl
set_option maxRecDepth 20000 in
set_option maxHeartbeats 2000000 in
theorem at_c (e : Int) (a : Option Addr) (n c : Nat) (xs : List Int) (p : Int) (w : World) (h : Seg .i64 w a n xs) : Calls Try.prog 40 #[.agg #[.int .i64 e, .slice a n c], .int .i64 p] w fun r w' => r = .returned (.int .i64 (atC e xs (p - 1))) ∧ Below w.heap.size w w' := by
  have b0 : Below w.heap.size w (w.alloc (.cells #[.int .i64 e, .slice a n c] 25)) := (Below.refl _ _).alloc (Nat.le_refl _) _
  have HC : Hid _ := check_c e a n c xs _ (h.below b0)
  have HB : Hid (Below w.heap.size w (w.alloc (.cells #[.int .i64 e, .slice a n c] 25)) ∧ CfB 25 (w.alloc (.cells #[.int .i64 e, .slice a n c] 25)) w.heap.size e (.slice a n c)) := ⟨b0, CfB.new _ _ _ _⟩
  have HW : Hid (∀ v a b W, Calls Try.prog 38 #[.int .i64 v, .int .i64 a, .int .i64 b] W fun r w' => r = .returned (.bool (inB v a b)) ∧ w' = W) := within_c
  have hlen := h.1
  have HS : Hid (Seg .i64 w a n xs ∧ xs.length = n) := ⟨h, hlen⟩
  clear h b0
  by_cases hk : chk e xs = 0
  · have hck : (chk e xs != 0) = false := by rw [hk]; rfl
    have HK : Hid (chk e xs = 0) := hk
    clear hk
    by_cases hp : 1 ≤ p ∧ p ≤ n
    · obtain ⟨P, rfl⟩ : ∃ P : Nat, p = (P : Int) + 1 := ⟨(p - 1).toNat, by omega⟩
      have hPn : P < n := by omega
      have hn8 : n ≤ 8 := by have := (chk_ok.1 HK.out).2.1.2; omega
      have hw1 : wrap64 (((P : Int) + 1) - 1) = (P : Int) := by rw [IntWalk.wrap64_in _ ⟨by omega, by omega⟩]; omega
      have hb : inB ((P : Int) + 1) 1 (n : Int) = true := inB_yes hp.1 hp.2
      have HR : Hid (((P : Int) + 1) - 1 = (P : Int)) := by show _ = _; omega
      clear hp
      go_enter Try.func40, Try.ntmps40
      go_wp2_with (first
        | (go_at_call 27; go_must (refine (Calls.mono HC.out ?_)); rintro r w1 ⟨rfl, hb1⟩; have H1 : Hid (Below w.heap.size w w1) := HB.out.1.trans (hb1.mono HB.out.1.size); have hcf := HB.out.2.below hb1; have c0 := hcf.c0; have c1 := hcf.c1; obtain ⟨ba, oa, x, rfl, hx, ca⟩ := seg_at1 (HS.out.1.below H1.out) hPn; have HX : Hid (xs[P]? = some x) := hx; clear hb1 hcf hx)
        | (go_at_call 38; refine (Calls.mono (HW.out _ _ _ _) ?_); rintro r wq ⟨rfl, hq⟩; obtain rfl := hq.symm; clear hq))
      go_ret
      exact ⟨by rw [HR.out, atC_in HK.out HX.out]; rfl, H1.out⟩
    · have hb : inB p 1 (n : Int) = false := inB_no hp
      have HR : Hid (atC e xs (p - 1) = 0) := atC_out (by omega)
      clear hp
      go_enter Try.func40, Try.ntmps40
      go_wp2_with (first
        | (go_at_call 27; go_must (refine (Calls.mono HC.out ?_)); rintro r w1 ⟨rfl, hb1⟩; have H1 : Hid (Below w.heap.size w w1) := HB.out.1.trans (hb1.mono HB.out.1.size); have hcf := HB.out.2.below hb1; have c0 := hcf.c0; have c1 := hcf.c1; clear hb1 hcf)
        | (go_at_call 38; refine (Calls.mono (HW.out _ _ _ _) ?_); rintro r wq ⟨rfl, hq⟩; obtain rfl := hq.symm; clear hq))
      go_ret
      exact ⟨by rw [HR.out]; rfl, H1.out⟩
  · have hck : (chk e xs != 0) = true := by simpa using hk
    have HR : Hid (atC e xs (p - 1) = 0) := atC_bad hk
    clear hk
    go_enter Try.func40, Try.ntmps40
    go_wp2_with (go_at_call 27; go_must (refine (Calls.mono HC.out ?_)); rintro r w1 ⟨rfl, hb1⟩; have H1 : Hid (Below w.heap.size w w1) := HB.out.1.trans (hb1.mono HB.out.1.size); clear hb1)
    go_ret
    exact ⟨by rw [HR.out]; rfl, H1.out⟩
theorem head_c (e : Int) (a : Option Addr) (n c : Nat) (xs : List Int) (w : World) (h : Seg .i64 w a n xs) : Calls Try.prog 17 #[.agg #[.int .i64 e, .slice a n c]] w fun r w' => r = .returned (.int .i64 (atC e xs 0)) ∧ Below w.heap.size w w' := by
  have b0 : Below w.heap.size w (w.alloc (.cells #[.int .i64 e, .slice a n c] 25)) := (Below.refl _ _).alloc (Nat.le_refl _) _
  have HA : Hid _ := at_c e a n c xs 1 _ (h.below b0)
  have HB : Hid (Below w.heap.size w (w.alloc (.cells #[.int .i64 e, .slice a n c] 25))) := b0
  clear h b0
  go_enter Try.func17, Try.ntmps17
  go_wp2_with (go_at_call 40; go_must (refine (Calls.mono HA.out ?_)); rintro r w1 ⟨rfl, hb⟩; have H1 : Hid (Below w.heap.size w w1) := HB.out.trans (hb.mono HB.out.size); clear hb)
  go_ret
  exact ⟨rfl, H1.out⟩
theorem tail_c (e : Int) (a : Option Addr) (n c : Nat) (xs : List Int) (w : World) (h : Seg .i64 w a n xs) : Calls Try.prog 20 #[.agg #[.int .i64 e, .slice a n c]] w fun r w' => r = .returned (.int .i64 (atC e xs ((n : Int) - 1))) ∧ Below w.heap.size w w' := by
  have b0 : Below w.heap.size w (w.alloc (.cells #[.int .i64 e, .slice a n c] 25)) := (Below.refl _ _).alloc (Nat.le_refl _) _
  have HA : Hid _ := at_c e a n c xs (n : Int) _ (h.below b0)
  have HB : Hid (Below w.heap.size w (w.alloc (.cells #[.int .i64 e, .slice a n c] 25))) := b0
  clear h b0
  go_enter Try.func20, Try.ntmps20
  go_wp2_with (go_at_call 40; go_must (refine (Calls.mono HA.out ?_)); rintro r w1 ⟨rfl, hb⟩; have H1 : Hid (Below w.heap.size w w1) := HB.out.trans (hb.mono HB.out.size); clear hb)
  go_ret
  exact ⟨rfl, H1.out⟩
theorem bes_at {e : Int} {xs : List Int} {n by_ : Int} (h : ofP e xs n ≠ 0) : bes e xs n by_ = atC e xs (ofP e xs n + by_ - 1) := by
  have hc : chk e xs = 0 := by
    by_cases hc : chk e xs = 0
    · exact hc
    · exact absurd (show ofP e xs n = 0 from if_neg hc) h
  have e1 : ofP e xs n = pla xs n + 1 := if_pos hc
  have := pla_bd xs n
  unfold bes
  rw [if_neg (by omega), e1]
  congr 1
  omega
theorem bes_0 {e : Int} {xs : List Int} {n by_ : Int} (h : ofP e xs n = 0) : bes e xs n by_ = 0 := by
  unfold bes
  by_cases hc : chk e xs = 0
  · have e1 : ofP e xs n = pla xs n + 1 := if_pos hc
    rw [if_pos (by omega)]
  · split
    · rfl
    · exact atC_bad hc
theorem ofP_bd (e : Int) (xs : List Int) (n : Int) : 0 ≤ ofP e xs n ∧ ofP e xs n ≤ 8 := by
  unfold ofP
  by_cases hc : chk e xs = 0
  · have := pla_bd xs n
    have := (chk_ok.1 hc).2.1.2
    rw [if_pos hc]
    omega
  · rw [if_neg hc]; omega
set_option maxRecDepth 20000 in
set_option maxHeartbeats 2000000 in
theorem beside_c (e : Int) (a : Option Addr) (n c : Nat) (xs : List Int) (x by_ : Int) (w : World) (h : Seg .i64 w a n xs) (hby : -1 ≤ by_ ∧ by_ ≤ 1) : Calls Try.prog 43 #[.agg #[.int .i64 e, .slice a n c], .int .i64 x, .int .i64 by_] w fun r w' => r = .returned (.int .i64 (bes e xs x by_)) ∧ Below w.heap.size w w' := by
  have b0 : Below w.heap.size w (w.alloc (.cells #[.int .i64 e, .slice a n c] 25)) := (Below.refl _ _).alloc (Nat.le_refl _) _
  have HL : Hid _ := look_c e a n c xs _ (h.below b0)
  have HB : Hid (Below w.heap.size w (w.alloc (.cells #[.int .i64 e, .slice a n c] 25)) ∧ CfB 25 (w.alloc (.cells #[.int .i64 e, .slice a n c] 25)) w.heap.size e (.slice a n c)) := ⟨b0, CfB.new _ _ _ _⟩
  have HS : Hid (Seg .i64 w a n xs) := h
  have HO : Hid (∀ W, Calls Try.prog 42 #[.agg (lkP e xs).toArray, .int .i64 x] W fun r w' => r = .returned (.int .i64 (ofP e xs x)) ∧ Below W.heap.size W w') := fun W => of_c e xs x W
  have HA : Hid (∀ W p, Seg .i64 W a n xs → Calls Try.prog 40 #[.agg #[.int .i64 e, .slice a n c], .int .i64 p] W fun r w' => r = .returned (.int .i64 (atC e xs (p - 1))) ∧ Below W.heap.size W w') := fun W p hs => at_c e a n c xs p W hs
  obtain ⟨P, hP⟩ : ∃ P, P = ofP e xs x := ⟨_, rfl⟩
  have hbd := ofP_bd e xs x
  rw [← hP] at HO hbd
  have hw1 : wrap64 (P + by_) = P + by_ := IntWalk.wrap64_in _ ⟨by omega, by omega⟩
  have HLO : Hid (∀ w1, Below w.heap.size (w.alloc (.cells #[.int .i64 e, .slice a n c] 25)) w1 → True) := fun _ _ => trivial
  clear h b0 HLO hby
  by_cases hz : P = 0
  · have HR : Hid (bes e xs x by_ = 0) := bes_0 (hP ▸ hz)
    subst hz
    clear hP hw1 hbd
    go_enter Try.func43, Try.ntmps43
    go_wp2_with (first
      | (go_at_call 41; go_must (refine (Calls.mono HL.out ?_)); rintro r w1 ⟨rfl, hb⟩; have H1 : Hid (Below w.heap.size w w1) := HB.out.1.trans (hb.mono HB.out.1.size); clear hb)
      | (refine wpList_store_bk 77 rfl (.tmp 7) (.tmp 13) rfl infoPl w1.heap.size zer9 _ rfl rfl (heap_new _ _) rfl (by simp [lkP_length]) (lkP_one _ _) ?_; intro w4 k1 k2; have H4 : Hid (Below w.heap.size w w4 ∧ Bk 77 w4 w1.heap.size (lkP e xs).toArray) := ⟨(H1.out.alloc H1.out.size _).grown k2 (by simp; exact Nat.le_succ_of_le H1.out.size) (by rintro q hq; cases hq; exact H1.out.size), k1⟩; clear k1 k2)
      | (refine wpList_load_bk 77 rfl (.tmp 7) rfl Try.underlying77 rfl infoPl w1.heap.size _ rfl H4.out.2 (by simp [lkP_length]) ?_)
      | (go_at_call 42; go_must (refine (Calls.mono (HO.out _) ?_)); rintro r w5 ⟨rfl, hb⟩; have H5 : Hid (Below w.heap.size w w5) := H4.out.1.trans (hb.mono H4.out.1.size); clear hb))
    go_ret
    exact ⟨by rw [HR.out]; rfl, H5.out⟩
  · have hpz : (P == 0) = false := by simpa using hz
    have HR : Hid (bes e xs x by_ = atC e xs (P + by_ - 1)) := by rw [hP]; exact bes_at (hP ▸ hz)
    clear hP hz hbd
    go_enter Try.func43, Try.ntmps43
    go_wp2_with (first
      | (go_at_call 41; go_must (refine (Calls.mono HL.out ?_)); rintro r w1 ⟨rfl, hb⟩; have H1 : Hid (Below w.heap.size w w1 ∧ CfB 25 w1 w.heap.size e (.slice a n c)) := ⟨HB.out.1.trans (hb.mono HB.out.1.size), HB.out.2.below hb⟩; clear hb)
      | (refine wpList_store_bk 77 rfl (.tmp 7) (.tmp 13) rfl infoPl w1.heap.size zer9 _ rfl rfl (heap_new _ _) rfl (by simp [lkP_length]) (lkP_one _ _) ?_; intro w4 k1 k2; go_must (have H4 : Hid (Below w.heap.size w w4 ∧ Bk 77 w4 w1.heap.size (lkP e xs).toArray ∧ CfB 25 w4 w.heap.size e (.slice a n c)) := ⟨(H1.out.1.alloc H1.out.1.size _).grown k2 (by simp; exact Nat.le_succ_of_le H1.out.1.size) (by rintro q hq; cases hq; exact H1.out.1.size), k1, by have hl := H1.out.2.lt; exact (k2.block w.heap.size (by simp; omega) (by intro z; injection z with z; omega)).trans ((heap_alloc_old _ _ hl).trans H1.out.2)⟩); clear k1 k2)
      | (refine wpList_load_bk 77 rfl (.tmp 7) rfl Try.underlying77 rfl infoPl w1.heap.size _ rfl H4.out.2.1 (by simp [lkP_length]) ?_)
      | (go_at_call 42; go_must (refine (Calls.mono (HO.out _) ?_)); rintro r w5 ⟨rfl, hb⟩; have H5 : Hid (Below w.heap.size w w5 ∧ CfB 25 w5 w.heap.size e (.slice a n c)) := ⟨H4.out.1.trans (hb.mono H4.out.1.size), H4.out.2.2.below hb⟩; have c0 := H5.out.2.c0; have c1 := H5.out.2.c1; clear hb)
      | (go_at_call 40; go_must (refine (Calls.mono (HA.out _ _ (HS.out.below H5.out.1)) ?_)); rintro r w6 ⟨rfl, hb⟩; have H6 : Hid (Below w.heap.size w w6) := H5.out.1.trans (hb.mono H5.out.1.size); clear hb))
    go_ret
    exact ⟨by rw [HR.out]; rfl, H6.out⟩
theorem prev_c (e : Int) (a : Option Addr) (n c : Nat) (xs : List Int) (x : Int) (w : World) (h : Seg .i64 w a n xs) : Calls Try.prog 21 #[.agg #[.int .i64 e, .slice a n c], .int .i64 x] w fun r w' => r = .returned (.int .i64 (bes e xs x (-1))) ∧ Below w.heap.size w w' := by
  have b0 : Below w.heap.size w (w.alloc (.cells #[.int .i64 e, .slice a n c] 25)) := (Below.refl _ _).alloc (Nat.le_refl _) _
  have HA : Hid _ := beside_c e a n c xs x (-1) _ (h.below b0) (by omega)
  have HB : Hid (Below w.heap.size w (w.alloc (.cells #[.int .i64 e, .slice a n c] 25))) := b0
  clear h b0
  go_enter Try.func21, Try.ntmps21
  go_wp2_with (go_at_call 43; go_must (refine (Calls.mono HA.out ?_)); rintro r w1 ⟨rfl, hb⟩; have H1 : Hid (Below w.heap.size w w1) := HB.out.trans (hb.mono HB.out.size); clear hb)
  go_ret
  exact ⟨rfl, H1.out⟩
theorem next_c (e : Int) (a : Option Addr) (n c : Nat) (xs : List Int) (x : Int) (w : World) (h : Seg .i64 w a n xs) : Calls Try.prog 19 #[.agg #[.int .i64 e, .slice a n c], .int .i64 x] w fun r w' => r = .returned (.int .i64 (bes e xs x (1))) ∧ Below w.heap.size w w' := by
  have b0 : Below w.heap.size w (w.alloc (.cells #[.int .i64 e, .slice a n c] 25)) := (Below.refl _ _).alloc (Nat.le_refl _) _
  have HA : Hid _ := beside_c e a n c xs x (1) _ (h.below b0) (by omega)
  have HB : Hid (Below w.heap.size w (w.alloc (.cells #[.int .i64 e, .slice a n c] 25))) := b0
  clear h b0
  go_enter Try.func19, Try.ntmps19
  go_wp2_with (go_at_call 43; go_must (refine (Calls.mono HA.out ?_)); rintro r w1 ⟨rfl, hb⟩; have H1 : Hid (Below w.heap.size w w1) := HB.out.trans (hb.mono HB.out.size); clear hb)
  go_ret
  exact ⟨rfl, H1.out⟩
theorem rol_eq {e : Int} {xs : List Int} {n : Int} : rol e xs n = if ofP e xs n = 0 then 0 else if xs.length = 1 then 4 else if ofP e xs n = 1 then 1 else if ofP e xs n = xs.length then 3 else 2 := by
  unfold rol ofP
  by_cases hc : chk e xs = 0
  · rw [if_pos hc]
    have := pla_bd xs n
    by_cases h1 : pla xs n < 0
    · rw [if_pos (.inr h1), if_pos (by omega)]
    · rw [if_neg (by rintro (z | z); exact z hc; exact h1 z), if_neg (show ¬ pla xs n + 1 = 0 by omega)]
      by_cases h2 : xs.length = 1
      · rw [if_pos h2, if_pos h2]
      · rw [if_neg h2, if_neg h2]
        by_cases h3 : pla xs n = 0
        · rw [if_pos h3, if_pos (by omega)]
        · rw [if_neg h3, if_neg (show ¬ pla xs n + 1 = 1 by omega)]
          by_cases h4 : pla xs n = xs.length - 1
          · rw [if_pos h4, if_pos (by omega)]
          · rw [if_neg h4, if_neg (by omega)]
  · rw [if_neg hc, if_pos (.inl hc), if_pos rfl]
set_option maxRecDepth 20000 in
set_option maxHeartbeats 2000000 in
theorem role_c (e : Int) (a : Option Addr) (n c : Nat) (xs : List Int) (x : Int) (w : World) (h : Seg .i64 w a n xs) : Calls Try.prog 18 #[.agg #[.int .i64 e, .slice a n c], .int .i64 x] w fun r w' => r = .returned (.int .i64 (rol e xs x)) ∧ Below w.heap.size w w' := by
  have b0 : Below w.heap.size w (w.alloc (.cells #[.int .i64 e, .slice a n c] 25)) := (Below.refl _ _).alloc (Nat.le_refl _) _
  have HL : Hid _ := look_c e a n c xs _ (h.below b0)
  have HB : Hid (Below w.heap.size w (w.alloc (.cells #[.int .i64 e, .slice a n c] 25)) ∧ CfB 25 (w.alloc (.cells #[.int .i64 e, .slice a n c] 25)) w.heap.size e (.slice a n c)) := ⟨b0, CfB.new _ _ _ _⟩
  have HO : Hid (∀ W, Calls Try.prog 42 #[.agg (lkP e xs).toArray, .int .i64 x] W fun r w' => r = .returned (.int .i64 (ofP e xs x)) ∧ Below W.heap.size W w') := fun W => of_c e xs x W
  have HR : Hid (rol e xs x = if ofP e xs x = 0 then 0 else if n = 1 then 4 else if ofP e xs x = 1 then 1 else if ofP e xs x = (n : Int) then 3 else 2) := by show _ = _; rw [rol_eq, h.1]
  obtain ⟨P, hP⟩ : ∃ P, P = ofP e xs x := ⟨_, rfl⟩
  rw [← hP] at HO HR
  clear h b0 hP
  have fin : ∀ R : Int, (if P = 0 then (0 : Int) else if n = 1 then 4 else if P = 1 then 1 else if P = (n : Int) then 3 else 2) = R → rol e xs x = R := fun R hR => HR.out.trans hR
  replace fin : Hid _ := fin
  by_cases h1 : P = 0
  · have hb1 : (P == 0) = true := by simpa using h1
    have HV : Hid (rol e xs x = 0) := fin.out _ (if_pos h1)
    clear HR fin h1
    go_enter Try.func18, Try.ntmps18
    go_wp2_with (first
      | (go_at_call 41; go_must (refine (Calls.mono HL.out ?_)); rintro r w1 ⟨rfl, hb⟩; have H1 : Hid (Below w.heap.size w w1 ∧ CfB 25 w1 w.heap.size e (.slice a n c)) := ⟨HB.out.1.trans (hb.mono HB.out.1.size), HB.out.2.below hb⟩; clear hb)
      | (refine wpList_store_bk 77 rfl (.tmp 5) (.tmp 11) rfl infoPl w1.heap.size zer9 _ rfl rfl (heap_new _ _) rfl (by simp [lkP_length]) (lkP_one _ _) ?_; intro w4 k1 k2; have H4 : Hid (Below w.heap.size w w4 ∧ Bk 77 w4 w1.heap.size (lkP e xs).toArray ∧ CfB 25 w4 w.heap.size e (.slice a n c)) := ⟨(H1.out.1.alloc H1.out.1.size _).grown k2 (by simp; exact Nat.le_succ_of_le H1.out.1.size) (by rintro q hq; cases hq; exact H1.out.1.size), k1, by have hl := H1.out.2.lt; exact (k2.block w.heap.size (by simp; omega) (by intro z; injection z with z; omega)).trans ((heap_alloc_old _ _ hl).trans H1.out.2)⟩; clear k1 k2)
      | (refine wpList_load_bk 77 rfl (.tmp 5) rfl Try.underlying77 rfl infoPl w1.heap.size _ rfl H4.out.2.1 (by simp [lkP_length]) ?_)
      | (go_at_call 42; go_must (refine (Calls.mono (HO.out _) ?_)); rintro r w5 ⟨rfl, hb⟩; have H5 : Hid (Below w.heap.size w w5 ∧ CfB 25 w5 w.heap.size e (.slice a n c)) := ⟨H4.out.1.trans (hb.mono H4.out.1.size), H4.out.2.2.below hb⟩; have c0 := H5.out.2.c0; have c1 := H5.out.2.c1; clear hb))
    go_ret
    exact ⟨by rw [HV.out]; rfl, H5.out.1⟩
  have hb1 : (P == 0) = false := by simpa using h1
  by_cases h2 : n = 1
  · have hb2 : ((n : Int) == 1) = true := by simp [h2]
    have HV : Hid (rol e xs x = 4) := fin.out _ (by rw [if_neg h1, if_pos h2])
    clear HR fin h1 h2
    go_enter Try.func18, Try.ntmps18
    go_wp2_with (first
      | (go_at_call 41; go_must (refine (Calls.mono HL.out ?_)); rintro r w1 ⟨rfl, hb⟩; have H1 : Hid (Below w.heap.size w w1 ∧ CfB 25 w1 w.heap.size e (.slice a n c)) := ⟨HB.out.1.trans (hb.mono HB.out.1.size), HB.out.2.below hb⟩; clear hb)
      | (refine wpList_store_bk 77 rfl (.tmp 5) (.tmp 11) rfl infoPl w1.heap.size zer9 _ rfl rfl (heap_new _ _) rfl (by simp [lkP_length]) (lkP_one _ _) ?_; intro w4 k1 k2; have H4 : Hid (Below w.heap.size w w4 ∧ Bk 77 w4 w1.heap.size (lkP e xs).toArray ∧ CfB 25 w4 w.heap.size e (.slice a n c)) := ⟨(H1.out.1.alloc H1.out.1.size _).grown k2 (by simp; exact Nat.le_succ_of_le H1.out.1.size) (by rintro q hq; cases hq; exact H1.out.1.size), k1, by have hl := H1.out.2.lt; exact (k2.block w.heap.size (by simp; omega) (by intro z; injection z with z; omega)).trans ((heap_alloc_old _ _ hl).trans H1.out.2)⟩; clear k1 k2)
      | (refine wpList_load_bk 77 rfl (.tmp 5) rfl Try.underlying77 rfl infoPl w1.heap.size _ rfl H4.out.2.1 (by simp [lkP_length]) ?_)
      | (go_at_call 42; go_must (refine (Calls.mono (HO.out _) ?_)); rintro r w5 ⟨rfl, hb⟩; have H5 : Hid (Below w.heap.size w w5 ∧ CfB 25 w5 w.heap.size e (.slice a n c)) := ⟨H4.out.1.trans (hb.mono H4.out.1.size), H4.out.2.2.below hb⟩; have c0 := H5.out.2.c0; have c1 := H5.out.2.c1; clear hb))
    go_ret
    exact ⟨by rw [HV.out]; rfl, H5.out.1⟩
  have hb2 : ((n : Int) == 1) = false := by simp; omega
  by_cases h3 : P = 1
  · have hb3 : (P == 1) = true := by simpa using h3
    have HV : Hid (rol e xs x = 1) := fin.out _ (by rw [if_neg h1, if_neg h2, if_pos h3])
    clear HR fin h1 h2 h3
    go_enter Try.func18, Try.ntmps18
    go_wp2_with (first
      | (go_at_call 41; go_must (refine (Calls.mono HL.out ?_)); rintro r w1 ⟨rfl, hb⟩; have H1 : Hid (Below w.heap.size w w1 ∧ CfB 25 w1 w.heap.size e (.slice a n c)) := ⟨HB.out.1.trans (hb.mono HB.out.1.size), HB.out.2.below hb⟩; clear hb)
      | (refine wpList_store_bk 77 rfl (.tmp 5) (.tmp 11) rfl infoPl w1.heap.size zer9 _ rfl rfl (heap_new _ _) rfl (by simp [lkP_length]) (lkP_one _ _) ?_; intro w4 k1 k2; have H4 : Hid (Below w.heap.size w w4 ∧ Bk 77 w4 w1.heap.size (lkP e xs).toArray ∧ CfB 25 w4 w.heap.size e (.slice a n c)) := ⟨(H1.out.1.alloc H1.out.1.size _).grown k2 (by simp; exact Nat.le_succ_of_le H1.out.1.size) (by rintro q hq; cases hq; exact H1.out.1.size), k1, by have hl := H1.out.2.lt; exact (k2.block w.heap.size (by simp; omega) (by intro z; injection z with z; omega)).trans ((heap_alloc_old _ _ hl).trans H1.out.2)⟩; clear k1 k2)
      | (refine wpList_load_bk 77 rfl (.tmp 5) rfl Try.underlying77 rfl infoPl w1.heap.size _ rfl H4.out.2.1 (by simp [lkP_length]) ?_)
      | (go_at_call 42; go_must (refine (Calls.mono (HO.out _) ?_)); rintro r w5 ⟨rfl, hb⟩; have H5 : Hid (Below w.heap.size w w5 ∧ CfB 25 w5 w.heap.size e (.slice a n c)) := ⟨H4.out.1.trans (hb.mono H4.out.1.size), H4.out.2.2.below hb⟩; have c0 := H5.out.2.c0; have c1 := H5.out.2.c1; clear hb))
    go_ret
    exact ⟨by rw [HV.out]; rfl, H5.out.1⟩
  have hb3 : (P == 1) = false := by simpa using h3
  by_cases h4 : P = (n : Int)
  · have hb4 : (P == (n : Int)) = true := by simpa using h4
    have HV : Hid (rol e xs x = 3) := fin.out _ (by rw [if_neg h1, if_neg h2, if_neg h3, if_pos h4])
    clear HR fin h1 h2 h3 h4
    go_enter Try.func18, Try.ntmps18
    go_wp2_with (first
      | (go_at_call 41; go_must (refine (Calls.mono HL.out ?_)); rintro r w1 ⟨rfl, hb⟩; have H1 : Hid (Below w.heap.size w w1 ∧ CfB 25 w1 w.heap.size e (.slice a n c)) := ⟨HB.out.1.trans (hb.mono HB.out.1.size), HB.out.2.below hb⟩; clear hb)
      | (refine wpList_store_bk 77 rfl (.tmp 5) (.tmp 11) rfl infoPl w1.heap.size zer9 _ rfl rfl (heap_new _ _) rfl (by simp [lkP_length]) (lkP_one _ _) ?_; intro w4 k1 k2; have H4 : Hid (Below w.heap.size w w4 ∧ Bk 77 w4 w1.heap.size (lkP e xs).toArray ∧ CfB 25 w4 w.heap.size e (.slice a n c)) := ⟨(H1.out.1.alloc H1.out.1.size _).grown k2 (by simp; exact Nat.le_succ_of_le H1.out.1.size) (by rintro q hq; cases hq; exact H1.out.1.size), k1, by have hl := H1.out.2.lt; exact (k2.block w.heap.size (by simp; omega) (by intro z; injection z with z; omega)).trans ((heap_alloc_old _ _ hl).trans H1.out.2)⟩; clear k1 k2)
      | (refine wpList_load_bk 77 rfl (.tmp 5) rfl Try.underlying77 rfl infoPl w1.heap.size _ rfl H4.out.2.1 (by simp [lkP_length]) ?_)
      | (go_at_call 42; go_must (refine (Calls.mono (HO.out _) ?_)); rintro r w5 ⟨rfl, hb⟩; have H5 : Hid (Below w.heap.size w w5 ∧ CfB 25 w5 w.heap.size e (.slice a n c)) := ⟨H4.out.1.trans (hb.mono H4.out.1.size), H4.out.2.2.below hb⟩; have c0 := H5.out.2.c0; have c1 := H5.out.2.c1; clear hb))
    go_ret
    exact ⟨by rw [HV.out]; rfl, H5.out.1⟩
  have hb4 : (P == (n : Int)) = false := by simpa using h4
  have HV : Hid (rol e xs x = 2) := fin.out _ (by rw [if_neg h1, if_neg h2, if_neg h3, if_neg h4])
  clear HR fin h1 h2 h3 h4
  go_enter Try.func18, Try.ntmps18
  go_wp2_with (first
    | (go_at_call 41; go_must (refine (Calls.mono HL.out ?_)); rintro r w1 ⟨rfl, hb⟩; have H1 : Hid (Below w.heap.size w w1 ∧ CfB 25 w1 w.heap.size e (.slice a n c)) := ⟨HB.out.1.trans (hb.mono HB.out.1.size), HB.out.2.below hb⟩; clear hb)
    | (refine wpList_store_bk 77 rfl (.tmp 5) (.tmp 11) rfl infoPl w1.heap.size zer9 _ rfl rfl (heap_new _ _) rfl (by simp [lkP_length]) (lkP_one _ _) ?_; intro w4 k1 k2; have H4 : Hid (Below w.heap.size w w4 ∧ Bk 77 w4 w1.heap.size (lkP e xs).toArray ∧ CfB 25 w4 w.heap.size e (.slice a n c)) := ⟨(H1.out.1.alloc H1.out.1.size _).grown k2 (by simp; exact Nat.le_succ_of_le H1.out.1.size) (by rintro q hq; cases hq; exact H1.out.1.size), k1, by have hl := H1.out.2.lt; exact (k2.block w.heap.size (by simp; omega) (by intro z; injection z with z; omega)).trans ((heap_alloc_old _ _ hl).trans H1.out.2)⟩; clear k1 k2)
    | (refine wpList_load_bk 77 rfl (.tmp 5) rfl Try.underlying77 rfl infoPl w1.heap.size _ rfl H4.out.2.1 (by simp [lkP_length]) ?_)
    | (go_at_call 42; go_must (refine (Calls.mono (HO.out _) ?_)); rintro r w5 ⟨rfl, hb⟩; have H5 : Hid (Below w.heap.size w w5 ∧ CfB 25 w5 w.heap.size e (.slice a n c)) := ⟨H4.out.1.trans (hb.mono H4.out.1.size), H4.out.2.2.below hb⟩; have c0 := H5.out.2.c0; have c1 := H5.out.2.c1; clear hb))
  go_ret
  exact ⟨by rw [HV.out]; rfl, H5.out.1⟩
end Go.Proofs.Ytekefbbjocekiab
