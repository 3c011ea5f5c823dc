/-
  What the document's At, Beside and Role of a configuration answer. Condition: the chain can be read, and has at most 2^60 nodes.
-/
import Derived.Test.YtekefbbjocekiaaCGr
namespace Go.Proofs.Ytekefbbjocekiaa
open Go.RowKit
set_option linter.unusedVariables false

set_option maxRecDepth 20000 in
set_option maxHeartbeats 2000000 in
theorem qat_c (e : Int) (a : Option Addr) (n c : Nat) (xs : List Int) (p : Int) (w : World) (h : Seg .i64 w a n xs) (hnc : n ≤ c) : Calls Try.prog 19 #[.agg #[.int .i64 e, .slice a n c], .int .i64 p] w fun r w' => r = .returned (.int .i64 (atC e xs p)) ∧ Below w.heap.size w w' := by
  have b0 : Below w.heap.size w (w.alloc (.cells #[.int .i64 e, .slice a n c] 33)) := (Below.refl _ _).alloc (Nat.le_refl _) _
  have HC : Hid _ := qcheck_c e a n c xs _ (h.below b0) hnc
  have HB : Hid (Below w.heap.size w (w.alloc (.cells #[.int .i64 e, .slice a n c] 33)) ∧ CfB 33 (w.alloc (.cells #[.int .i64 e, .slice a n c] 33)) w.heap.size e (.slice a n c)) := ⟨b0, CfB.new _ _ _ _⟩
  have hlen := h.1
  have HS : Hid (Seg .i64 w a n xs ∧ xs.length = n) := ⟨h, hlen⟩
  clear h b0
  by_cases hk : chk e xs = 0
  · have hck : (chk e xs != 0) = false := by rw [hk]; rfl
    have HK : Hid (chk e xs = 0) := hk
    clear hk
    by_cases hp : p < 0
    · have hd : decide (p < (0 : Int)) = true := decide_eq_true hp
      have HR : Hid (atC e xs p = 0) := atC_out (by omega)
      clear hp hlen
      go_enter Try.func19, Try.ntmps19
      go_wp2_with (go_at_call 14; go_must (refine (Calls.mono HC.out ?_)); rintro r w1 ⟨rfl, hb1⟩; have H1 : Hid (Below w.heap.size w w1) := HB.out.1.trans (hb1.mono HB.out.1.size); have hcf := HB.out.2.below hb1; have c0 := hcf.c0; have c1 := hcf.c1; clear hb1 hcf)
      go_ret
      exact ⟨by rw [HR.out]; rfl, H1.out⟩
    have hd : decide (p < (0 : Int)) = false := decide_eq_false hp
    by_cases hp2 : (n : Int) ≤ p
    · have hd2 : decide ((n : Int) ≤ p) = true := decide_eq_true hp2
      have HR : Hid (atC e xs p = 0) := atC_out (by omega)
      clear hp hp2 hlen
      go_enter Try.func19, Try.ntmps19
      go_wp2_with (go_at_call 14; go_must (refine (Calls.mono HC.out ?_)); rintro r w1 ⟨rfl, hb1⟩; have H1 : Hid (Below w.heap.size w w1) := HB.out.1.trans (hb1.mono HB.out.1.size); have hcf := HB.out.2.below hb1; have c0 := hcf.c0; have c1 := hcf.c1; clear hb1 hcf)
      go_ret
      exact ⟨by rw [HR.out]; rfl, H1.out⟩
    obtain ⟨P, rfl⟩ : ∃ P : Nat, p = (P : Int) := ⟨p.toNat, by omega⟩
    have hd2 : decide ((n : Int) ≤ (P : Int)) = false := decide_eq_false hp2
    have hPn : P < n := by omega
    clear hp hp2 hlen
    go_enter Try.func19, Try.ntmps19
    go_wp2_with (go_at_call 14; go_must (refine (Calls.mono HC.out ?_)); rintro r w1 ⟨rfl, hb1⟩; have H1 : Hid (Below w.heap.size w w1) := HB.out.1.trans (hb1.mono HB.out.1.size); have hcf := HB.out.2.below hb1; have c0 := hcf.c0; have c1 := hcf.c1; obtain ⟨ba, oa, y, rfl, hy, ca⟩ := seg_at1 (HS.out.1.below H1.out) hPn; have HX : Hid (xs[P]? = some y) := hy; clear hb1 hcf hy)
    go_ret
    exact ⟨by rw [atC_in HK.out HX.out]; rfl, H1.out⟩
  · have hck : (chk e xs != 0) = true := by simpa using hk
    have HR : Hid (atC e xs p = 0) := atC_bad hk
    clear hk hlen
    go_enter Try.func19, Try.ntmps19
    go_wp2_with (go_at_call 14; go_must (refine (Calls.mono HC.out ?_)); rintro r w1 ⟨rfl, hb1⟩; have H1 : Hid (Below w.heap.size w w1) := HB.out.1.trans (hb1.mono HB.out.1.size); have hcf := HB.out.2.below hb1; have c0 := hcf.c0; have c1 := hcf.c1; clear hb1 hcf)
    go_ret
    exact ⟨by rw [HR.out]; rfl, H1.out⟩
theorem place_q (a : Option Addr) (n c : Nat) (xs : List Int) (x : Int) (w : World) (h : Seg .i64 w a n xs) (hl : n ≤ 1152921504606846976) : Calls Try.prog 38 #[.slice a n c, .int .i64 x] w fun r w' => r = .returned (.int .i64 (pla xs x)) ∧ w' = w := place_c a n c xs x w h hl
theorem bes_no {e : Int} {xs : List Int} {n far : Int} (h : pla xs n < 0) : bes e xs n far = 0 := if_pos h
theorem bes_yes {e : Int} {xs : List Int} {n far : Int} (h : ¬ pla xs n < 0) : bes e xs n far = atC e xs (pla xs n + far) := if_neg h
set_option maxRecDepth 20000 in
set_option maxHeartbeats 2000000 in
theorem qbeside_c (e : Int) (a : Option Addr) (n c : Nat) (xs : List Int) (x far : Int) (w : World) (h : Seg .i64 w a n xs) (hnc : n ≤ c) (hl : n ≤ 1152921504606846976) (hf : -1 ≤ far ∧ far ≤ 1) : Calls Try.prog 21 #[.agg #[.int .i64 e, .slice a n c], .int .i64 x, .int .i64 far] w fun r w' => r = .returned (.int .i64 (bes e xs x far)) ∧ Below w.heap.size w w' := by
  have b0 : Below w.heap.size w (w.alloc (.cells #[.int .i64 e, .slice a n c] 33)) := (Below.refl _ _).alloc (Nat.le_refl _) _
  have HP : Hid _ := place_c a n c xs x _ (h.below b0) hl
  have HB : Hid (Below w.heap.size w (w.alloc (.cells #[.int .i64 e, .slice a n c] 33))) := b0
  have HA : Hid (∀ p, Calls Try.prog 19 #[.agg #[.int .i64 e, .slice a n c], .int .i64 p] (w.alloc (.cells #[.int .i64 e, .slice a n c] 33)) fun r w' => r = .returned (.int .i64 (atC e xs p)) ∧ Below (w.alloc (.cells #[.int .i64 e, .slice a n c] 33)).heap.size (w.alloc (.cells #[.int .i64 e, .slice a n c] 33)) w') := fun p => qat_c e a n c xs p _ (h.below b0) hnc
  have hbd := pla_bd xs x
  have hln := h.1
  have hw : wrap64 (pla xs x + far) = pla xs x + far := IntWalk.wrap64_in _ ⟨by omega, by omega⟩
  clear h b0 hbd hln hl
  by_cases hz : pla xs x < 0
  · have hd : decide (pla xs x < (0 : Int)) = true := decide_eq_true hz
    have HR : Hid (bes e xs x far = 0) := bes_no hz
    clear hz hw hf
    go_enter Try.func21, Try.ntmps21
    go_wp2_with (go_at_call 38; go_must (refine (Calls.mono HP.out ?_)); rintro r wq ⟨rfl, hq⟩; obtain rfl := hq.symm; clear hq)
    go_ret
    exact ⟨by rw [HR.out]; rfl, HB.out⟩
  · have hd : decide (pla xs x < (0 : Int)) = false := decide_eq_false hz
    have HR : Hid (bes e xs x far = atC e xs (pla xs x + far)) := bes_yes hz
    clear hz hf
    go_enter Try.func21, Try.ntmps21
    go_wp2_with (first
      | (go_at_call 38; go_must (refine (Calls.mono HP.out ?_)); rintro r wq ⟨rfl, hq⟩; obtain rfl := hq.symm; clear hq)
      | (go_at_call 19; go_must (refine (Calls.mono (HA.out _) ?_)); rintro r w1 ⟨rfl, hb⟩; have H1 : Hid (Below w.heap.size w w1) := HB.out.trans (hb.mono HB.out.size); clear hb))
    go_ret
    exact ⟨by rw [HR.out]; rfl, H1.out⟩
set_option maxRecDepth 20000 in
set_option maxHeartbeats 2000000 in
theorem qrole_c (e : Int) (a : Option Addr) (n c : Nat) (xs : List Int) (x : Int) (w : World) (h : Seg .i64 w a n xs) (hnc : n ≤ c) (hl : n ≤ 1152921504606846976) : Calls Try.prog 24 #[.agg #[.int .i64 e, .slice a n c], .int .i64 x] w fun r w' => r = .returned (.int .i64 (rol e xs x)) ∧ Below w.heap.size w w' := by
  have b0 : Below w.heap.size w (w.alloc (.cells #[.int .i64 e, .slice a n c] 33)) := (Below.refl _ _).alloc (Nat.le_refl _) _
  have HP : Hid _ := place_c a n c xs x _ (h.below b0) hl
  have HB : Hid (Below w.heap.size w (w.alloc (.cells #[.int .i64 e, .slice a n c] 33)) ∧ CfB 33 (w.alloc (.cells #[.int .i64 e, .slice a n c] 33)) w.heap.size e (.slice a n c)) := ⟨b0, CfB.new _ _ _ _⟩
  have HC : Hid _ := qcheck_c e a n c xs _ (h.below b0) hnc
  have hln := h.1
  have hx : ∀ R : Int, (if chk e xs ≠ 0 ∨ pla xs x < 0 then (0 : Int) else if n = 1 then 4 else if pla xs x = 0 then 1 else if pla xs x = (n : Int) - 1 then 3 else 2) = R → rol e xs x = R := fun R hR => by unfold rol; rw [hln]; exact hR
  replace hx : Hid _ := hx
  clear h b0 hln
  by_cases hk : chk e xs = 0
  · have hck : (chk e xs != 0) = false := by rw [hk]; rfl
    by_cases hz : pla xs x < 0
    · have hd : decide (pla xs x < (0 : Int)) = true := decide_eq_true hz
      have HR : Hid (rol e xs x = 0) := hx.out _ (if_pos (.inr hz))
      clear hz hk hx
      go_enter Try.func24, Try.ntmps24
      go_wp2_with (first
        | (go_at_call 38; go_must (refine (Calls.mono HP.out ?_)); rintro r wq ⟨rfl, hq⟩; obtain rfl := hq.symm; clear hq)
        | (go_at_call 14; go_must (refine (Calls.mono HC.out ?_)); rintro r w1 ⟨rfl, hb1⟩; have H1 : Hid (Below w.heap.size w w1) := HB.out.1.trans (hb1.mono HB.out.1.size); have hcf := HB.out.2.below hb1; have c0 := hcf.c0; have c1 := hcf.c1; clear hb1 hcf))
      go_ret
      exact ⟨by rw [HR.out]; rfl, H1.out⟩
    have hd : decide (pla xs x < (0 : Int)) = false := decide_eq_false hz
    have hor : ¬ (chk e xs ≠ 0 ∨ pla xs x < 0) := by rintro (q | q); exact q hk; exact hz q
    have hn8 := (chk_ok.1 hk).2.1
    clear hz hk
    by_cases h2 : n = 1
    · have hb2 : ((n : Int) == 1) = true := by simp [h2]
      have HR : Hid (rol e xs x = 4) := hx.out _ (by rw [if_neg hor, if_pos h2])
      clear hor hx h2 hn8
      go_enter Try.func24, Try.ntmps24
      go_wp2_with (first
        | (go_at_call 38; go_must (refine (Calls.mono HP.out ?_)); rintro r wq ⟨rfl, hq⟩; obtain rfl := hq.symm; clear hq)
        | (go_at_call 14; go_must (refine (Calls.mono HC.out ?_)); rintro r w1 ⟨rfl, hb1⟩; have H1 : Hid (Below w.heap.size w w1) := HB.out.1.trans (hb1.mono HB.out.1.size); have hcf := HB.out.2.below hb1; have c0 := hcf.c0; have c1 := hcf.c1; clear hb1 hcf))
      go_ret
      exact ⟨by rw [HR.out]; rfl, H1.out⟩
    have hb2 : ((n : Int) == 1) = false := by simp; omega
    by_cases h3 : pla xs x = 0
    · have hb3 : (pla xs x == 0) = true := by simpa using h3
      have HR : Hid (rol e xs x = 1) := hx.out _ (by rw [if_neg hor, if_neg h2, if_pos h3])
      clear hor hx h2 h3 hn8
      go_enter Try.func24, Try.ntmps24
      go_wp2_with (first
        | (go_at_call 38; go_must (refine (Calls.mono HP.out ?_)); rintro r wq ⟨rfl, hq⟩; obtain rfl := hq.symm; clear hq)
        | (go_at_call 14; go_must (refine (Calls.mono HC.out ?_)); rintro r w1 ⟨rfl, hb1⟩; have H1 : Hid (Below w.heap.size w w1) := HB.out.1.trans (hb1.mono HB.out.1.size); have hcf := HB.out.2.below hb1; have c0 := hcf.c0; have c1 := hcf.c1; clear hb1 hcf))
      go_ret
      exact ⟨by rw [HR.out]; rfl, H1.out⟩
    have hb3 : (pla xs x == 0) = false := by simpa using h3
    have hw : wrap64 ((n : Int) - 1) = (n : Int) - 1 := IntWalk.wrap64_in _ ⟨by omega, by omega⟩
    by_cases h4 : pla xs x = (n : Int) - 1
    · have hb4 : (pla xs x == (n : Int) - 1) = true := by simpa using h4
      have HR : Hid (rol e xs x = 3) := hx.out _ (by rw [if_neg hor, if_neg h2, if_neg h3, if_pos h4])
      clear hor hx h2 h3 h4 hn8
      go_enter Try.func24, Try.ntmps24
      go_wp2_with (first
        | (go_at_call 38; go_must (refine (Calls.mono HP.out ?_)); rintro r wq ⟨rfl, hq⟩; obtain rfl := hq.symm; clear hq)
        | (go_at_call 14; go_must (refine (Calls.mono HC.out ?_)); rintro r w1 ⟨rfl, hb1⟩; have H1 : Hid (Below w.heap.size w w1) := HB.out.1.trans (hb1.mono HB.out.1.size); have hcf := HB.out.2.below hb1; have c0 := hcf.c0; have c1 := hcf.c1; clear hb1 hcf))
      go_ret
      exact ⟨by rw [HR.out]; rfl, H1.out⟩
    have hb4 : (pla xs x == (n : Int) - 1) = false := by simpa using h4
    have HR : Hid (rol e xs x = 2) := hx.out _ (by rw [if_neg hor, if_neg h2, if_neg h3, if_neg h4])
    clear hor hx h2 h3 h4 hn8
    go_enter Try.func24, Try.ntmps24
    go_wp2_with (first
      | (go_at_call 38; go_must (refine (Calls.mono HP.out ?_)); rintro r wq ⟨rfl, hq⟩; obtain rfl := hq.symm; clear hq)
      | (go_at_call 14; go_must (refine (Calls.mono HC.out ?_)); rintro r w1 ⟨rfl, hb1⟩; have H1 : Hid (Below w.heap.size w w1) := HB.out.1.trans (hb1.mono HB.out.1.size); have hcf := HB.out.2.below hb1; have c0 := hcf.c0; have c1 := hcf.c1; clear hb1 hcf))
    go_ret
    exact ⟨by rw [HR.out]; rfl, H1.out⟩
  · have hck : (chk e xs != 0) = true := by simpa using hk
    have HR : Hid (rol e xs x = 0) := hx.out _ (if_pos (.inl hk))
    clear hk hx
    go_enter Try.func24, Try.ntmps24
    go_wp2_with (first
      | (go_at_call 38; go_must (refine (Calls.mono HP.out ?_)); rintro r wq ⟨rfl, hq⟩; obtain rfl := hq.symm; clear hq)
      | (go_at_call 14; go_must (refine (Calls.mono HC.out ?_)); rintro r w1 ⟨rfl, hb1⟩; have H1 : Hid (Below w.heap.size w w1) := HB.out.1.trans (hb1.mono HB.out.1.size); have hcf := HB.out.2.below hb1; have c0 := hcf.c0; have c1 := hcf.c1; clear hb1 hcf))
    go_ret
    exact ⟨by rw [HR.out]; rfl, H1.out⟩
end Go.Proofs.Ytekefbbjocekiaa
