/-
  What sha's number answers of a number's bytes: the number, and how many they are. Condition: it is below 2^62.
-/
import Derived.Test.YtlfppknpnfeplaaSSv
import Derived.Laws.Shifts
namespace Go.Proofs.Ytlfppknpnfeplaa
set_option linter.unusedVariables false
open Go.RowKit

theorem or_i64 (a b : Nat) (ha : a < 9223372036854775808) (hb : b < 9223372036854775808) : bits .or .i64 (a : Int) (b : Int) = ((a ||| b : Nat) : Int) := by
  have hx : a ||| b < 2 ^ 63 := Nat.or_lt_two_pow (by omega) (by omega)
  have h1 : (BitVec.ofInt 64 (a : Int)).toNat = a := by
    rw [BitVec.ofInt_natCast, BitVec.toNat_ofNat]; exact Nat.mod_eq_of_lt (by omega)
  have h2 : (BitVec.ofInt 64 (b : Int)).toNat = b := by
    rw [BitVec.ofInt_natCast, BitVec.toNat_ofNat]; exact Nat.mod_eq_of_lt (by omega)
  show IntKind.i64.wrap ((BitVec.ofInt 64 (a : Int) ||| BitVec.ofInt 64 (b : Int)).toNat : Int) = _
  rw [BitVec.toNat_or, h1, h2]
  exact IntWalk.i64_in _ ⟨by omega, by omega⟩
theorem or_sum (V c k : Nat) (hV : V < 128 ^ k) : V ||| c * 128 ^ k = V + c * 128 ^ k := by
  have e : 128 ^ k = 2 ^ (7 * k) := by rw [Nat.pow_mul]
  rw [e] at hV ⊢
  have := Nat.two_pow_add_eq_or_of_lt hV c
  rw [Nat.mul_comm c, Nat.or_comm, ← this, Nat.add_comm]
theorem shl_runS (c k D : Nat) (hk : k ≤ 9) (hD : c * 128 ^ k = D) (hb : D < 9223372036854775808) (W : World) : (binOp .shl 3 (.int .i64 (c : Int)) (.int .i64 ((7 * k : Nat) : Int))).run Try.prog W = .ok (.int .i64 (D : Int)) W := by
  have e : IntKind.i64.wrap ((c : Int) * 2 ^ min (((7 * k : Nat) : Int)).toNat IntKind.i64.bits) = (D : Int) := by
    have e1 : min (((7 * k : Nat) : Int)).toNat IntKind.i64.bits = 7 * k := by simp [IntKind.bits]; omega
    rw [e1]
    have e2 : (c : Int) * 2 ^ (7 * k) = (D : Int) := by rw [← hD, Int.natCast_mul, Int.natCast_pow, show ((128 : Nat) : Int) = 2 ^ 7 from rfl, ← Int.pow_mul]
    rw [e2]
    exact IntWalk.i64_in _ ⟨by omega, by omega⟩
  have h0 := shift_shl_any .i64 .i64 (c : Int) ((7 * k : Nat) : Int) (by omega)
  rw [e] at h0
  show (Op.shift .shl .i64 (c : Int) .i64 ((7 * k : Nat) : Int)).run Try.prog W = _
  rw [h0]
  rfl
theorem wpList_shlS {P : Program} {ops : Array Oper} {rest : List Oper} {o : Oper} {a : Act} {w : World} {Q : Exit → Act → World → Prop} (hgd : o.guard = none) (x y : Operand) (T T2 : TypeId) (ho : o.op = .binOp .shl T x y T2) (u v r : Value) (hx : a.eval x = u) (hy : a.eval y = v)
    (hr : (binOp .shl T u v).run P w = .ok r w) (h : wpList P ops Q rest (a.put o.dst r) w) : wpList P ops Q (o :: rest) a w := by
  refine wpList_plain hgd fun K hK => ?_
  unfold Oper.wp execOp
  simp only [ho, hx, hy]
  simp only [eqGuard, Bool.not_false, if_true, Sem.run_bind, Sem.run_pure, Result.andThen_ok, hr]
  exact hK _ _ h
theorem nbF_pos (f m : Nat) : ∃ c l, nbF f m = c :: l := by
  cases f with
  | zero => exact ⟨_, _, rfl⟩
  | succ f =>
    by_cases h : m < 128
    · exact ⟨_, _, nbF_small h⟩
    · exact ⟨_, _, nbF_big (by omega)⟩
theorem num_few {n m k V : Nat} (hn : n < 4611686018427387904) (h : V + m * 128 ^ k = n) (hk : k = 0 ∨ 1 ≤ m) : k ≤ 8 := by
  rcases Nat.lt_or_ge k 9 with h9 | h9
  · omega
  · have h1 : 128 ^ 9 ≤ 128 ^ k := Nat.pow_le_pow_right (by omega) h9
    have h2 : 1 * 128 ^ k ≤ m * 128 ^ k := Nat.mul_le_mul_right _ (by omega)
    have h3 : (128 : Nat) ^ 9 = 9223372036854775808 := by decide
    omega
theorem num_part {n m k V : Nat} (hn : n < 4611686018427387904) (h : V + m * 128 ^ k = n) : m % 128 * 128 ^ k < 9223372036854775808 := by
  have h2 : m % 128 * 128 ^ k ≤ m * 128 ^ k := Nat.mul_le_mul_right _ (Nat.mod_le _ _)
  omega
theorem num_step {n m k V : Nat} (h : V + m * 128 ^ k = n) : (V + m % 128 * 128 ^ k) + m / 128 * 128 ^ (k + 1) = n := by
  rw [← h, Nat.add_assoc, Nat.pow_succ, Nat.mul_comm (128 ^ k) 128, ← Nat.mul_assoc, ← Nat.add_mul]
  congr 2
  omega
theorem num_lt {m k V : Nat} (h : V < 128 ^ k) : V + m % 128 * 128 ^ k < 128 ^ (k + 1) := by
  rw [Nat.pow_succ, Nat.mul_comm (128 ^ k) 128]
  have h1 : m % 128 * 128 ^ k ≤ 127 * 128 ^ k := Nat.mul_le_mul_right _ (by omega)
  omega
set_option maxRecDepth 20000 in
set_option maxHeartbeats 2000000 in
theorem number_c (a : Option Addr) (len cap n : Nat) (rest : List Int) (w : World) (hn : n < 4611686018427387904) (hs : Seg .u8 w a len (nb n ++ rest)) (hlc : len ≤ cap) (hcm : cap ≤ maxLen) :
    Calls Try.prog 51 #[.slice a len cap] w fun r w' => r = .returned (.tuple #[.int .i64 (n : Int), .int .i64 ((nb n).length : Int)]) ∧ w' = w := by
  have hl0 : (nb n).length + rest.length = len := by have := hs.1; rwa [List.length_append] at this
  have HS : Hid (Seg .u8 w a len (nb n ++ rest) ∧ (nb n).length + rest.length = len) := ⟨hs, hl0⟩
  have hmax : maxLen = 9223372036854775807 := rfl
  rw [hmax] at hcm
  clear hs hl0
  by_cases h9 : len ≤ 9
  · have h9i : (len : Int) ≤ 9 := by omega
    have hmin : min (len : Int) 9 = (len : Int) := by omega
    go_enter Try.func51, Try.ntmps51
    go_wp2
    · clear hmin h9i
      go_loopw [4, 13] (fun v i wr => ∃ (f m k V : Nat), i = .int .i64 (k : Int) ∧ v = .int .i64 (V : Int) ∧ k + f = 9 ∧ V ≤ n ∧ wr = w ∧ Hid ((nb n ++ rest).drop k = nbF f m ++ rest ∧ V + m * 128 ^ k = n ∧ V < 128 ^ k ∧ (k = 0 ∨ 1 ≤ m) ∧ (nb n).length = k + (nbF f m).length)) (fun _ i _ => 10 - (intOf i).toNat)
      case atStart => exact ⟨9, n, 0, 0, rfl, rfl, rfl, Nat.zero_le _, rfl, rfl, by simp, by simp, .inl rfl, by simp [nb]⟩
      case round =>
        obtain ⟨f, m, k, V, rfl, rfl, hkf, hVn, hwr, hr⟩ := hrel
        obtain rfl := hwr.symm
        have hk8 : k ≤ 8 := num_few hn hr.out.2.1 hr.out.2.2.2.1
        have hkl : k < len := by
          have h1 := congrArg List.length hr.out.1
          obtain ⟨c, l, e⟩ := nbF_pos f m
          rw [e, List.length_drop, List.length_append, HS.out.2] at h1
          simp at h1
          omega
        have hkM : (k : Int) < (len : Int) := by omega
        have hk0 : (0 : Int) ≤ k := by omega
        obtain ⟨b, off, rfl, hb, hcell⟩ := HS.out.1.2.resolve_left (by omega)
        have hc := hcell k hkl
        have HD : Hid (m % 128 * 128 ^ k < 9223372036854775808 ∧ V < 9223372036854775808) := ⟨num_part hn hr.out.2.1, by omega⟩
        clear hcell
        by_cases hge : 128 ≤ m
        · rcases f with _ | f
          · omega
          · have hx : (nb n ++ rest)[k]?.getD 0 = ((m % 128 + 128 : Nat) : Int) := by
              have h1 := congrArg (fun l : List Int => l[0]?) hr.out.1
              simp only [List.getElem?_drop, Nat.add_zero, nbF_big hge, List.cons_append, List.getElem?_cons_zero] at h1
              rw [h1]; rfl
            rw [hx] at hc
            have HNX : Hid ((nb n ++ rest).drop (k + 1) = nbF f (m / 128) ++ rest ∧ (V + m % 128 * 128 ^ k) + m / 128 * 128 ^ (k + 1) = n ∧ V + m % 128 * 128 ^ k < 128 ^ (k + 1) ∧ (nb n).length = k + 1 + (nbF f (m / 128)).length) := by
              refine ⟨?_, num_step hr.out.2.1, num_lt hr.out.2.2.1, ?_⟩
              · rw [← List.drop_drop, hr.out.1, nbF_big hge]; rfl
              · rw [hr.out.2.2.2.2, nbF_big hge, List.length_cons]; omega
            have hor := or_i64 V (m % 128 * 128 ^ k) HD.out.2 HD.out.1
            rw [or_sum V (m % 128) k hr.out.2.2.1] at hor
            have HSH : Hid (∀ W, (binOp .shl 3 (.int .i64 ((m % 128 : Nat) : Int)) (.int .i64 ((7 * k : Nat) : Int))).run Try.prog W = .ok (.int .i64 ((m % 128 * 128 ^ k : Nat) : Int)) W) := fun W => shl_runS (m % 128) k _ (by omega) rfl HD.out.1 W
            obtain ⟨c, hcc⟩ : ∃ c, c = m % 128 := ⟨_, rfl⟩
            rw [← hcc] at hc hor HSH HNX
            have hc128 : c < 128 := by omega
            obtain ⟨D, hDD⟩ : ∃ D, D = c * 128 ^ k := ⟨_, rfl⟩
            rw [← hDD] at hor HSH HNX
            have hm1 : ((c + 128 : Nat) : Int).tmod 128 = ((c : Nat) : Int) := by rw [Int.tmod_eq_emod_of_nonneg (by omega)]; omega
            have hm2 : ((c : Int) + 128).tmod 128 = ((c : Nat) : Int) := by rw [Int.tmod_eq_emod_of_nonneg (by omega)]; omega
            have hg1 : (128 : Int) ≤ (c : Int) + 128 := by omega
            have HDV : Hid (V + D ≤ n ∧ 1 ≤ m / 128) := ⟨by have := HNX.out.2.1; have := Nat.zero_le (m / 128 * 128 ^ (k + 1)); omega, by omega⟩
            clear hcc hDD hx
            go_wp2_with (first
              | (refine wpList_shlS rfl (.tmp 21) (.tmp 23) 3 3 rfl (.int .i64 ((c : Nat) : Int)) (.int .i64 ((7 * k : Nat) : Int)) (.int .i64 ((D : Nat) : Int)) rfl (by go_num) (HSH.out _) ?_))
            go_roundw
            case rel => exact ⟨f, m / 128, k + 1, V + D, by go_num, by go_num, by omega, HDV.out.1, by first | rfl | trivial, HNX.out.1, HNX.out.2.1, HNX.out.2.2.1, .inr HDV.out.2, HNX.out.2.2.2⟩
            case measure => simp [intOf]; omega
        · have hx : (nb n ++ rest)[k]?.getD 0 = ((m : Nat) : Int) := by
            have h1 := congrArg (fun l : List Int => l[0]?) hr.out.1
            simp only [List.getElem?_drop, Nat.add_zero, nbF_small (show m < 128 by omega), List.cons_append, List.getElem?_cons_zero] at h1
            rw [h1]; rfl
          rw [hx] at hc
          have hor := or_i64 V (m % 128 * 128 ^ k) HD.out.2 HD.out.1
          rw [or_sum V (m % 128) k hr.out.2.2.1, Nat.mod_eq_of_lt (show m < 128 by omega), hr.out.2.1] at hor
          have HSH : Hid (∀ W, (binOp .shl 3 (.int .i64 ((m : Nat) : Int)) (.int .i64 ((7 * k : Nat) : Int))).run Try.prog W = .ok (.int .i64 ((m * 128 ^ k : Nat) : Int)) W) := fun W => shl_runS m k _ (by omega) rfl (by have := HD.out.1; rwa [Nat.mod_eq_of_lt (show m < 128 by omega)] at this) W
          have HLN : Hid ((nb n).length = k + 1) := by show _ = _; rw [hr.out.2.2.2.2, nbF_small (by omega)]; rfl
          obtain ⟨D, hDD⟩ : ∃ D, D = m * 128 ^ k := ⟨_, rfl⟩
          rw [← hDD] at hor HSH
          have hm1 : ((m : Nat) : Int).tmod 128 = ((m : Nat) : Int) := by rw [Int.tmod_eq_emod_of_nonneg (by omega)]; omega
          have hg1 : ¬ (128 : Int) ≤ (m : Int) := by omega
          clear hDD hx
          by_cases hm0 : m = 0
          · have hkz : k = 0 := by have := hr.out.2.2.2.1; omega
            have hV0 : V = 0 := by have := hr.out.2.2.1; rw [hkz] at this; simp at this; exact this
            have hn0 : n = 0 := by have := hr.out.2.1; rw [hm0, hV0] at this; simpa using this.symm
            subst hm0 hkz hV0
            have ho0 : bits .or .i64 0 0 = 0 := by decide
            have HN0 : Hid (n = 0) := hn0
            have hc0 : w.cell? ⟨b, off, none⟩ = some (.int .u8 0) := by simpa using hc
            clear hor HSH hn0 hc
            go_wp2
            go_ret2
            exact ⟨by rw [HLN.out, HN0.out]; rfl, rfl⟩
          · have hz1 : ¬ (m : Int) = 0 := by omega
            have hz2 : ((m : Int) == 0) = false := beq_eq_false_iff_ne.2 hz1
            go_wp2_with (first
              | (refine wpList_shlS rfl (.tmp 21) (.tmp 23) 3 3 rfl (.int .i64 ((m : Nat) : Int)) (.int .i64 ((7 * k : Nat) : Int)) (.int .i64 ((D : Nat) : Int)) rfl (by go_num) (HSH.out _) ?_))
            go_ret2
            exact ⟨by rw [HLN.out]; rfl, rfl⟩
  · have h9i : ¬ (len : Int) ≤ 9 := by omega
    have hmin : min (len : Int) 9 = 9 := by omega
    have hmx : max (9 : Int) 0 = 9 := by decide
    have h9c : (9 : Int) ≤ cap := by omega
    go_enter Try.func51, Try.ntmps51
    go_wp2
    · clear hmin h9i hmx h9c
      go_loopw [4, 13] (fun v i wr => ∃ (f m k V : Nat), i = .int .i64 (k : Int) ∧ v = .int .i64 (V : Int) ∧ k + f = 9 ∧ V ≤ n ∧ wr = w ∧ Hid ((nb n ++ rest).drop k = nbF f m ++ rest ∧ V + m * 128 ^ k = n ∧ V < 128 ^ k ∧ (k = 0 ∨ 1 ≤ m) ∧ (nb n).length = k + (nbF f m).length)) (fun _ i _ => 10 - (intOf i).toNat)
      case atStart => exact ⟨9, n, 0, 0, rfl, rfl, rfl, Nat.zero_le _, rfl, rfl, by simp, by simp, .inl rfl, by simp [nb]⟩
      case round =>
        obtain ⟨f, m, k, V, rfl, rfl, hkf, hVn, hwr, hr⟩ := hrel
        obtain rfl := hwr.symm
        have hk8 : k ≤ 8 := num_few hn hr.out.2.1 hr.out.2.2.2.1
        have hkl : k < len := by
          have h1 := congrArg List.length hr.out.1
          obtain ⟨c, l, e⟩ := nbF_pos f m
          rw [e, List.length_drop, List.length_append, HS.out.2] at h1
          simp at h1
          omega
        have hkM : (k : Int) < 9 := by omega
        have hk0 : (0 : Int) ≤ k := by omega
        obtain ⟨b, off, rfl, hb, hcell⟩ := HS.out.1.2.resolve_left (by omega)
        have hc := hcell k hkl
        have HD : Hid (m % 128 * 128 ^ k < 9223372036854775808 ∧ V < 9223372036854775808) := ⟨num_part hn hr.out.2.1, by omega⟩
        clear hcell
        by_cases hge : 128 ≤ m
        · rcases f with _ | f
          · omega
          · have hx : (nb n ++ rest)[k]?.getD 0 = ((m % 128 + 128 : Nat) : Int) := by
              have h1 := congrArg (fun l : List Int => l[0]?) hr.out.1
              simp only [List.getElem?_drop, Nat.add_zero, nbF_big hge, List.cons_append, List.getElem?_cons_zero] at h1
              rw [h1]; rfl
            rw [hx] at hc
            have HNX : Hid ((nb n ++ rest).drop (k + 1) = nbF f (m / 128) ++ rest ∧ (V + m % 128 * 128 ^ k) + m / 128 * 128 ^ (k + 1) = n ∧ V + m % 128 * 128 ^ k < 128 ^ (k + 1) ∧ (nb n).length = k + 1 + (nbF f (m / 128)).length) := by
              refine ⟨?_, num_step hr.out.2.1, num_lt hr.out.2.2.1, ?_⟩
              · rw [← List.drop_drop, hr.out.1, nbF_big hge]; rfl
              · rw [hr.out.2.2.2.2, nbF_big hge, List.length_cons]; omega
            have hor := or_i64 V (m % 128 * 128 ^ k) HD.out.2 HD.out.1
            rw [or_sum V (m % 128) k hr.out.2.2.1] at hor
            have HSH : Hid (∀ W, (binOp .shl 3 (.int .i64 ((m % 128 : Nat) : Int)) (.int .i64 ((7 * k : Nat) : Int))).run Try.prog W = .ok (.int .i64 ((m % 128 * 128 ^ k : Nat) : Int)) W) := fun W => shl_runS (m % 128) k _ (by omega) rfl HD.out.1 W
            obtain ⟨c, hcc⟩ : ∃ c, c = m % 128 := ⟨_, rfl⟩
            rw [← hcc] at hc hor HSH HNX
            have hc128 : c < 128 := by omega
            obtain ⟨D, hDD⟩ : ∃ D, D = c * 128 ^ k := ⟨_, rfl⟩
            rw [← hDD] at hor HSH HNX
            have hm1 : ((c + 128 : Nat) : Int).tmod 128 = ((c : Nat) : Int) := by rw [Int.tmod_eq_emod_of_nonneg (by omega)]; omega
            have hm2 : ((c : Int) + 128).tmod 128 = ((c : Nat) : Int) := by rw [Int.tmod_eq_emod_of_nonneg (by omega)]; omega
            have hg1 : (128 : Int) ≤ (c : Int) + 128 := by omega
            have HDV : Hid (V + D ≤ n ∧ 1 ≤ m / 128) := ⟨by have := HNX.out.2.1; have := Nat.zero_le (m / 128 * 128 ^ (k + 1)); omega, by omega⟩
            clear hcc hDD hx
            go_wp2_with (first
              | (refine wpList_shlS rfl (.tmp 21) (.tmp 23) 3 3 rfl (.int .i64 ((c : Nat) : Int)) (.int .i64 ((7 * k : Nat) : Int)) (.int .i64 ((D : Nat) : Int)) rfl (by go_num) (HSH.out _) ?_))
            go_roundw
            case rel => exact ⟨f, m / 128, k + 1, V + D, by go_num, by go_num, by omega, HDV.out.1, by first | rfl | trivial, HNX.out.1, HNX.out.2.1, HNX.out.2.2.1, .inr HDV.out.2, HNX.out.2.2.2⟩
            case measure => simp [intOf]; omega
        · have hx : (nb n ++ rest)[k]?.getD 0 = ((m : Nat) : Int) := by
            have h1 := congrArg (fun l : List Int => l[0]?) hr.out.1
            simp only [List.getElem?_drop, Nat.add_zero, nbF_small (show m < 128 by omega), List.cons_append, List.getElem?_cons_zero] at h1
            rw [h1]; rfl
          rw [hx] at hc
          have hor := or_i64 V (m % 128 * 128 ^ k) HD.out.2 HD.out.1
          rw [or_sum V (m % 128) k hr.out.2.2.1, Nat.mod_eq_of_lt (show m < 128 by omega), hr.out.2.1] at hor
          have HSH : Hid (∀ W, (binOp .shl 3 (.int .i64 ((m : Nat) : Int)) (.int .i64 ((7 * k : Nat) : Int))).run Try.prog W = .ok (.int .i64 ((m * 128 ^ k : Nat) : Int)) W) := fun W => shl_runS m k _ (by omega) rfl (by have := HD.out.1; rwa [Nat.mod_eq_of_lt (show m < 128 by omega)] at this) W
          have HLN : Hid ((nb n).length = k + 1) := by show _ = _; rw [hr.out.2.2.2.2, nbF_small (by omega)]; rfl
          obtain ⟨D, hDD⟩ : ∃ D, D = m * 128 ^ k := ⟨_, rfl⟩
          rw [← hDD] at hor HSH
          have hm1 : ((m : Nat) : Int).tmod 128 = ((m : Nat) : Int) := by rw [Int.tmod_eq_emod_of_nonneg (by omega)]; omega
          have hg1 : ¬ (128 : Int) ≤ (m : Int) := by omega
          clear hDD hx
          by_cases hm0 : m = 0
          · have hkz : k = 0 := by have := hr.out.2.2.2.1; omega
            have hV0 : V = 0 := by have := hr.out.2.2.1; rw [hkz] at this; simp at this; exact this
            have hn0 : n = 0 := by have := hr.out.2.1; rw [hm0, hV0] at this; simpa using this.symm
            subst hm0 hkz hV0
            have ho0 : bits .or .i64 0 0 = 0 := by decide
            have HN0 : Hid (n = 0) := hn0
            have hc0 : w.cell? ⟨b, off, none⟩ = some (.int .u8 0) := by simpa using hc
            clear hor HSH hn0 hc
            go_wp2
            go_ret2
            exact ⟨by rw [HLN.out, HN0.out]; rfl, rfl⟩
          · have hz1 : ¬ (m : Int) = 0 := by omega
            have hz2 : ((m : Int) == 0) = false := beq_eq_false_iff_ne.2 hz1
            go_wp2_with (first
              | (refine wpList_shlS rfl (.tmp 21) (.tmp 23) 3 3 rfl (.int .i64 ((m : Nat) : Int)) (.int .i64 ((7 * k : Nat) : Int)) (.int .i64 ((D : Nat) : Int)) rfl (by go_num) (HSH.out _) ?_))
            go_ret2
            exact ⟨by rw [HLN.out]; rfl, rfl⟩
end Go.Proofs.Ytlfppknpnfeplaa
