/-
  What the document's Read and taken answer of bytes. Condition: at most 2^47 bytes.
-/
import Derived.Test.YtmpedbddbknndaaDDp
import Derived.Test.YtmpedbddbknndaaDEg
import Derived.Laws.Shifts
namespace Go.Proofs.Ytmpedbddbknndaa.Dl
open Go.RowKit
set_option linter.unusedVariables false

/-- The number at the front of some bytes, and how many bytes it has; 0, if there is none. -/
def grd : List Int → Nat → Nat → Nat × Nat
  | [], _, _ => (0, 0)
  | x :: r, i, v => if 9 ≤ i then (0, 0) else if x < 128 then (if (0 < i ∧ x = 0) ∨ 4611686018427387904 < v + x.toNat % 128 * 128 ^ i then (0, 0) else (v + x.toNat % 128 * 128 ^ i, i + 1)) else grd r (i + 1) (v + x.toNat % 128 * 128 ^ i)
theorem grd_bd : ∀ (xs : List Int) (i v : Nat), (grd xs i v).1 ≤ 4611686018427387904 ∧ (grd xs i v).2 ≤ i + xs.length ∧ ((grd xs i v).2 = 0 → (grd xs i v).1 = 0)
  | [], i, v => by simp [grd]
  | x :: r, i, v => by
    have ih := grd_bd r (i + 1) (v + x.toNat % 128 * 128 ^ i)
    unfold grd
    split
    · simp
    · split
      · split
        · simp
        · rename_i hc
          refine ⟨by omega, by simp, fun z => by simp at z⟩
      · simp only [List.length_cons]
        exact ⟨ih.1, by omega, ih.2.2⟩
theorem grd_enc : ∀ (l n : Nat) (rest : List Int) (i v : Nat), (enc n).length ≤ l → i + (enc n).length ≤ 9 → v + n * 128 ^ i ≤ 4611686018427387904 → (i = 0 ∨ n ≠ 0) → grd (enc n ++ rest) i v = (v + n * 128 ^ i, i + (enc n).length)
  | 0, n, rest, i, v, hl, _, _, _ => by have := enc_pos n; omega
  | l + 1, n, rest, i, v, hl, hi, hv, hz => by
    by_cases h : n < 128
    · rw [enc_small h] at hi ⊢
      have e : ((n : Int)).toNat % 128 = n := by omega
      simp only [List.cons_append, List.nil_append, grd]
      rw [if_neg (by simp at hi; omega), if_pos (by omega), e, if_neg]
      · rfl
      · rintro (⟨z1, z2⟩ | z)
        · omega
        · omega
    · have hb : enc n = ((n % 128 + 128 : Nat) : Int) :: enc (n / 128) := enc_big (by omega)
      rw [hb] at hl hi ⊢
      simp only [List.length_cons] at hl hi ⊢
      simp only [List.cons_append]
      rw [grd]
      have e : (((n % 128 + 128 : Nat) : Int)).toNat % 128 = n % 128 := by omega
      rw [if_neg (by omega), if_neg (by omega), e]
      have hp : n % 128 * 128 ^ i + n / 128 * 128 ^ (i + 1) = n * 128 ^ i := by
        rw [Nat.pow_succ, Nat.mul_comm (128 ^ i) 128, ← Nat.mul_assoc, ← Nat.add_mul]
        congr 1
        omega
      rw [grd_enc l (n / 128) rest (i + 1) _ (by omega) (by omega) (by omega) (.inr (by omega))]
      rw [Nat.add_assoc, hp]
      congr 1
      omega
/-- The text at the front of some bytes, and how many bytes it has with its count. -/
def gtk (xs : List Int) : List Int × Nat := if (grd xs 0 0).2 = 0 ∨ xs.length - (grd xs 0 0).2 < (grd xs 0 0).1 then ([], 0) else ((xs.drop (grd xs 0 0).2).take (grd xs 0 0).1, (grd xs 0 0).2 + (grd xs 0 0).1)
theorem shl_run (c s m : Nat) (hs : s ≤ 63) (hm : c * 2 ^ s = m) (hb : m < 9223372036854775808) (W : World) : (binOp .shl 3 (.int .i64 (c : Int)) (.int .u64 (s : Int))).run Try.prog W = .ok (.int .i64 (m : Int)) W := by
  have e : IntKind.i64.wrap ((c : Int) * 2 ^ min ((s : Int)).toNat IntKind.i64.bits) = (m : Int) := by
    have e1 : min ((s : Int)).toNat IntKind.i64.bits = s := by simp [IntKind.bits]; omega
    rw [e1]
    have e2 : (c : Int) * 2 ^ s = (m : Int) := by rw [← hm, Int.natCast_mul, Int.natCast_pow]; rfl
    rw [e2]
    simp [IntKind.wrap, IntKind.signed, IntKind.bits]
    omega
  have h0 := shift_shl_any .i64 .u64 (c : Int) (s : Int) (by omega)
  rw [e] at h0
  show (Op.shift .shl .i64 (c : Int) .u64 (s : Int)).run Try.prog W = _
  rw [h0]
  rfl
theorem wpList_bin {P : Program} {ops : Array Oper} {rest : List Oper} {o : Oper} {a : Act} {w : World} {Q : Exit → Act → World → Prop} (hgd : o.guard = none) (x y : Operand) (T T2 : TypeId) (ho : o.op = .binOp .shl T x y T2) (u v r : Value) (hx : a.eval x = u) (hy : a.eval y = v)
    (hr : (binOp .shl T u v).run P w = .ok r w) (h : wpList P ops Q rest (a.put o.dst r) w) : wpList P ops Q (o :: rest) a w := by
  refine wpList_plain hgd fun K hK => ?_
  unfold Oper.wp execOp
  simp only [ho, hx, hy]
  simp only [eqGuard, Bool.not_false, if_true, Sem.run_bind, Sem.run_pure, Result.andThen_ok, hr]
  exact hK _ _ h
theorem pow_le (i : Nat) (h : i ≤ 9) : 128 ^ i ≤ 9223372036854775808 := Nat.le_trans (Nat.pow_le_pow_right (by omega) h) (by decide)
theorem pow_shift (i : Nat) : 128 ^ i = 2 ^ (7 * i) := by rw [Nat.pow_mul]
set_option maxRecDepth 20000 in
set_option maxHeartbeats 1000000 in
theorem gread_c (a : Option Addr) (len cap : Nat) (xs : List Int) (w : World) (h : Seg .u8 w a len xs) (hx : Bytes xs) (hl : len ≤ 140737488355328) :
    Calls Try.prog 36 #[.slice a len cap] w fun r w' => r = .returned (.tuple #[.int .i64 ((grd xs 0 0).1 : Int), .int .i64 ((grd xs 0 0).2 : Int)]) ∧ w' = w := by
  have HS : Hid (Seg .u8 w a len xs ∧ Bytes xs ∧ len ≤ 140737488355328) := ⟨h, hx, hl⟩
  obtain ⟨R1, hR1⟩ : ∃ R, R = (grd xs 0 0).1 := ⟨_, rfl⟩
  obtain ⟨R2, hR2⟩ : ∃ R, R = (grd xs 0 0).2 := ⟨_, rfl⟩
  rw [← hR1, ← hR2]
  have HR : Hid ((R1, R2) = grd xs 0 0) := by show _ = _; rw [hR1, hR2]
  have hlm : (len : Int) ≤ 140737488355328 := by omega
  clear h hx hl hR1 hR2
  go_enter Try.func36, Try.ntmps36
  go_wp2
  go_loopw [4, 5, 6] (fun v s i wr => ∃ (k V S : Nat), k ≤ len ∧ k ≤ 9 ∧ S = 7 * k ∧ v = .int .i64 (V : Int) ∧ s = .int .i64 (S : Int) ∧ i = .int .i64 (k : Int) ∧ wr = w ∧ Hid (grd (xs.drop k) k V = (R1, R2) ∧ V < 128 ^ k)) (fun _ _ i _ => 10 - (intOf i).toNat)
  case atStart => exact ⟨0, 0, 0, Nat.zero_le _, by omega, rfl, rfl, rfl, rfl, rfl, by rw [List.drop_zero]; exact HR.out.symm, by simp⟩
  case round =>
    obtain ⟨k, V, S, hk, hk9, hS, rfl, rfl, rfl, hwr, hr⟩ := hrel
    obtain rfl := hwr.symm
    have hVb : V < 9223372036854775808 := Nat.lt_of_lt_of_le hr.out.2 (pow_le k hk9)
    by_cases hlt : k < len
    · have h1 : (k : Int) < len := by omega
      by_cases h9 : k < 9
      · have h2 : (k : Int) < 9 := by omega
        obtain ⟨x, hx⟩ : ∃ x, x = xs[k]?.getD 0 := ⟨_, rfl⟩
        have hxb : 0 ≤ x ∧ x < 256 := by rw [hx]; exact HS.out.2.1 k (by rw [HS.out.1.1]; exact hlt)
        obtain ⟨X, rfl⟩ : ∃ X : Nat, x = (X : Int) := ⟨x.toNat, by omega⟩
        rcases HS.out.1.2 with z | ⟨b, off, rfl, hbl, hcl⟩
        · omega
        have hc : w.cell? ⟨b, off + k, none⟩ = some (.int .u8 (X : Int)) := by rw [hx]; exact hcl k hlt
        obtain ⟨c, hc1⟩ : ∃ c, c = X % 128 := ⟨_, rfl⟩
        obtain ⟨m, hm⟩ : ∃ m, m = c * 128 ^ k := ⟨_, rfl⟩
        have hmod : ((X : Int)).tmod 128 = (c : Int) := by rw [Int.tmod_eq_emod_of_nonneg (by omega)]; omega
        have hp := pow_le (k + 1) (by omega)
        have hmb : m + V < 128 ^ (k + 1) := by
          have : m + 128 ^ k ≤ 128 * 128 ^ k := by
            rw [hm]
            have : c * 128 ^ k + 1 * 128 ^ k ≤ 128 * 128 ^ k := by rw [← Nat.add_mul]; exact Nat.mul_le_mul_right _ (by omega)
            omega
          rw [Nat.pow_succ, Nat.mul_comm]
          have := hr.out.2
          omega
        have hu : IntKind.u64.wrap (S : Int) = (S : Int) := by rw [IntKind.wrap_u64]; omega
        have HG : Hid (grd (xs.drop k) k V = if (X : Int) < 128 then (if (0 < k ∧ (X : Int) = 0) ∨ 4611686018427387904 < V + m then (0, 0) else (V + m, k + 1)) else grd (xs.drop (k + 1)) (k + 1) (V + m)) := by
          show _ = _
          have hd : xs.drop k = (X : Int) :: xs.drop (k + 1) := by
            have hk2 : k < xs.length := by rw [HS.out.1.1]; exact hlt
            rw [List.drop_eq_getElem_cons hk2, hx, List.getElem?_eq_getElem hk2]
            rfl
          rw [hd, grd, if_neg (by omega)]
          simp only [Int.toNat_natCast, ← hc1, ← hm]
        have hS2 : (S : Int) ≤ 56 := by omega
        have HM : Hid (V + m < 128 ^ (k + 1)) := by show _ < _; rw [Nat.add_comm]; exact hmb
        have hVm : (V : Int) + (m : Int) ≤ 9223372036854775807 := by omega
        have HSH : Hid (∀ W, (binOp .shl 3 (.int .i64 (c : Int)) (.int .u64 (S : Int))).run Try.prog W = .ok (.int .i64 (m : Int)) W) := shl_run c S m (by omega) (by rw [hm, pow_shift, hS]) (by omega)
        have HSS : Hid (S = 7 * k) := hS
        have hcb : (c : Int) < 128 := by omega
        clear hx hcl hc1 hm hmb hp hxb hS
        by_cases hx8 : X < 128
        · have h3 : (X : Int) < 128 := by omega
          rw [if_pos h3] at HG
          by_cases hk0 : k = 0
          · have h4 : ¬ (0 : Int) < (k : Int) := by omega
            by_cases hv : 4611686018427387904 < V + m
            · have h5 : (4611686018427387904 : Int) < (V : Int) + (m : Int) := by omega
              have h6 : ¬ (V : Int) + (m : Int) < 0 := by omega
              rw [if_pos (.inr hv)] at HG
              clear hk0 hv
              go_wp2_with (refine wpList_bin rfl (.tmp 23) (.tmp 25) 3 56 rfl _ _ (.int .i64 (m : Int)) rfl rfl (HSH.out _) ?_)
              go_ret2
              have := hr.out.1.symm.trans HG.out
              cases this
              exact ⟨rfl, rfl⟩
            · have h5 : ¬ (4611686018427387904 : Int) < (V : Int) + (m : Int) := by omega
              have h6 : ¬ (V : Int) + (m : Int) < 0 := by omega
              rw [if_neg (by omega)] at HG
              clear hk0 hv
              go_wp2_with (refine wpList_bin rfl (.tmp 23) (.tmp 25) 3 56 rfl _ _ (.int .i64 (m : Int)) rfl rfl (HSH.out _) ?_)
              go_ret2
              have := hr.out.1.symm.trans HG.out
              cases this
              exact ⟨by simp, rfl⟩
          · have h4 : (0 : Int) < (k : Int) := by omega
            by_cases hX0 : X = 0
            · have h7 : ((X : Int) == 0) = true := by simp [hX0]
              rw [if_pos (.inl ⟨by omega, by omega⟩)] at HG
              clear hk0 hX0
              go_wp2_with (refine wpList_bin rfl (.tmp 23) (.tmp 25) 3 56 rfl _ _ (.int .i64 (m : Int)) rfl rfl (HSH.out _) ?_)
              go_ret2
              have := hr.out.1.symm.trans HG.out
              cases this
              exact ⟨rfl, rfl⟩
            · have h7 : ((X : Int) == 0) = false := by simp; omega
              by_cases hv : 4611686018427387904 < V + m
              · have h5 : (4611686018427387904 : Int) < (V : Int) + (m : Int) := by omega
                have h6 : ¬ (V : Int) + (m : Int) < 0 := by omega
                rw [if_pos (.inr hv)] at HG
                clear hk0 hv hX0
                go_wp2_with (refine wpList_bin rfl (.tmp 23) (.tmp 25) 3 56 rfl _ _ (.int .i64 (m : Int)) rfl rfl (HSH.out _) ?_)
                go_ret2
                have := hr.out.1.symm.trans HG.out
                cases this
                exact ⟨rfl, rfl⟩
              · have h5 : ¬ (4611686018427387904 : Int) < (V : Int) + (m : Int) := by omega
                have h6 : ¬ (V : Int) + (m : Int) < 0 := by omega
                rw [if_neg (by omega)] at HG
                clear hk0 hv hX0
                go_wp2_with (refine wpList_bin rfl (.tmp 23) (.tmp 25) 3 56 rfl _ _ (.int .i64 (m : Int)) rfl rfl (HSH.out _) ?_)
                go_ret2
                have := hr.out.1.symm.trans HG.out
                cases this
                exact ⟨by simp, rfl⟩
        · have h3 : ¬ (X : Int) < 128 := by omega
          rw [if_neg h3] at HG
          clear hx8
          go_wp2_with (refine wpList_bin rfl (.tmp 23) (.tmp 25) 3 56 rfl _ _ (.int .i64 (m : Int)) rfl rfl (HSH.out _) ?_)
          go_roundw
          case rel => exact ⟨k + 1, V + m, S + 7, by omega, by omega, by have := HSS.out; omega, by go_num, by go_num, by go_num, trivial, by rw [← HG.out]; exact hr.out.1, HM.out⟩
          case measure => simp [intOf]; omega
      · have h2 : ¬ (k : Int) < 9 := by omega
        have HG : Hid (grd (xs.drop k) k V = (0, 0)) := by
          show _ = _
          cases xs.drop k with
          | nil => rfl
          | cons y ys => rw [grd, if_pos (by omega)]
        go_wp2
        go_ret2
        have := hr.out.1.symm.trans HG.out
        cases this
        exact ⟨rfl, rfl⟩
    · have h1 : ¬ (k : Int) < len := by omega
      have HG : Hid (grd (xs.drop k) k V = (0, 0)) := by
        show _ = _
        rw [List.drop_of_length_le (by rw [HS.out.1.1]; omega)]
        rfl
      go_wp2
      go_ret2
      have := hr.out.1.symm.trans HG.out
      cases this
      exact ⟨rfl, rfl⟩
end Go.Proofs.Ytmpedbddbknndaa.Dl
