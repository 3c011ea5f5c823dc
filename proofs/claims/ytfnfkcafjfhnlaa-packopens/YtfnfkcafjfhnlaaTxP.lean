/-
  Lists of texts as plain data: how many bytes two texts begin with alike; what shared answers, the program's and the document's. No condition of its own.
-/
import Derived.Test.YtfnfkcafjfhnlaaXWt
import Derived.BigQuiet
import Derived.Deep.QuietTactic
namespace Go.Proofs.Ytfnfkcafjfhnlaa
open Go.RowKit
set_option linter.unusedVariables false

/-- How many bytes two lists begin with alike. -/
def lc : List UInt8 → List UInt8 → Nat
  | x :: a, y :: b => if x = y then lc a b + 1 else 0
  | _, _ => 0
theorem lc_le : ∀ a b : List UInt8, lc a b ≤ a.length ∧ lc a b ≤ b.length
  | [], b => by simp [lc]
  | x :: a, [] => by simp [lc]
  | x :: a, y :: b => by
    have := lc_le a b
    unfold lc
    split
    · simp; omega
    · simp
theorem lc_cons {a b : List UInt8} {k : Nat} (ha : k < a.length) (hb : k < b.length) : lc (a.drop k) (b.drop k) = if a[k] = b[k] then lc (a.drop (k + 1)) (b.drop (k + 1)) + 1 else 0 := by
  rw [List.drop_eq_getElem_cons ha, List.drop_eq_getElem_cons hb]
  rfl
theorem lc_end {a b : List UInt8} {k : Nat} (h : a.length ≤ k ∨ b.length ≤ k) : lc (a.drop k) (b.drop k) = 0 := by
  rcases h with h | h
  · rw [List.drop_eq_nil_of_le h]; simp [lc]
  · rw [List.drop_eq_nil_of_le h]
    cases a.drop k <;> simp [lc]
theorem drew_add (w : World) (n m : Nat) : (w.drewN n).drewN m = w.drewN (n + m) := by simp [World.drewN, Nat.add_assoc]
def lcs (s t : ByteArray) : Nat := lc s.data.toList t.data.toList
set_option maxRecDepth 20000 in
set_option maxHeartbeats 1000000 in
theorem shared_c (s t : ByteArray) (hs : s.size ≤ 1125899906842624) (ht : t.size ≤ 1125899906842624) (w : World) : Calls Try.prog 74 #[.string s, .string t] w fun r w' => r = .returned (.int .i64 (lcs s t : Int)) ∧ ∃ n, w' = w.drewN n := by
  obtain ⟨m, hm⟩ : ∃ m, m = min s.size t.size := ⟨_, rfl⟩
  have HM : Hid (m = min s.size t.size) := hm
  have hm1 : m ≤ s.size := by rw [hm]; exact Nat.min_le_left _ _
  have hm2 : m ≤ t.size := by rw [hm]; exact Nat.min_le_right _ _
  have hm3 : s.size ≤ m ∨ t.size ≤ m := by
    rw [hm]
    rcases Nat.le_total s.size t.size with h | h
    · exact .inl (by rw [Nat.min_eq_left h]; exact Nat.le_refl _)
    · exact .inr (by rw [Nat.min_eq_right h]; exact Nat.le_refl _)
  clear hm
  go_enter Try.func74, Try.ntmps74
  go_wp2
  go_loopw [5] (fun i wr => ∃ k n : Nat, k ≤ m ∧ i = .int .i64 k ∧ wr = w.drewN n ∧ Hid (lcs s t = k + lc (s.data.toList.drop k) (t.data.toList.drop k))) (fun i _ => m - (intOf i).toNat)
  case atStart => exact ⟨0, 0, Nat.zero_le _, rfl, rfl, by show _ = _; simp [lcs]⟩
  case round =>
    obtain ⟨k, n, hk, rfl, rfl, HE⟩ := hrel
    by_cases hlt : k < m
    · have hk1 : k < s.size := by omega
      have hk2 : k < t.size := by omega
      have hk0 : (0 : Int) ≤ (k : Int) := by omega
      have HL1 : Hid (k < s.data.toList.length) := by show _ < _; simpa using hk1
      have HL2 : Hid (k < t.data.toList.length) := by show _ < _; simpa using hk2
      have HC : Hid (lc (s.data.toList.drop k) (t.data.toList.drop k) = if s[k] = t[k] then lc (s.data.toList.drop (k + 1)) (t.data.toList.drop (k + 1)) + 1 else 0) := lc_cons HL1.out HL2.out
      by_cases hq : s[k] = t[k]
      · have he : ((s[k].toNat : Int) == (t[k].toNat : Int)) = true := by rw [hq]; simp
        have HN : Hid (lcs s t = (k + 1) + lc (s.data.toList.drop (k + 1)) (t.data.toList.drop (k + 1))) := by
          show _ = _
          rw [HE.out, HC.out, if_pos hq]; omega
        clear HE
        by_cases hmi : (t.size : Int) < (s.size : Int)
        all_goals
          go_wp2
          go_quiet (fail)
          go_wp2
          go_roundw
          case rel => exact ⟨k + 1, _, by omega, by go_num, rfl, HN⟩
          case measure => simp [intOf]; omega
      · have he : ((s[k].toNat : Int) == (t[k].toNat : Int)) = false := by
          have : s[k].toNat ≠ t[k].toNat := fun e => hq (UInt8.toNat_inj.1 e)
          simp; omega
        have HN : Hid (lcs s t = k) := by
          show _ = _
          rw [HE.out, HC.out, if_neg hq]; omega
        clear HE hq HC
        by_cases hmi : (t.size : Int) < (s.size : Int)
        all_goals
          go_wp2
          go_quiet (fail)
          go_wp2
          go_ret
          exact ⟨ret_int (by rw [HN.out]), n + nq, drew_add w n nq⟩
    · have HN : Hid (lcs s t = k) := by
        show _ = _
        rw [HE.out, lc_end (by simp; omega)]; omega
      clear HE
      by_cases hmi : (t.size : Int) < (s.size : Int)
      · have hx : decide (k < t.size) = false := by simp; omega
        go_wp2
        go_quiet (fail)
        go_wp2
        go_ret
        exact ⟨ret_int (by rw [HN.out]), n + nq, drew_add w n nq⟩
      · have hx : decide (k < s.size) = false := by simp; omega
        go_wp2
        go_quiet (fail)
        go_wp2
        go_ret
        exact ⟨ret_int (by rw [HN.out]), n + nq, drew_add w n nq⟩
set_option maxRecDepth 20000 in
set_option maxHeartbeats 1000000 in
theorem xshared_c (s t : ByteArray) (hs : s.size ≤ 1125899906842624) (ht : t.size ≤ 1125899906842624) (w : World) : Calls Try.prog 75 #[.string s, .string t] w fun r w' => r = .returned (.int .i64 (lcs s t : Int)) ∧ ∃ n, w' = w.drewN n := by
  obtain ⟨m, hm⟩ : ∃ m, m = min s.size t.size := ⟨_, rfl⟩
  have HM : Hid (m = min s.size t.size) := hm
  have hm1 : m ≤ s.size := by rw [hm]; exact Nat.min_le_left _ _
  have hm2 : m ≤ t.size := by rw [hm]; exact Nat.min_le_right _ _
  have hm3 : s.size ≤ m ∨ t.size ≤ m := by
    rw [hm]
    rcases Nat.le_total s.size t.size with h | h
    · exact .inl (by rw [Nat.min_eq_left h]; exact Nat.le_refl _)
    · exact .inr (by rw [Nat.min_eq_right h]; exact Nat.le_refl _)
  clear hm
  go_enter Try.func75, Try.ntmps75
  go_wp2
  go_loopw [5] (fun i wr => ∃ k n : Nat, k ≤ m ∧ i = .int .i64 k ∧ wr = w.drewN n ∧ Hid (lcs s t = k + lc (s.data.toList.drop k) (t.data.toList.drop k))) (fun i _ => m - (intOf i).toNat)
  case atStart => exact ⟨0, 0, Nat.zero_le _, rfl, rfl, by show _ = _; simp [lcs]⟩
  case round =>
    obtain ⟨k, n, hk, rfl, rfl, HE⟩ := hrel
    by_cases hlt : k < m
    · have hk1 : k < s.size := by omega
      have hk2 : k < t.size := by omega
      have hk0 : (0 : Int) ≤ (k : Int) := by omega
      have HL1 : Hid (k < s.data.toList.length) := by show _ < _; simpa using hk1
      have HL2 : Hid (k < t.data.toList.length) := by show _ < _; simpa using hk2
      have HC : Hid (lc (s.data.toList.drop k) (t.data.toList.drop k) = if s[k] = t[k] then lc (s.data.toList.drop (k + 1)) (t.data.toList.drop (k + 1)) + 1 else 0) := lc_cons HL1.out HL2.out
      by_cases hq : s[k] = t[k]
      · have he : ((s[k].toNat : Int) == (t[k].toNat : Int)) = true := by rw [hq]; simp
        have HN : Hid (lcs s t = (k + 1) + lc (s.data.toList.drop (k + 1)) (t.data.toList.drop (k + 1))) := by
          show _ = _
          rw [HE.out, HC.out, if_pos hq]; omega
        clear HE
        go_wp2
        go_quiet (fail)
        go_wp2
        go_roundw
        case rel => exact ⟨k + 1, _, by omega, by go_num, rfl, HN⟩
        case measure => simp [intOf]; omega
      · have he : ((s[k].toNat : Int) == (t[k].toNat : Int)) = false := by
          have : s[k].toNat ≠ t[k].toNat := fun e => hq (UInt8.toNat_inj.1 e)
          simp; omega
        have HN : Hid (lcs s t = k) := by
          show _ = _
          rw [HE.out, HC.out, if_neg hq]; omega
        clear HE hq HC
        go_wp2
        go_quiet (fail)
        go_wp2
        go_ret
        exact ⟨ret_int (by rw [HN.out]), n + nq, drew_add w n nq⟩
    · have HN : Hid (lcs s t = k) := by
        show _ = _
        rw [HE.out, lc_end (by simp; omega)]; omega
      clear HE
      by_cases hmi : k < s.size
      · have hx : decide (k < t.size) = false := by simp; omega
        go_wp2
        go_quiet (fail)
        go_wp2
        go_ret
        exact ⟨ret_int (by rw [HN.out]), n + nq, drew_add w n nq⟩
      · have hx : decide (k < s.size) = false := by simp; omega
        go_wp2
        go_quiet (fail)
        go_wp2
        go_ret
        exact ⟨ret_int (by rw [HN.out]), n + nq, drew_add w n nq⟩
theorem lcs_none (s : ByteArray) : lcs ByteArray.empty s = 0 := by simp [lcs, lc]
end Go.Proofs.Ytfnfkcafjfhnlaa
