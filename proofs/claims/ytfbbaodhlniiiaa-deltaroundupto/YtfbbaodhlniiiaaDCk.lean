/-
  What delta's Check answers of an operation. No condition.
-/
import Derived.Test.YtfbbaodhlniiiaaDWi
namespace Go.Proofs.Ytfbbaodhlniiiaa.Dl
open Go.RowKit
set_option linter.unusedVariables false

theorem hg_alloc (w : World) (cs : Array Value) (T : TypeId) : w.grownBy (w.alloc (.cells cs T)) none := World.grownBy_alloc _ _ _
/-- A text's first byte. -/
def by0 (s : ByteArray) : Int := (s.data.toList.map fun b => (b.toNat : Int)).getD 0 0
/-- Whether a text is a user's key. -/
def usr (s : ByteArray) : Bool := decide (1 ≤ s.size) && decide (s.size ≤ 1024) && (by0 s != 0)
theorem idx0 (s : ByteArray) (h : 0 < s.size) (W : World) : Sem.run Try.prog (Instr.index 9 (.string s) (.int .i64 0)) W = .ok (.int .u8 (by0 s)) W := by
  have h1 := run_index_string W 9 s .i64 0 Try.underlying9
  rw [dif_pos ⟨by omega, by omega⟩] at h1
  refine h1.trans ?_
  have hl : 0 < s.data.toList.length := by rw [Array.length_toList]; exact h
  have e : by0 s = ((s.data.toList[0]'hl).toNat : Int) := by
    unfold by0
    rw [List.getD_eq_getElem?_getD, List.getElem?_map, List.getElem?_eq_getElem hl]
    rfl
  rw [e]
  rfl
/-- What an operation may not be. -/
def opE (k : Int) (key val : ByteArray) (ver : Int) : Int :=
  if k < 1 ∨ 3 < k then 80 else if usr key = false then 81 else if 65536 < val.size ∨ (k = 2 ∧ val ≠ .empty) then 82 else if (ver < 0 ∨ 1152921504606846976 < ver) ∨ (k ≠ 3 ∧ ver ≠ 0) then 84 else 0
def updE (q c n k : Int) (key val : ByteArray) (ver : Int) : Int :=
  if q < 1 ∨ 1152921504606846976 < q then 85 else if c < 1 ∨ 16 < c then 83 else if n < 1 ∨ 1152921504606846976 < n then 84 else opE k key val ver
theorem ncheck_c (s : ByteArray) (w : World) : Calls Try.prog 104 #[.string s] w fun r w' => r = .returned (.int .i64 (if s.size < 1 ∨ 1024 < s.size then 60 else 0)) ∧ w' = w := by
  by_cases h1 : s.size < 1
  · rw [if_pos (.inl h1)]
    go_enter Try.func104, Try.ntmps104
    go_wp2
    go_ret
    exact ⟨rfl, rfl⟩
  · by_cases h2 : 1024 < s.size
    · rw [if_pos (.inr h2)]
      go_enter Try.func104, Try.ntmps104
      go_wp2
      go_ret
      exact ⟨rfl, rfl⟩
    · rw [if_neg (by omega)]
      go_enter Try.func104, Try.ntmps104
      go_wp2
      go_ret
      exact ⟨rfl, rfl⟩
theorem users_c (s : ByteArray) (w : World) : Calls Try.prog 91 #[.string s] w fun r w' => r = .returned (.bool (usr s)) ∧ w' = w := by
  have HC := ncheck_c s
  unfold usr
  by_cases h1 : s.size < 1 ∨ 1024 < s.size
  · have e : (decide (1 ≤ s.size) && decide (s.size ≤ 1024) && (by0 s != 0)) = false := by
      rcases h1 with h | h
      · rw [decide_eq_false (by omega)]; rfl
      · rw [decide_eq_false (p := s.size ≤ 1024) (by omega)]; simp
    rw [e]
    simp only [if_pos h1] at HC
    clear h1 e
    have HC' : Hid (∀ W, Calls Try.prog 104 #[.string s] W fun r w' => r = .returned (.int .i64 60) ∧ w' = W) := HC
    clear HC
    go_enter Try.func91, Try.ntmps91
    go_wp2_with (go_at_call 104; refine (Calls.mono (HC'.out _) ?_); rintro e wq ⟨rfl, rfl⟩)
    go_ret
    exact ⟨rfl, rfl⟩
  · have e : (decide (1 ≤ s.size) && decide (s.size ≤ 1024) && (by0 s != 0)) = (by0 s != 0) := by
      rw [decide_eq_true (by omega), decide_eq_true (p := s.size ≤ 1024) (by omega)]; rfl
    rw [e]
    simp only [if_neg h1] at HC
    have hx := idx0 s (by omega)
    clear h1 e
    have HC' : Hid (∀ W, Calls Try.prog 104 #[.string s] W fun r w' => r = .returned (.int .i64 0) ∧ w' = W) := HC
    clear HC
    generalize by0 s = c at *
    go_enter Try.func91, Try.ntmps91
    go_wp2_with (go_at_call 104; refine (Calls.mono (HC'.out _) ?_); rintro e wq ⟨rfl, rfl⟩)
    go_ret
    exact ⟨rfl, rfl⟩
theorem ne_empty {s : ByteArray} (h : s ≠ .empty) : (!s.toList.isEmpty) = true := by
  cases hs : s.toList with
  | cons a l => rfl
  | nil =>
    exfalso
    apply h
    apply Go.WideShapes.bytes_inj
    have e : s.toList = s.data.toList := ByteArray.toList_eq s
    rw [← e, hs]
    rfl
set_option maxRecDepth 20000 in
set_option maxHeartbeats 1000000 in
theorem check_c (k : Int) (key val : ByteArray) (ver : Int) (w : World) : Calls Try.prog 73 #[.agg #[.int .i64 k, .string key, .string val, .int .i64 ver]] w fun r w' => r = .returned (.int .i64 (opE k key val ver)) ∧ w.grownBy w' none := by
  have HC : Hid (∀ W, Calls Try.prog 91 #[.string key] W fun r w' => r = .returned (.bool (usr key)) ∧ w' = W) := users_c key
  have HW : Hid (∀ W, Calls Try.prog 44 #[.int .i64 ver, .int .i64 0, .int .i64 1152921504606846976] W fun r w' => r = .returned (.bool (decide (0 ≤ ver) && decide (ver ≤ 1152921504606846976))) ∧ w' = W) := within_c ver _ _
  have HN : Hid (w.grownBy (w.alloc (.cells #[.int .i64 k, .string key, .string val, .int .i64 ver] 25)) none) := hg_alloc _ _ _
  unfold opE
  generalize usr key = u at *
  by_cases h1 : k < 1
  · rw [if_pos (.inl h1)]
    go_enter Try.func73, Try.ntmps73
    go_wp2_with (first | (go_at_call 91; refine (Calls.mono (HC.out _) ?_); rintro e wq ⟨rfl, rfl⟩) | (go_at_call 44; refine (Calls.mono (HW.out _) ?_); rintro e wq ⟨rfl, rfl⟩))
    go_ret
    exact ⟨rfl, HN.out⟩
  by_cases h2 : 3 < k
  · rw [if_pos (.inr h2)]
    go_enter Try.func73, Try.ntmps73
    go_wp2_with (first | (go_at_call 91; refine (Calls.mono (HC.out _) ?_); rintro e wq ⟨rfl, rfl⟩) | (go_at_call 44; refine (Calls.mono (HW.out _) ?_); rintro e wq ⟨rfl, rfl⟩))
    go_ret
    exact ⟨rfl, HN.out⟩
  rw [if_neg (by omega)]
  cases u with
  | false =>
    rw [if_pos rfl]
    go_enter Try.func73, Try.ntmps73
    go_wp2_with (first | (go_at_call 91; refine (Calls.mono (HC.out _) ?_); rintro e wq ⟨rfl, rfl⟩) | (go_at_call 44; refine (Calls.mono (HW.out _) ?_); rintro e wq ⟨rfl, rfl⟩))
    go_ret
    exact ⟨rfl, HN.out⟩
  | true =>
    rw [if_neg (by decide)]
    by_cases h3 : 65536 < val.size
    · rw [if_pos (.inl h3)]
      go_enter Try.func73, Try.ntmps73
      go_wp2_with (first | (go_at_call 91; refine (Calls.mono (HC.out _) ?_); rintro e wq ⟨rfl, rfl⟩) | (go_at_call 44; refine (Calls.mono (HW.out _) ?_); rintro e wq ⟨rfl, rfl⟩))
      go_ret
      exact ⟨rfl, HN.out⟩
    by_cases h4 : k = 2
    · subst h4
      by_cases h5 : val = .empty
      · subst h5
        rw [if_neg (by simp)]
        clear h1 h2 h3
        by_cases h6 : ver < 0
        · rw [if_pos (.inl (.inl h6))]
          have d0 : decide (0 ≤ ver) = false := decide_eq_false (by omega)
          rw [d0] at HW
          go_enter Try.func73, Try.ntmps73
          go_wp2_with (first | (go_at_call 91; refine (Calls.mono (HC.out _) ?_); rintro e wq ⟨rfl, rfl⟩) | (go_at_call 44; refine (Calls.mono (HW.out _) ?_); rintro e wq ⟨rfl, rfl⟩))
          go_ret
          exact ⟨rfl, HN.out⟩
        by_cases h7 : 1152921504606846976 < ver
        · rw [if_pos (.inl (.inr h7))]
          have d0 : decide (0 ≤ ver) = true := decide_eq_true (by omega)
          have d1 : decide (ver ≤ 1152921504606846976) = false := decide_eq_false (by omega)
          rw [d0, d1] at HW
          go_enter Try.func73, Try.ntmps73
          go_wp2_with (first | (go_at_call 91; refine (Calls.mono (HC.out _) ?_); rintro e wq ⟨rfl, rfl⟩) | (go_at_call 44; refine (Calls.mono (HW.out _) ?_); rintro e wq ⟨rfl, rfl⟩))
          go_ret
          exact ⟨rfl, HN.out⟩
        have d0 : decide (0 ≤ ver) = true := decide_eq_true (by omega)
        have d1 : decide (ver ≤ 1152921504606846976) = true := decide_eq_true (by omega)
        rw [d0, d1] at HW
        by_cases h8 : ver = 0
        · subst h8
          rw [if_neg (by omega)]
          go_enter Try.func73, Try.ntmps73
          go_wp2_with (first | (go_at_call 91; refine (Calls.mono (HC.out _) ?_); rintro e wq ⟨rfl, rfl⟩) | (go_at_call 44; refine (Calls.mono (HW.out _) ?_); rintro e wq ⟨rfl, rfl⟩))
          go_ret
          exact ⟨rfl, HN.out⟩
        have hb8 : (ver != 0) = true := by simp [h8]
        rw [if_pos (by omega)]
        clear h8
        go_enter Try.func73, Try.ntmps73
        go_wp2_with (first | (go_at_call 91; refine (Calls.mono (HC.out _) ?_); rintro e wq ⟨rfl, rfl⟩) | (go_at_call 44; refine (Calls.mono (HW.out _) ?_); rintro e wq ⟨rfl, rfl⟩))
        go_ret
        exact ⟨rfl, HN.out⟩
      · rw [if_pos (.inr ⟨rfl, h5⟩)]
        have hb := ne_empty h5
        clear h5
        go_enter Try.func73, Try.ntmps73
        go_wp2_with (first | (go_at_call 91; refine (Calls.mono (HC.out _) ?_); rintro e wq ⟨rfl, rfl⟩) | (go_at_call 44; refine (Calls.mono (HW.out _) ?_); rintro e wq ⟨rfl, rfl⟩))
        go_ret
        exact ⟨rfl, HN.out⟩
    have hb4 : (k == 2) = false := by simp [h4]
    rw [if_neg (fun q => q.elim (fun q => h3 q) (fun q => h4 q.1))]
    by_cases h5 : k = 3
    · subst h5
      clear h1 h2 h4
      by_cases h6 : ver < 0
      · rw [if_pos (.inl (.inl h6))]
        have d0 : decide (0 ≤ ver) = false := decide_eq_false (by omega)
        rw [d0] at HW
        go_enter Try.func73, Try.ntmps73
        go_wp2_with (first | (go_at_call 91; refine (Calls.mono (HC.out _) ?_); rintro e wq ⟨rfl, rfl⟩) | (go_at_call 44; refine (Calls.mono (HW.out _) ?_); rintro e wq ⟨rfl, rfl⟩))
        go_ret
        exact ⟨rfl, HN.out⟩
      by_cases h7 : 1152921504606846976 < ver
      · rw [if_pos (.inl (.inr h7))]
        have d0 : decide (0 ≤ ver) = true := decide_eq_true (by omega)
        have d1 : decide (ver ≤ 1152921504606846976) = false := decide_eq_false (by omega)
        rw [d0, d1] at HW
        go_enter Try.func73, Try.ntmps73
        go_wp2_with (first | (go_at_call 91; refine (Calls.mono (HC.out _) ?_); rintro e wq ⟨rfl, rfl⟩) | (go_at_call 44; refine (Calls.mono (HW.out _) ?_); rintro e wq ⟨rfl, rfl⟩))
        go_ret
        exact ⟨rfl, HN.out⟩
      have d0 : decide (0 ≤ ver) = true := decide_eq_true (by omega)
      have d1 : decide (ver ≤ 1152921504606846976) = true := decide_eq_true (by omega)
      rw [d0, d1] at HW
      rw [if_neg (by omega)]
      go_enter Try.func73, Try.ntmps73
      go_wp2_with (first | (go_at_call 91; refine (Calls.mono (HC.out _) ?_); rintro e wq ⟨rfl, rfl⟩) | (go_at_call 44; refine (Calls.mono (HW.out _) ?_); rintro e wq ⟨rfl, rfl⟩))
      go_ret
      exact ⟨rfl, HN.out⟩
    obtain rfl : k = 1 := by omega
    clear h1 h2 h4 h5
    by_cases h6 : ver < 0
    · rw [if_pos (.inl (.inl h6))]
      have d0 : decide (0 ≤ ver) = false := decide_eq_false (by omega)
      rw [d0] at HW
      go_enter Try.func73, Try.ntmps73
      go_wp2_with (first | (go_at_call 91; refine (Calls.mono (HC.out _) ?_); rintro e wq ⟨rfl, rfl⟩) | (go_at_call 44; refine (Calls.mono (HW.out _) ?_); rintro e wq ⟨rfl, rfl⟩))
      go_ret
      exact ⟨rfl, HN.out⟩
    by_cases h7 : 1152921504606846976 < ver
    · rw [if_pos (.inl (.inr h7))]
      have d0 : decide (0 ≤ ver) = true := decide_eq_true (by omega)
      have d1 : decide (ver ≤ 1152921504606846976) = false := decide_eq_false (by omega)
      rw [d0, d1] at HW
      go_enter Try.func73, Try.ntmps73
      go_wp2_with (first | (go_at_call 91; refine (Calls.mono (HC.out _) ?_); rintro e wq ⟨rfl, rfl⟩) | (go_at_call 44; refine (Calls.mono (HW.out _) ?_); rintro e wq ⟨rfl, rfl⟩))
      go_ret
      exact ⟨rfl, HN.out⟩
    have d0 : decide (0 ≤ ver) = true := decide_eq_true (by omega)
    have d1 : decide (ver ≤ 1152921504606846976) = true := decide_eq_true (by omega)
    rw [d0, d1] at HW
    by_cases h8 : ver = 0
    · subst h8
      rw [if_neg (by omega)]
      go_enter Try.func73, Try.ntmps73
      go_wp2_with (first | (go_at_call 91; refine (Calls.mono (HC.out _) ?_); rintro e wq ⟨rfl, rfl⟩) | (go_at_call 44; refine (Calls.mono (HW.out _) ?_); rintro e wq ⟨rfl, rfl⟩))
      go_ret
      exact ⟨rfl, HN.out⟩
    have hb8 : (ver != 0) = true := by simp [h8]
    rw [if_pos (by omega)]
    clear h8
    go_enter Try.func73, Try.ntmps73
    go_wp2_with (first | (go_at_call 91; refine (Calls.mono (HC.out _) ?_); rintro e wq ⟨rfl, rfl⟩) | (go_at_call 44; refine (Calls.mono (HW.out _) ?_); rintro e wq ⟨rfl, rfl⟩))
    go_ret
    exact ⟨rfl, HN.out⟩
end Go.Proofs.Ytfbbaodhlniiiaa.Dl
