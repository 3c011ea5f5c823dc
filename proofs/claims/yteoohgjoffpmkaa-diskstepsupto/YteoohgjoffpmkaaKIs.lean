/-
  What disk's isName answers of any text, and all of texts. Condition: the text has at most 2^47 bytes.
-/
import Derived.Test.YteoohgjoffpmkaaKFl
import Derived.Test.YteoohgjoffpmkaaFa
import Derived.Deep.Light
namespace Go.Proofs.Yteoohgjoffpmkaa
open Go.RowKit
set_option linter.unusedVariables false

/-- May a name have this byte? -/
def ltr (c : Int) : Bool := (decide (c = 46) || decide (c = 45) || decide (c = 95)) || ((decide (97 ≤ c) && decide (c ≤ 122)) || (decide (48 ≤ c) && decide (c ≤ 57)))
def nmB (s : ByteArray) : Bool := decide (1 ≤ s.size) && decide (s.size ≤ 60) && (sb s).all ltr
theorem letterA_c (c : Int) (w : World) : Calls Try.prog 70 #[.int .u8 c] w fun r w' => r = .returned (.bool (ltr c)) ∧ w' = w := by
  by_cases h1 : c = 46
  · subst h1
    go_enter Try.func70, Try.ntmps70
    go_wp2
    go_ret
    exact ⟨rfl, rfl⟩
  by_cases h2 : c = 45
  · subst h2
    go_enter Try.func70, Try.ntmps70
    go_wp2
    go_ret
    exact ⟨rfl, rfl⟩
  by_cases h3 : c = 95
  · subst h3
    go_enter Try.func70, Try.ntmps70
    go_wp2
    go_ret
    exact ⟨rfl, rfl⟩
  have HE : Hid (ltr c = ((decide (97 ≤ c) && decide (c ≤ 122)) || (decide (48 ≤ c) && decide (c ≤ 57)))) := by
    show _ = _
    simp [ltr, h1, h2, h3]
  have b1 : (c == 46) = false := by simpa using h1
  have b2 : (c == 45) = false := by simpa using h2
  have b3 : (c == 95) = false := by simpa using h3
  by_cases k1 : 97 ≤ c
  · by_cases k2 : c ≤ 122
    · go_enter Try.func70, Try.ntmps70
      go_wp2
      go_ret
      exact ⟨by rw [HE.out]; simp [k1, k2], rfl⟩
    · by_cases k3 : 48 ≤ c
      · have k4 : ¬ c ≤ 57 := by omega
        go_enter Try.func70, Try.ntmps70
        go_wp2
        go_ret
        exact ⟨by rw [HE.out]; simp [k2, k4], rfl⟩
      · omega
  · by_cases k3 : 48 ≤ c
    · by_cases k4 : c ≤ 57
      · go_enter Try.func70, Try.ntmps70
        go_wp2
        go_ret
        exact ⟨by rw [HE.out]; simp [k3, k4], rfl⟩
      · go_enter Try.func70, Try.ntmps70
        go_wp2
        go_ret
        exact ⟨by rw [HE.out]; simp; omega, rfl⟩
    · go_enter Try.func70, Try.ntmps70
      go_wp2
      go_ret
      exact ⟨by rw [HE.out]; simp; omega, rfl⟩
set_option maxHeartbeats 1000000 in
theorem allbA_c (a : Option Addr) (n c : Nat) (xs : List Int) (w : World) (h : Seg .u8 w a n xs) (hl : n ≤ 140737488355328) : Calls Try.prog 69 #[.slice a n c, .func (.func 70) #[] #[]] w fun r w' => r = .returned (.bool (xs.all ltr)) ∧ w' = w := by
  have HL : Hid (∀ c w, Calls Try.prog 70 #[.int .u8 c] w fun r w' => r = .returned (.bool (ltr c)) ∧ w' = w) := letterA_c
  have HS : Hid (Seg .u8 w a n xs) := h
  have hl64 : (n : Int) ≤ 140737488355328 := by omega
  clear h hl
  go_enter Try.func69, Try.ntmps69
  go_wp2
  go_loop [9] (fun i => ∃ k : Nat, k ≤ n ∧ i = .int .i64 (k : Int) ∧ Hid ((xs.take k).all ltr = true)) (fun i => n - (intOf i).toNat)
  case atStart => exact ⟨0, Nat.zero_le _, rfl, by show _ = _; rfl⟩
  case round =>
    obtain ⟨k, hk, rfl, hr⟩ := hrel
    by_cases hlt : k < n
    · have hi1 : (k : Int) < n := by omega
      have hxl := HS.out.1
      obtain ⟨x, hx⟩ : ∃ x, xs[k]? = some x := ⟨_, List.getElem?_eq_getElem (by omega)⟩
      rcases HS.out.2 with z | ⟨b, off, rfl, hbl, hcl⟩
      · omega
      have hc : w.cell? ⟨b, off + k, none⟩ = some (.int .u8 x) := by rw [hcl k hlt]; simp [hx]
      have hw1 : wrap64 ((k : Int) + 1) = ((k + 1 : Nat) : Int) := by rw [IntWalk.wrap64_in _ ⟨by omega, by omega⟩]; omega
      have htk : xs.take (k + 1) = xs.take k ++ [x] := by rw [List.take_add_one, hx]; rfl
      clear hcl hxl
      by_cases hl : ltr x = true
      · have HR : Hid ((xs.take (k + 1)).all ltr = true) := by show _ = _; rw [htk, List.all_append, hr.out]; simp [hl]
        clear htk hx hr
        go_wp2_with (go_at_call 70; go_must (refine (Calls.mono (HL.out _ _) ?_)); rintro r wq ⟨rfl, hq⟩; obtain rfl := hq.symm; clear hq; rw [hl])
        go_round
        · exact ⟨k + 1, by omega, rfl, HR⟩
        · simp only [intOf]; omega
      · have hl' : ltr x = false := by simpa using hl
        have HR : Hid (xs.all ltr = false) := by
          show _ = _
          rw [List.all_eq_false]
          exact ⟨x, List.mem_of_getElem? hx, by simp [hl']⟩
        clear htk hx hr hl
        go_wp2_with (go_at_call 70; go_must (refine (Calls.mono (HL.out _ _) ?_)); rintro r wq ⟨rfl, hq⟩; obtain rfl := hq.symm; clear hq; rw [hl'])
        go_ret
        exact ⟨by rw [HR.out]; simp, rfl⟩
    · have hkn : k = n := by omega
      subst hkn
      have hi1 : ¬ (k : Int) < k := by omega
      have HR : Hid (xs.all ltr = true) := by
        have := hr.out
        rw [List.take_of_length_le (by rw [HS.out.1]; omega)] at this
        exact this
      clear hr
      go_wp2
      go_ret
      exact ⟨by rw [HR.out]; simp, rfl⟩
theorem nameA_c (s : ByteArray) (w : World) (hl : s.size ≤ 140737488355328) : Calls Try.prog 36 #[.string s] w fun r w' => r = .returned (.bool (nmB s)) ∧ Below w.heap.size w w' := by
  by_cases h1 : 1 ≤ s.size
  · have q1 : (1 : Int) ≤ (s.size : Int) := by omega
    by_cases h2 : s.size ≤ 60
    · have q2 : (s.size : Int) ≤ 60 := by omega
      obtain ⟨W, C, k1, k2, k3⟩ := str_bytesK s w hl
      have HA : Hid _ := allbA_c (some ⟨w.heap.size, 0, none⟩) s.size C (sb s) W k2 hl
      have HB : Hid (Below w.heap.size w W ∧ nmB s = (sb s).all ltr) := ⟨k3, by simp [nmB, h1, h2]⟩
      generalize (sb s).all ltr = b at HA HB
      clear k2 k3 hl h1 h2
      go_enter Try.func36, Try.ntmps36
      go_wp2_with (go_at_call 69; go_must (refine (Calls.mono HA.out ?_)); rintro r wq ⟨rfl, hq⟩; obtain rfl := hq.symm; clear hq)
      go_ret
      exact ⟨by rw [HB.out.2]; simp, HB.out.1⟩
    · have q2 : ¬ (s.size : Int) ≤ 60 := by omega
      have HB : Hid (nmB s = false) := by show _ = _; simp [nmB, h2]
      clear hl h1 h2
      go_enter Try.func36, Try.ntmps36
      go_wp2
      go_ret
      exact ⟨by rw [HB.out]; simp, Below.refl _ _⟩
  · have q1 : ¬ (1 : Int) ≤ (s.size : Int) := by omega
    have HB : Hid (nmB s = false) := by show _ = _; simp [nmB, h1]
    clear hl h1
    go_enter Try.func36, Try.ntmps36
    go_wp2
    go_ret
    exact ⟨by rw [HB.out]; simp, Below.refl _ _⟩
/-- Texts in a row that can be read. -/
def Txs (w : World) (b : Nat) (S : List ByteArray) : Prop := ∀ i s, S[i]? = some s → w.cell? ⟨b, i, none⟩ = some (.string s)
theorem Txs.below {w w' : World} {b : Nat} {S : List ByteArray} (h : Txs w b S) (hb : Below w.heap.size w w') (hl : b < w.heap.size) : Txs w' b S := fun i s hs => (hb.cell (p := ⟨b, i, none⟩) hl).trans (h i s hs)
set_option maxHeartbeats 1000000 in
theorem allsA_c (b n c : Nat) (S : List ByteArray) (w : World) (h : Txs w b S) (hn : S.length = n) (hb : b < w.heap.size) (hl : n ≤ 1000) (hs : ∀ s ∈ S, s.size ≤ 140737488355328) :
    Calls Try.prog 76 #[.slice (some ⟨b, 0, none⟩) n c, .func (.func 36) #[] #[]] w fun r w' => r = .returned (.bool (S.all nmB)) ∧ Below w.heap.size w w' := by
  have HL : Hid (∀ s, s ∈ S → ∀ w, Calls Try.prog 36 #[.string s] w fun r w' => r = .returned (.bool (nmB s)) ∧ Below w.heap.size w w') := fun s hm w => nameA_c s w (hs s hm)
  have HS : Hid (Txs w b S ∧ S.length = n) := ⟨h, hn⟩
  have hl64 : (n : Int) ≤ 1000 := by omega
  clear h hl hn hs
  go_enter Try.func76, Try.ntmps76
  go_wp2
  go_loopw [9] (fun i wr => ∃ k : Nat, k ≤ n ∧ i = .int .i64 (k : Int) ∧ Hid ((S.take k).all nmB = true ∧ Below w.heap.size w wr)) (fun i _ => n - (intOf i).toNat)
  case atStart => exact ⟨0, Nat.zero_le _, rfl, by show _ ∧ _; exact ⟨rfl, Below.refl _ _⟩⟩
  case round =>
    obtain ⟨k, hk, rfl, hr⟩ := hrel
    by_cases hlt : k < n
    · have hi1 : (k : Int) < n := by omega
      have hxl := HS.out.2
      obtain ⟨x, hx⟩ : ∃ x, S[k]? = some x := ⟨_, List.getElem?_eq_getElem (by omega)⟩
      have hc : wr.cell? ⟨b, k, none⟩ = some (.string x) := (hr.out.2.cell (p := ⟨b, k, none⟩) hb).trans (HS.out.1 k x hx)
      have hw1 : wrap64 ((k : Int) + 1) = ((k + 1 : Nat) : Int) := by rw [IntWalk.wrap64_in _ ⟨by omega, by omega⟩]; omega
      have htk : S.take (k + 1) = S.take k ++ [x] := by rw [List.take_add_one, hx]; rfl
      have HX := HL.out x (List.mem_of_getElem? hx)
      replace HX : Hid _ := HX
      clear hxl
      by_cases hl : nmB x = true
      · have HR : Hid ((S.take (k + 1)).all nmB = true) := by show _ = _; rw [htk, List.all_append, hr.out.1]; simp [hl]
        have HQ : Hid (Below w.heap.size w wr) := hr.out.2
        clear htk hx hr
        go_wp2_with (go_at_call 36; go_must (refine (Calls.mono (HX.out _) ?_)); rintro r wq ⟨rfl, hq⟩; have HQ2 : Hid (Below w.heap.size w wq) := HQ.out.trans ⟨hq.os, hq.tape, hq.output, hq.size, fun j hj => hq.block j (Nat.lt_of_lt_of_le hj HQ.out.size)⟩; clear hq; rw [hl])
        go_roundw
        · exact ⟨k + 1, by omega, rfl, by show _ ∧ _; exact ⟨HR.out, HQ2.out⟩⟩
        · simp only [intOf]; omega
      · have hl' : nmB x = false := by simpa using hl
        have HR : Hid (S.all nmB = false) := by
          show _ = _
          rw [List.all_eq_false]
          exact ⟨x, List.mem_of_getElem? hx, by simp [hl']⟩
        have HQ : Hid (Below w.heap.size w wr) := hr.out.2
        clear htk hx hr hl
        go_wp2_with (go_at_call 36; go_must (refine (Calls.mono (HX.out _) ?_)); rintro r wq ⟨rfl, hq⟩; have HQ2 : Hid (Below w.heap.size w wq) := HQ.out.trans ⟨hq.os, hq.tape, hq.output, hq.size, fun j hj => hq.block j (Nat.lt_of_lt_of_le hj HQ.out.size)⟩; clear hq; rw [hl'])
        go_ret
        exact ⟨by rw [HR.out]; simp, HQ2.out⟩
    · have hkn : k = n := by omega
      subst hkn
      have hi1 : ¬ (k : Int) < k := by omega
      have HR : Hid (S.all nmB = true ∧ Below w.heap.size w wr) := by
        have := hr.out.1
        rw [List.take_of_length_le (by rw [HS.out.2]; omega)] at this
        exact ⟨this, hr.out.2⟩
      clear hr
      go_wp2
      go_ret
      exact ⟨by rw [HR.out.1]; simp, HR.out.2⟩
end Go.Proofs.Yteoohgjoffpmkaa
