/-
  What span's trim and least answer. Condition of least: the depth is one, and the number of the bucket is at most as many as there are.
-/
import Derived.Test.YtdjcokepeifojaaNBp
namespace Go.Proofs.Ytdjcokepeifojaa
set_option linter.unusedVariables false
open Go.RowKit

/-- How much of a text is left without the bytes c at its end, of the first n ones. -/
def trimN (xs : List Int) (c : Int) : Nat → Nat
  | 0 => 0
  | n + 1 => if xs.getD n 0 = c then trimN xs c n else n + 1
theorem trimN_le (xs : List Int) (c : Int) (n : Nat) : trimN xs c n ≤ n := by
  induction n with
  | zero => exact Nat.le_refl _
  | succ n ih => unfold trimN; split <;> omega
def trimS (s : ByteArray) (c : Int) : ByteArray := s.extract 0 (trimN (bs s) c s.size)
theorem bs_take (s : ByteArray) (n : Nat) : bs (s.extract 0 n) = (bs s).take n := by
  unfold bs
  rw [← List.map_take]
  congr 1
  rw [ByteArray.data_extract, Array.toList_extract]
  simp
theorem bs_trim (s : ByteArray) (c : Int) : bs (trimS s c) = (bs s).take (trimN (bs s) c (bs s).length) := by unfold trimS; rw [bs_take, bs_len]

theorem ext_none (s : ByteArray) : s.extract 0 0 = .empty := by
  rw [← bs_none, bs_take]; rfl
theorem trim_c (s : ByteArray) (c : Int) (hm : s.size ≤ maxLen) (w : World) : Calls Try.prog 33 #[.string s, .int .u8 c] w fun r w' => r = .returned (.string (trimS s c)) ∧ w' = w := by
  have hm' : s.size ≤ 9223372036854775807 := by unfold maxLen at hm; omega
  have HX : Hid (∀ k, k < s.size → ∀ (K : IntKind) (W : World), Sem.run Try.prog (Instr.index 9 (.string s) (.int K (k : Int))) W = .ok (.int .u8 ((bs s).getD k 0)) W) := fun k h => bs_idx s k h
  have HT : Hid (trimS s c = s.extract 0 (trimN (bs s) c s.size)) := rfl
  generalize trimS s c = T at *
  go_enter Try.func33, Try.ntmps33
  go_wp2
  go_loop [5] (fun n => ∃ k : Nat, k ≤ s.size ∧ n = .int .i64 k ∧ trimN (bs s) c k = trimN (bs s) c s.size) (fun n => (intOf n).toNat)
  case atStart => exact ⟨s.size, Nat.le_refl _, rfl, rfl⟩
  case round =>
    obtain ⟨k, hk, rfl, ht⟩ := hrel
    cases k with
    | zero =>
      have h0 : trimN (bs s) c s.size = 0 := by rw [← ht]; rfl
      go_wp2
      go_ret
      exact ⟨by rw [HT.out, h0, ext_none]; rfl, rfl⟩
    | succ k =>
      have hx := HX.out k (by omega) .i64
      have e1 : ((k + 1 : Nat) : Int) - 1 = k := by omega
      have e2 : wrap64 (k : Int) = k := w64 _ ⟨by omega, by omega⟩
      have e3 : (0 : Int) < ((k + 1 : Nat) : Int) := by omega
      by_cases hc : (bs s).getD k 0 = c
      · rw [hc] at hx
        rw [trimN, if_pos hc] at ht
        generalize hK : ((k + 1 : Nat) : Int) = K at *
        go_wp2
        go_round
        case rel => exact ⟨k, by omega, by simp, ht⟩
        case measure => simp [intOf]; omega
      · rw [trimN, if_neg hc] at ht
        have HT2 : Hid (T = s.extract 0 (k + 1)) := by show _ = _; rw [HT.out, ← ht]
        clear ht HT
        generalize (bs s).getD k 0 = y at *
        go_wp2
        go_ret
        exact ⟨by rw [HT2.out]; rfl, rfl⟩
/-- The bytes of a bucket's digits. -/
def lraw (D : Nat) (b : Int) : List Int := if D = 3 then [b / 16 % 256, b * 16 % 256] else if D = 2 then [b % 256] else [b * 16 % 256]
/-- The least text of a bucket. -/
def lst (D : Nat) (b : Int) : ByteArray := trimS (strOfNums (lraw D b)) 0
theorem u8w (X : Int) (h : 0 ≤ X ∧ X ≤ 1000) : IntKind.u8.wrap X = X % 256 := by
  obtain ⟨n, rfl⟩ := Int.eq_ofNat_of_zero_le h.1
  have : ∀ n : Fin 1001, IntKind.u8.wrap ((n.val : Nat) : Int) = ((n.val : Nat) : Int) % 256 := by decide +kernel
  exact this ⟨n, by omega⟩
set_option maxRecDepth 20000 in
set_option maxHeartbeats 400000 in
theorem least_c (D : Nat) (b : Int) (h1 : 1 ≤ D) (h3 : D ≤ 3) (hb : 0 ≤ b ∧ b ≤ nbk D) (w : World) : Calls Try.prog 28 #[.int .i64 D, .int .i64 b] w fun r w' => r = .returned (.string (lst D b)) ∧ w.grownBy w' none := by
  have hmk : ∀ w, (Instr.makeSlice 58 (.int .i64 1) (.int .i64 1)).run Try.prog w = .ok (.slice (some ⟨w.heap.size, 0, none⟩) 1 1) (w.alloc (.cells (u8s [0]) 5)) := fun _ => by kernel_rfl
  have hmk2 : ∀ w, (Instr.makeSlice 58 (.int .i64 2) (.int .i64 2)).run Try.prog w = .ok (.slice (some ⟨w.heap.size, 0, none⟩) 2 2) (w.alloc (.cells (u8s [0, 0]) 5)) := fun _ => by kernel_rfl
  rcases (show D = 1 ∨ D = 2 ∨ D = 3 by omega) with rfl | rfl | rfl
  · rw [show ((1 : Nat) : Int) = 1 from rfl]
    have hb2 : b ≤ 16 := hb.2
    obtain ⟨X, hX⟩ : ∃ X, X = b * 16 := ⟨_, rfl⟩
    have hT : lst 1 b = trimS (strOfNums [X % 256]) 0 := by rw [hX]; rfl
    have hXb : 0 ≤ X ∧ X ≤ 1000 := by omega
    rw [hT]
    have HTR : Hid _ := fun w => trim_c (strOfNums [X % 256]) 0 (by rw [str_size]; unfold maxLen; simp) w
    have w2 : IntKind.u8.wrap X = X % 256 := u8w X hXb
    have HX : Hid (X = b * 16) := hX
    clear hT hX
    generalize trimS (strOfNums [X % 256]) 0 = T at *
    generalize hY : X % 256 = Y at *
    clear hY
    go_enter Try.func28, Try.ntmps28
    go_wp2
    generalize hW1 : World.alloc w _ = W1
    have H0 : Hid (Bk 5 W1 w.heap.size (u8s [0]) ∧ w.grownBy W1 none) := by rw [← hW1]; exact blk_new w 5 (u8s [0])
    clear hW1 hmk
    generalize hN : w.heap.size = N at *
    go_loopw [1, 6] (fun b i wr => (i = .int .i64 0 ∧ b = .int .i64 X ∧ Hid (Bk 5 wr N (u8s [0]) ∧ w.grownBy wr none)) ∨ (i = .int .i64 (-1) ∧ Hid (Bk 5 wr N (u8s [Y]) ∧ w.grownBy wr none))) (fun _ i _ => (intOf i + 1).toNat)
    case atStart => exact .inl ⟨rfl, by rw [HX.out], H0⟩
    case round =>
      clear H0 HX
      rcases hrel with ⟨rfl, rfl, hr⟩ | ⟨rfl, hr⟩
      · have hc0 := hr.out.1.cell 0
        have hf0 := frozen_of_row _ _ 0 _ _ hr.out.1
        go_wp2
        go_roundw
        case rel => exact .inr ⟨rfl, (hr.out.1.set 0 (.int .u8 Y)), gb_newer hr.out.2 ⟨rfl, rfl, rfl, by simp, fun k _ hk => Below.heap_setCell _ _ _ _ (fun e => hk (by rw [e]))⟩ (by show w.heap.size ≤ N; omega)⟩
        case measure => simp [intOf]
      · have HS : Hid _ := seg_string 58 9 5 1 (seg_bk hr.out.1) Try.underlying58 Try.underlying5 Try.underlying9
        have hs1 := HS.out
        simp only [List.length_cons, List.length_nil, Nat.zero_add] at hs1
        clear HS
        go_wp2_with (go_at_call 33; go_must (refine (HTR.out _).mono ?_); rintro e w1 ⟨rfl, rfl⟩)
        go_ret
        exact ⟨rfl, hr.out.2⟩
  · rw [show ((2 : Nat) : Int) = 2 from rfl]
    have hb2 : b ≤ 256 := hb.2
    obtain ⟨X, hX⟩ : ∃ X, X = b := ⟨_, rfl⟩
    have hT : lst 2 b = trimS (strOfNums [X % 256]) 0 := by rw [hX]; rfl
    have hXb : 0 ≤ X ∧ X ≤ 1000 := by omega
    rw [hT]
    have HTR : Hid _ := fun w => trim_c (strOfNums [X % 256]) 0 (by rw [str_size]; unfold maxLen; simp) w
    have w2 : IntKind.u8.wrap X = X % 256 := u8w X hXb
    have HX : Hid (X = b) := hX
    clear hT hX
    generalize trimS (strOfNums [X % 256]) 0 = T at *
    generalize hY : X % 256 = Y at *
    clear hY
    go_enter Try.func28, Try.ntmps28
    go_wp2
    generalize hW1 : World.alloc w _ = W1
    have H0 : Hid (Bk 5 W1 w.heap.size (u8s [0]) ∧ w.grownBy W1 none) := by rw [← hW1]; exact blk_new w 5 (u8s [0])
    clear hW1 hmk
    generalize hN : w.heap.size = N at *
    go_loopw [1, 6] (fun b i wr => (i = .int .i64 0 ∧ b = .int .i64 X ∧ Hid (Bk 5 wr N (u8s [0]) ∧ w.grownBy wr none)) ∨ (i = .int .i64 (-1) ∧ Hid (Bk 5 wr N (u8s [Y]) ∧ w.grownBy wr none))) (fun _ i _ => (intOf i + 1).toNat)
    case atStart => exact .inl ⟨rfl, by rw [HX.out], H0⟩
    case round =>
      clear H0 HX
      rcases hrel with ⟨rfl, rfl, hr⟩ | ⟨rfl, hr⟩
      · have hc0 := hr.out.1.cell 0
        have hf0 := frozen_of_row _ _ 0 _ _ hr.out.1
        go_wp2
        go_roundw
        case rel => exact .inr ⟨rfl, (hr.out.1.set 0 (.int .u8 Y)), gb_newer hr.out.2 ⟨rfl, rfl, rfl, by simp, fun k _ hk => Below.heap_setCell _ _ _ _ (fun e => hk (by rw [e]))⟩ (by show w.heap.size ≤ N; omega)⟩
        case measure => simp [intOf]
      · have HS : Hid _ := seg_string 58 9 5 1 (seg_bk hr.out.1) Try.underlying58 Try.underlying5 Try.underlying9
        have hs1 := HS.out
        simp only [List.length_cons, List.length_nil, Nat.zero_add] at hs1
        clear HS
        go_wp2_with (go_at_call 33; go_must (refine (HTR.out _).mono ?_); rintro e w1 ⟨rfl, rfl⟩)
        go_ret
        exact ⟨rfl, hr.out.2⟩
  · rw [show ((3 : Nat) : Int) = 3 from rfl]
    have hb2 : b ≤ 4096 := hb.2
    obtain ⟨X, hX⟩ : ∃ X, X = b * 16 := ⟨_, rfl⟩
    have hT : lst 3 b = trimS (strOfNums [X / 256 % 256, X % 256]) 0 := by
      rw [hX, show b * 16 / 256 = b / 16 from by omega]; rfl
    have hXb : 0 ≤ X ∧ X ≤ 65536 := by omega
    rw [hT]
    have HTR : Hid _ := fun w => trim_c (strOfNums [X / 256 % 256, X % 256]) 0 (by rw [str_size]; unfold maxLen; simp) w
    have w2 : IntKind.u8.wrap X = X % 256 := IntKind.wrap_u8 X
    have w3 : IntKind.u8.wrap (X / 256) = X / 256 % 256 := IntKind.wrap_u8 _
    have HX : Hid (X = b * 16) := hX
    clear hT hX
    generalize trimS (strOfNums [X / 256 % 256, X % 256]) 0 = T at *
    generalize hY : X % 256 = Y at *
    obtain ⟨X2, hX2⟩ : ∃ X2, X2 = X / 256 := ⟨_, rfl⟩
    have hX2b : 0 ≤ X2 ∧ X2 ≤ 256 := by omega
    rw [← hX2] at w3 HTR
    have HX2 : Hid (X2 = X / 256) := hX2
    clear hY hX2 w3
    go_enter Try.func28, Try.ntmps28
    go_wp2
    generalize hW1 : World.alloc w _ = W1
    have H0 : Hid (Bk 5 W1 w.heap.size (u8s [0, 0]) ∧ w.grownBy W1 none) := by rw [← hW1]; exact blk_new w 5 (u8s [0, 0])
    clear hW1 hmk hmk2
    generalize hN : w.heap.size = N at *
    go_loopw [1, 6] (fun b i wr => (i = .int .i64 1 ∧ b = .int .i64 X ∧ Hid (Bk 5 wr N (u8s [0, 0]) ∧ w.grownBy wr none)) ∨ (i = .int .i64 0 ∧ b = .int .i64 X2 ∧ Hid (Bk 5 wr N (u8s [0, Y]) ∧ w.grownBy wr none)) ∨ (i = .int .i64 (-1) ∧ Hid (Bk 5 wr N (u8s [X2 % 256, Y]) ∧ w.grownBy wr none))) (fun _ i _ => (intOf i + 1).toNat)
    case atStart => exact .inl ⟨rfl, by rw [HX.out], H0⟩
    case round =>
      clear H0 HX
      rcases hrel with ⟨rfl, rfl, hr⟩ | ⟨rfl, rfl, hr⟩ | ⟨rfl, hr⟩
      · have hc0 := hr.out.1.cell 1
        have hf0 := frozen_of_row _ _ 1 _ _ hr.out.1
        go_wp2
        go_roundw
        case rel => exact .inr (.inl ⟨rfl, by rw [HX2.out], (hr.out.1.set 1 (.int .u8 Y)), gb_newer hr.out.2 ⟨rfl, rfl, rfl, by simp, fun k _ hk => Below.heap_setCell _ _ _ _ (fun e => hk (by rw [e]))⟩ (by show w.heap.size ≤ N; omega)⟩)
        case measure => simp [intOf]
      · have hc0 := hr.out.1.cell 0
        have hf0 := frozen_of_row _ _ 0 _ _ hr.out.1
        go_wp2
        go_roundw
        case rel => exact .inr (.inr ⟨rfl, (hr.out.1.set 0 (.int .u8 (X2 % 256))), gb_newer hr.out.2 ⟨rfl, rfl, rfl, by simp, fun k _ hk => Below.heap_setCell _ _ _ _ (fun e => hk (by rw [e]))⟩ (by show w.heap.size ≤ N; omega)⟩)
        case measure => simp [intOf]
      · have HS : Hid _ := seg_string 58 9 5 2 (seg_bk hr.out.1) Try.underlying58 Try.underlying5 Try.underlying9
        have hs1 := HS.out
        simp only [List.length_cons, List.length_nil, Nat.zero_add] at hs1
        clear HS
        go_wp2_with (go_at_call 33; go_must (refine (HTR.out _).mono ?_); rintro e w1 ⟨rfl, rfl⟩)
        go_ret
        exact ⟨rfl, hr.out.2⟩
end Go.Proofs.Ytdjcokepeifojaa
