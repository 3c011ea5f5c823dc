/-
  What the Writer's Text answers. Condition: what is laid down takes at most 2^47 bytes.
  What leb.Decode answers, called with whatever bytes: what the plain function rd gives. Condition: the slice can be read, and its length is one that a machine has.
  What a pack Reader's Uint answers: what the plain function rUint gives. Condition: the Reader's bytes can be read, and their length is one that a machine has.
  What a pack Reader's Uint (behind an error), Left, At, End and Int answer: what the plain functions give. Condition: the Reader's bytes can be read, and their length is one that a machine has.
  What a pack Reader's take and Text answer: what the plain functions give. Condition: the Reader's bytes can be read, and their length is one that a machine has.
  Memory that has grown, and changed in a block that is new. No condition of its own.
  What the Writer's Bytes answers. Condition: what was laid down takes at most 2^47 bytes.
  A Writer of one's own: what its calls come to. Condition: what is laid down takes at most 2^47 bytes.
  What the Writer's Size answers. No condition of its own.
  What the Writer's Digest answers. Condition: what is laid down takes at most 2^47 bytes.
  What the document's Bytes answers of a number of 64 bits: its bytes, in memory of their own. No condition of its own.
  The document's Writer in memory, as plain data, and what its lay, Fail, Uint, Int, Flag, Text answer. Condition: what is laid down takes at most 2^47 bytes.
  What the document's Writer's Int, Flag, Text and Bytes answer. Condition: what is laid down takes at most 2^47 bytes.
  What the document's Writer's Text, Digest, Row and Bytes answer. Condition: what is laid down takes at most 2^47 bytes.
-/
import Derived.Test.YtlmjgjimmbadeaaDoorFa
import Derived.Deep.Light
import Derived.Lib.EndianBits
import Derived.Deep.RegionHeld3
import Derived.BigQuiet
import Derived.Deep.QuietTactic
import Derived.Laws.IdiomStrings
namespace Go.Proofs.YtlmjgjimmbadeaaDoor
open Go.RowKit
set_option linter.unusedVariables false

/-- The three ways of must, of a Writer. -/
theorem wmust_no (g : Nat) (ys : List Int) (fs : List Nat) (w : World) (h : WS w g ys 0 fs) (x : Int) (b : Bool) (hx : (x == 0) = false) (hb : b = false) :
    Calls Tryd.prog 72 #[.pointer (some ⟨g, 0, none⟩), .bool b, .int .i64 x] w fun r w' => r = .returned (.bool false) ∧ w'.cell? ⟨g, 0, none⟩ = some (.int .i64 x) ∧ WGoes w g fs w' ys x := by
  subst hb
  refine (must_ok g x w h.c0 (h.free 0) hx).mono ?_
  rintro r w' ⟨rfl, rfl⟩
  exact ⟨rfl, (h.setE x).c0, WGoes.err h x⟩
theorem wmust_so (g : Nat) (ys : List Int) (fs : List Nat) (w : World) (h : WS w g ys 0 fs) (x : Int) (b : Bool) (hb : b = true) :
    Calls Tryd.prog 72 #[.pointer (some ⟨g, 0, none⟩), .bool b, .int .i64 x] w fun r w' => r = .returned (.bool true) ∧ w' = w := by
  subst hb; exact must_so g 0 x w h.c0
theorem wmust_late (g : Nat) (w : World) (e x : Int) (b : Bool) (he : (e == 0) = false) (h : w.cell? ⟨g, 0, none⟩ = some (.int .i64 e)) :
    Calls Tryd.prog 72 #[.pointer (some ⟨g, 0, none⟩), .bool b, .int .i64 x] w fun r w' => r = .returned (.bool false) ∧ w' = w := by
  cases b with
  | true => have := must_so g e x w h; rw [he] at this; exact this
  | false => exact must_no g e x w h he

set_option maxRecDepth 20000 in
set_option maxHeartbeats 800000 in
theorem wtext_c (g : Nat) (ys : List Int) (e : Int) (s : ByteArray) (most : Int) (fs : List Nat) (w : World) (h : WS w g ys e fs) (hs : s.size ≤ 1125899906842) (hb : ys.length + s.size + 10 ≤ 140737488355328) :
    Calls Tryd.prog 75 #[.pointer (some ⟨g, 0, none⟩), .string s, .int .i64 most] w fun r w' => r = .returned (.tuple #[]) ∧ WGoes w g fs w' (wadd (ferr e (wte s.size most)) ys (enc s.size ++ sb s)) (ferr e (wte s.size most)) := by
  have HW : Hid (WS w g ys e fs) := h
  have HR : Hid (Calls Tryd.prog 71 #[.pointer (some ⟨g, 0, none⟩)] w fun r w' => r = .returned (.bool (e == 0)) ∧ w' = w) := wready_c g e w h.c0
  obtain ⟨S, hS⟩ : ∃ S, S = s.size := ⟨_, rfl⟩
  have hsS : s.size = S := hS.symm
  rw [hsS] at hs hb ⊢
  clear hS
  by_cases he : e = 0
  · subst he
    have HM1 : Hid (∀ (x : Int) (b : Bool), (x == 0) = false → b = false → Calls Tryd.prog 72 #[.pointer (some ⟨g, 0, none⟩), .bool b, .int .i64 x] w fun r w' => r = .returned (.bool false) ∧ w'.cell? ⟨g, 0, none⟩ = some (.int .i64 x) ∧ WGoes w g fs w' ys x) := wmust_no g ys fs w h
    have HM2 : Hid (∀ (x : Int) (b : Bool), b = true → Calls Tryd.prog 72 #[.pointer (some ⟨g, 0, none⟩), .bool b, .int .i64 x] w fun r w' => r = .returned (.bool true) ∧ w' = w) := wmust_so g ys fs w h
    by_cases h0 : most < 0
    · rw [show ferr 0 (wte S most) = 1 from by rw [ferr, if_pos rfl, wte, if_pos h0], wadd_err (by decide)]
      clear h hb
      go_enter Tryd.func75, Tryd.ntmps75
      go_wp2_with fail
      refine Calls.mono HR.out ?_
      rintro r w1 ⟨rfl, rfl⟩
      go_wp2_with fail
      refine (HM1.out 1 _ (by decide) ?_).mono ?_
      · first | rfl | (simp; omega)
      rintro _ w2 ⟨rfl, hc2, h2⟩
      replace hc2 : Hid _ := hc2
      replace h2 : Hid _ := h2
      go_wp2_with fail
      refine (wmust_late g w2 1 31 _ (by decide) hc2.out).mono ?_
      rintro _ w3 ⟨rfl, rfl⟩
      go_wp2
      go_end0
      exact ⟨rfl, h2.out⟩
    · by_cases h2 : (S : Int) ≤ most
      · rw [show ferr 0 (wte S most) = 0 from by rw [ferr, if_pos rfl, wte, if_neg h0, if_neg (by omega)]]
        rw [show wadd 0 ys (enc S ++ sb s) = ys ++ enc S ++ sb s from (List.append_assoc _ _ _).symm]
        have HEL : Hid ((enc S).length ≤ 10) := by
          show _ ≤ _
          rw [enc_length _ (by omega)]
          exact (sz_bd _).2
        have HU : Hid (∀ z : Int, z = (S : Int) → Calls Tryd.prog 73 #[.pointer (some ⟨g, 0, none⟩), .int .u64 z] w fun r w' => r = .returned (.tuple #[]) ∧ WGoes w g fs w' (ys ++ enc S) 0) := fun z hz => by
          have := wuint_c g ys 0 (S : Int) fs w h (by omega) (by omega) (by omega)
          rw [Int.toNat_natCast] at this
          rw [hz]; exact this
        have HL : Hid (∀ w n a cap fs, WS w g (ys ++ enc S) 0 fs → Seg .u8 w (some ⟨a, 0, none⟩) n (sb s) → a ≠ g → Calls Tryd.prog 103 #[.pointer (some ⟨g, 0, none⟩), .slice (some ⟨a, 0, none⟩) n cap] w fun r w' => r = .returned (.tuple #[]) ∧ WGoes w g fs w' (ys ++ enc S ++ sb s) 0) := fun w n a cap fs h hsg hn => lay_c g _ _ 0 fs _ n cap w h hsg (fun b o s e => by cases e; exact hn) (fun h => by cases h) (sb_bytes s) (by
          have := hsg.1
          rw [sb_length, hsS] at this
          have := HEL.out
          rw [List.length_append]; omega)
        obtain ⟨Y1, hY1⟩ : ∃ Y1, Y1 = ys ++ enc S := ⟨_, rfl⟩
        obtain ⟨Y2, hY2⟩ : ∃ Y2, Y2 = ys ++ enc S ++ sb s := ⟨_, rfl⟩
        rw [← hY2] at HL ⊢
        rw [← hY1] at HU HL
        clear h hb hY1 hY2
        go_enter Tryd.func75, Tryd.ntmps75
        go_wp2_with fail
        refine Calls.mono HR.out ?_
        rintro r w1 ⟨rfl, rfl⟩
        go_wp2_with fail
        refine (HM2.out 1 _ ?_).mono ?_
        · first | rfl | (simp; omega)
        rintro _ w2 ⟨rfl, rfl⟩
        go_wp2_with fail
        refine (HM2.out 31 _ ?_).mono ?_
        · first | rfl | (simp; omega)
        rintro _ w3 ⟨rfl, rfl⟩
        go_wp2_with fail
        refine (HU.out _ ?_).mono ?_
        · first | rfl | (rw [IntKind.wrap_u64]; omega)
        rintro _ w4 ⟨rfl, h4⟩
        obtain ⟨W5, C, hcv, hM5, hB5⟩ := str_bytes s w4 (by rw [hsS]; omega)
        rw [hsS] at hcv hM5
        have H4 : Hid (WGoes w3 g fs w4 Y1 0) := h4
        have H5 : Hid (Mine W5 w4.heap.size w4.heap.size S C (sb s) ∧ Below w4.heap.size w4 W5) := ⟨hM5, hB5⟩
        clear hM5 hB5 h4
        go_wp2_with fail
        obtain ⟨f4, hw4, hg4, hl4⟩ := H4.out
        have hgb := grownBy_below H5.out.2 none
        refine (HL.out _ _ _ _ f4 (hw4.new hgb) H5.out.1.seg (fun e => by have := hw4.lt; omega)).mono ?_
        rintro _ w6 ⟨rfl, h6⟩
        have H6 : Hid (WGoes w3 g fs w6 Y2 0) := by
          obtain ⟨f6, a6, b6, c6⟩ := h6.pre hgb
          refine ⟨f6, a6, hg4.trans b6, fun j hj => ?_⟩
          rcases c6 j hj with h | h
          · exact hl4 j h
          · exact .inr (Nat.le_trans hg4.size h)
        clear h6 hw4 hg4 hl4 hgb
        go_wp2
        go_end0
        exact ⟨rfl, H6.out⟩
      · rw [show ferr 0 (wte S most) = 31 from by rw [ferr, if_pos rfl, wte, if_neg h0, if_pos (by omega)], wadd_err (by decide)]
        clear h hb
        go_enter Tryd.func75, Tryd.ntmps75
        go_wp2_with fail
        refine Calls.mono HR.out ?_
        rintro r w1 ⟨rfl, rfl⟩
        go_wp2_with fail
        refine (HM2.out 1 _ ?_).mono ?_
        · first | rfl | (simp; omega)
        rintro _ w2 ⟨rfl, rfl⟩
        go_wp2_with fail
        refine (HM1.out 31 _ (by decide) ?_).mono ?_
        · first | rfl | (simp; omega)
        rintro _ w3 ⟨rfl, _, h3⟩
        replace h3 : Hid _ := h3
        go_wp2
        go_end0
        exact ⟨rfl, h3.out⟩
  · have hbq : (e == 0) = false := by simp [he]
    have HE : Hid (ferr e (wte S most) = e) := by show _ = _; rw [ferr, if_neg he]
    rw [HE.out, wadd_err he]
    rw [hbq] at HR
    clear he HE h hb
    go_enter Tryd.func75, Tryd.ntmps75
    go_wp2_with fail
    refine Calls.mono HR.out ?_
    rintro r w1 ⟨rfl, rfl⟩
    go_wp2
    first | go_end0 | (simp only [Exit.inBlock, Exit.then]; refine bodyPost_ret (results_none rfl _ _ _) rfl ?_) | refine bodyPost_ret (results_none rfl _ _ _) rfl ?_
    exact ⟨rfl, HW.out.stay⟩
end Go.Proofs.YtlmjgjimmbadeaaDoor
namespace Go.Proofs.YtlmjgjimmbadeaaDoor
open Go.RowKit
set_option linter.unusedVariables false

theorem or_group (X c : Int) (k : Nat) (hk : k ≤ 9) (hX0 : 0 ≤ X) (hX : X < 2 ^ (7 * k)) (h0 : 0 ≤ c) (h1 : c < 128) (h9 : k = 9 → c ≤ 1) :
    bits .or .u64 X (IntKind.u64.wrap (c * 2 ^ (7 * k))) = X + 2 ^ (7 * k) * c := by
  have hp := pow_pos2 (7 * k)
  have hm : 0 ≤ c * 2 ^ (7 * k) := Int.mul_nonneg h0 (by omega)
  have hb : c * 2 ^ (7 * k) < 18446744073709551616 := by
    by_cases hk9 : k = 9
    · subst hk9
      have := h9 rfl
      have e : (2 : Int) ^ (7 * 9) = 9223372036854775808 := by decide
      rw [e]; omega
    · have hle : (2 : Int) ^ (7 * k) ≤ 2 ^ 56 := by
        have : (2 : Nat) ^ (7 * k) ≤ 2 ^ 56 := Nat.pow_le_pow_right (by omega) (by omega)
        exact_mod_cast this
      have e : (2 : Int) ^ 56 = 72057594037927936 := by decide
      have := Int.mul_le_mul (Int.le_of_lt h1) hle (by omega) (by omega)
      rw [e] at this
      omega
  have hX64 : X < 18446744073709551616 := by
    have hle : (2 : Int) ^ (7 * k) ≤ 2 ^ 63 := by
      have : (2 : Nat) ^ (7 * k) ≤ 2 ^ 63 := Nat.pow_le_pow_right (by omega) (by omega)
      exact_mod_cast this
    have e : (2 : Int) ^ 63 = 9223372036854775808 := by decide
    omega
  rw [u64_wrap_id _ hm hb]
  have e64 : (2 : Int) ^ 64 = 18446744073709551616 := by decide
  rw [bits_join_low .u64 64 (by decide) wraps_u64 (7 * k) X (c * 2 ^ (7 * k)) hX0 hX (by rw [e64]; exact hX64) hm (Int.mul_emod_left _ _) (by rw [e64]; exact hb), Int.mul_comm c]

theorem or_val (xs : List Int) (X : Int) (k : Nat) (hk : k < xs.length) (hk9 : k ≤ 9) (hX : X = val (xs.take k)) (h0 : 0 ≤ xs[k]?.getD 0) (h9 : k = 9 → xs[k]?.getD 0 % 128 ≤ 1) :
    bits .or .u64 X (IntKind.u64.wrap (xs[k]?.getD 0 % 128 * 2 ^ (7 * k))) = val (xs.take (k + 1)) := by
  have hln : (xs.take k).length = k := by simp; omega
  have hlt := val_lt (xs.take k)
  have hn := val_nonneg (xs.take k)
  rw [hln] at hlt
  rw [or_group X _ k hk9 (by omega) (by omega) (by omega) (by omega) h9, take_snoc xs k hk, val_snoc, hln, hX]

theorem ret3 {k1 k2 k3 : IntKind} {a b c a' b' c' : Int} (h1 : a = a') (h2 : b = b') (h3 : c = c') : Ending.returned (.tuple #[.int k1 a, .int k2 b, .int k3 c]) = .returned (.tuple #[.int k1 a', .int k2 b', .int k3 c']) := by rw [h1, h2, h3]
theorem ret3rd {k1 k2 k3 : IntKind} {xs : List Int} {a b c : Int} (h : rd xs = (a, b, c)) : Ending.returned (.tuple #[.int k1 a, .int k2 b, .int k3 c]) = .returned (.tuple #[.int k1 (rd xs).1, .int k2 (rd xs).2.1, .int k3 (rd xs).2.2]) := by rw [h]

set_option maxHeartbeats 2000000 in
theorem decode_c (a : Option Addr) (len cap : Nat) (xs : List Int) (w : World) (h : Seg .u8 w a len xs) (hx : Bytes xs) (hcap : len ≤ cap) (hl : cap ≤ 9223372036854775807) :
    Calls Tryd.prog 117 #[.slice a len cap] w fun e w' => e = .returned (.tuple #[.int .u64 (rd xs).1, .int .i64 (rd xs).2.1, .int .i64 (rd xs).2.2]) ∧ w' = w := by
  obtain ⟨hlen, h⟩ := h
  rcases h with rfl | ⟨b, off, rfl, hbw, hc⟩
  · obtain rfl : xs = [] := List.eq_nil_of_length_eq_zero hlen
    go_enter Tryd.func117, Tryd.ntmps117
    go_wp2
    refine wp_loop_rounds 1 ?_
    rw [rounds_succ]
    go_wp2
    go_ret3
    exact ⟨rfl, rfl⟩
  · obtain ⟨N, hN, hN10, HN⟩ : ∃ N : Nat, N ≤ len ∧ N ≤ 10 ∧ Hid (N = len ∨ N = 10) := ⟨min len 10, by omega, by omega, by show _ ∨ _; omega⟩
    by_cases h10 : (len : Int) ≤ 10
    · obtain rfl : N = len := by have := HN.out; omega
      go_enter Tryd.func117, Tryd.ntmps117
      go_wp2
      go_loop [5, 14] (fun v i => ∃ (k : Nat) (X : Int), k ≤ N ∧ i = .int .i64 k ∧ v = .int .u64 X ∧ (k ≤ 9 → X = val (xs.take k)) ∧ ∀ j, j < k → 128 ≤ xs[j]?.getD 0) (fun _ i => N - (intOf i).toNat)
      case atStart => exact ⟨0, 0, Nat.zero_le _, rfl, rfl, fun _ => rfl, fun j hj => by omega⟩
      case round =>
        obtain ⟨k, X, hk, rfl, rfl, hX, hlead⟩ := hrel
        have HX : Hid (k ≤ 9 → X = val (xs.take k)) := hX
        have HL : Hid (∀ j, j < k → 128 ≤ xs[j]?.getD 0) := hlead
        have HE : Hid (xs.length = N) := hlen
        by_cases hlt : k < N
        · have hcell := hc k (by omega)
          have hxk := hx k (by omega)
          clear hc hx hX hlead hlen
          by_cases hc128 : 128 ≤ xs[k]?.getD 0
          · go_wp2
            go_round
            case rel =>
              go_light
              refine ⟨k + 1, _, by omega, by go_num, rfl, fun h9 => ?_, fun j hj => ?_⟩
              · exact or_val xs X k (by have := HE.out; omega) (by omega) (HX.out (by omega)) hxk.1 (fun h => by omega)
              · rcases Nat.lt_or_ge j k with h | h
                · exact HL.out j h
                · obtain rfl : j = k := by omega
                  exact hc128
            case measure => simp [intOf]; try omega
          · by_cases h91 : 9 ≤ k ∧ 1 < xs[k]?.getD 0
            · obtain ⟨h9, h1⟩ := h91
              go_wp2
              go_ret3
              go_light
              refine ⟨ret3rd ?_, rfl⟩
              obtain rfl : k = 9 := by omega
              exact rd_nine xs HL.out (by have := HE.out; omega) (by omega) h1
            · by_cases h0 : 0 < k ∧ xs[k]?.getD 0 ≤ 0
              · obtain ⟨hk0, h0⟩ := h0
                go_wp2
                all_goals go_ret3
                all_goals go_light
                all_goals exact ⟨ret3rd (rd_form xs k HL.out (by have := HE.out; omega) (by omega) hk0 (by omega)), rfl⟩
              · have HO : Hid (bits .or .u64 X (IntKind.u64.wrap (xs[k]?.getD 0 % 128 * 2 ^ (7 * k))) = val (xs.take (k + 1))) := or_val xs X k (by have := HE.out; omega) (by omega) (HX.out (by omega)) hxk.1 (fun h => by omega)
                have HR : Hid (rd xs = (val (xs.take (k + 1)), (k : Int) + 1, 0)) := rd_ok xs k HL.out (by have := HE.out; omega) (by omega) (by omega) (fun h => by omega) (fun h => by omega)
                go_wp2
                all_goals go_ret3
                all_goals go_light
                all_goals exact ⟨(ret3 HO.out (by omega) rfl).trans (ret3rd HR.out), rfl⟩
        · have HR : Hid (rd xs = (0, 0, if (N : Int) < 10 then 10 else 11)) := by
            show _ = _
            by_cases h : (N : Int) < 10
            · rw [if_pos h]; exact rd_short xs (fun j hj => hlead j (by omega)) (by omega)
            · rw [if_neg h]; exact rd_long xs (fun j hj => hlead j (by omega)) (by omega)
          clear hc hx hX hlead hlen
          go_wp2
          all_goals go_ret3
          all_goals go_light
          all_goals (refine ⟨ret3rd (HR.out.trans ?_), rfl⟩; first | rw [if_pos (by omega)] | rw [if_neg (by omega)])
    · obtain rfl : N = 10 := by have := HN.out; omega
      go_enter Tryd.func117, Tryd.ntmps117
      go_wp2
      go_loop [5, 14] (fun v i => ∃ (k : Nat) (X : Int), k ≤ 10 ∧ i = .int .i64 k ∧ v = .int .u64 X ∧ (k ≤ 9 → X = val (xs.take k)) ∧ ∀ j, j < k → 128 ≤ xs[j]?.getD 0) (fun _ i => 10 - (intOf i).toNat)
      case atStart => exact ⟨0, 0, Nat.zero_le _, rfl, rfl, fun _ => rfl, fun j hj => by omega⟩
      case round =>
        obtain ⟨k, X, hk, rfl, rfl, hX, hlead⟩ := hrel
        have HX : Hid (k ≤ 9 → X = val (xs.take k)) := hX
        have HL : Hid (∀ j, j < k → 128 ≤ xs[j]?.getD 0) := hlead
        have HE : Hid (xs.length = len) := hlen
        by_cases hlt : k < 10
        · have hcell := hc k (by omega)
          have hxk := hx k (by omega)
          clear hc hx hX hlead hlen
          by_cases hc128 : 128 ≤ xs[k]?.getD 0
          · go_wp2
            go_round
            case rel =>
              go_light
              refine ⟨k + 1, _, by omega, by go_num, rfl, fun h9 => ?_, fun j hj => ?_⟩
              · exact or_val xs X k (by have := HE.out; omega) (by omega) (HX.out (by omega)) hxk.1 (fun h => by omega)
              · rcases Nat.lt_or_ge j k with h | h
                · exact HL.out j h
                · obtain rfl : j = k := by omega
                  exact hc128
            case measure => simp [intOf]; try omega
          · by_cases h91 : 9 ≤ k ∧ 1 < xs[k]?.getD 0
            · obtain ⟨h9, h1⟩ := h91
              go_wp2
              go_ret3
              go_light
              refine ⟨ret3rd ?_, rfl⟩
              obtain rfl : k = 9 := by omega
              exact rd_nine xs HL.out (by have := HE.out; omega) (by omega) h1
            · by_cases h0 : 0 < k ∧ xs[k]?.getD 0 ≤ 0
              · obtain ⟨hk0, h0⟩ := h0
                go_wp2
                all_goals go_ret3
                all_goals go_light
                all_goals exact ⟨ret3rd (rd_form xs k HL.out (by have := HE.out; omega) (by omega) hk0 (by omega)), rfl⟩
              · have HO : Hid (bits .or .u64 X (IntKind.u64.wrap (xs[k]?.getD 0 % 128 * 2 ^ (7 * k))) = val (xs.take (k + 1))) := or_val xs X k (by have := HE.out; omega) (by omega) (HX.out (by omega)) hxk.1 (fun h => by omega)
                have HR : Hid (rd xs = (val (xs.take (k + 1)), (k : Int) + 1, 0)) := rd_ok xs k HL.out (by have := HE.out; omega) (by omega) (by omega) (fun h => by omega) (fun h => by omega)
                go_wp2
                all_goals go_ret3
                all_goals go_light
                all_goals exact ⟨(ret3 HO.out (by omega) rfl).trans (ret3rd HR.out), rfl⟩
        · have HR : Hid (rd xs = (0, 0, if (len : Int) < 10 then 10 else 11)) := by
            show _ = _
            rw [if_neg (by omega)]; exact rd_long xs (fun j hj => hlead j (by omega)) (by omega)
          clear hc hx hX hlead hlen
          go_wp2
          all_goals go_ret3
          all_goals go_light
          all_goals (refine ⟨ret3rd (HR.out.trans ?_), rfl⟩; first | rw [if_pos (by omega)] | rw [if_neg (by omega)])

end Go.Proofs.YtlmjgjimmbadeaaDoor
namespace Go.Proofs.YtlmjgjimmbadeaaDoor
open Go.RowKit
set_option linter.unusedVariables false

/-- What Uint takes up of these bytes, from place p on: the number, how many bytes, the error. -/
def ru (xs : List Int) (p : Nat) : Int × Nat × Int := ((rd (xs.drop p)).1, (rd (xs.drop p)).2.1.toNat, nm (rd (xs.drop p)).2.2)
theorem ru_le {xs : List Int} (hx : Bytes xs) (p : Nat) (hp : p ≤ xs.length) : p + (ru xs p).2.1 ≤ xs.length := by
  have := (rd_bd _ (bytes_drop hx p)).2.1
  simp only [List.length_drop] at this
  simp only [ru]; omega

set_option maxRecDepth 20000 in
theorem uint_ok (g : Nat) (a : Option Addr) (len cap : Nat) (xs : List Int) (p : Nat) (w : World) (h : RS w g a len cap xs 0 p) :
    Calls Tryd.prog 107 #[.pointer (some ⟨g, 0, none⟩)] w fun r w' => r = .returned (.int .u64 (ru xs p).1) ∧ RS w' g a len cap xs (ru xs p).2.2 (p + (ru xs p).2.1) ∧ w.grownBy w' (some g) := by
  have HR : Hid (RS w g a len cap xs 0 p) := h
  have h2 := h.rdr.c2
  have h3 := h.rdr.c3
  have hle := h.le
  have hlc := h.lc
  have hcm := h.cm
  obtain ⟨V, m, E, hrd⟩ : ∃ V m E, rd (xs.drop p) = (V, m, E) := ⟨_, _, _, rfl⟩
  have HRD : Hid (rd (xs.drop p) = (V, m, E)) := hrd
  have HD : Hid (∀ (a' : Option Addr) (n : Nat), Seg .u8 w a' (len - p) (xs.drop p) → Calls Tryd.prog 117 #[.slice a' (len - p) (cap - p)] (w.drewN n) fun e w' => e = .returned (.tuple #[.int .u64 V, .int .i64 m, .int .i64 E]) ∧ w' = w.drewN n) := by
    intro a' n hs
    have := decode_c a' (len - p) (cap - p) (xs.drop p) (w.drewN n) (hs.below (below_drewN (Below.refl _ _) n)) (bytes_drop h.bytes p) (by omega) (by omega)
    rw [hrd] at this; exact this
  have HV : Hid (m = ((m.toNat : Nat) : Int) ∧ p + m.toNat ≤ len) := by
    have := (rd_bd _ (bytes_drop h.bytes p)).2.1
    rw [hrd, List.length_drop, h.seg.1] at this; simp only at this
    exact ⟨by omega, by omega⟩
  clear hrd
  cases a with
  | none =>
    have HS : Hid (Seg .u8 w none (len - p) (xs.drop p)) := seg_from h.seg p
    clear h
    go_enter Tryd.func107, Tryd.ntmps107
    go_wp2_with fail
    refine (ready_c g 0 _ _ w HR.out.rdr).mono ?_
    rintro r w1 ⟨rfl, rfl⟩
    go_wp2_with fail
    go_quiet ((go_at_call 117; go_must (refine Calls.quiet_of_same (HD.out _ _ HS.out))))
    go_wp2
    obtain ⟨w2, hw2⟩ : ∃ w2, w2 = w1.drewN nq := ⟨_, rfl⟩
    rw [← hw2]
    have HR2 : Hid (RS w2.drew g none len cap xs 0 p) := by rw [hw2]; exact (HR.out.drewN nq).drewN 1
    have HG2 : Hid (w1.grownBy w2.drew (some g)) := by rw [hw2]; exact gb_drewN (gb_drewN (World.grownBy.refl _ _) nq) 1
    clear hw2 h2 h3 HS HR HD
    go_region_held3 (fun _ => True) (trivial) (first
      | (go_at_call 118; refine (named_c _ _).mono ?_; rintro e w3 ⟨rfl, rfl⟩)
      | (go_at_call 102; refine (rfail_ok g _ _ _ _ _ _ _ HR2.out).mono ?_; rintro e w4 ⟨rfl, hr4, hg4⟩; have HR4 : Hid (RS w4 g none len cap xs (nm E) p) := hr4; have HG4 : Hid (w1.grownBy w4 (some g)) := gb_trans HG2.out hg4; clear hr4 hg4))
    have c3 := HR4.out.rdr.c3
    have f3 := HR4.out.rdr.free 3
    go_wp2
    go_ret
    obtain ⟨hm, hpm⟩ := HV.out
    have hw : wrap64 ((p : Int) + m) = ((p + m.toNat : Nat) : Int) := by rw [IntWalk.wrap64_in _ ⟨by omega, by omega⟩]; omega
    have he : ru xs p = (V, m.toNat, nm E) := by simp [ru, HRD.out]
    rw [he, hw]
    obtain ⟨m1, m2⟩ := HR4.out.moves (p + m.toNat) hpm
    exact ⟨rfl, m1, gb_trans HG4.out m2⟩
  | some ad =>
    have HS : Hid (Seg .u8 w (if cap = p then some ad else some (ad.add p)) (len - p) (xs.drop p)) := by
      by_cases hc : cap = p
      · rw [if_pos hc]; exact ⟨by simp [h.seg.1], .inl (by omega)⟩
      · rw [if_neg hc]; exact seg_from h.seg p
    obtain ⟨a1, ha1⟩ : ∃ a1, (if cap = p then some ad else some (ad.add p)) = a1 := ⟨_, rfl⟩
    rw [ha1] at HS
    clear h
    go_enter Tryd.func107, Tryd.ntmps107
    go_wp2_with fail
    refine (ready_c g 0 _ _ w HR.out.rdr).mono ?_
    rintro r w1 ⟨rfl, rfl⟩
    go_wp2_with fail
    go_quiet ((go_at_call 117; go_must (refine Calls.quiet_of_same (HD.out _ _ HS.out))))
    go_wp2
    obtain ⟨w2, hw2⟩ : ∃ w2, w2 = w1.drewN nq := ⟨_, rfl⟩
    rw [← hw2]
    have HR2 : Hid (RS w2.drew g (some ad) len cap xs 0 p) := by rw [hw2]; exact (HR.out.drewN nq).drewN 1
    have HG2 : Hid (w1.grownBy w2.drew (some g)) := by rw [hw2]; exact gb_drewN (gb_drewN (World.grownBy.refl _ _) nq) 1
    clear hw2 h2 h3 HS HR HD ha1
    go_region_held3 (fun _ => True) (trivial) (first
      | (go_at_call 118; refine (named_c _ _).mono ?_; rintro e w3 ⟨rfl, rfl⟩)
      | (go_at_call 102; refine (rfail_ok g _ _ _ _ _ _ _ HR2.out).mono ?_; rintro e w4 ⟨rfl, hr4, hg4⟩; have HR4 : Hid (RS w4 g (some ad) len cap xs (nm E) p) := hr4; have HG4 : Hid (w1.grownBy w4 (some g)) := gb_trans HG2.out hg4; clear hr4 hg4))
    have c3 := HR4.out.rdr.c3
    have f3 := HR4.out.rdr.free 3
    go_wp2
    go_ret
    obtain ⟨hm, hpm⟩ := HV.out
    have hw : wrap64 ((p : Int) + m) = ((p + m.toNat : Nat) : Int) := by rw [IntWalk.wrap64_in _ ⟨by omega, by omega⟩]; omega
    have he : ru xs p = (V, m.toNat, nm E) := by simp [ru, HRD.out]
    rw [he, hw]
    obtain ⟨m1, m2⟩ := HR4.out.moves (p + m.toNat) hpm
    exact ⟨rfl, m1, gb_trans HG4.out m2⟩
end Go.Proofs.YtlmjgjimmbadeaaDoor
namespace Go.Proofs.YtlmjgjimmbadeaaDoor
open Go.RowKit
set_option linter.unusedVariables false

theorem uint_no (g : Nat) (e : Int) (v : Value) (p : Int) (w : World) (h : Rdr w g e v p) (he : (e == 0) = false) :
    Calls Tryd.prog 107 #[.pointer (some ⟨g, 0, none⟩)] w fun r w' => r = .returned (.int .u64 0) ∧ w' = w := by
  go_enter Tryd.func107, Tryd.ntmps107
  go_wp2_with fail
  refine (ready_c g e v p w h).mono ?_
  rintro r w1 ⟨rfl, rfl⟩
  go_wp2
  go_ret
  exact ⟨rfl, rfl⟩

theorem left_c (g : Nat) (e : Int) (a : Option Addr) (len cap p : Nat) (w : World) (h : Rdr w g e (.slice a len cap) p) (hp : p ≤ len) (hl : len ≤ 140737488355328) :
    Calls Tryd.prog 108 #[.pointer (some ⟨g, 0, none⟩)] w fun r w' => r = .returned (.int .i64 ((len - p : Nat) : Int)) ∧ ∃ n, w' = w.drewN n := by
  have h2 := h.c2
  have h3 := h.c3
  clear h
  go_enter Tryd.func108, Tryd.ntmps108
  go_wp2
  go_quiet (fail)
  go_wp2
  go_ret
  exact ⟨ret_int (by omega), _, rfl⟩

theorem at_c (g : Nat) (e : Int) (v : Value) (p : Int) (w : World) (h : Rdr w g e v p) :
    Calls Tryd.prog 98 #[.pointer (some ⟨g, 0, none⟩)] w fun r w' => r = .returned (.int .i64 p) ∧ w' = w := by
  have h3 := h.c3
  clear h
  go_enter Tryd.func98, Tryd.ntmps98
  go_wp2
  go_ret
  exact ⟨rfl, rfl⟩

/-- What End answers. -/
def rend (len : Nat) (e : Int) (p : Nat) : Int := if e = 0 then (if p < len then 34 else 0) else e
theorem end_c (g : Nat) (e : Int) (a : Option Addr) (len cap p : Nat) (w : World) (h : Rdr w g e (.slice a len cap) p) (hp : p ≤ len) (hl : len ≤ 140737488355328) :
    Calls Tryd.prog 85 #[.pointer (some ⟨g, 0, none⟩)] w fun r w' => r = .returned (.int .i64 (rend len e p)) ∧ ∃ n, w' = w.drewN n := by
  by_cases he : e = 0
  · subst he
    have HH : Hid (Rdr w g 0 (.slice a len cap) p) := h
    clear h
    have HE : Hid (rend len 0 p = if p < len then 34 else 0) := by show _ = _; simp [rend]
    by_cases hlt : p < len
    · have hd : Hid ((0 : Int) < ((len - p : Nat) : Int)) := by show _ < _; omega
      rw [if_pos hlt] at HE
      clear hlt
      obtain ⟨L, hL⟩ : ∃ L, L = len - p := ⟨_, rfl⟩
      have HC : Hid (Calls Tryd.prog 108 #[.pointer (some ⟨g, 0, none⟩)] w fun r w' => r = .returned (.int .i64 (L : Int)) ∧ ∃ n, w' = w.drewN n) := by rw [hL]; exact left_c g 0 a len cap p w HH.out hp hl
      rw [← hL] at hd
      have hd2 := hd.out
      clear hL hd
      go_enter Tryd.func85, Tryd.ntmps85
      go_wp2_with fail
      refine (err_c g 0 _ _ w HH.out).mono ?_
      rintro r w1 ⟨rfl, rfl⟩
      go_wp2_with fail
      refine HC.out.mono ?_
      rintro r w2 ⟨rfl, n, rfl⟩
      go_wp2
      go_ret
      exact ⟨ret_int HE.out.symm, _, rfl⟩
    · rw [if_neg hlt] at HE
      obtain ⟨L, hL⟩ : ∃ L, L = len - p := ⟨_, rfl⟩
      have HC : Hid (Calls Tryd.prog 108 #[.pointer (some ⟨g, 0, none⟩)] w fun r w' => r = .returned (.int .i64 (L : Int)) ∧ ∃ n, w' = w.drewN n) := by rw [hL]; exact left_c g 0 a len cap p w HH.out hp hl
      have hd2 : L = 0 := by omega
      subst hd2
      clear hL hlt
      go_enter Tryd.func85, Tryd.ntmps85
      go_wp2_with fail
      refine (err_c g 0 _ _ w HH.out).mono ?_
      rintro r w1 ⟨rfl, rfl⟩
      go_wp2_with fail
      refine HC.out.mono ?_
      rintro r w2 ⟨rfl, n, rfl⟩
      go_wp2
      go_ret
      exact ⟨ret_int HE.out.symm, _, rfl⟩
  · have hb : (e != 0) = true := by simp [he]
    have HE : Hid (rend len e p = e) := by show _ = _; simp [rend, he]
    clear he
    go_enter Tryd.func85, Tryd.ntmps85
    go_wp2_with fail
    refine (err_c g e _ _ w h).mono ?_
    rintro r w1 ⟨rfl, rfl⟩
    go_wp2
    go_ret
    exact ⟨ret_int HE.out.symm, 0, rfl⟩

/-- What Int takes up: the number, the place behind it, the error. -/
def ri (xs : List Int) (p : Nat) (most : Int) : Int × Nat × Int :=
  if most < 0 then (0, p, 1) else if (ru xs p).2.2 ≠ 0 then (0, p, (ru xs p).2.2) else if most < (ru xs p).1 then (0, p, 31) else ((ru xs p).1, p + (ru xs p).2.1, 0)

theorem int_no (g : Nat) (e : Int) (v : Value) (p : Int) (most : Int) (w : World) (h : Rdr w g e v p) (he : (e == 0) = false) :
    Calls Tryd.prog 81 #[.pointer (some ⟨g, 0, none⟩), .int .i64 most] w fun r w' => r = .returned (.int .i64 0) ∧ w' = w := by
  go_enter Tryd.func81, Tryd.ntmps81
  go_wp2_with fail
  refine (ready_c g e v p w h).mono ?_
  rintro r w1 ⟨rfl, rfl⟩
  go_wp2
  go_ret
  exact ⟨rfl, rfl⟩

theorem nm_zero {e : Int} (h0 : 0 ≤ e) : nm e = 0 ↔ e = 0 := by
  unfold nm
  split
  · omega
  · split
    · omega
    · split <;> omega
theorem ru_err {xs : List Int} (hx : Bytes xs) (p : Nat) (h : (ru xs p).2.2 ≠ 0) : (ru xs p).1 = 0 ∧ (ru xs p).2.1 = 0 := by
  have hb := (rd_bd _ (bytes_drop hx p)).2.2.1
  have h2 : (rd (xs.drop p)).2.2 ≠ 0 := fun e => h ((nm_zero hb).2 e)
  simp only [ru]
  generalize xs.drop p = ys at h2 ⊢
  unfold rd at h2 ⊢
  split
  · simp
  · split
    · simp
    · split
      · simp
      · rename_i a b c
        rw [if_neg a, if_neg b, if_neg c] at h2
        simp at h2
theorem ru_bd {xs : List Int} (hx : Bytes xs) (p : Nat) : 0 ≤ (ru xs p).1 ∧ (ru xs p).1 < 18446744073709551616 := (rd_bd _ (bytes_drop hx p)).1

set_option maxRecDepth 20000 in
theorem int_neg (g : Nat) (a : Option Addr) (len cap : Nat) (xs : List Int) (p : Nat) (most : Int) (w : World) (h : RS w g a len cap xs 0 p) (hm : most < 0) :
    Calls Tryd.prog 81 #[.pointer (some ⟨g, 0, none⟩), .int .i64 most] w fun r w' => r = .returned (.int .i64 (ri xs p most).1) ∧ RS w' g a len cap xs (ri xs p most).2.2 (ri xs p most).2.1 ∧ w.grownBy w' (some g) := by
  have he : ri xs p most = (0, p, 1) := by simp [ri, hm]
  have hd : decide (0 ≤ most) = false := by simp; omega
  rw [he]
  have HR : Hid (RS w g a len cap xs 0 p) := h
  clear h he hm
  go_enter Tryd.func81, Tryd.ntmps81
  go_wp2_with fail
  refine (ready_c g 0 _ _ w HR.out.rdr).mono ?_
  rintro r w1 ⟨rfl, rfl⟩
  go_wp2_with fail
  refine (rmust_ok g a len cap xs p 1 _ rfl HR.out).mono ?_
  rintro r w2 ⟨rfl, h1, h2⟩
  have H1 : Hid (RS w2 g a len cap xs 1 p ∧ w1.grownBy w2 (some g)) := ⟨h1, h2⟩
  clear h1 h2
  go_wp2
  go_ret
  exact ⟨rfl, H1.out.1, H1.out.2⟩

set_option maxRecDepth 20000 in
theorem int_pos (g : Nat) (a : Option Addr) (len cap : Nat) (xs : List Int) (p : Nat) (most : Int) (w : World) (h : RS w g a len cap xs 0 p) (hm : 0 ≤ most) (hm2 : most ≤ 9223372036854775807) :
    Calls Tryd.prog 81 #[.pointer (some ⟨g, 0, none⟩), .int .i64 most] w fun r w' => r = .returned (.int .i64 (ri xs p most).1) ∧ RS w' g a len cap xs (ri xs p most).2.2 (ri xs p most).2.1 ∧ w.grownBy w' (some g) := by
  have HR : Hid (RS w g a len cap xs 0 p) := h
  have hbd := ru_bd h.bytes p
  have HRR : Hid ((ru xs p).2.2 ≠ 0 → (ru xs p).1 = 0 ∧ (ru xs p).2.1 = 0) := ru_err h.bytes p
  have HU : Hid (∀ w, RS w g a len cap xs 0 p → Calls Tryd.prog 107 #[.pointer (some ⟨g, 0, none⟩)] w fun r w' => r = .returned (.int .u64 (ru xs p).1) ∧ RS w' g a len cap xs (ru xs p).2.2 (p + (ru xs p).2.1) ∧ w.grownBy w' (some g)) := fun w h => uint_ok g a len cap xs p w h
  have HI : Hid (ri xs p most = if (ru xs p).2.2 ≠ 0 then (0, p, (ru xs p).2.2) else if most < (ru xs p).1 then (0, p, 31) else ((ru xs p).1, p + (ru xs p).2.1, 0)) := by
    show _ = _
    rw [ri, if_neg (by omega)]
  obtain ⟨V, c, E, hru⟩ : ∃ V c E, ru xs p = (V, c, E) := ⟨_, _, _, rfl⟩
  rw [hru] at hbd HRR HU HI
  simp only at hbd HRR HU HI
  have h3 := h.rdr.c3
  have hple := h.le
  clear h hru
  obtain ⟨R, hR⟩ : ∃ R, R = ri xs p most := ⟨_, rfl⟩
  rw [← hR] at HI ⊢
  clear hR
  by_cases hE : E = 0
  · subst hE
    rw [if_neg (by simp)] at HI
    by_cases hv : V ≤ most
    · rw [if_neg (by omega)] at HI
      rw [HI.out]
      clear HI HRR
      go_enter Tryd.func81, Tryd.ntmps81
      go_wp2_with fail
      refine (ready_c g 0 _ _ w HR.out.rdr).mono ?_
      rintro r w1 ⟨rfl, rfl⟩
      go_wp2_with fail
      refine (must_so g 0 1 _ HR.out.rdr.c0).mono ?_
      rintro r w2 ⟨rfl, rfl⟩
      go_wp2_with fail
      refine (HU.out _ HR.out).mono ?_
      rintro r w3 ⟨rfl, h1, h2⟩
      have H1 : Hid (RS w3 g a len cap xs 0 (p + c) ∧ w2.grownBy w3 (some g)) := ⟨h1, h2⟩
      clear h1 h2
      go_wp2_with fail
      refine (must_so g 0 31 _ H1.out.1.rdr.c0).mono ?_
      rintro r w4 ⟨rfl, rfl⟩
      go_wp2
      go_ret
      exact ⟨ret_int (by omega), H1.out.1, H1.out.2⟩
    · rw [if_pos (by omega)] at HI
      rw [HI.out]
      have hd : decide (V ≤ most) = false := by simp; omega
      clear HI HRR hv
      go_enter Tryd.func81, Tryd.ntmps81
      go_wp2_with fail
      refine (ready_c g 0 _ _ w HR.out.rdr).mono ?_
      rintro r w1 ⟨rfl, rfl⟩
      go_wp2_with fail
      refine (must_so g 0 1 _ HR.out.rdr.c0).mono ?_
      rintro r w2 ⟨rfl, rfl⟩
      go_wp2_with fail
      refine (HU.out _ HR.out).mono ?_
      rintro r w3 ⟨rfl, h1, h2⟩
      have H1 : Hid (RS w3 g a len cap xs 0 (p + c) ∧ w2.grownBy w3 (some g)) := ⟨h1, h2⟩
      clear h1 h2
      go_wp2_with fail
      refine (rmust_ok g a len cap xs (p + c) 31 _ rfl H1.out.1).mono ?_
      rintro r w4 ⟨rfl, h1, h2⟩
      have H2 : Hid (RS w4 g a len cap xs 31 (p + c) ∧ w2.grownBy w4 (some g)) := ⟨h1, gb_trans H1.out.2 h2⟩
      have c3 := h1.rdr.c3
      have f3 := h1.rdr.free 3
      clear h1 h2
      go_wp2
      go_ret
      obtain ⟨m1, m2⟩ := H2.out.1.moves p hple
      exact ⟨rfl, m1, gb_trans H2.out.2 m2⟩
  · have hb : (E == 0) = false := by simp [hE]
    obtain ⟨rfl, rfl⟩ := HRR.out hE
    rw [if_pos hE] at HI
    rw [HI.out]
    clear HI HRR hE hbd
    go_enter Tryd.func81, Tryd.ntmps81
    go_wp2_with fail
    refine (ready_c g 0 _ _ w HR.out.rdr).mono ?_
    rintro r w1 ⟨rfl, rfl⟩
    go_wp2_with fail
    refine (must_so g 0 1 _ HR.out.rdr.c0).mono ?_
    rintro r w2 ⟨rfl, rfl⟩
    go_wp2_with fail
    refine (HU.out _ HR.out).mono ?_
    rintro r w3 ⟨rfl, h1, h2⟩
    have H1 : Hid (RS w3 g a len cap xs E p ∧ w2.grownBy w3 (some g)) := ⟨h1, h2⟩
    have c3 := h1.rdr.c3
    have f3 := h1.rdr.free 3
    clear h1 h2
    go_wp2_with fail
    refine (must_so g E 31 _ H1.out.1.rdr.c0).mono ?_
    rintro r w4 ⟨rfl, rfl⟩
    go_wp2
    go_ret
    obtain ⟨m1, m2⟩ := H1.out.1.moves p hple
    exact ⟨rfl, m1, gb_trans H1.out.2 m2⟩

theorem int_ok (g : Nat) (a : Option Addr) (len cap : Nat) (xs : List Int) (p : Nat) (most : Int) (w : World) (h : RS w g a len cap xs 0 p) (hm2 : most ≤ 9223372036854775807) :
    Calls Tryd.prog 81 #[.pointer (some ⟨g, 0, none⟩), .int .i64 most] w fun r w' => r = .returned (.int .i64 (ri xs p most).1) ∧ RS w' g a len cap xs (ri xs p most).2.2 (ri xs p most).2.1 ∧ w.grownBy w' (some g) := by
  by_cases hm : most < 0
  · exact int_neg g a len cap xs p most w h hm
  · exact int_pos g a len cap xs p most w h (by omega) hm2
theorem ri_bd {xs : List Int} (hx : Bytes xs) (p : Nat) (hp : p ≤ xs.length) (most : Int) : 0 ≤ (ri xs p most).1 ∧ ((ri xs p most).1 ≤ most ∨ (ri xs p most).1 = 0) ∧ p ≤ (ri xs p most).2.1 ∧ (ri xs p most).2.1 ≤ xs.length ∧ ((ri xs p most).2.2 ≠ 0 → (ri xs p most).1 = 0 ∧ (ri xs p most).2.1 = p) := by
  have h1 := ru_bd hx p
  have h2 := ru_le hx p hp
  unfold ri
  split
  · simp; omega
  · split
    · simp; omega
    · split
      · simp; omega
      · simp only; refine ⟨h1.1, .inl (by omega), by omega, h2, fun h => absurd rfl h⟩
end Go.Proofs.YtlmjgjimmbadeaaDoor
namespace Go.Proofs.YtlmjgjimmbadeaaDoor
open Go.RowKit
set_option linter.unusedVariables false

theorem left_r (g : Nat) (a : Option Addr) (len cap : Nat) (xs : List Int) (e : Int) (p : Nat) (w : World) (h : RS w g a len cap xs e p) :
    Calls Tryd.prog 108 #[.pointer (some ⟨g, 0, none⟩)] w fun r w' => r = .returned (.int .i64 ((len - p : Nat) : Int)) ∧ RS w' g a len cap xs e p ∧ w.grownBy w' (some g) :=
  (left_c g e a len cap p w h.rdr h.le h.lm).mono (fun _ _ ⟨h1, n, h2⟩ => ⟨h1, by rw [h2]; exact ⟨h.drewN n, gb_drewN (World.grownBy.refl _ _) n⟩⟩)
theorem must_r (g : Nat) (a : Option Addr) (len cap : Nat) (xs : List Int) (e : Int) (p : Nat) (x : Int) (w : World) (h : RS w g a len cap xs e p) :
    Calls Tryd.prog 72 #[.pointer (some ⟨g, 0, none⟩), .bool true, .int .i64 x] w fun r w' => r = .returned (.bool (e == 0)) ∧ RS w' g a len cap xs e p ∧ w.grownBy w' (some g) :=
  (must_so g e x w h.rdr.c0).mono (fun _ _ ⟨h1, h2⟩ => ⟨h1, by rw [h2]; exact ⟨h, World.grownBy.refl _ _⟩⟩)
theorem must_n (g : Nat) (a : Option Addr) (len cap : Nat) (xs : List Int) (e : Int) (p : Nat) (x : Int) (w : World) (h : RS w g a len cap xs e p) (he : (e == 0) = false) (b : Bool) :
    Calls Tryd.prog 72 #[.pointer (some ⟨g, 0, none⟩), .bool b, .int .i64 x] w fun r w' => r = .returned (.bool false) ∧ RS w' g a len cap xs e p ∧ w.grownBy w' (some g) := by
  cases b with
  | false => exact (must_no g e x w h.rdr.c0 he).mono (fun _ _ ⟨h1, h2⟩ => ⟨h1, by rw [h2]; exact ⟨h, World.grownBy.refl _ _⟩⟩)
  | true => exact (must_so g e x w h.rdr.c0).mono (fun _ _ ⟨h1, h2⟩ => ⟨by rw [h1, he], by rw [h2]; exact ⟨h, World.grownBy.refl _ _⟩⟩)

set_option maxRecDepth 20000 in
theorem take_no (g : Nat) (a : Option Addr) (len cap : Nat) (xs : List Int) (e : Int) (p : Nat) (n : Int) (w : World) (h : RS w g a len cap xs e p) (he : (e == 0) = false) :
    Calls Tryd.prog 119 #[.pointer (some ⟨g, 0, none⟩), .int .i64 n] w fun r w' => r = .returned (.slice none 0 0) ∧ RS w' g a len cap xs e p ∧ w.grownBy w' (some g) := by
  have HR : Hid (RS w.drew g a len cap xs e p) := h.drewN 1
  have HG : Hid (w.grownBy w.drew (some g)) := gb_drewN (World.grownBy.refl _ _) 1
  obtain ⟨L, hL⟩ : ∃ L, L = len - p := ⟨_, rfl⟩
  have HL : Hid (∀ w, RS w g a len cap xs e p → Calls Tryd.prog 108 #[.pointer (some ⟨g, 0, none⟩)] w fun r w' => r = .returned (.int .i64 (L : Int)) ∧ RS w' g a len cap xs e p ∧ w.grownBy w' (some g)) := by rw [hL]; exact fun w h => left_r g a len cap xs e p w h
  have HE : Hid ((e == 0) = false) := he
  clear h hL he
  go_enter Tryd.func119, Tryd.ntmps119
  go_wp2
  go_region_held3 (fun _ => True) (trivial) (first
    | (go_at_call 108; refine (HL.out _ HR.out).mono ?_; rintro r w1 ⟨rfl, h1, h2⟩; have H1 : Hid (RS w1 g a len cap xs e p ∧ w.grownBy w1 (some g)) := ⟨h1, gb_trans HG.out h2⟩; clear h1 h2)
    | (go_at_call 72; refine (must_n g a len cap xs e p _ _ H1.out.1 HE.out _).mono ?_; rintro r w2 ⟨rfl, h1, h2⟩; have H2 : Hid (RS w2 g a len cap xs e p ∧ w.grownBy w2 (some g)) := ⟨h1, gb_trans H1.out.2 h2⟩; clear h1 h2))
  go_wp2
  go_ret
  exact ⟨rfl, H2.out.1, H2.out.2⟩

set_option maxRecDepth 20000 in
theorem take_short (g : Nat) (a : Option Addr) (len cap : Nat) (xs : List Int) (p : Nat) (n : Int) (w : World) (h : RS w g a len cap xs 0 p) (hn : ((len - p : Nat) : Int) < n) :
    Calls Tryd.prog 119 #[.pointer (some ⟨g, 0, none⟩), .int .i64 n] w fun r w' => r = .returned (.slice none 0 0) ∧ RS w' g a len cap xs 30 p ∧ w.grownBy w' (some g) := by
  have HR : Hid (RS w.drew g a len cap xs 0 p) := h.drewN 1
  have HG : Hid (w.grownBy w.drew (some g)) := gb_drewN (World.grownBy.refl _ _) 1
  obtain ⟨L, hL⟩ : ∃ L, L = len - p := ⟨_, rfl⟩
  have HL : Hid (∀ w, RS w g a len cap xs 0 p → Calls Tryd.prog 108 #[.pointer (some ⟨g, 0, none⟩)] w fun r w' => r = .returned (.int .i64 (L : Int)) ∧ RS w' g a len cap xs 0 p ∧ w.grownBy w' (some g)) := by rw [hL]; exact fun w h => left_r g a len cap xs 0 p w h
  rw [← hL] at hn
  have hd : decide (n ≤ (L : Int)) = false := by simp; omega
  clear h hL hn
  go_enter Tryd.func119, Tryd.ntmps119
  go_wp2
  go_region_held3 (fun _ => True) (trivial) (first
    | (go_at_call 108; refine (HL.out _ HR.out).mono ?_; rintro r w1 ⟨rfl, h1, h2⟩; have H1 : Hid (RS w1 g a len cap xs 0 p ∧ w.grownBy w1 (some g)) := ⟨h1, gb_trans HG.out h2⟩; clear h1 h2)
    | (go_at_call 72; refine (rmust_ok g a len cap xs p 30 _ rfl H1.out.1).mono ?_; rintro r w2 ⟨rfl, h1, h2⟩; have H2 : Hid (RS w2 g a len cap xs 30 p ∧ w.grownBy w2 (some g)) := ⟨h1, gb_trans H1.out.2 h2⟩; clear h1 h2))
  go_wp2
  go_ret
  exact ⟨rfl, H2.out.1, H2.out.2⟩

set_option maxRecDepth 20000 in
theorem take_ok (g : Nat) (a : Option Addr) (len cap : Nat) (xs : List Int) (p n : Nat) (w : World) (h : RS w g a len cap xs 0 p) (hn : n ≤ len - p) :
    Calls Tryd.prog 119 #[.pointer (some ⟨g, 0, none⟩), .int .i64 (n : Int)] w fun r w' => ∃ a1 c1, r = .returned (.slice a1 n c1) ∧ Seg .u8 w' a1 n ((xs.drop p).take n) ∧ (∀ b o s, a1 = some ⟨b, o, s⟩ → ∃ ad, a = some ad ∧ ad.block = b) ∧ RS w' g a len cap xs 0 (p + n) ∧ w.grownBy w' (some g) := by
  have HR : Hid (RS w.drew g a len cap xs 0 p) := h.drewN 1
  have HG : Hid (w.grownBy w.drew (some g)) := gb_drewN (World.grownBy.refl _ _) 1
  obtain ⟨L, hL⟩ : ∃ L, L = len - p := ⟨_, rfl⟩
  have HL : Hid (∀ w, RS w g a len cap xs 0 p → Calls Tryd.prog 108 #[.pointer (some ⟨g, 0, none⟩)] w fun r w' => r = .returned (.int .i64 (L : Int)) ∧ RS w' g a len cap xs 0 p ∧ w.grownBy w' (some g)) := by rw [hL]; exact fun w h => left_r g a len cap xs 0 p w h
  rw [← hL] at hn
  have hd : decide (n ≤ L) = true := by simp; omega
  have hle := h.le
  have hlc := h.lc
  have hlm := h.lm
  have hcm := h.cm
  have HP : Hid (p + n ≤ len) := by show _ ≤ _; omega
  have hpn := HP.out
  clear h hL hn
  cases a with
  | none =>
    go_enter Tryd.func119, Tryd.ntmps119
    go_wp2
    go_region_held3 (fun _ => True) (trivial) (first
      | (go_at_call 108; refine (HL.out _ HR.out).mono ?_; rintro r w1 ⟨rfl, h1, h2⟩; have H1 : Hid (RS w1 g none len cap xs 0 p ∧ w.grownBy w1 (some g)) := ⟨h1, gb_trans HG.out h2⟩; clear h1 h2)
      | (go_at_call 72; refine (must_r g none len cap xs 0 p 30 _ H1.out.1).mono ?_; rintro r w2 ⟨rfl, h1, h2⟩; have H2 : Hid (RS w2 g none len cap xs 0 p ∧ w.grownBy w2 (some g)) := ⟨h1, gb_trans H1.out.2 h2⟩; clear h1 h2))
    have c2 := H2.out.1.rdr.c2
    have c3 := H2.out.1.rdr.c3
    go_wp2
    go_quiet (fail)
    obtain ⟨w3, hw3⟩ : ∃ w3, w3 = w2.drewN nq := ⟨_, rfl⟩
    rw [← hw3]
    have H3 : Hid (RS w3 g none len cap xs 0 p ∧ w.grownBy w3 (some g)) := by rw [hw3]; exact ⟨H2.out.1.drewN _, gb_drewN H2.out.2 _⟩
    clear c2 c3 hw3
    have c3 := H3.out.1.rdr.c3
    have f3 := H3.out.1.rdr.free 3
    go_wp2
    go_ret
    have e1 : p + n - p = n := by omega
    have e2 : (p : Int) + (n : Int) = ((p + n : Nat) : Int) := by omega
    obtain ⟨m1, m2⟩ := H3.out.1.moves (p + n) hpn
    rw [← e2] at m1 m2
    simp only [e1]
    refine ⟨_, _, rfl, ?_, ?_, m1, gb_trans H3.out.2 m2⟩
    · have := m1.seg
      refine ⟨by simp [this.1]; omega, .inl ?_⟩
      rcases this.2 with h0 | ⟨_, _, h, _⟩
      · omega
      · cases h
    · intro b o s h; cases h
  | some ad =>
    obtain ⟨a1, ha1⟩ : ∃ a1, (if cap = p then some ad else some (ad.add p)) = a1 := ⟨_, rfl⟩
    have HA : Hid ((if cap = p then some ad else some (ad.add p)) = a1) := ha1
    go_enter Tryd.func119, Tryd.ntmps119
    go_wp2
    go_region_held3 (fun _ => True) (trivial) (first
      | (go_at_call 108; refine (HL.out _ HR.out).mono ?_; rintro r w1 ⟨rfl, h1, h2⟩; have H1 : Hid (RS w1 g (some ad) len cap xs 0 p ∧ w.grownBy w1 (some g)) := ⟨h1, gb_trans HG.out h2⟩; clear h1 h2)
      | (go_at_call 72; refine (must_r g (some ad) len cap xs 0 p 30 _ H1.out.1).mono ?_; rintro r w2 ⟨rfl, h1, h2⟩; have H2 : Hid (RS w2 g (some ad) len cap xs 0 p ∧ w.grownBy w2 (some g)) := ⟨h1, gb_trans H1.out.2 h2⟩; clear h1 h2))
    have c2 := H2.out.1.rdr.c2
    have c3 := H2.out.1.rdr.c3
    go_wp2
    go_quiet (fail)
    obtain ⟨w3, hw3⟩ : ∃ w3, w3 = w2.drewN nq := ⟨_, rfl⟩
    rw [← hw3]
    have H3 : Hid (RS w3 g (some ad) len cap xs 0 p ∧ w.grownBy w3 (some g)) := by rw [hw3]; exact ⟨H2.out.1.drewN _, gb_drewN H2.out.2 _⟩
    clear c2 c3 hw3
    have c3 := H3.out.1.rdr.c3
    have f3 := H3.out.1.rdr.free 3
    go_wp2
    go_ret
    have e1 : p + n - p = n := by omega
    have e2 : (p : Int) + (n : Int) = ((p + n : Nat) : Int) := by omega
    obtain ⟨m1, m2⟩ := H3.out.1.moves (p + n) hpn
    rw [← e2] at m1 m2
    simp only [e1]
    refine ⟨_, _, rfl, ?_, ?_, m1, gb_trans H3.out.2 m2⟩
    · have hs := m1.seg
      have hln : ((xs.drop p).take n).length = n := by simp [hs.1]; omega
      by_cases hc : cap = p
      · exact ⟨hln, .inl (by omega)⟩
      · have ha := HA.out
        rw [if_neg hc] at ha
        have h2 := seg_from hs p
        refine ⟨hln, ?_⟩
        rcases h2.2 with h0 | ⟨b, off, hb, hw, hcell⟩
        · exact .inl (by omega)
        · refine .inr ⟨b, off, by rw [← ha]; exact hb, hw, fun i hi => ?_⟩
          rw [hcell i (by omega), List.getElem?_take_of_lt hi]
    · intro b o s h
      have ha := HA.out
      rw [h] at ha
      by_cases hc : cap = p
      · rw [if_pos hc] at ha; exact ⟨_, rfl, by rw [Option.some.inj ha]⟩
      · rw [if_neg hc] at ha
        have hx := Option.some.inj ha
        refine ⟨_, rfl, ?_⟩
        have : (ad.add p).block = ad.block := by unfold Addr.add; split <;> rfl
        rw [← this, hx]
end Go.Proofs.YtlmjgjimmbadeaaDoor
namespace Go.Proofs.YtlmjgjimmbadeaaDoor
open Go.RowKit
set_option linter.unusedVariables false

theorem gb_newer {a b c : World} {N : Nat} (h : a.grownBy b none) (k : b.grownBy c (some N)) (hN : a.heap.size ≤ N) : a.grownBy c none :=
  ⟨k.os.trans h.os, k.tape.trans h.tape, k.output.trans h.output, Nat.le_trans h.size k.size, fun i hi hn => (k.block i (Nat.lt_of_lt_of_le hi h.size) (fun e => by cases e; omega)).trans (h.block i hi hn)⟩
end Go.Proofs.YtlmjgjimmbadeaaDoor
namespace Go.Proofs.YtlmjgjimmbadeaaDoor
open Go.RowKit
set_option linter.unusedVariables false

theorem made_row {w0 w1 : World} {n : Nat} (hown : w1.ownsRow w0.heap.size 5 1 (.slice (some ⟨w0.heap.size, 0, none⟩) n n) n (madeCells (Value.int .u8 0).cells (n * 1)).toList) : Row .u8 5 w1 w0.heap.size (List.replicate n 0) :=
  row_of_own _ hown (by rw [List.map_replicate]; simpa [Value.cells] using toList_madeCells_one (.int .u8 0) n)
theorem slice_row (N n m : Nat) (hm : m ≤ n) (W : World) : Sem.run Tryd.prog (Instr.slice 27 (.slice (some ⟨N, 0, none⟩) n n) (some (.int .i64 (m : Int))) none none) W = .ok (.slice (if n = m then some ⟨N, 0, none⟩ else some ⟨N, m, none⟩) (n - m) (n - m)) W := by
  obtain ⟨i0, hi, hz0, hz1, hz2⟩ := info_parts Tryd.infoU8
  have hel : Tryd.prog.elem 27 = 5 := by simp [Program.elem]
  rw [run_slice_l W 27 (some ⟨N, 0, none⟩) n n (by rw [hel]; exact Tryd.underlying27) .i64 m (by omega) (by omega)]
  rw [hel]
  by_cases h : n = m
  · subst h; simp [sizeOf, typeInfo, hi, sliced]
  · simp [sizeOf, typeInfo, hi, sliced, hz1, h, Go.WideShapes.add_plain]
/-- Where Bytes stands behind its make. -/
def Made (w0 w1 : World) (g : Nat) (d : Option Addr) (ps : List Int) (u n N : Nat) : Prop := Wr w1 g 0 (.pointer d) ps u n ∧ (∃ X : List Int, X.length = n ∧ Row .u8 5 w1 N X) ∧ w0.grownBy w1 none ∧ w0.heap.size = N
theorem made_mk {w0 w1 : World} {g n u : Nat} {d : Option Addr} {ps : List Int} (h : Wr w0 g 0 (.pointer d) ps u n) (hown : w1.ownsRow w0.heap.size 5 1 (.slice (some ⟨w0.heap.size, 0, none⟩) n n) n (madeCells (Value.int .u8 0).cells (n * 1)).toList) (hg : w0.grownBy w1 none) : Made w0 w1 g d ps u n w0.heap.size :=
  ⟨h.gr (G := fun _ => False) (Gr.of hg (by simp)) (fun h => h), ⟨_, by simp, made_row hown⟩, hg, rfl⟩

/-- copy into a row of bytes, as one step of a region that draws. -/
theorem step_copyR {ops : Array Oper} {o : Oper} {a : Act} {w : World} {K : Act → World → Prop} {Q : Exit → Act → World → Prop} {E : Prop} (hgd : o.guard = none) (dO sO : Operand)
    (ho : o.op = .call { callee := .builtin .copy, args := #[dO, sO], argTypes := #[27, 27] }) (dp sp : Option Addr) (dLen dCap sLen sCap : Nat) (hd : a.eval dO = .slice dp dLen dCap) (hs : a.eval sO = .slice sp sLen sCap)
    (N k : Nat) (X xs : List Int) (hw : Row .u8 5 w N X) (hx : Seg .u8 w sp sLen xs) (hle : k + sLen ≤ X.length) (hdl : sLen ≤ dLen) (hdp : 0 < sLen → dp = some ⟨N, k, none⟩)
    (h : ∀ w', Row .u8 5 w' N (splice X k xs) → w.grownBy w' (some N) → K (a.put o.dst (.int .i64 (sLen : Int))) w') :
    if Region.wanted o (yielded ops a.tmps) = true then Oper.wp Tryd.prog o a w K Q else E := by
  have hwt : Region.wanted o (yielded ops a.tmps) = true := by simp [Region.wanted, hgd]
  rw [if_pos hwt]
  obtain ⟨i0, hi, hz0, hz1, hz2⟩ := info_parts Tryd.infoU8
  have hsz : (Tryd.prog.info? 5).map (·.size) = some 1 := by rw [hi]; simp [hz1]
  have hlx := hx.1
  by_cases h0 : sLen = 0
  · subst h0
    obtain rfl : xs = [] := List.eq_nil_of_length_eq_zero hlx
    have hrun := run_copy_none (P := Tryd.prog) w 27 27 o.type 5 dp sp dLen dCap 0 sCap Tryd.underlying27 hsz (by simp)
    unfold Oper.wp
    simp [execOp, ho, resolve, invoke, builtin, hd, hs, hrun, Result.andThen]
    exact h w (by simpa [splice] using hw) (World.grownBy.refl _ _)
  · obtain rfl := hdp (by omega)
    rcases hx.2 with h' | ⟨b, off, rfl, hb, hc⟩
    · omega
    · have hmin : Nat.min sLen dLen = sLen := Nat.min_eq_left hdl
      have hrun := run_copy_row (P := Tryd.prog) w 27 27 o.type 5 N k dLen dCap ⟨b, off, none⟩ sLen sCap (X.map (Value.int .u8)).toArray 5 (xs.map (Value.int .u8)) Tryd.underlying27 hsz hw (by rw [hmin]; simpa using hlx) (seg_news' hx _ rfl) (by simp; omega) (by intro v hv; obtain ⟨z, _, rfl⟩ := List.mem_map.1 hv; rfl)
      unfold Oper.wp
      simp only [execOp, ho, resolve, invoke, builtin, hd, hs, hrun, Result.andThen, Sem.run_bind, Sem.run_pure, List.map_toArray, List.map_cons, List.map_nil]
      have hln : goInt ((xs.map (Value.int .u8)).length : Int) = .int .i64 (sLen : Int) := by simp [goInt, hlx]
      rw [hln]
      refine h _ ?_ ?_
      · have e1 := setRow_heap w N _ ((X.map (Value.int .u8)).toArray.toList.take k ++ xs.map (Value.int .u8) ++ (X.map (Value.int .u8)).toArray.toList.drop (k + (xs.map (Value.int .u8)).length)).toArray 5 _ hw
        unfold Row
        rw [e1]
        simp [splice]
      · exact ⟨rfl, rfl, rfl, by simp [World.setRow], fun k _ hk => setRow_other w N k _ (fun e => hk (by rw [e]))⟩

/-- Where Bytes stands in its rounds: what lies behind the bytes of the blocks to come is laid down. -/
def Half (w0 wr : World) (N n : Nat) (cs ys : List Int) : Prop := ∃ X rest : List Int, X.length = n ∧ ys = cs ++ rest ∧ X.drop cs.length = rest ∧ n = ys.length ∧ Row .u8 5 wr N X ∧ w0.grownBy wr none
theorem half_start {w0 w2 w3 : World} {g n u m N : Nat} {d : Option Addr} {ps cs ys X : List Int} (h : Made w0 w2 g d ps u n N) (hm : n = m + u) (hX : X.length = n) (hu : u ≤ 256) (hy : ys = cs ++ ps.take u) (hn : n = ys.length) (h3 : Row .u8 5 w3 N (splice X m (ps.take u))) (hg : w2.drew.grownBy w3 (some N)) : cs.length = m ∧ Half w0 w3 N n cs ys := by
  have hl : (ps.take u).length = u := by simp [h.1.2]; omega
  have hc : cs.length = m := by have := congrArg List.length hy; rw [List.length_append, hl] at this; omega
  refine ⟨hc, splice X m (ps.take u), ps.take u, by rw [length_splice _ _ _ (by rw [hl]; omega)]; exact hX, hy, ?_, hn, h3, gb_newer (gb_drewN h.2.2.1 1) hg (by have := h.2.2.2; omega)⟩
  rw [hc]
  unfold splice
  rw [List.drop_append_of_le_length (by simp; omega), List.drop_eq_nil_of_le (by simp; omega), List.nil_append, hl, List.drop_eq_nil_of_le (by omega), List.append_nil]
theorem half_step {w0 w1 w2 : World} {N n : Nat} {cs zs ys rest X : List Int} (hX : X.length = n) (hy : ys = cs ++ zs ++ rest) (hr : X.drop (cs ++ zs).length = rest) (hn : n = ys.length) (hg0 : w0.grownBy w1 none) (h3 : Row .u8 5 w2 N (splice X cs.length zs)) (hg : w1.grownBy w2 (some N)) (hN : w0.heap.size ≤ N) : Half w0 w2 N n cs ys := by
  have hl := congrArg List.length hy
  rw [List.length_append, List.length_append] at hl
  refine ⟨_, zs ++ rest, ?_, by rw [hy, List.append_assoc], ?_, hn, h3, gb_newer hg0 hg hN⟩
  · rw [length_splice _ _ _ (by omega)]; exact hX
  · unfold splice
    rw [List.drop_append_of_le_length (by simp; omega), List.drop_eq_nil_of_le (by simp; omega), List.nil_append]
    rw [List.length_append] at hr
    rw [hr]
theorem half_end {w0 w1 : World} {N n : Nat} {ys : List Int} (h : Half w0 w1 N n [] ys) : Row .u8 5 w1 N ys := by
  obtain ⟨X, rest, hX, hy, hr, _, h3, _⟩ := h
  simp only [List.length_nil, List.drop_zero] at hr
  rw [hy, List.nil_append, ← hr]; exact h3

set_option maxRecDepth 20000 in
set_option maxHeartbeats 800000 in
theorem wbytes_ok (g : Nat) (ys : List Int) (fs : List Nat) (w : World) (h : WS w g ys 0 fs) (hb : ys.length ≤ 140737488355328) :
    Calls Tryd.prog 74 #[.pointer (some ⟨g, 0, none⟩)] w fun r w' => ∃ b, r = .returned (.tuple #[.slice (some ⟨b, 0, none⟩) ys.length ys.length, .int .i64 0]) ∧ w.heap.size ≤ b ∧ Row .u8 5 w' b ys ∧ Below w.heap.size w w' := by
  obtain ⟨i0, hi, hz0, hz1, hz2⟩ := info_parts Tryd.infoU8
  have HWL : Hid (Calls Tryd.prog 101 #[.pointer (some ⟨g, 0, none⟩)] w fun r w' => r = .returned (.bool true) ∧ w' = w) := well_c g 0 w h.c0
  obtain ⟨d, ps, u, cs, h1, h2, h3, h4, h5, h6⟩ := h
  obtain ⟨n, hn⟩ : ∃ n, n = ys.length := ⟨_, rfl⟩
  have hun : u ≤ n := by rw [hn, h4]; simp [h1.2]; omega
  rw [← hn] at h1 hb ⊢
  have c1 := h1.c1
  have cU := h1.cU
  have cN := h1.cN
  have HW : Hid (Wr w g 0 (.pointer d) ps u n) := h1
  have HCH : Hid (Chain w d cs fs) := h2
  have HY : Hid (ys = cs ++ ps.take u ∧ n = ys.length ∧ g ∉ fs) := ⟨h4, hn, h5⟩
  clear h1 h2 h4 h5 h6 hn
  go_enter Tryd.func74, Tryd.ntmps74
  go_wp2_with fail
  refine Calls.mono HWL.out ?_
  rintro r w0 ⟨rfl, rfl⟩
  go_wp2_with (at_make; go_must (refine wpList_make_full _ rfl _ _ 27 rfl w0.heap.size 5 i0 (.int .u8 0) 1 Tryd.underlying27 hi hz0 hz1 _ _ _ _ n rfl rfl (by omega) (by omega) (by rw [hz2]; omega) (by unfold maxLen; omega) (Nat.le_refl _) ?_); intro w1 hown hgrow; have H1 : Hid (Made w0 w1 g d ps u n w0.heap.size) := made_mk HW.out hown hgrow; have k1 := H1.out.1.c1; have kU := H1.out.1.cU; have kN := H1.out.1.cN; clear hown hgrow)
  obtain ⟨m, hm⟩ : ∃ m, n = m + u := ⟨n - u, by omega⟩
  have hsub : (n : Int) - (u : Int) = (m : Int) := by omega
  have hwr : IntKind.i64.wrap (m : Int) = (m : Int) := by rw [IntKind.wrap_i64]; omega
  obtain ⟨N, hN⟩ : ∃ N, N = w0.heap.size := ⟨_, rfl⟩
  rw [← hN] at H1 ⊢
  replace hN : Hid _ := hN
  clear c1 cU cN hi hz0 hz1 hz2
  have HM : Hid (n = m + u) := hm
  have hmn : m ≤ n := by omega
  clear hm
  go_quiet (fail)
  go_wp2_with fail
  have H2 : Hid (Made w0 (w1.drewN nq) g d ps u n N) := ⟨H1.out.1.gr ((Gr.refl (fun _ => False) w1).drewN nq) (fun h => h), H1.out.2.1.imp (fun X h => ⟨h.1, h.2.drewN nq⟩), gb_drewN H1.out.2.2.1 nq, H1.out.2.2.2⟩
  generalize w1.drewN nq = w2 at H2 ⊢
  clear H1 k1 kU kN hsub hwr
  have kU := H2.out.1.cU
  obtain ⟨dp, hdp, HD⟩ : ∃ dp, (if n = m then some (⟨N, 0, none⟩ : Addr) else some ⟨N, m, none⟩) = dp ∧ Hid (0 < u → dp = some ⟨N, m, none⟩) := ⟨_, rfl, fun h => by rw [if_neg (by have := HM.out; omega)]⟩
  have hslc := slice_row N n m hmn
  have hul : n - m = u := by have := HM.out; omega
  rw [hdp, hul] at hslc
  have hsl := slice_to g u h3
  obtain ⟨X, hX⟩ := H2.out.2.1
  have HX : Hid (X.length = n ∧ Row .u8 5 w2 N X ∧ Seg .u8 w2 (some ⟨g, 2, none⟩) u (ps.take u)) := ⟨hX.1, hX.2, H2.out.1.part u h3⟩
  clear hX
  go_region_law (refine step_copyR rfl (.tmp 35) (.tmp 43) rfl dp (some ⟨g, 2, none⟩) u u u 256 rfl rfl N m X (ps.take u) HX.out.2.1 HX.out.2.2 (by rw [HX.out.1]; have := HM.out; omega) (Nat.le_refl _) HD.out ?_; intro w3 hr3 hg3; have H3 : Hid (Row .u8 5 w3 N (splice X m (ps.take u)) ∧ w2.drew.grownBy w3 (some N)) := ⟨hr3, hg3⟩; clear hr3 hg3)
  have HH := half_start H2.out HM.out HX.out.1 h3 HY.out.1 HY.out.2.1 H3.out.1 H3.out.2
  obtain ⟨rfl, hh⟩ := HH
  have H4 : Hid (Half w0 w3 N n cs ys ∧ Wr w3 g 0 (.pointer d) ps u n) := by
    obtain ⟨_, _, _, _, _, _, _, hgb⟩ := id hh
    exact ⟨hh, HW.out.gr (G := fun _ => False) (Gr.of hgb (by simp)) (fun h => h)⟩
  have k1 := H4.out.2.c1
  have HNN : Hid (w0.heap.size ≤ N ∧ n = ys.length) := ⟨by rw [hN.out]; exact Nat.le_refl _, HY.out.2.1⟩
  clear hh H2 H3 HX HD hdp hslc hsl hul kU HM hN HWL HW HY hun h3
  go_wp2
  go_loopw [5, 6] (fun at' p wr => ∃ (d' : Option Addr) (cs' : List Int) (fs' : List Nat), at' = .int .i64 (cs'.length : Int) ∧ p = .pointer d' ∧ Hid (Chain w0 d' cs' fs' ∧ Half w0 wr N n cs' ys)) (fun at' _ _ => (intOf at').toNat)
  case atStart => exact ⟨d, cs, fs, rfl, rfl, HCH.out, H4.out.1⟩
  case round =>
    obtain ⟨d', cs', fs', rfl, rfl, HI⟩ := hrel
    obtain ⟨hch, hhf⟩ := HI.out
    clear k1 H4
    rcases hch.ways with ⟨rfl, rfl, rfl⟩ | ⟨b, k, cap, d2, ys2, zs, fs2, rfl, rfl, rfl, hb, hs, hk, hz, hc⟩
    · skip
      have H5 : Hid (Row .u8 5 wr N ys ∧ w0.grownBy wr none) := by
        obtain ⟨_, _, _, _, _, _, _, hgb⟩ := id hhf
        exact ⟨half_end hhf, hgb⟩
      clear hhf HI
      go_wp2
      go_ret2
      exact ⟨N, rfl, HNN.out.1, H5.out.1, ⟨H5.out.2.os, H5.out.2.tape, H5.out.2.output, H5.out.2.size, fun k hk => H5.out.2.block k hk (by simp)⟩⟩
    · skip
      obtain ⟨X', rest, hX, hy, hr, hn, hrow, hgb⟩ := hhf
      obtain ⟨A, hA⟩ : ∃ A, A = (ys2 ++ zs).length := ⟨_, rfl⟩
      obtain ⟨L, hL⟩ : ∃ L, L = ys2.length := ⟨_, rfl⟩
      obtain ⟨Z, hZ⟩ : ∃ Z, Z = zs.length := ⟨_, rfl⟩
      have hALZ : A = L + Z := by rw [hA, hL, hZ, List.length_append]
      have hAn : A ≤ n := by
        have := congrArg List.length hy
        rw [List.length_append, ← hA] at this; omega
      rw [← hZ] at hb hs hz
      have hbr : Bk 149 wr b #[.pointer d2, .slice (some ⟨k, 0, none⟩) Z cap] := hb.grew hgb (by simp)
      have b0 : wr.cell? ⟨b, 0, none⟩ = some (.pointer d2) := by rw [hbr.cell 0]; rfl
      have b1 : wr.cell? ⟨b, 1, none⟩ = some (.slice (some ⟨k, 0, none⟩) Z cap) := by rw [hbr.cell 1]; rfl
      have hsubA : (A : Int) - (Z : Int) = (L : Int) := by omega
      have hwrA : IntKind.i64.wrap (L : Int) = (L : Int) := by rw [IntKind.wrap_i64]; omega
      have hLn : L ≤ n := by omega
      have HZ : Hid (Seg .u8 wr (some ⟨k, 0, none⟩) Z zs ∧ X'.length = n ∧ Row .u8 5 wr N X' ∧ L + Z ≤ X'.length ∧ Z ≤ n - L ∧ Bk 149 wr b #[.pointer d2, .slice (some ⟨k, 0, none⟩) Z cap] ∧ b < w0.heap.size ∧ 0 < Z) := ⟨hs.grew hgb (by simp), hX, hrow, by omega, by omega, hbr, lt_of_block hb, hz⟩
      have HST : Hid (∀ w4, Row .u8 5 w4 N (splice X' L zs) → wr.grownBy w4 (some N) → Half w0 w4 N n ys2 ys) := fun w4 h3 hg => half_step hX hy hr hn hgb (hL ▸ h3) hg HNN.out.1
      have HC2 : Hid (Chain w0 d2 ys2 fs2) := hc
      have HA : Hid (A = L + Z ∧ L = ys2.length) := ⟨hALZ, hL⟩
      rw [← hA]
      clear HI hX hy hr hn hrow hgb hb hs hk hz hc hA hL hZ hALZ hbr hAn
      go_wp2_with fail
      obtain ⟨dp2, hdp2, HD2⟩ : ∃ dp2, (if n = L then some (⟨N, 0, none⟩ : Addr) else some ⟨N, L, none⟩) = dp2 ∧ Hid (0 < Z → dp2 = some ⟨N, L, none⟩) := ⟨_, rfl, fun h => by rw [if_neg (by have := HZ.out.2.2.2.2.1; omega)]⟩
      clear hsubA hwrA
      go_region_law (refine step_copyR rfl (.tmp 64) (.tmp 68) rfl dp2 (some ⟨k, 0, none⟩) (n - L) (n - L) Z cap rfl rfl N L X' zs HZ.out.2.2.1 HZ.out.1 HZ.out.2.2.2.1 HZ.out.2.2.2.2.1 HD2.out ?_; intro w4 hr4 hg4; have hg5 := gb_trans (gb_drewN (World.grownBy.refl wr (some N)) 1) hg4; have j0 := (HZ.out.2.2.2.2.2.1.grew hg5 (fun e => by have := HZ.out.2.2.2.2.2.2.1; have := HNN.out.1; cases e; omega)).cell 0; have H4 : Hid (Half w0 w4 N n ys2 ys) := HST.out w4 hr4 hg5; clear hr4 hg4 hg5)
      all_goals
        change w4.cell? ⟨b, 0, none⟩ = some (.pointer d2) at j0
        go_wp2
        refine ⟨⟨d2, ys2, fs2, by rw [HA.out.2], rfl, HC2.out, H4.out⟩, ?_⟩
        have := HA.out.1
        have := HZ.out.2.2.2.2.2.2.2
        simp only [intOf]
        omega

set_option maxRecDepth 20000 in
theorem wbytes_no (g : Nat) (ys : List Int) (e : Int) (fs : List Nat) (w : World) (h : WS w g ys e fs) (he : (e == 0) = false) :
    Calls Tryd.prog 74 #[.pointer (some ⟨g, 0, none⟩)] w fun r w' => r = .returned (.tuple #[.slice none 0 0, .int .i64 e]) ∧ ∃ n, w' = w.drewN n := by
  have HWL : Hid (Calls Tryd.prog 101 #[.pointer (some ⟨g, 0, none⟩)] w fun r w' => r = .returned (.bool false) ∧ w' = w) := by
    have := well_c g e w h.c0
    rw [he] at this; exact this
  have c0 := h.c0
  clear h
  go_enter Tryd.func74, Tryd.ntmps74
  go_wp2_with fail
  refine Calls.mono HWL.out ?_
  rintro r w0 ⟨rfl, rfl⟩
  go_wp2
  go_quiet (fail)
  go_wp2
  go_ret2
  exact ⟨rfl, _, rfl⟩
end Go.Proofs.YtlmjgjimmbadeaaDoor
namespace Go.Proofs.YtlmjgjimmbadeaaDoor
open Go.RowKit
set_option linter.unusedVariables false

theorem zeroWr : Tryd.zeroCells92 = (wcells 0 (.pointer none) (List.replicate 256 0) 0 0).toArray := by kernel_rfl
theorem ws_none {w : World} {g : Nat} (h : w.heap[g]? = some (.cells Tryd.zeroCells92 92 (0, 0))) : WS w g [] 0 [] := by
  rw [zeroWr] at h
  exact ⟨none, List.replicate 256 0, 0, [], ⟨h, List.length_replicate⟩, chain_nil _, by omega, rfl, by simp, fun i hi => by simp at hi⟩
/-- A writer of one's own, with blocks of one's own alone. -/
def WM (B : Nat) (w wr : World) (ys : List Int) (e : Int) : Prop := ∃ fs, WS wr B ys e fs ∧ (∀ k ∈ fs, B ≤ k) ∧ Below B w wr ∧ B ≤ wr.heap.size
theorem WM.goes {B w wr ys e ys' e'} {f : FuncId} {A : Array Value} {v : Value} (h : WM B w wr ys e) (hc : ∀ fs, WS wr B ys e fs → Calls Tryd.prog f A wr fun r w' => r = .returned v ∧ WGoes wr B fs w' ys' e') : Calls Tryd.prog f A wr fun r w' => r = .returned v ∧ WM B w w' ys' e' := by
  obtain ⟨fs, h1, h2, h3, h4⟩ := h
  refine (hc fs h1).mono ?_
  rintro r w' ⟨hr, fs', k1, k2, k3⟩
  have := k2.size
  exact ⟨hr, fs', k1, fun k hk => by rcases k3 k hk with q | q; exact h2 k q; omega, k2.below h3 (fun k hk => by omega) h4, by omega⟩
theorem WM.drew {B w wr w' ys e} (h : WM B w wr ys e) (hd : ∃ n, w' = wr.drewN n) : WM B w w' ys e := by
  obtain ⟨n, rfl⟩ := hd
  obtain ⟨fs, h1, h2, h3, h4⟩ := h
  have hg : wr.grownBy (wr.drewN n) none := gb_drewN (World.grownBy.refl _ _) n
  exact ⟨fs, h1.new hg, h2, h3.grown hg h4 (fun k hk => by cases hk), h4⟩
theorem WM.c0 {B w wr ys e} (h : WM B w wr ys e) : wr.cell? ⟨B, 0, none⟩ = some (.int .i64 e) := by obtain ⟨fs, h1, _⟩ := h; exact h1.c0
theorem WM.must_no {B w wr ys} (h : WM B w wr ys 0) (x : Int) (b : Bool) (hx : (x == 0) = false) (hb : b = false) : Calls Tryd.prog 72 #[.pointer (some ⟨B, 0, none⟩), .bool b, .int .i64 x] wr fun r w' => r = .returned (.bool false) ∧ WM B w w' ys x :=
  h.goes (fun fs hw => (wmust_no B ys fs wr hw x b hx hb).mono (fun r w' q => ⟨q.1, q.2.2⟩))
theorem WM.must_so {B w wr ys} (h : WM B w wr ys 0) (x : Int) (b : Bool) (hb : b = true) : Calls Tryd.prog 72 #[.pointer (some ⟨B, 0, none⟩), .bool b, .int .i64 x] wr fun r w' => r = .returned (.bool true) ∧ w' = wr := by
  obtain ⟨fs, h1, _⟩ := h
  exact wmust_so B ys fs wr h1 x b hb
theorem WM.must_late {B w wr ys e} (h : WM B w wr ys e) (x : Int) (b : Bool) (he : (e == 0) = false) : Calls Tryd.prog 72 #[.pointer (some ⟨B, 0, none⟩), .bool b, .int .i64 x] wr fun r w' => r = .returned (.bool false) ∧ w' = wr := wmust_late B wr e x b he h.c0
theorem WM.int {B w wr ys} (h : WM B w wr ys 0) (x most : Int) (h0 : 0 ≤ x) (h1 : x ≤ most) (hm : most ≤ 9223372036854775807) (hb : ys.length + 10 ≤ 140737488355328) : Calls Tryd.prog 38 #[.pointer (some ⟨B, 0, none⟩), .int .i64 x, .int .i64 most] wr fun r w' => r = .returned (.tuple #[]) ∧ WM B w w' (ys ++ enc x.toNat) 0 := by
  have e0 : ferr 0 (wie x most) = 0 := by unfold ferr wie; rw [if_pos rfl, if_neg (by omega), if_neg (by omega)]
  refine h.goes (fun fs hw => ?_)
  have := wint_c B ys 0 x most fs wr hw (by omega) hb
  rw [e0] at this
  unfold wadd at this
  rw [if_pos rfl] at this
  exact this
theorem WM.textm {B w wr ys} (h : WM B w wr ys 0) (s : ByteArray) (most : Int) (hm : (s.size : Int) ≤ most) (hs : s.size ≤ 1125899906842) (hb : ys.length + s.size + 10 ≤ 140737488355328) : Calls Tryd.prog 75 #[.pointer (some ⟨B, 0, none⟩), .string s, .int .i64 most] wr fun r w' => r = .returned (.tuple #[]) ∧ WM B w w' (ys ++ (enc s.size ++ sb s)) 0 := by
  have e0 : ferr 0 (wte s.size most) = 0 := by unfold ferr wte; rw [if_pos rfl, if_neg (by omega), if_neg (by omega)]
  refine h.goes (fun fs hw => ?_)
  have := wtext_c B ys 0 s most fs wr hw hs hb
  rw [e0] at this
  unfold wadd at this
  rw [if_pos rfl] at this
  exact this
theorem WM.text {B w wr ys} (h : WM B w wr ys 0) (s : ByteArray) (hs : s.size ≤ 65536) (hb : ys.length + s.size + 10 ≤ 140737488355328) : Calls Tryd.prog 75 #[.pointer (some ⟨B, 0, none⟩), .string s, .int .i64 65536] wr fun r w' => r = .returned (.tuple #[]) ∧ WM B w w' (ys ++ (enc s.size ++ sb s)) 0 := by
  have e0 : ferr 0 (wte s.size 65536) = 0 := by unfold ferr wte; rw [if_pos rfl, if_neg (by omega), if_neg (by omega)]
  refine h.goes (fun fs hw => ?_)
  have := wtext_c B ys 0 s 65536 fs wr hw (by omega) hb
  rw [e0] at this
  unfold wadd at this
  rw [if_pos rfl] at this
  exact this
theorem WM.bytes_no {B w wr ys e} (h : WM B w wr ys e) (he : (e == 0) = false) : Calls Tryd.prog 74 #[.pointer (some ⟨B, 0, none⟩)] wr fun r w' => r = .returned (.tuple #[.slice none 0 0, .int .i64 e]) ∧ Below B w w' := by
  obtain ⟨fs, h1, h2, h3, h4⟩ := h
  refine (wbytes_no B ys e fs wr h1 he).mono ?_
  rintro r w' ⟨hr, n, rfl⟩
  exact ⟨hr, h3.grown (gb_drewN (World.grownBy.refl wr none) n) h4 (fun k hk => by cases hk)⟩
theorem WM.bytes_ok {B w wr ys} (h : WM B w wr ys 0) (hb : ys.length ≤ 140737488355328) : Calls Tryd.prog 74 #[.pointer (some ⟨B, 0, none⟩)] wr fun r w' => ∃ b, r = .returned (.tuple #[.slice (some ⟨b, 0, none⟩) ys.length ys.length, .int .i64 0]) ∧ B ≤ b ∧ Row .u8 5 w' b ys ∧ Below B w w' := by
  obtain ⟨fs, h1, h2, h3, h4⟩ := h
  refine (wbytes_ok B ys fs wr h1 hb).mono ?_
  rintro r w' ⟨b, hr, hl, hrow, hbel⟩
  exact ⟨b, hr, by omega, hrow, h3.grown (grownBy_below hbel none) h4 (fun k hk => by cases hk)⟩
end Go.Proofs.YtlmjgjimmbadeaaDoor
namespace Go.Proofs.YtlmjgjimmbadeaaDoor
open Go.RowKit
set_option linter.unusedVariables false

set_option maxRecDepth 20000 in
theorem wsize_c (g : Nat) (ys : List Int) (e : Int) (fs : List Nat) (w : World) (h : WS w g ys e fs) :
    Calls Tryd.prog 77 #[.pointer (some ⟨g, 0, none⟩)] w fun r w' => r = .returned (.int .i64 (ys.length : Int)) ∧ w' = w := by
  have cN := h.cN
  clear h
  go_enter Tryd.func77, Tryd.ntmps77
  go_wp2
  go_ret
  exact ⟨rfl, rfl⟩
end Go.Proofs.YtlmjgjimmbadeaaDoor
namespace Go.Proofs.YtlmjgjimmbadeaaDoor
open Go.RowKit
set_option linter.unusedVariables false

end Go.Proofs.YtlmjgjimmbadeaaDoor
namespace Go.Proofs.YtlmjgjimmbadeaaDoor
open Go.RowKit
set_option linter.unusedVariables false

/-- A literal of bytes is one's own. -/
theorem mine_new (w : World) (x : Int) (B : Nat) (hB : B ≤ w.heap.size) : Mine (w.alloc (.cells #[.int .u8 x] 5)) B w.heap.size 1 1 [x] := by
  have hc : ∀ i, (w.alloc (.cells #[.int .u8 x] 5)).cell? ⟨w.heap.size, i, none⟩ = (#[Value.int .u8 x] : Array Value)[i]? := fun i => World.cell?_alloc_new w _ _ i
  refine ⟨rfl, Nat.le_refl _, by unfold maxLen; omega, hB, by simp, fun i hi => ?_, fun i hi => ?_, fun i hi => ?_⟩
  · obtain rfl : i = 0 := by omega
    rw [hc]; rfl
  · obtain rfl : i = 0 := by omega
    rw [hc]; rfl
  · exact frozen_of_row _ _ _ _ _ (heap_alloc_new w _)

set_option maxHeartbeats 400000 in
theorem bytes_c (V : Int) (h0 : 0 ≤ V) (h1 : V < 18446744073709551616) (w : World) :
    Calls Tryd.prog 64 #[.int .u64 V] w fun e w' => ∃ g n cap, e = .returned (.slice (some ⟨g, 0, none⟩) n cap) ∧ Mine w' w.heap.size g n cap (enc V.toNat) ∧ Below w.heap.size w w' := by
  obtain ⟨N, hN⟩ : ∃ N, V.toNat = N := ⟨_, rfl⟩
  induction N using Nat.strongRecOn generalizing V w with
  | ind N ih =>
    by_cases hs : V < 128
    · have HE : Hid (enc V.toNat = [V]) := by show _ = _; rw [enc_small (by omega), Int.toNat_of_nonneg h0]
      clear ih hN
      have hm : V % 256 = V := by omega
      go_enter Tryd.func64, Tryd.ntmps64
      go_wp2
      go_ret
      refine ⟨w.heap.size, 1, 1, rfl, ?_, (Below.refl _ _).alloc (Nat.le_refl _) _⟩
      rw [HE.out]
      exact mine_new w V _ (Nat.le_refl _)
    · have HE : Hid (enc V.toNat = [V % 128 + 128] ++ enc (V / 128).toNat) := by
        show _ = _
        rw [enc_big (by omega), show ((V.toNat % 128 + 128 : Nat) : Int) = V % 128 + 128 from by omega, show V.toNat / 128 = (V / 128).toNat from by omega]
        rfl
      have IH : Hid (∀ w : World, Calls Tryd.prog 64 #[.int .u64 (V / 128)] w fun e w' => ∃ g n cap, e = .returned (.slice (some ⟨g, 0, none⟩) n cap) ∧ Mine w' w.heap.size g n cap (enc (V / 128).toNat) ∧ Below w.heap.size w w') :=
        fun w => ih (V / 128).toNat (by omega) (V / 128) (by omega) (by omega) w rfl
      have HLN : Hid ((enc (V / 128).toNat).length ≤ 10) := by show _ ≤ _; rw [enc_length _ (by omega)]; exact (sz_bd _).2
      obtain ⟨i0, hi, hz0, hz1, hz2⟩ := info_parts Tryd.infoU8
      clear ih hN
      go_enter Tryd.func64, Tryd.ntmps64
      go_wp2_with fail
      refine (IH.out _).mono ?_
      rintro e w1 ⟨g, n, cap, rfl, hm, hb⟩
      have HM : Hid (Mine w1 (w.heap.size + 1) g n cap (enc (V / 128).toNat)) := by simp at hm; exact hm
      have HB : Hid (Below (w.heap.size + 1) (w.alloc (.cells #[.int .u8 (V % 128 + 128)] 5)) w1) := by simp at hb; exact hb
      have HM0 : Hid (Mine w1 w.heap.size w.heap.size 1 1 [V % 128 + 128]) := (mine_new w _ _ (Nat.le_refl _)).keep HB.out (by omega)
      have hn : n ≤ 10 := by rw [← hm.len]; exact HLN.out
      clear hm hb
      go_wp2_with (at_builtin; go_must (refine wpList_append_mine _ rfl _ _ 27 rfl 5 i0 Tryd.underlying27 hi hz0 hz1 hz2 w.heap.size w.heap.size 1 1 [V % 128 + 128] rfl HM0.out (some ⟨g, 0, none⟩) n cap (enc (V / 128).toNat) rfl (fun h => by cases h) HM.out.seg (by omega) ?_); intro g4 c4 w4 hm4 hb4)
      have HM4 : Hid (Mine w4 w.heap.size g4 (1 + n) c4 (enc V.toNat)) := by show Mine _ _ _ _ _ _; rw [HE.out]; exact hm4
      have HB4 : Hid (Below w.heap.size w w4) := (((Below.refl _ w).alloc (Nat.le_refl _) _).trans (HB.out.mono (by omega))).trans hb4
      clear hm4 hb4
      go_wp2
      go_ret
      exact ⟨g4, 1 + n, c4, rfl, HM4.out, HB4.out⟩
end Go.Proofs.YtlmjgjimmbadeaaDoor
namespace Go.Proofs.YtlmjgjimmbadeaaDoor
open Go.RowKit
set_option linter.unusedVariables false

/-- The document's Writer's block. -/
def Xwr (w : World) (g : Nat) (v : Value) (e : Int) : Prop := w.heap[g]? = some (.cells #[v, .int .i64 e] 83 (0, 0))
theorem Xwr.c0 {w g v e} (h : Xwr w g v e) : w.cell? ⟨g, 0, none⟩ = some v := by rw [cell_of_row w g 0 _ _ _ h]; rfl
theorem Xwr.c1 {w g v e} (h : Xwr w g v e) : w.cell? ⟨g, 1, none⟩ = some (.int .i64 e) := by rw [cell_of_row w g 1 _ _ _ h]; rfl
theorem Xwr.free {w g v e} (h : Xwr w g v e) (i : Nat) : w.frozen? ⟨g, i, none⟩ = false := frozen_of_row w g i _ _ h
theorem Xwr.setV {w g v e} (h : Xwr w g v e) (x : Value) : Xwr (w.setCell ⟨g, 0, none⟩ x) g x e := by
  unfold Xwr; rw [heap_setCell_same w g 0 _ _ _ h]; rfl
theorem Xwr.setE {w g v e} (h : Xwr w g v e) (x : Int) : Xwr (w.setCell ⟨g, 1, none⟩ (.int .i64 x)) g v x := by
  unfold Xwr; rw [heap_setCell_same w g 1 _ _ _ h]; rfl
/-- The document's Writer as plain data: what was laid down, the first error; F: the block that its bytes lie in. -/
structure XW (B : Nat) (w : World) (g : Nat) (v : Value) (ys : List Int) (e : Int) (F : Option Nat) : Prop where
  blk : Xwr w g v e
  own : Own B w v ys.length ys
  fb : v.ownBlock = F
  off : F ≠ some g
  bytes : Bytes ys
  base : B ≤ w.heap.size
/-- What a call of it comes to. -/
def XGoes (B : Nat) (w : World) (g : Nat) (F : Option Nat) (w' : World) (ys' : List Int) (e' : Int) : Prop :=
  ∃ v' F', XW B w' g v' ys' e' F' ∧ Gr (fun k => k = g ∨ F = some k) w w' ∧ (F' = F ∨ ∃ k, F' = some k ∧ w.heap.size ≤ k)
theorem XW.stay {B w g v ys e F} (h : XW B w g v ys e F) : XGoes B w g F w ys e := ⟨v, F, h, Gr.refl _ _, .inl rfl⟩
theorem XW.gr {G : Nat → Prop} {B w w' g v ys e F} (h : XW B w g v ys e F) (hg : Gr G w w') (h1 : ¬ G g) (h2 : ∀ k, F = some k → ¬ G k) : XW B w' g v ys e F := by
  refine ⟨(hg.block g (lt_of_block h.blk) h1).trans h.blk, ⟨h.own.1, ?_⟩, h.fb, h.off, h.bytes, Nat.le_trans h.base hg.size⟩
  rcases h.own.2 with h0 | ⟨b, cap, cur, rfl, hB, hgb, r⟩
  · exact .inl h0
  · exact .inr ⟨b, cap, cur, rfl, hB, (hg.block b (lt_of_block hgb) (h2 b (by rw [← h.fb]; rfl))).trans hgb, r⟩
theorem XW.new {B w w' g v ys e F} (h : XW B w g v ys e F) (hg : w.grownBy w' none) : XW B w' g v ys e F := h.gr (G := fun _ => False) (Gr.of hg (by simp)) (by simp) (by simp)
theorem XGoes.then {B w g F w1 w2 ys1 e1 ys2 e2} (h : XGoes B w g F w1 ys1 e1) (k : ∀ v F', XW B w1 g v ys1 e1 F' → XGoes B w1 g F' w2 ys2 e2) : XGoes B w g F w2 ys2 e2 := by
  obtain ⟨v, F1, h1, g1, f1⟩ := h
  obtain ⟨v2, F2, h2, g2, f2⟩ := k v F1 h1
  refine ⟨v2, F2, h2, ?_, ?_⟩
  · refine ⟨g2.os.trans g1.os, g2.tape.trans g1.tape, g2.output.trans g1.output, Nat.le_trans g1.size g2.size, fun i hi hn => ?_⟩
    refine (g2.block i (Nat.lt_of_lt_of_le hi g1.size) ?_).trans (g1.block i hi hn)
    rintro (h | h)
    · exact hn (.inl h)
    · rcases f1 with f1 | ⟨k', f1, hk⟩
      · exact hn (.inr (by rw [← f1]; exact h))
      · rw [f1] at h; cases h; omega
  · rcases f2 with rfl | ⟨k', f2, hk⟩
    · exact f1
    · exact .inr ⟨k', f2, Nat.le_trans g1.size hk⟩
/-- One step of it, laid open. -/
def XStep (B : Nat) (w : World) (g : Nat) (F : Option Nat) (w' : World) (v' : Value) (ys' : List Int) (e' : Int) (F' : Option Nat) : Prop :=
  XW B w' g v' ys' e' F' ∧ Gr (fun k => k = g ∨ F = some k) w w' ∧ (F' = F ∨ ∃ k, F' = some k ∧ w.heap.size ≤ k)
theorem XStep.seq {B w g F w1 v1 ys1 e1 F1 w2 ys2 e2} (h : XStep B w g F w1 v1 ys1 e1 F1) (k : XGoes B w1 g F1 w2 ys2 e2) : XGoes B w g F w2 ys2 e2 := by
  obtain ⟨h1, g1, f1⟩ := h
  obtain ⟨v2, F2, h2, g2, f2⟩ := k
  refine ⟨v2, F2, h2, ?_, ?_⟩
  · refine ⟨g2.os.trans g1.os, g2.tape.trans g1.tape, g2.output.trans g1.output, Nat.le_trans g1.size g2.size, fun i hi hn => ?_⟩
    refine (g2.block i (Nat.lt_of_lt_of_le hi g1.size) ?_).trans (g1.block i hi hn)
    rintro (h | h)
    · exact hn (.inl h)
    · rcases f1 with f1 | ⟨k', f1, hk⟩
      · exact hn (.inr (by rw [← f1]; exact h))
      · rw [f1] at h; cases h; omega
  · rcases f2 with rfl | ⟨k', f2, hk⟩
    · exact f1
    · exact .inr ⟨k', f2, Nat.le_trans g1.size hk⟩
theorem XGoes.pre {B w w0 g F w1 ys1 e1} (hg : w0.grownBy w none) (h : XGoes B w g F w1 ys1 e1) : XGoes B w0 g F w1 ys1 e1 := by
  obtain ⟨v, F1, h1, g1, f1⟩ := h
  refine ⟨v, F1, h1, (Gr.of hg (by simp)).trans g1, ?_⟩
  rcases f1 with f1 | ⟨k, f1, hk⟩
  · exact .inl f1
  · exact .inr ⟨k, f1, Nat.le_trans hg.size hk⟩

set_option maxRecDepth 20000 in
theorem xlay_c (B g : Nat) (v : Value) (ys : List Int) (e : Int) (F : Option Nat) (ao : Option Addr) (m c : Nat) (zs : List Int) (w : World) (h : XW B w g v ys e F) (hs : Seg .u8 w ao m zs) (hz : Bytes zs) (hao : ao = none → c = 0) (hb : ys.length + m ≤ 140737488355328) :
    Calls Tryd.prog 99 #[.pointer (some ⟨g, 0, none⟩), .slice ao m c] w fun r w' => r = .returned (.tuple #[]) ∧ XGoes B w g F w' (wadd e ys zs) e := by
  have HW : Hid (XW B w g v ys e F) := h
  obtain ⟨va, vc, rfl, _⟩ := h.own.seg
  have c0 := h.blk.c0
  have c1 := h.blk.c1
  by_cases he : e = 0
  · subst he
    have HS : Hid (Seg .u8 w ao m zs) := hs
    have HZ : Hid (Bytes zs) := hz
    have HAO : Hid (ao = none → c = 0) := hao
    have HB : Hid (ys.length + m ≤ 140737488355328) := hb
    have HML : Hid (zs.length = m) := hs.1
    clear h hs hz hao hb
    go_enter Tryd.func99, Tryd.ntmps99
    go_wp2_with (at_builtin; go_must (refine wpList_append_apart _ rfl (.tmp 13) (.tmp 14) rfl B ys.length (.slice va ys.length vc) ys rfl HW.out.own ao m c zs rfl HAO.out HS.out HB.out HW.out.base ?_); go_loud (intro v' w1 hown hgr hat; obtain ⟨a', cap', rfl, hsg, _⟩ := hown.seg; have H1 : Hid (Own B w1 (.slice a' (ys.length + m) cap') (ys.length + m) (ys ++ zs) ∧ w.grownBy w1 F ∧ ((Value.slice a' (ys.length + m) cap').ownBlock = F ∨ (Value.slice a' (ys.length + m) cap').ownBlock = some w.heap.size)) := (by rw [← HW.out.fb]; exact ⟨hown, hgr, hat⟩); have hblk : Xwr w1 g (.slice va ys.length vc) 0 := (hgr.block g (lt_of_block HW.out.blk) (by rw [HW.out.fb]; exact fun e => HW.out.off e.symm)).trans HW.out.blk; have HK : Hid (Xwr w1 g (.slice va ys.length vc) 0) := hblk; have d0 := hblk.c0; have f0 := hblk.free 0; clear hblk hown hgr hat hsg c0 c1))
    go_end0
    refine ⟨rfl, .slice a' (ys.length + m) cap', (Value.slice a' (ys.length + m) cap').ownBlock, ⟨HK.out.setV _, ?_, rfl, ?_, ?_, ?_⟩, ?_, ?_⟩
    · have hl : (ys ++ zs).length = ys.length + m := by rw [List.length_append, HML.out]
      have := H1.out.1.grown (grownBy_cell w1 g 0 (.slice a' (ys.length + m) cap')) (fun b hb e => by
        rw [← hb] at e
        rcases H1.out.2.2 with h | h
        · rw [h] at e; exact HW.out.off e.symm
        · rw [h] at e; cases e; exact absurd (lt_of_block HW.out.blk) (Nat.lt_irrefl _))
      rw [show wadd 0 ys zs = ys ++ zs from rfl, hl]; exact this
    · intro e
      rcases H1.out.2.2 with h | h
      · rw [h] at e; exact HW.out.off e
      · rw [h] at e; cases e; exact absurd (lt_of_block HW.out.blk) (Nat.lt_irrefl _)
    · rw [show wadd 0 ys zs = ys ++ zs from rfl]
      intro i hi
      rw [List.length_append] at hi
      by_cases h1 : i < ys.length
      · rw [List.getElem?_append_left h1]; exact HW.out.bytes i h1
      · rw [List.getElem?_append_right (by omega)]; exact HZ.out _ (by omega)
    · exact Nat.le_trans HW.out.base (Nat.le_trans H1.out.2.1.size (grownBy_cell w1 g 0 (.slice a' (ys.length + m) cap')).size)
    · exact (Gr.of H1.out.2.1 (fun k hk => .inl (.inr hk))).trans (Gr.of (grownBy_cell w1 g 0 _) (fun k hk => by cases hk; exact .inl (.inl rfl)))
    · rcases H1.out.2.2 with h | h
      · exact .inl h
      · exact .inr ⟨_, h, Nat.le_refl _⟩
  · have hbq : (e == 0) = false := by simp [he]
    have HE : Hid (wadd e ys zs = ys) := by show _ = _; rw [wadd, if_neg he]
    rw [HE.out]
    clear h hs hz hao hb he HE
    go_enter Tryd.func99, Tryd.ntmps99
    go_wp2
    go_end0
    exact ⟨rfl, HW.out.stay⟩

theorem xwfail_c (B g : Nat) (v : Value) (ys : List Int) (e x : Int) (F : Option Nat) (w : World) (h : XW B w g v ys e F) :
    Calls Tryd.prog 65 #[.pointer (some ⟨g, 0, none⟩), .int .i64 x] w fun r w' => r = .returned (.tuple #[]) ∧ XGoes B w g F w' ys (ferr e x) := by
  have HW : Hid (XW B w g v ys e F) := h
  have c1 := h.blk.c1
  have f1 := h.blk.free 1
  clear h
  by_cases he : e = 0
  · subst he
    go_enter Tryd.func65, Tryd.ntmps65
    go_wp2
    go_end0
    have hg := grownBy_cell w g 1 (.int .i64 x)
    refine ⟨rfl, v, F, ⟨HW.out.blk.setE x, HW.out.own.grown hg (fun b hb e => by rw [HW.out.fb] at hb; rw [← e] at hb; exact HW.out.off hb), HW.out.fb, HW.out.off, HW.out.bytes, Nat.le_trans HW.out.base hg.size⟩, Gr.of hg (fun k hk => by cases hk; exact .inl (.inl rfl)), .inl rfl⟩
  · have hbq : (e == 0) = false := by simp [he]
    have HE : Hid (ferr e x = e) := by show _ = _; rw [ferr, if_neg he]
    rw [HE.out]
    clear he HE
    go_enter Tryd.func65, Tryd.ntmps65
    go_wp2
    go_end0
    exact ⟨rfl, HW.out.stay⟩

set_option maxRecDepth 20000 in
theorem xwuint_c (B g : Nat) (v : Value) (ys : List Int) (e V : Int) (F : Option Nat) (w : World) (h : XW B w g v ys e F) (h0 : 0 ≤ V) (h1 : V < 18446744073709551616) (hb : ys.length + 10 ≤ 140737488355328) :
    Calls Tryd.prog 67 #[.pointer (some ⟨g, 0, none⟩), .int .u64 V] w fun r w' => r = .returned (.tuple #[]) ∧ XGoes B w g F w' (wadd e ys (enc V.toNat)) e := by
  have HW : Hid (XW B w g v ys e F) := h
  have HB : Hid (ys.length + 10 ≤ 140737488355328) := hb
  have HC : Hid (Calls Tryd.prog 64 #[.int .u64 V] w fun e w' => ∃ g n cap, e = .returned (.slice (some ⟨g, 0, none⟩) n cap) ∧ Mine w' w.heap.size g n cap (enc V.toNat) ∧ Below w.heap.size w w') := bytes_c V h0 h1 w
  have HEL : Hid ((enc V.toNat).length ≤ 10) := by
    show _ ≤ _
    rw [enc_length _ (by omega)]
    exact (sz_bd _).2
  obtain ⟨zs, hzs⟩ : ∃ zs, zs = enc V.toNat := ⟨_, rfl⟩
  rw [← hzs] at HC HEL ⊢
  have HZ : Hid (Bytes zs) := by rw [hzs]; exact bytes_of_mem (enc_bytes _)
  clear h hb h0 h1 hzs
  go_enter Tryd.func67, Tryd.ntmps67
  go_wp2_with fail
  refine HC.out.mono ?_
  rintro r w1 ⟨g1, n1, cap1, rfl, hm, hbl⟩
  have H1 : Hid (Mine w1 w.heap.size g1 n1 cap1 zs ∧ Below w.heap.size w w1) := ⟨hm, hbl⟩
  clear hm hbl
  go_wp2_with fail
  refine (xlay_c B g v ys e F _ n1 cap1 zs w1 (HW.out.new (grownBy_below H1.out.2 _)) H1.out.1.seg HZ.out (fun h => by cases h) ?_).mono ?_
  · have := H1.out.1.len; have := HEL.out; have := HB.out; omega
  · rintro r w2 ⟨rfl, h2⟩
    have H2 : Hid (XGoes B w g F w2 (wadd e ys zs) e) := XGoes.pre (grownBy_below H1.out.2 _) h2
    clear h2
    go_wp2
    go_end0
    exact ⟨rfl, H2.out⟩
end Go.Proofs.YtlmjgjimmbadeaaDoor
namespace Go.Proofs.YtlmjgjimmbadeaaDoor
open Go.RowKit
set_option linter.unusedVariables false

end Go.Proofs.YtlmjgjimmbadeaaDoor
namespace Go.Proofs.YtlmjgjimmbadeaaDoor
open Go.RowKit
set_option linter.unusedVariables false

set_option maxRecDepth 20000 in
theorem xwtext_c (B g : Nat) (v : Value) (ys : List Int) (e : Int) (s : ByteArray) (most : Int) (F : Option Nat) (w : World) (h : XW B w g v ys e F) (hs : s.size ≤ 1125899906842) (hb : ys.length + s.size + 10 ≤ 140737488355328) :
    Calls Tryd.prog 66 #[.pointer (some ⟨g, 0, none⟩), .string s, .int .i64 most] w fun r w' => r = .returned (.tuple #[]) ∧ XGoes B w g F w' (wadd (ferr e (wte s.size most)) ys (enc s.size ++ sb s)) (ferr e (wte s.size most)) := by
  obtain ⟨i0, hi, hz0, hz1, hz2⟩ := info_parts Tryd.infoU8
  have HI : Hid (Tryd.prog.info? 5 = some i0 ∧ i0.zero = some (.int .u8 0) ∧ i0.size = 1 ∧ i0.bytes = 1) := ⟨hi, hz0, hz1, hz2⟩
  clear hi hz0 hz1 hz2
  have HW : Hid (XW B w g v ys e F) := h
  have HC : Hid (∀ w, Calls Tryd.prog 64 #[.int .u64 (s.size : Int)] w fun e w' => ∃ g n cap, e = .returned (.slice (some ⟨g, 0, none⟩) n cap) ∧ Mine w' w.heap.size g n cap (enc s.size) ∧ Below w.heap.size w w') := fun w => by
    have := bytes_c (s.size : Int) (by omega) (by omega) w
    rw [Int.toNat_natCast] at this; exact this
  have HEL : Hid ((enc s.size).length ≤ 10) := by
    show _ ≤ _
    rw [enc_length _ (by omega)]
    exact (sz_bd _).2
  have HL : Hid (s.size ≤ 140737488355328 ∧ ys.length + s.size + 10 ≤ 140737488355328) := ⟨by omega, hb⟩
  obtain ⟨E, hE⟩ : ∃ E, E = wte s.size most := ⟨_, rfl⟩
  rw [← hE]
  have HF : Hid (∀ w v F, XW B w g v ys e F → Calls Tryd.prog 65 #[.pointer (some ⟨g, 0, none⟩), .int .i64 E] w fun r w' => r = .returned (.tuple #[]) ∧ XGoes B w g F w' ys (ferr e E)) := fun w v F h => xwfail_c B g v ys e E F w h
  obtain ⟨E1, hE1⟩ : ∃ E1, E1 = ferr e E := ⟨_, rfl⟩
  rw [← hE1] at HF ⊢
  have HLY : Hid (∀ w v F g1 n1 c1, XW B w g v ys E1 F → Seg .u8 w (some ⟨g1, 0, none⟩) n1 (enc s.size ++ sb s) → Calls Tryd.prog 99 #[.pointer (some ⟨g, 0, none⟩), .slice (some ⟨g1, 0, none⟩) n1 c1] w fun r w' => r = .returned (.tuple #[]) ∧ XGoes B w g F w' (wadd E1 ys (enc s.size ++ sb s)) E1) := by
    intro w v F g1 n1 c1 h hsg
    have hln : n1 ≤ s.size + 10 := by
      have := hsg.1
      rw [List.length_append, sb_length] at this
      have := HEL.out; omega
    refine xlay_c B g v ys E1 F _ n1 c1 _ w h hsg ?_ (fun h => by cases h) (by omega)
    apply bytes_of_mem
    intro c hc
    rcases List.mem_append.1 hc with hc | hc
    · exact enc_bytes _ c hc
    · obtain ⟨u, _, rfl⟩ := List.mem_map.1 hc
      have := u.toNat_lt; omega
  obtain ⟨Y1, hY1⟩ : ∃ Y1, Y1 = wadd E1 ys (enc s.size ++ sb s) := ⟨_, rfl⟩
  rw [← hY1] at HLY ⊢
  have HE0 : Hid (E = 0 → E1 = e) := fun h => by rw [hE1, h, ferr_zero]
  obtain ⟨S, hS⟩ : ∃ S, S = s.size := ⟨_, rfl⟩
  have hsS : s.size = S := hS.symm
  have hSb : S ≤ 1125899906842 := by omega
  rw [hsS] at HC HEL HLY HL hE
  clear h hb hE1 hY1 hS hs
  by_cases h0 : most < 0
  · obtain rfl : E = 1 := by rw [hE, wte, if_pos h0]
    clear hE HE0
    go_enter Tryd.func66, Tryd.ntmps66
    go_wp2_with fail
    refine (HF.out w v F HW.out).mono ?_
    rintro r w1 ⟨rfl, v1, F1, hw1⟩
    have H1 : Hid (XStep B w g F w1 v1 ys E1 F1) := hw1
    clear hw1
    go_wp2_with fail
    refine (HC.out w1).mono ?_
    rintro r w2 ⟨g1, n1, c1, rfl, hm, hbl⟩
    have H2 : Hid (Mine w2 w1.heap.size g1 n1 c1 (enc S) ∧ Below w1.heap.size w1 w2) := ⟨hm, hbl⟩
    obtain ⟨W3, C, hcv, hM3, hB3⟩ := str_bytes s w2 (by rw [hsS]; exact HL.out.1)
    rw [hsS] at hcv hM3
    have H3 : Hid (Mine W3 w2.heap.size w2.heap.size S C (sb s) ∧ Below w2.heap.size w2 W3) := ⟨hM3, hB3⟩
    have H4 : Hid (Mine W3 w1.heap.size g1 n1 c1 (enc S)) := H2.out.1.later H3.out.2
    have HN : Hid (n1 + S ≤ 140737488355328) := by
      have := HL.out; have := HEL.out; have := H2.out.1.len; show _ ≤ _; omega
    clear hm hbl hM3 hB3
    go_wp2_with (at_builtin; go_must (refine wpList_append_mine _ rfl (.tmp 20) (.tmp 22) 27 rfl 5 i0 Tryd.underlying27 HI.out.1 HI.out.2.1 HI.out.2.2.1 HI.out.2.2.2 w1.heap.size g1 n1 c1 (enc S) rfl H4.out (some ⟨w2.heap.size, 0, none⟩) S C (sb s) rfl (fun h => by cases h) H3.out.1.seg HN.out ?_); intro b' cap' w4 hm4 hb4; have H5 : Hid (Seg .u8 w4 (some ⟨b', 0, none⟩) (n1 + S) (enc S ++ sb s) ∧ w1.grownBy w4 none) := ⟨hm4.seg, grownBy_below (H2.out.2.trans ((H3.out.2.mono H2.out.2.size).trans hb4)) _⟩; clear hm4 hb4)
    refine (HLY.out w4 v1 F1 b' (n1 + S) cap' (H1.out.1.new H5.out.2) H5.out.1).mono ?_
    rintro r w5 ⟨rfl, h5⟩
    have H6 : Hid (XGoes B w g F w5 Y1 E1) := H1.out.seq (XGoes.pre H5.out.2 h5)
    clear h5
    go_wp2
    go_end0
    exact ⟨rfl, H6.out⟩
  · by_cases h1 : most < (S : Int)
    · obtain rfl : E = 31 := by rw [hE, wte, if_neg h0, if_pos h1]
      clear hE HE0
      go_enter Tryd.func66, Tryd.ntmps66
      go_wp2_with fail
      refine (HF.out w v F HW.out).mono ?_
      rintro r w1 ⟨rfl, v1, F1, hw1⟩
      have H1 : Hid (XStep B w g F w1 v1 ys E1 F1) := hw1
      clear hw1
      go_wp2_with fail
      refine (HC.out w1).mono ?_
      rintro r w2 ⟨g1, n1, c1, rfl, hm, hbl⟩
      have H2 : Hid (Mine w2 w1.heap.size g1 n1 c1 (enc S) ∧ Below w1.heap.size w1 w2) := ⟨hm, hbl⟩
      obtain ⟨W3, C, hcv, hM3, hB3⟩ := str_bytes s w2 (by rw [hsS]; exact HL.out.1)
      rw [hsS] at hcv hM3
      have H3 : Hid (Mine W3 w2.heap.size w2.heap.size S C (sb s) ∧ Below w2.heap.size w2 W3) := ⟨hM3, hB3⟩
      have H4 : Hid (Mine W3 w1.heap.size g1 n1 c1 (enc S)) := H2.out.1.later H3.out.2
      have HN : Hid (n1 + S ≤ 140737488355328) := by
        have := HL.out; have := HEL.out; have := H2.out.1.len; show _ ≤ _; omega
      clear hm hbl hM3 hB3
      go_wp2_with (at_builtin; go_must (refine wpList_append_mine _ rfl (.tmp 20) (.tmp 22) 27 rfl 5 i0 Tryd.underlying27 HI.out.1 HI.out.2.1 HI.out.2.2.1 HI.out.2.2.2 w1.heap.size g1 n1 c1 (enc S) rfl H4.out (some ⟨w2.heap.size, 0, none⟩) S C (sb s) rfl (fun h => by cases h) H3.out.1.seg HN.out ?_); intro b' cap' w4 hm4 hb4; have H5 : Hid (Seg .u8 w4 (some ⟨b', 0, none⟩) (n1 + S) (enc S ++ sb s) ∧ w1.grownBy w4 none) := ⟨hm4.seg, grownBy_below (H2.out.2.trans ((H3.out.2.mono H2.out.2.size).trans hb4)) _⟩; clear hm4 hb4)
      refine (HLY.out w4 v1 F1 b' (n1 + S) cap' (H1.out.1.new H5.out.2) H5.out.1).mono ?_
      rintro r w5 ⟨rfl, h5⟩
      have H6 : Hid (XGoes B w g F w5 Y1 E1) := H1.out.seq (XGoes.pre H5.out.2 h5)
      clear h5
      go_wp2
      go_end0
      exact ⟨rfl, H6.out⟩
    · obtain rfl : E = 0 := by rw [hE, wte, if_neg h0, if_neg h1]
      obtain rfl := HE0.out rfl
      clear hE HE0
      go_enter Tryd.func66, Tryd.ntmps66
      go_wp2_with fail
      refine (HC.out w).mono ?_
      rintro r w2 ⟨g1, n1, c1, rfl, hm, hbl⟩
      have H2 : Hid (Mine w2 w.heap.size g1 n1 c1 (enc S) ∧ Below w.heap.size w w2) := ⟨hm, hbl⟩
      obtain ⟨W3, C, hcv, hM3, hB3⟩ := str_bytes s w2 (by rw [hsS]; exact HL.out.1)
      rw [hsS] at hcv hM3
      have H3 : Hid (Mine W3 w2.heap.size w2.heap.size S C (sb s) ∧ Below w2.heap.size w2 W3) := ⟨hM3, hB3⟩
      have H4 : Hid (Mine W3 w.heap.size g1 n1 c1 (enc S)) := H2.out.1.later H3.out.2
      have HN : Hid (n1 + S ≤ 140737488355328) := by
        have := HL.out; have := HEL.out; have := H2.out.1.len; show _ ≤ _; omega
      clear hm hbl hM3 hB3
      go_wp2_with (at_builtin; go_must (refine wpList_append_mine _ rfl (.tmp 20) (.tmp 22) 27 rfl 5 i0 Tryd.underlying27 HI.out.1 HI.out.2.1 HI.out.2.2.1 HI.out.2.2.2 w.heap.size g1 n1 c1 (enc S) rfl H4.out (some ⟨w2.heap.size, 0, none⟩) S C (sb s) rfl (fun h => by cases h) H3.out.1.seg HN.out ?_); intro b' cap' w4 hm4 hb4; have H5 : Hid (Seg .u8 w4 (some ⟨b', 0, none⟩) (n1 + S) (enc S ++ sb s) ∧ w.grownBy w4 none) := ⟨hm4.seg, grownBy_below (H2.out.2.trans ((H3.out.2.mono H2.out.2.size).trans hb4)) _⟩; clear hm4 hb4)
      refine (HLY.out w4 v F b' (n1 + S) cap' (HW.out.new H5.out.2) H5.out.1).mono ?_
      rintro r w5 ⟨rfl, h5⟩
      have H6 : Hid (XGoes B w g F w5 Y1 E1) := XGoes.pre H5.out.2 h5
      clear h5
      go_wp2
      go_end0
      exact ⟨rfl, H6.out⟩
end Go.Proofs.YtlmjgjimmbadeaaDoor
