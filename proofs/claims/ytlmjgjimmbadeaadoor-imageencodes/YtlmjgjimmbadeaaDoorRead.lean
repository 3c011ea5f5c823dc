/-
  What the document's Read answers, called with whatever bytes: what the plain function rd gives. Condition: the slice can be read, and its length is one that a machine has.
-/
import Derived.Test.YtlmjgjimmbadeaaDoorFa
namespace Go.Proofs.YtlmjgjimmbadeaaDoor
open Go.RowKit
set_option linter.unusedVariables false

theorem take_drop_snoc (xs : List Int) (k m : Nat) (hk : k < xs.length) (hm : m ≤ k) : val ((xs.take (k + 1)).drop m) = xs[m]?.getD 0 % 128 + 128 * val ((xs.take (k + 1)).drop (m + 1)) := by
  rw [val_drop _ m (by simp; omega)]
  rw [List.getElem?_take_of_lt (by omega)]

set_option maxHeartbeats 2000000 in
theorem read_c (a : Option Addr) (len cap : Nat) (xs : List Int) (w : World) (h : Seg .u8 w a len xs) (hx : Bytes xs) (hl : len ≤ 9223372036854775807) :
    Calls Tryd.prog 120 #[.slice a len cap] w fun e w' => e = .returned (.tuple #[.int .u64 (rd xs).1, .int .i64 (rd xs).2.1, .int .i64 (rd xs).2.2]) ∧ w' = w := by
  obtain ⟨hlen, h⟩ := h
  rcases h with rfl | ⟨b, off, rfl, hbw, hc⟩
  · obtain rfl : xs = [] := List.eq_nil_of_length_eq_zero hlen
    go_enter Tryd.func120, Tryd.ntmps120
    go_wp2
    refine wp_loop_rounds 1 ?_
    rw [rounds_succ]
    go_wp2
    go_ret3
    exact ⟨rfl, rfl⟩
  · go_enter Tryd.func120, Tryd.ntmps120
    go_wp2
    go_loop [5] (fun i => ∃ (k : Nat), k ≤ len ∧ i = .int .i64 k ∧ ∀ j, j < k → 128 ≤ xs[j]?.getD 0) (fun i => len - (intOf i).toNat)
    case atStart => exact ⟨0, Nat.zero_le _, rfl, fun j hj => by omega⟩
    case round =>
      obtain ⟨k, hk, rfl, hlead⟩ := hrel
      have HL : Hid (∀ j, j < k → 128 ≤ xs[j]?.getD 0) := hlead
      have HE : Hid (xs.length = len) := hlen
      clear hlead hlen
      by_cases hlt : k < len
      · have hcell := hc k (by omega)
        have hxk := hx k (by have := HE.out; omega)
        by_cases hc128 : 128 ≤ xs[k]?.getD 0
        · clear hc hx
          go_wp2
          go_round
          case rel =>
            go_light
            refine ⟨k + 1, by omega, by go_num, fun j hj => ?_⟩
            rcases Nat.lt_or_ge j k with h | h
            · exact HL.out j h
            · obtain rfl : j = k := by omega
              exact hc128
          case measure => simp [intOf]; try omega
        · have hcn : xs[k]?.getD 0 < 128 := by omega
          by_cases h10 : 10 ≤ k
          · clear hc hx
            go_wp2
            go_ret3
            go_light
            exact ⟨ret3rd (rd_long xs (fun j hj => HL.out j (by omega)) (by have := HE.out; omega)), rfl⟩
          · have bl : ((k : Int) == (len : Int)) = false := by simp; omega
            by_cases h91 : 9 ≤ k ∧ 1 < xs[k]?.getD 0
            · obtain ⟨h9, h1⟩ := h91
              have b9 : ((k : Int) == 9) = true := by simp; omega
              clear hc hx
              go_wp2
              go_ret3
              go_light
              refine ⟨ret3rd ?_, rfl⟩
              obtain rfl : k = 9 := by omega
              exact rd_nine xs HL.out (by have := HE.out; omega) (by omega) h1
            · by_cases h0 : 0 < k ∧ xs[k]?.getD 0 ≤ 0
              · obtain ⟨hk0, h0⟩ := h0
                have b0 : (xs[k]?.getD 0 == 0) = true := by simp; omega
                clear hc hx
                by_cases h9 : 9 ≤ k
                · have b9 : ((k : Int) == 9) = true := by simp; omega
                  go_wp2
                  go_ret3
                  go_light
                  exact ⟨ret3rd (rd_form xs k HL.out (by have := HE.out; omega) (by omega) hk0 (by omega)), rfl⟩
                · have b9 : ((k : Int) == 9) = false := by simp; omega
                  go_wp2
                  go_ret3
                  go_light
                  exact ⟨ret3rd (rd_form xs k HL.out (by have := HE.out; omega) (by omega) hk0 (by omega)), rfl⟩
              · have HR : Hid (rd xs = (val (xs.take (k + 1)), (k : Int) + 1, 0)) := rd_ok xs k HL.out (by have := HE.out; omega) (by omega) (by omega) (fun h => by omega) (fun h => by omega)
                have HF : Hid (val (xs.take (k + 1)) < 18446744073709551616) := val_fits xs k (by have := HE.out; omega) (by omega) hxk.1 hcn (fun h => by omega)
                have HC : Hid (∀ i, i < len → w.cell? ⟨b, off + i, none⟩ = some (.int .u8 (xs[i]?.getD 0))) := hc
                have HB : Hid (Bytes xs) := hx
                clear hc hx
                by_cases hk0 : k ≤ 0
                · have b9 : ((k : Int) == 9) = false := by simp; omega
                  go_wp2
                  go_loop [6, 7] (fun v i => ∃ V : Int, v = .int .u64 V ∧ ((∃ m : Nat, m ≤ k ∧ i = .int .i64 m ∧ V = val ((xs.take (k + 1)).drop (m + 1))) ∨ (i = .int .i64 (-1) ∧ V = val (xs.take (k + 1))))) (fun _ i => (intOf i + 1).toNat)
                  case atStart => exact ⟨0, rfl, .inl ⟨k, Nat.le_refl _, rfl, by rw [List.drop_of_length_le (by simp; omega)]; rfl⟩⟩
                  case round =>
                    obtain ⟨V, rfl, ⟨m, hm, rfl, hV⟩ | ⟨rfl, hV⟩⟩ := hrel
                    · have hcm := HC.out m (by omega)
                      have hxm := HB.out m (by have := HE.out; omega)
                      have hd := take_drop_snoc xs k m (by have := HE.out; omega) hm
                      have hle := val_drop_le (xs.take (k + 1)) m
                      have hV0 : 0 ≤ V := by rw [hV]; exact val_nonneg _
                      have hVb : V * 128 + xs[m]?.getD 0 % 128 < 18446744073709551616 := by have := HF.out; rw [hV]; omega
                      have HV : Hid (V * 128 + xs[m]?.getD 0 % 128 = val ((xs.take (k + 1)).drop m)) := by show _ = _; rw [hV]; omega
                      clear hV hd hle hcell hxk
                      go_wp2
                      go_round
                      case rel =>
                        go_light
                        refine ⟨_, rfl, ?_⟩
                        by_cases hm0 : m = 0
                        · subst hm0
                          exact .inr ⟨by go_num, HV.out⟩
                        · obtain ⟨m', rfl⟩ : ∃ m', m = m' + 1 := ⟨m - 1, by omega⟩
                          exact .inl ⟨m', by omega, by go_num, HV.out⟩
                      case measure => simp [intOf]; try omega
                    · have HV : Hid (V = val (xs.take (k + 1))) := hV
                      clear hV
                      go_wp2
                      go_ret3
                      go_light
                      exact ⟨(ret3 HV.out rfl rfl).trans (ret3rd HR.out), rfl⟩
                · have hk1 : 0 < k := by omega
                  have b0 : (xs[k]?.getD 0 == 0) = false := by simp; omega
                  by_cases h9 : 9 ≤ k
                  · have b9 : ((k : Int) == 9) = true := by simp; omega
                    go_wp2
                    go_loop [6, 7] (fun v i => ∃ V : Int, v = .int .u64 V ∧ ((∃ m : Nat, m ≤ k ∧ i = .int .i64 m ∧ V = val ((xs.take (k + 1)).drop (m + 1))) ∨ (i = .int .i64 (-1) ∧ V = val (xs.take (k + 1))))) (fun _ i => (intOf i + 1).toNat)
                    case atStart => exact ⟨0, rfl, .inl ⟨k, Nat.le_refl _, rfl, by rw [List.drop_of_length_le (by simp; omega)]; rfl⟩⟩
                    case round =>
                      obtain ⟨V, rfl, ⟨m, hm, rfl, hV⟩ | ⟨rfl, hV⟩⟩ := hrel
                      · have hcm := HC.out m (by omega)
                        have hxm := HB.out m (by have := HE.out; omega)
                        have hd := take_drop_snoc xs k m (by have := HE.out; omega) hm
                        have hle := val_drop_le (xs.take (k + 1)) m
                        have hV0 : 0 ≤ V := by rw [hV]; exact val_nonneg _
                        have hVb : V * 128 + xs[m]?.getD 0 % 128 < 18446744073709551616 := by have := HF.out; rw [hV]; omega
                        have HV : Hid (V * 128 + xs[m]?.getD 0 % 128 = val ((xs.take (k + 1)).drop m)) := by show _ = _; rw [hV]; omega
                        clear hV hd hle hcell hxk
                        go_wp2
                        go_round
                        case rel =>
                          go_light
                          refine ⟨_, rfl, ?_⟩
                          by_cases hm0 : m = 0
                          · subst hm0
                            exact .inr ⟨by go_num, HV.out⟩
                          · obtain ⟨m', rfl⟩ : ∃ m', m = m' + 1 := ⟨m - 1, by omega⟩
                            exact .inl ⟨m', by omega, by go_num, HV.out⟩
                        case measure => simp [intOf]; try omega
                      · have HV : Hid (V = val (xs.take (k + 1))) := hV
                        clear hV
                        go_wp2
                        go_ret3
                        go_light
                        exact ⟨(ret3 HV.out rfl rfl).trans (ret3rd HR.out), rfl⟩
                  · have b9 : ((k : Int) == 9) = false := by simp; omega
                    go_wp2
                    go_loop [6, 7] (fun v i => ∃ V : Int, v = .int .u64 V ∧ ((∃ m : Nat, m ≤ k ∧ i = .int .i64 m ∧ V = val ((xs.take (k + 1)).drop (m + 1))) ∨ (i = .int .i64 (-1) ∧ V = val (xs.take (k + 1))))) (fun _ i => (intOf i + 1).toNat)
                    case atStart => exact ⟨0, rfl, .inl ⟨k, Nat.le_refl _, rfl, by rw [List.drop_of_length_le (by simp; omega)]; rfl⟩⟩
                    case round =>
                      obtain ⟨V, rfl, ⟨m, hm, rfl, hV⟩ | ⟨rfl, hV⟩⟩ := hrel
                      · have hcm := HC.out m (by omega)
                        have hxm := HB.out m (by have := HE.out; omega)
                        have hd := take_drop_snoc xs k m (by have := HE.out; omega) hm
                        have hle := val_drop_le (xs.take (k + 1)) m
                        have hV0 : 0 ≤ V := by rw [hV]; exact val_nonneg _
                        have hVb : V * 128 + xs[m]?.getD 0 % 128 < 18446744073709551616 := by have := HF.out; rw [hV]; omega
                        have HV : Hid (V * 128 + xs[m]?.getD 0 % 128 = val ((xs.take (k + 1)).drop m)) := by show _ = _; rw [hV]; omega
                        clear hV hd hle hcell hxk
                        go_wp2
                        go_round
                        case rel =>
                          go_light
                          refine ⟨_, rfl, ?_⟩
                          by_cases hm0 : m = 0
                          · subst hm0
                            exact .inr ⟨by go_num, HV.out⟩
                          · obtain ⟨m', rfl⟩ : ∃ m', m = m' + 1 := ⟨m - 1, by omega⟩
                            exact .inl ⟨m', by omega, by go_num, HV.out⟩
                        case measure => simp [intOf]; try omega
                      · have HV : Hid (V = val (xs.take (k + 1))) := hV
                        clear hV
                        go_wp2
                        go_ret3
                        go_light
                        exact ⟨(ret3 HV.out rfl rfl).trans (ret3rd HR.out), rfl⟩
      · clear hc hx
        by_cases h10 : len < 10
        · go_wp2
          go_ret3
          go_light
          exact ⟨ret3rd (rd_short xs (fun j hj => HL.out j (by have := HE.out; omega)) (by have := HE.out; omega)), rfl⟩
        · go_wp2
          go_ret3
          go_light
          exact ⟨ret3rd (rd_long xs (fun j hj => HL.out j (by omega)) (by have := HE.out; omega)), rfl⟩
end Go.Proofs.YtlmjgjimmbadeaaDoor
