/-
  What the document's Skip answers of whatever bytes and whatever number: what the plain function skp gives. Condition: the slice can be read, and its length is one that a machine has.
-/
import Derived.Test.YtoihckfmppcbdaaSkipC
import Derived.Test.YtoihckfmppcbdaaRead
namespace Go.Proofs.Ytoihckfmppcbdaa
open Go.RowKit
set_option linter.unusedVariables false

set_option maxHeartbeats 1000000 in
theorem refskip_c (a : Option Addr) (len cap : Nat) (xs : List Int) (N : Int) (w : World) (hs : Seg .u8 w a len xs) (hx : Bytes xs) (hl : len ≤ 140737488355328) (hcap : len ≤ cap) (hcm : cap ≤ 9223372036854775807) (hN0 : -9223372036854775808 ≤ N) (hN : N ≤ 9223372036854775807) :
    Calls Try.prog 9 #[.slice a len cap, .int .i64 N] w fun e w' => e = .returned (.tuple #[.int .i64 (skipped xs N).1, .int .i64 (skipped xs N).2]) ∧ w' = w := by
  have HS : Hid (Seg .u8 w a len xs) := hs
  have HX : Hid (Bytes xs) := hx
  clear hs hx
  by_cases h : N < 0
  · have hsk : Hid (skipped xs N = (0, 1)) := if_pos h
    go_enter Try.func9, Try.ntmps9
    go_wp2
    go_ret2
    exact ⟨by rw [hsk.out]; rfl, rfl⟩
  · have HE : Hid (skipped xs N = skp xs N.toNat 0) := if_neg h
    obtain ⟨N', rfl⟩ := Int.eq_ofNat_of_zero_le (show 0 ≤ N by omega)
    go_enter Try.func9, Try.ntmps9
    go_wp2
    go_loop [1, 6] (fun n i => ∃ k p : Nat, (k : Int) ≤ 9223372036854775807 ∧ n = .int .i64 k ∧ i = .int .i64 p ∧ p ≤ len ∧ skipped xs N' = skp xs k p) (fun n _ => (intOf n).toNat)
    case atStart => exact ⟨N', 0, hN, rfl, rfl, Nat.zero_le _, by have := HE.out; simpa using this⟩
    case round =>
      obtain ⟨k, p, hk, rfl, rfl, hp, hsk⟩ := hrel
      have HK : Hid (skipped xs N' = skp xs k p) := hsk
      clear hsk
      by_cases h0 : 0 < k
      · obtain ⟨j, hj⟩ : ∃ j, k = j + 1 := ⟨k - 1, by omega⟩
        have HR : Hid (skp xs k p = if (rd (xs.drop p)).2.2 = 0 then skp xs j (p + (rd (xs.drop p)).2.1.toNat) else (0, (rd (xs.drop p)).2.2)) := by show _ = _; rw [hj]; rfl
        have HJ : Hid (k = j + 1) := hj
        clear hj
        have hbd := rd_bd (xs.drop p) (bytes_drop HX.out p)
        by_cases hce : cap = p
        · have HNL : Hid (rd (xs.drop p) = (0, 0, 10)) := by
            show _ = _
            rw [List.drop_of_length_le (by rw [HS.out.1]; omega)]; exact rd_nil
          have HG : Hid (Seg .u8 w a 0 (xs.drop p)) := ⟨by rw [List.length_drop, HS.out.1]; omega, .inl rfl⟩
          have hlp : len = p := by omega
          subst hce
          have HLP : Hid (len = cap) := hlp
          clear hlp hbd
          go_wp2_with fail
          refine (read_c a _ _ (xs.drop cap) w ?_ (bytes_drop HX.out cap) (by omega)).mono ?_
          · first | exact HG.out | (rw [show len - cap = 0 from by omega]; exact HG.out)
          rintro e w2 ⟨rfl, rfl⟩
          rw [HNL.out]
          go_wp2
          go_ret2
          go_light
          refine ⟨?_, rfl⟩
          rw [HK.out, HR.out, HNL.out]
          rfl
        · go_wp2_with fail
          refine (read_c _ _ _ (xs.drop p) w (seg_from HS.out p) (bytes_drop HX.out p) (by omega)).mono ?_
          rintro e w2 ⟨rfl, hw⟩
          rw [hw]
          clear hw w2
          by_cases he : (rd (xs.drop p)).2.2 = 0
          · have hsz := rd_size (bytes_drop HX.out p) he
            rw [List.length_drop, HS.out.1] at hsz
            have HR2 : Hid (skp xs k p = skp xs j (p + (rd (xs.drop p)).2.1.toNat)) := by show _ = _; rw [HR.out, if_pos he]
            obtain ⟨V, m, hrd⟩ : ∃ (V : Int) (m : Nat), rd (xs.drop p) = (V, (m : Int), 0) := ⟨(rd (xs.drop p)).1, (rd (xs.drop p)).2.1.toNat, by
              apply Prod.ext
              · rfl
              · apply Prod.ext
                · show (rd (xs.drop p)).2.1 = ((rd (xs.drop p)).2.1.toNat : Int); omega
                · exact he⟩
            rw [hrd] at hsz HR2 ⊢
            simp only at hsz
            have hm : 1 ≤ m ∧ m ≤ len - p := by omega
            clear hsz hrd he hbd HR
            go_wp2
            go_round
            case rel =>
              go_light
              refine ⟨j, p + m, by have := HJ.out; omega, ?_, by go_num, by omega, ?_⟩
              · exact congrArg (Value.int .i64) (by have := HJ.out; omega)
              · rw [HK.out, HR2.out]; rfl
            case measure => simp [intOf]; omega
          · have HR2 : Hid (skp xs k p = (0, (rd (xs.drop p)).2.2)) := by show _ = _; rw [HR.out, if_neg he]
            obtain ⟨V, m, E, hrd⟩ : ∃ V m E, rd (xs.drop p) = (V, m, E) := ⟨_, _, _, rfl⟩
            rw [hrd] at he HR2 ⊢
            simp only at he
            have hE : (E != 0) = true := by simpa using he
            clear hrd he hbd HR
            go_wp2
            go_ret2
            go_light
            refine ⟨?_, rfl⟩
            rw [HK.out, HR2.out]
            rfl
      · obtain rfl : k = 0 := by omega
        go_wp2
        go_ret2
        go_light
        refine ⟨?_, rfl⟩
        rw [HK.out]
        rfl
end Go.Proofs.Ytoihckfmppcbdaa
