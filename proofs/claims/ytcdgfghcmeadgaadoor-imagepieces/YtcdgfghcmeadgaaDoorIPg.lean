/-
  What image's Peek and Room answer, and the document's: what the plain functions pk and rm give. Condition: at most 2^47 bytes.
-/
import Derived.Test.YtcdgfghcmeadgaaDoorFb
namespace Go.Proofs.YtcdgfghcmeadgaaDoor
open Go.RowKit
set_option linter.unusedVariables false

theorem peek_c (a : Option Addr) (len cap : Nat) (xs : List Int) (w : World) (h : Seg .u8 w a len xs) (hx : Bytes xs) (hl : len ≤ 140737488355328) (hlc : len ≤ cap) (hnz : a = none → cap = 0) :
    Calls Tryd.prog 30 #[.slice a len cap] w fun r w' => r = .returned (.tuple #[.int .i64 (pk xs).1, .int .i64 (pk xs).2.1, .int .i64 (pk xs).2.2.2]) ∧ w.grownBy w' none := by
  have HH : Hid (Calls Tryd.prog 63 #[.slice a len cap] w fun r w' => HA xs w r w') := head_c a len cap xs w h hx hl hlc hnz
  obtain ⟨V, n, q, e, hk⟩ : ∃ V n q e, pk xs = (V, n, q, e) := ⟨_, _, _, _, rfl⟩
  unfold HA at HH
  rw [hk] at HH ⊢
  clear h hx hnz hk
  go_enter Tryd.func30, Tryd.ntmps30
  go_wp2_with (go_at_call 63; go_must (refine (Calls.mono HH.out ?_)); rintro r w2 ⟨rfl, k⟩; have H2 : Hid (w.grownBy w2 none) := k; clear k)
  go_ret3
  exact ⟨rfl, H2.out⟩
theorem pk_bd {xs : List Int} (hx : Bytes xs) : 0 ≤ (pk xs).2.1 ∧ ((pk xs).2.2.2 = 0 ∧ (pk xs).2.2.1 ≤ xs.length ∨ (pk xs).2.2.2 = 92 ∧ (pk xs).2.2.1 = 0 ∧ (pk xs).2.1 = 0) := by
  unfold pk
  split
  · rename_i hc
    have h4 := len_of_mk4 hc.1
    have hys := bytes_drop hx 4
    have hyl : (xs.drop 4).length = xs.length - 4 := by rw [List.length_drop]
    have hl1 : (h1 xs).2.1 ≤ (xs.drop 4).length := (ri_bd hys 0 (Nat.zero_le _) _).2.2.2.1
    have h2l : (h2 xs).2.1 ≤ (xs.drop 4).length := pI_le hys hl1 _ _
    have h20 : 0 ≤ (h2 xs).1 := by
      unfold h2 pI
      split
      · simp
      · exact (ri_bd hys _ hl1 _).1
    exact ⟨h20, .inl ⟨rfl, by show 4 + (h2 xs).2.1 ≤ _; omega⟩⟩
  · exact ⟨by simp, .inr ⟨rfl, rfl, rfl⟩⟩
set_option maxRecDepth 20000 in
theorem room_c (a : Option Addr) (len cap : Nat) (xs : List Int) (w : World) (h : Seg .u8 w a len xs) (hx : Bytes xs) (hl : len ≤ 140737488355328) (hlc : len ≤ cap) (hnz : a = none → cap = 0) :
    Calls Tryd.prog 31 #[.slice a len cap] w fun r w' => r = .returned (.int .i64 (rm xs)) ∧ w.grownBy w' none := by
  have HH : Hid (Calls Tryd.prog 63 #[.slice a len cap] w fun r w' => HA xs w r w') := head_c a len cap xs w h hx hl hlc hnz
  have hb := pk_bd hx
  have hrm : rm xs = if (pk xs).2.2.2 = 0 then min (pk xs).2.1 (((len - (pk xs).2.2.1 - 4 : Nat) / 4 : Nat) : Int) else 0 := by unfold rm; rw [h.1]
  obtain ⟨V, n, q, e, hk⟩ : ∃ V n q e, pk xs = (V, n, q, e) := ⟨_, _, _, _, rfl⟩
  unfold HA at HH
  rw [hk] at HH hb hrm
  rw [h.1] at hb
  simp only at hb hrm
  have hql : q ≤ len := by omega
  have hrm2 : rm xs = min n (((len - q - 4 : Nat) / 4 : Nat) : Int) := by
    rw [hrm]
    rcases hb.2 with ⟨z, _⟩ | ⟨z, _, z2⟩
    · rw [if_pos z]
    · rw [if_neg (by omega), z2]
      omega
  rw [hrm2]
  have hn0 := hb.1
  clear h hx hnz hk hrm hrm2 hb
  rcases Nat.lt_or_ge len (q + 4) with hlt | hge
  · have f1 : ¬ (0 : Int) < (len : Int) - (q : Int) - 4 := by omega
    have HF : Hid (min n (((len - q - 4 : Nat) / 4 : Nat) : Int) = 0) := by show _ = _; omega
    rw [HF.out]
    go_enter Tryd.func31, Tryd.ntmps31
    go_wp2_with (go_at_call 63; go_must (refine (Calls.mono HH.out ?_)); rintro r w2 ⟨rfl, k⟩; have H2 : Hid (w.grownBy w2 none) := k; clear k)
    all_goals
      go_ret
      refine ⟨ret_int ?_, H2.out⟩
      omega
  · obtain ⟨d, hd⟩ : ∃ d : Nat, d = len - q - 4 := ⟨_, rfl⟩
    have hdI : (len : Int) - (q : Int) - 4 = (d : Int) := by omega
    rw [← hd]
    have hdb : d ≤ 140737488355328 := by omega
    clear hd hge
    rcases Nat.eq_zero_or_pos d with hd0 | hd0
    · subst hd0
      have f1 : ¬ (0 : Int) < (len : Int) - (q : Int) - 4 := by omega
      have HF : Hid (min n ((0 / 4 : Nat) : Int) = 0) := by show _ = _; omega
      rw [HF.out]
      clear hdI
      go_enter Tryd.func31, Tryd.ntmps31
      go_wp2_with (go_at_call 63; go_must (refine (Calls.mono HH.out ?_)); rintro r w2 ⟨rfl, k⟩; have H2 : Hid (w.grownBy w2 none) := k; clear k)
      all_goals
        go_ret
        refine ⟨ret_int ?_, H2.out⟩
        omega
    · have f1 : (0 : Int) < (d : Int) := by omega
      have HR : Hid (∀ r : Int, (r = n ∧ n ≤ (d : Int) / 4) ∨ (r = (d : Int) / 4 ∧ (d : Int) / 4 ≤ n) → r = min n ((d / 4 : Nat) : Int)) := fun r h => by omega
      go_enter Tryd.func31, Tryd.ntmps31
      go_wp2_with (go_at_call 63; go_must (refine (Calls.mono HH.out ?_)); rintro r w2 ⟨rfl, k⟩; have H2 : Hid (w.grownBy w2 none) := k; clear k)
      all_goals
        go_ret
        refine ⟨ret_int (HR.out _ ?_), H2.out⟩
        omega
end Go.Proofs.YtcdgfghcmeadgaaDoor
