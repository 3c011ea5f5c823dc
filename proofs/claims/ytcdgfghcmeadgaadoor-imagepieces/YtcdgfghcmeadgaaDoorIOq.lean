/-
  What image's needs answers: how many bytes a row has at least that begins so. Condition: at most 2^46 bytes.
-/
import Derived.Test.YtcdgfghcmeadgaaDoorIOs
namespace Go.Proofs.YtcdgfghcmeadgaaDoor
open Go.RowKit
set_option linter.unusedVariables false

def n1 (xs : List Int) : Int × Nat × Int := ri (xs.take 10) 0 1024
def e1 (xs : List Int) : Nat := (n1 xs).2.1 + (n1 xs).1.toNat
def n2 (xs : List Int) : Int × Nat × Int := ri ((xs.drop (e1 xs)).take 10) 0 65536
def e2 (xs : List Int) : Nat := e1 xs + ((n2 xs).2.1 + (n2 xs).1.toNat)
theorem nd_is (xs : List Int) : nd xs = if (n1 xs).2.2 ≠ 0 then xs.length + 1 else if xs.length < e1 xs then e1 xs else if (n2 xs).2.2 ≠ 0 then xs.length + 1 else if xs.length < e2 xs then e2 xs else xs.length + 1 := rfl
/-- How far needs has come. -/
def NS (xs : List Int) (j E : Nat) : Prop := (j = 0 ∧ E = 0) ∨ (j = 1 ∧ E = e1 xs ∧ (n1 xs).2.2 = 0 ∧ e1 xs ≤ xs.length) ∨ (j = 2 ∧ (n1 xs).2.2 = 0 ∧ e1 xs ≤ xs.length ∧ (n2 xs).2.2 = 0 ∧ e2 xs ≤ xs.length)
theorem ns_end {xs : List Int} {E : Nat} (h : NS xs 2 E) : nd xs = xs.length + 1 := by
  rcases h with ⟨h, _⟩ | ⟨h, _⟩ | ⟨_, h1, h2, h3, h4⟩
  · omega
  · omega
  · rw [nd_is, if_neg (by rw [h1]; decide), if_neg (by omega), if_neg (by rw [h3]; decide), if_neg (by omega)]
theorem ns0 {xs : List Int} {E : Nat} (h : NS xs 0 E) : E = 0 ∧ ((n1 xs).2.2 ≠ 0 → nd xs = xs.length + 1) ∧ ((n1 xs).2.2 = 0 → xs.length < e1 xs → nd xs = e1 xs) ∧ ((n1 xs).2.2 = 0 → e1 xs ≤ xs.length → NS xs 1 (e1 xs)) := by
  rcases h with ⟨_, h⟩ | ⟨h, _⟩ | ⟨h, _⟩
  · refine ⟨h, fun k => ?_, fun k l => ?_, fun k l => .inr (.inl ⟨rfl, rfl, k, l⟩)⟩
    · rw [nd_is, if_pos k]
    · rw [nd_is, if_neg (by rw [k]; decide), if_pos l]
  · omega
  · omega
theorem ns1 {xs : List Int} {E : Nat} (h : NS xs 1 E) : E = e1 xs ∧ ((n2 xs).2.2 ≠ 0 → nd xs = xs.length + 1) ∧ ((n2 xs).2.2 = 0 → xs.length < e2 xs → nd xs = e2 xs) ∧ ((n2 xs).2.2 = 0 → e2 xs ≤ xs.length → NS xs 2 (e2 xs)) := by
  rcases h with ⟨h, _⟩ | ⟨_, h, h1, h2⟩ | ⟨h, _⟩
  · omega
  · refine ⟨h, fun k => ?_, fun k l => ?_, fun k l => .inr (.inr ⟨rfl, h1, h2, k, l⟩)⟩
    · rw [nd_is, if_neg (by rw [h1]; decide), if_neg (by omega), if_pos k]
    · rw [nd_is, if_neg (by rw [h1]; decide), if_neg (by omega), if_neg (by rw [k]; decide), if_pos l]
  · omega
theorem cutI_none {a : Option Addr} {cap p : Nat} (h : cutI a cap p = none) : a = none := by
  unfold cutI at h
  split at h
  · exact h
  · simpa using h
/-- The number that stands at a place, by a Reader of its own over the next ten bytes. -/
theorem cut_ten {w : World} {a : Option Addr} {n c E h : Nat} {xs : List Int} (hx : Seg .u8 w a n xs) (hnc : n ≤ c) (hE : E ≤ n) (hh : (h = n ∧ n ≤ E + 10) ∨ (h = E + 10 ∧ E + 10 < n)) : Seg .u8 w (cutI a c E) (h - E) ((xs.drop E).take 10) := by
  have h1 := seg_cutI hx E hnc
  have hl : (xs.drop E).length = n - E := by rw [List.length_drop, hx.1]
  rcases hh with ⟨rfl, hh⟩ | ⟨rfl, hh⟩
  · rw [List.take_of_length_le (by omega)]; exact h1
  · rw [show E + 10 - E = 10 from by omega]
    exact seg_takeO h1 10 (by omega)
set_option maxRecDepth 20000 in
set_option maxHeartbeats 4000000 in
theorem needs_c (a : Option Addr) (n c : Nat) (xs : List Int) (w : World) (hx : Seg .u8 w a n xs) (hb : Bytes xs) (hnz : a = none → c = 0) (hnc : n ≤ c) (hn : n ≤ 70368744177664) :
    Calls Tryd.prog 131 #[.slice a n c] w fun r w' => r = .returned (.int .i64 (nd xs : Int)) ∧ w.grownBy w' none := by
  have hxl : xs.length = n := hx.1
  have HX : Hid (Seg .u8 w a n xs ∧ Bytes xs ∧ (a = none → c = 0) ∧ n ≤ c ∧ xs.length = n) := ⟨hx, hb, hnz, hnc, hxl⟩
  clear hx hb hnz hnc hxl
  go_enter Tryd.func131, Tryd.ntmps131
  go_wp2_with fail
  go_loopw [3, 9] (fun e i wr => ∃ (j E : Nat), j ≤ 2 ∧ E ≤ n ∧ i = .int .i64 (j : Int) ∧ e = .int .i64 (E : Int) ∧ Hid (NS xs j E ∧ w.grownBy wr none)) (fun _ i _ => 2 - (intOf i).toNat)
  case atStart => exact ⟨0, 0, Nat.zero_le _, Nat.zero_le _, rfl, rfl, .inl ⟨rfl, rfl⟩, World.grownBy.refl _ _⟩
  case round =>
    obtain ⟨j, E, hj, hE, rfl, rfl, HI⟩ := hrel
    obtain ⟨HNS, HG⟩ : Hid (NS xs j E) ∧ Hid (w.grownBy wr none) := ⟨HI.out.1, HI.out.2⟩
    clear HI
    obtain rfl | rfl | rfl : j = 0 ∨ j = 1 ∨ j = 2 := by omega
    · obtain ⟨hEE, q1, q2, q3⟩ := ns0 HNS.out
      have hT : ri ((xs.drop E).take 10) 0 1024 = n1 xs := by rw [hEE]; rfl
      have hbd := ri_bd (xs := (xs.drop E).take 10) (bytes_takeO (bytes_drop HX.out.2.1 E) 10) 0 (Nat.zero_le _) 1024
      rw [hT] at hbd
      have hlt10 : ((xs.drop E).take 10).length ≤ 10 := by rw [List.length_take]; omega
      obtain ⟨V, hV⟩ : ∃ V : Nat, V = (n1 xs).1.toNat := ⟨_, rfl⟩
      obtain ⟨Q, hQ⟩ : ∃ Q, Q = (n1 xs).2.1 := ⟨_, rfl⟩
      obtain ⟨Er, hEr⟩ : ∃ Er, Er = (n1 xs).2.2 := ⟨_, rfl⟩
      have hT2 : ri ((xs.drop E).take 10) 0 1024 = ((V : Int), Q, Er) := by rw [hT, hV, hQ, hEr, Int.toNat_of_nonneg hbd.1]
      have hV2 : V ≤ 1024 := by omega
      have hQ2 : Q ≤ 10 := by omega
      have hEn : e1 xs = E + (Q + V) := by rw [hEE]; unfold e1; rw [hQ, hV]; omega
      rw [← hEr] at q1 q2 q3
      rw [hEn, HX.out.2.2.2.2] at q2 q3
      rw [HX.out.2.2.2.2] at q1
      have HQS : Hid ((Er ≠ 0 → nd xs = n + 1) ∧ (Er = 0 → n < E + (Q + V) → nd xs = E + (Q + V)) ∧ (Er = 0 → E + (Q + V) ≤ n → NS xs 1 (E + (Q + V)))) := ⟨q1, q2, q3⟩
      clear q1 q2 q3 hT hbd hlt10 hV hQ hEr hEn hEE
      obtain ⟨h, hh⟩ : ∃ h, (h = n ∧ n ≤ E + 10) ∨ (h = E + 10 ∧ E + 10 < n) := by
        rcases Nat.lt_or_ge (E + 10) n with z | z
        · exact ⟨_, .inr ⟨rfl, z⟩⟩
        · exact ⟨_, .inl ⟨rfl, z⟩⟩
      have HNW : Hid (Calls Tryd.prog 51 #[.slice (cutI a c E) (h - E) (c - E)] wr fun r w' => ∃ q a' cap', r = .returned (.pointer (some ⟨q, 0, none⟩)) ∧ RS w' q a' (h - E) cap' ((xs.drop E).take 10) 0 0 ∧ wr.heap.size ≤ q ∧ (∀ b o s, a' = some ⟨b, o, s⟩ → wr.heap.size ≤ b) ∧ wr.grownBy w' none) := new_c _ _ _ _ wr ((cut_ten HX.out.1 HX.out.2.2.2.1 hE hh).grew HG.out (by simp)) (bytes_takeO (bytes_drop HX.out.2.1 E) 10) (by omega) (fun z => by
        have := HX.out.2.2.1 (cutI_none z)
        omega)
      have HIN : Hid (∀ q a' cap' W, RS W q a' (h - E) cap' ((xs.drop E).take 10) 0 0 → Calls Tryd.prog 81 #[.pointer (some ⟨q, 0, none⟩), .int .i64 1024] W fun r w' => r = .returned (.int .i64 (V : Int)) ∧ RS w' q a' (h - E) cap' ((xs.drop E).take 10) Er Q ∧ W.grownBy w' (some q)) := fun q a' cap' W hr => by
        have := int_ok q a' (h - E) cap' ((xs.drop E).take 10) 0 1024 W hr (by decide)
        rw [hT2] at this
        exact this
      clear hT2
      have hidx : ∀ W, (Instr.index 180 (.agg #[.int .i64 1024, .int .i64 65536]) (.int .i64 0)).run Tryd.prog W = .ok (.int .i64 1024) W := fun W => by kernel_rfl
      have hadd : wrap64 ((E : Int) + 10) = (E : Int) + 10 := IntWalk.wrap64_in _ ⟨by omega, by omega⟩
      have hadd2 : IntKind.i64.wrap ((E : Int) + 10) = (E : Int) + 10 := IntWalk.i64_in _ ⟨by omega, by omega⟩
      rcases hh with ⟨hh0, hh⟩ | ⟨rfl, hh⟩
      · obtain rfl := hh0.symm
        clear hh0
        have hsl : ∀ W, (Instr.slice 27 (.slice a n c) (some (.int .i64 (E : Int))) (some (.int .i64 (n : Int))) none).run Tryd.prog W = .ok (.slice (cutI a c E) (n - E) (c - E)) W := sliceI a n c E (n) E (n : Int) rfl rfl (by omega) (by have := HX.out.2.2.2.1; omega)
        have hmin : (n : Int) ≤ (E : Int) + 10 := by omega
        by_cases hEr : Er = 0
        · subst hEr
          have hw1 : wrap64 ((Q : Int) + (V : Int)) = (Q : Int) + (V : Int) := IntWalk.wrap64_in _ ⟨by omega, by omega⟩
          have hw2 : wrap64 ((E : Int) + ((Q : Int) + (V : Int))) = (E : Int) + ((Q : Int) + (V : Int)) := IntWalk.wrap64_in _ ⟨by omega, by omega⟩
          have hw3 : IntKind.i64.wrap ((Q : Int) + (V : Int)) = (Q : Int) + (V : Int) := IntWalk.i64_in _ ⟨by omega, by omega⟩
          have hw4 : IntKind.i64.wrap ((E : Int) + ((Q : Int) + (V : Int))) = (E : Int) + ((Q : Int) + (V : Int)) := IntWalk.i64_in _ ⟨by omega, by omega⟩
          rcases Nat.lt_or_ge n (E + (Q + V)) with hgt | hle
          · have hgt1 : (n : Int) < (E : Int) + ((Q : Int) + (V : Int)) := by omega
            go_wp2_with (first
              | ((fail_if_success (have z := H1)); go_at_call 51; go_must (refine (Calls.mono HNW.out ?_)); rintro r w1 ⟨q, a', cap', rfl, h1, h2, h3, h4⟩; have H1 : Hid (RS w1 q a' (n - E) cap' ((xs.drop E).take 10) 0 0 ∧ wr.heap.size ≤ q ∧ wr.grownBy w1 none) := ⟨h1, h2, h4⟩; clear h1 h2 h3 h4)
              | ((fail_if_success (have z := H2)); have z := H1; clear z; go_at_call 81; go_must (refine (Calls.mono (HIN.out _ _ _ _ H1.out.1) ?_)); rintro r w2 ⟨rfl, h1, h2⟩; have H2 : Hid (RS w2 q a' (n - E) cap' ((xs.drop E).take 10) 0 Q ∧ w.grownBy w2 none) := ⟨h1, gb_trans HG.out (gb_far' H1.out.2.2 h2 H1.out.2.1)⟩; clear h1 h2)
              | (have z := H2; clear z; go_at_call 97; go_must (refine (Calls.mono (err_c q 0 _ _ _ H2.out.1.rdr) ?_)); rintro r wq ⟨rfl, hq⟩; obtain rfl := hq.symm; clear hq)
              | (have z := H2; clear z; go_at_call 98; go_must (refine (Calls.mono (at_c q 0 _ _ _ H2.out.1.rdr) ?_)); rintro r wq ⟨rfl, hq⟩; obtain rfl := hq.symm; clear hq))
            go_ret
            exact ⟨by rw [HQS.out.2.1 (by first | rfl | trivial) hgt, show ((E + (Q + V) : Nat) : Int) = (E : Int) + ((Q : Int) + (V : Int)) from by omega]; first | done | rfl | (congr 2; rfl) | (simp [go_sem]; done), H2.out.2⟩
          · have hle1 : ¬ (n : Int) < (E : Int) + ((Q : Int) + (V : Int)) := by omega
            go_wp2_with (first
              | ((fail_if_success (have z := H1)); go_at_call 51; go_must (refine (Calls.mono HNW.out ?_)); rintro r w1 ⟨q, a', cap', rfl, h1, h2, h3, h4⟩; have H1 : Hid (RS w1 q a' (n - E) cap' ((xs.drop E).take 10) 0 0 ∧ wr.heap.size ≤ q ∧ wr.grownBy w1 none) := ⟨h1, h2, h4⟩; clear h1 h2 h3 h4)
              | ((fail_if_success (have z := H2)); have z := H1; clear z; go_at_call 81; go_must (refine (Calls.mono (HIN.out _ _ _ _ H1.out.1) ?_)); rintro r w2 ⟨rfl, h1, h2⟩; have H2 : Hid (RS w2 q a' (n - E) cap' ((xs.drop E).take 10) 0 Q ∧ w.grownBy w2 none) := ⟨h1, gb_trans HG.out (gb_far' H1.out.2.2 h2 H1.out.2.1)⟩; clear h1 h2)
              | (have z := H2; clear z; go_at_call 97; go_must (refine (Calls.mono (err_c q 0 _ _ _ H2.out.1.rdr) ?_)); rintro r wq ⟨rfl, hq⟩; obtain rfl := hq.symm; clear hq)
              | (have z := H2; clear z; go_at_call 98; go_must (refine (Calls.mono (at_c q 0 _ _ _ H2.out.1.rdr) ?_)); rintro r wq ⟨rfl, hq⟩; obtain rfl := hq.symm; clear hq))
            go_roundw
            case rel => exact ⟨1, E + (Q + V), by omega, hle, rfl, by rw [show ((E + (Q + V) : Nat) : Int) = (E : Int) + ((Q : Int) + (V : Int)) from by omega], HQS.out.2.2 (by first | rfl | trivial) hle, H2.out.2⟩
            case measure => simp [intOf]
        · have hEr2 : (Er == 0) = false := by simp; exact hEr
          go_wp2_with (first
            | ((fail_if_success (have z := H1)); go_at_call 51; go_must (refine (Calls.mono HNW.out ?_)); rintro r w1 ⟨q, a', cap', rfl, h1, h2, h3, h4⟩; have H1 : Hid (RS w1 q a' (n - E) cap' ((xs.drop E).take 10) 0 0 ∧ wr.heap.size ≤ q ∧ wr.grownBy w1 none) := ⟨h1, h2, h4⟩; clear h1 h2 h3 h4)
            | ((fail_if_success (have z := H2)); have z := H1; clear z; go_at_call 81; go_must (refine (Calls.mono (HIN.out _ _ _ _ H1.out.1) ?_)); rintro r w2 ⟨rfl, h1, h2⟩; have H2 : Hid (RS w2 q a' (n - E) cap' ((xs.drop E).take 10) Er Q ∧ w.grownBy w2 none) := ⟨h1, gb_trans HG.out (gb_far' H1.out.2.2 h2 H1.out.2.1)⟩; clear h1 h2)
            | (have z := H2; clear z; go_at_call 97; go_must (refine (Calls.mono (err_c q Er _ _ _ H2.out.1.rdr) ?_)); rintro r wq ⟨rfl, hq⟩; obtain rfl := hq.symm; clear hq)
            | (have z := H2; clear z; go_at_call 98; go_must (refine (Calls.mono (at_c q Er _ _ _ H2.out.1.rdr) ?_)); rintro r wq ⟨rfl, hq⟩; obtain rfl := hq.symm; clear hq))
          go_ret
          exact ⟨by rw [HQS.out.1 hEr]; rfl, H2.out.2⟩
      · rw [show E + 10 - E = 10 from by omega] at HNW HIN
        have hsl : ∀ W, (Instr.slice 27 (.slice a n c) (some (.int .i64 (E : Int))) (some (.int .i64 ((E : Int) + 10))) none).run Tryd.prog W = .ok (.slice (cutI a c E) 10 (c - E)) W := fun W => by
          have := sliceI a n c E (E + 10) E ((E : Int) + 10) rfl (by omega) (by omega) (by have := HX.out.2.2.2.1; omega) W
          rw [show E + 10 - E = 10 from by omega] at this
          exact this
        have hmin : ¬ (n : Int) ≤ (E : Int) + 10 := by omega
        have hmin2 : (E : Int) + 10 < (n : Int) := by omega
        by_cases hEr : Er = 0
        · subst hEr
          have hw1 : wrap64 ((Q : Int) + (V : Int)) = (Q : Int) + (V : Int) := IntWalk.wrap64_in _ ⟨by omega, by omega⟩
          have hw2 : wrap64 ((E : Int) + ((Q : Int) + (V : Int))) = (E : Int) + ((Q : Int) + (V : Int)) := IntWalk.wrap64_in _ ⟨by omega, by omega⟩
          have hw3 : IntKind.i64.wrap ((Q : Int) + (V : Int)) = (Q : Int) + (V : Int) := IntWalk.i64_in _ ⟨by omega, by omega⟩
          have hw4 : IntKind.i64.wrap ((E : Int) + ((Q : Int) + (V : Int))) = (E : Int) + ((Q : Int) + (V : Int)) := IntWalk.i64_in _ ⟨by omega, by omega⟩
          rcases Nat.lt_or_ge n (E + (Q + V)) with hgt | hle
          · have hgt1 : (n : Int) < (E : Int) + ((Q : Int) + (V : Int)) := by omega
            go_wp2_with (first
              | ((fail_if_success (have z := H1)); go_at_call 51; go_must (refine (Calls.mono HNW.out ?_)); rintro r w1 ⟨q, a', cap', rfl, h1, h2, h3, h4⟩; have H1 : Hid (RS w1 q a' 10 cap' ((xs.drop E).take 10) 0 0 ∧ wr.heap.size ≤ q ∧ wr.grownBy w1 none) := ⟨h1, h2, h4⟩; clear h1 h2 h3 h4)
              | ((fail_if_success (have z := H2)); have z := H1; clear z; go_at_call 81; go_must (refine (Calls.mono (HIN.out _ _ _ _ H1.out.1) ?_)); rintro r w2 ⟨rfl, h1, h2⟩; have H2 : Hid (RS w2 q a' 10 cap' ((xs.drop E).take 10) 0 Q ∧ w.grownBy w2 none) := ⟨h1, gb_trans HG.out (gb_far' H1.out.2.2 h2 H1.out.2.1)⟩; clear h1 h2)
              | (have z := H2; clear z; go_at_call 97; go_must (refine (Calls.mono (err_c q 0 _ _ _ H2.out.1.rdr) ?_)); rintro r wq ⟨rfl, hq⟩; obtain rfl := hq.symm; clear hq)
              | (have z := H2; clear z; go_at_call 98; go_must (refine (Calls.mono (at_c q 0 _ _ _ H2.out.1.rdr) ?_)); rintro r wq ⟨rfl, hq⟩; obtain rfl := hq.symm; clear hq))
            go_ret
            exact ⟨by rw [HQS.out.2.1 (by first | rfl | trivial) hgt, show ((E + (Q + V) : Nat) : Int) = (E : Int) + ((Q : Int) + (V : Int)) from by omega]; first | done | rfl | (congr 2; rfl) | (simp [go_sem]; done), H2.out.2⟩
          · have hle1 : ¬ (n : Int) < (E : Int) + ((Q : Int) + (V : Int)) := by omega
            go_wp2_with (first
              | ((fail_if_success (have z := H1)); go_at_call 51; go_must (refine (Calls.mono HNW.out ?_)); rintro r w1 ⟨q, a', cap', rfl, h1, h2, h3, h4⟩; have H1 : Hid (RS w1 q a' 10 cap' ((xs.drop E).take 10) 0 0 ∧ wr.heap.size ≤ q ∧ wr.grownBy w1 none) := ⟨h1, h2, h4⟩; clear h1 h2 h3 h4)
              | ((fail_if_success (have z := H2)); have z := H1; clear z; go_at_call 81; go_must (refine (Calls.mono (HIN.out _ _ _ _ H1.out.1) ?_)); rintro r w2 ⟨rfl, h1, h2⟩; have H2 : Hid (RS w2 q a' 10 cap' ((xs.drop E).take 10) 0 Q ∧ w.grownBy w2 none) := ⟨h1, gb_trans HG.out (gb_far' H1.out.2.2 h2 H1.out.2.1)⟩; clear h1 h2)
              | (have z := H2; clear z; go_at_call 97; go_must (refine (Calls.mono (err_c q 0 _ _ _ H2.out.1.rdr) ?_)); rintro r wq ⟨rfl, hq⟩; obtain rfl := hq.symm; clear hq)
              | (have z := H2; clear z; go_at_call 98; go_must (refine (Calls.mono (at_c q 0 _ _ _ H2.out.1.rdr) ?_)); rintro r wq ⟨rfl, hq⟩; obtain rfl := hq.symm; clear hq))
            go_roundw
            case rel => exact ⟨1, E + (Q + V), by omega, hle, rfl, by rw [show ((E + (Q + V) : Nat) : Int) = (E : Int) + ((Q : Int) + (V : Int)) from by omega], HQS.out.2.2 (by first | rfl | trivial) hle, H2.out.2⟩
            case measure => simp [intOf]
        · have hEr2 : (Er == 0) = false := by simp; exact hEr
          go_wp2_with (first
            | ((fail_if_success (have z := H1)); go_at_call 51; go_must (refine (Calls.mono HNW.out ?_)); rintro r w1 ⟨q, a', cap', rfl, h1, h2, h3, h4⟩; have H1 : Hid (RS w1 q a' 10 cap' ((xs.drop E).take 10) 0 0 ∧ wr.heap.size ≤ q ∧ wr.grownBy w1 none) := ⟨h1, h2, h4⟩; clear h1 h2 h3 h4)
            | ((fail_if_success (have z := H2)); have z := H1; clear z; go_at_call 81; go_must (refine (Calls.mono (HIN.out _ _ _ _ H1.out.1) ?_)); rintro r w2 ⟨rfl, h1, h2⟩; have H2 : Hid (RS w2 q a' 10 cap' ((xs.drop E).take 10) Er Q ∧ w.grownBy w2 none) := ⟨h1, gb_trans HG.out (gb_far' H1.out.2.2 h2 H1.out.2.1)⟩; clear h1 h2)
            | (have z := H2; clear z; go_at_call 97; go_must (refine (Calls.mono (err_c q Er _ _ _ H2.out.1.rdr) ?_)); rintro r wq ⟨rfl, hq⟩; obtain rfl := hq.symm; clear hq)
            | (have z := H2; clear z; go_at_call 98; go_must (refine (Calls.mono (at_c q Er _ _ _ H2.out.1.rdr) ?_)); rintro r wq ⟨rfl, hq⟩; obtain rfl := hq.symm; clear hq))
          go_ret
          exact ⟨by rw [HQS.out.1 hEr]; rfl, H2.out.2⟩
    · obtain ⟨hEE, q1, q2, q3⟩ := ns1 HNS.out
      have hT : ri ((xs.drop E).take 10) 0 65536 = n2 xs := by rw [hEE]; rfl
      have hbd := ri_bd (xs := (xs.drop E).take 10) (bytes_takeO (bytes_drop HX.out.2.1 E) 10) 0 (Nat.zero_le _) 65536
      rw [hT] at hbd
      have hlt10 : ((xs.drop E).take 10).length ≤ 10 := by rw [List.length_take]; omega
      obtain ⟨V, hV⟩ : ∃ V : Nat, V = (n2 xs).1.toNat := ⟨_, rfl⟩
      obtain ⟨Q, hQ⟩ : ∃ Q, Q = (n2 xs).2.1 := ⟨_, rfl⟩
      obtain ⟨Er, hEr⟩ : ∃ Er, Er = (n2 xs).2.2 := ⟨_, rfl⟩
      have hT2 : ri ((xs.drop E).take 10) 0 65536 = ((V : Int), Q, Er) := by rw [hT, hV, hQ, hEr, Int.toNat_of_nonneg hbd.1]
      have hV2 : V ≤ 65536 := by omega
      have hQ2 : Q ≤ 10 := by omega
      have hEn : e2 xs = E + (Q + V) := by rw [hEE]; unfold e2; rw [hQ, hV]
      rw [← hEr] at q1 q2 q3
      rw [hEn, HX.out.2.2.2.2] at q2 q3
      rw [HX.out.2.2.2.2] at q1
      have HQS : Hid ((Er ≠ 0 → nd xs = n + 1) ∧ (Er = 0 → n < E + (Q + V) → nd xs = E + (Q + V)) ∧ (Er = 0 → E + (Q + V) ≤ n → NS xs 2 (E + (Q + V)))) := ⟨q1, q2, q3⟩
      clear q1 q2 q3 hT hbd hlt10 hV hQ hEr hEn hEE
      obtain ⟨h, hh⟩ : ∃ h, (h = n ∧ n ≤ E + 10) ∨ (h = E + 10 ∧ E + 10 < n) := by
        rcases Nat.lt_or_ge (E + 10) n with z | z
        · exact ⟨_, .inr ⟨rfl, z⟩⟩
        · exact ⟨_, .inl ⟨rfl, z⟩⟩
      have HNW : Hid (Calls Tryd.prog 51 #[.slice (cutI a c E) (h - E) (c - E)] wr fun r w' => ∃ q a' cap', r = .returned (.pointer (some ⟨q, 0, none⟩)) ∧ RS w' q a' (h - E) cap' ((xs.drop E).take 10) 0 0 ∧ wr.heap.size ≤ q ∧ (∀ b o s, a' = some ⟨b, o, s⟩ → wr.heap.size ≤ b) ∧ wr.grownBy w' none) := new_c _ _ _ _ wr ((cut_ten HX.out.1 HX.out.2.2.2.1 hE hh).grew HG.out (by simp)) (bytes_takeO (bytes_drop HX.out.2.1 E) 10) (by omega) (fun z => by
        have := HX.out.2.2.1 (cutI_none z)
        omega)
      have HIN : Hid (∀ q a' cap' W, RS W q a' (h - E) cap' ((xs.drop E).take 10) 0 0 → Calls Tryd.prog 81 #[.pointer (some ⟨q, 0, none⟩), .int .i64 65536] W fun r w' => r = .returned (.int .i64 (V : Int)) ∧ RS w' q a' (h - E) cap' ((xs.drop E).take 10) Er Q ∧ W.grownBy w' (some q)) := fun q a' cap' W hr => by
        have := int_ok q a' (h - E) cap' ((xs.drop E).take 10) 0 65536 W hr (by decide)
        rw [hT2] at this
        exact this
      clear hT2
      have hidx : ∀ W, (Instr.index 180 (.agg #[.int .i64 1024, .int .i64 65536]) (.int .i64 1)).run Tryd.prog W = .ok (.int .i64 65536) W := fun W => by kernel_rfl
      have hadd : wrap64 ((E : Int) + 10) = (E : Int) + 10 := IntWalk.wrap64_in _ ⟨by omega, by omega⟩
      have hadd2 : IntKind.i64.wrap ((E : Int) + 10) = (E : Int) + 10 := IntWalk.i64_in _ ⟨by omega, by omega⟩
      rcases hh with ⟨hh0, hh⟩ | ⟨rfl, hh⟩
      · obtain rfl := hh0.symm
        clear hh0
        have hsl : ∀ W, (Instr.slice 27 (.slice a n c) (some (.int .i64 (E : Int))) (some (.int .i64 (n : Int))) none).run Tryd.prog W = .ok (.slice (cutI a c E) (n - E) (c - E)) W := sliceI a n c E (n) E (n : Int) rfl rfl (by omega) (by have := HX.out.2.2.2.1; omega)
        have hmin : (n : Int) ≤ (E : Int) + 10 := by omega
        by_cases hEr : Er = 0
        · subst hEr
          have hw1 : wrap64 ((Q : Int) + (V : Int)) = (Q : Int) + (V : Int) := IntWalk.wrap64_in _ ⟨by omega, by omega⟩
          have hw2 : wrap64 ((E : Int) + ((Q : Int) + (V : Int))) = (E : Int) + ((Q : Int) + (V : Int)) := IntWalk.wrap64_in _ ⟨by omega, by omega⟩
          have hw3 : IntKind.i64.wrap ((Q : Int) + (V : Int)) = (Q : Int) + (V : Int) := IntWalk.i64_in _ ⟨by omega, by omega⟩
          have hw4 : IntKind.i64.wrap ((E : Int) + ((Q : Int) + (V : Int))) = (E : Int) + ((Q : Int) + (V : Int)) := IntWalk.i64_in _ ⟨by omega, by omega⟩
          rcases Nat.lt_or_ge n (E + (Q + V)) with hgt | hle
          · have hgt1 : (n : Int) < (E : Int) + ((Q : Int) + (V : Int)) := by omega
            go_wp2_with (first
              | ((fail_if_success (have z := H1)); go_at_call 51; go_must (refine (Calls.mono HNW.out ?_)); rintro r w1 ⟨q, a', cap', rfl, h1, h2, h3, h4⟩; have H1 : Hid (RS w1 q a' (n - E) cap' ((xs.drop E).take 10) 0 0 ∧ wr.heap.size ≤ q ∧ wr.grownBy w1 none) := ⟨h1, h2, h4⟩; clear h1 h2 h3 h4)
              | ((fail_if_success (have z := H2)); have z := H1; clear z; go_at_call 81; go_must (refine (Calls.mono (HIN.out _ _ _ _ H1.out.1) ?_)); rintro r w2 ⟨rfl, h1, h2⟩; have H2 : Hid (RS w2 q a' (n - E) cap' ((xs.drop E).take 10) 0 Q ∧ w.grownBy w2 none) := ⟨h1, gb_trans HG.out (gb_far' H1.out.2.2 h2 H1.out.2.1)⟩; clear h1 h2)
              | (have z := H2; clear z; go_at_call 97; go_must (refine (Calls.mono (err_c q 0 _ _ _ H2.out.1.rdr) ?_)); rintro r wq ⟨rfl, hq⟩; obtain rfl := hq.symm; clear hq)
              | (have z := H2; clear z; go_at_call 98; go_must (refine (Calls.mono (at_c q 0 _ _ _ H2.out.1.rdr) ?_)); rintro r wq ⟨rfl, hq⟩; obtain rfl := hq.symm; clear hq))
            go_ret
            exact ⟨by rw [HQS.out.2.1 (by first | rfl | trivial) hgt, show ((E + (Q + V) : Nat) : Int) = (E : Int) + ((Q : Int) + (V : Int)) from by omega]; first | done | rfl | (congr 2; rfl) | (simp [go_sem]; done), H2.out.2⟩
          · have hle1 : ¬ (n : Int) < (E : Int) + ((Q : Int) + (V : Int)) := by omega
            go_wp2_with (first
              | ((fail_if_success (have z := H1)); go_at_call 51; go_must (refine (Calls.mono HNW.out ?_)); rintro r w1 ⟨q, a', cap', rfl, h1, h2, h3, h4⟩; have H1 : Hid (RS w1 q a' (n - E) cap' ((xs.drop E).take 10) 0 0 ∧ wr.heap.size ≤ q ∧ wr.grownBy w1 none) := ⟨h1, h2, h4⟩; clear h1 h2 h3 h4)
              | ((fail_if_success (have z := H2)); have z := H1; clear z; go_at_call 81; go_must (refine (Calls.mono (HIN.out _ _ _ _ H1.out.1) ?_)); rintro r w2 ⟨rfl, h1, h2⟩; have H2 : Hid (RS w2 q a' (n - E) cap' ((xs.drop E).take 10) 0 Q ∧ w.grownBy w2 none) := ⟨h1, gb_trans HG.out (gb_far' H1.out.2.2 h2 H1.out.2.1)⟩; clear h1 h2)
              | (have z := H2; clear z; go_at_call 97; go_must (refine (Calls.mono (err_c q 0 _ _ _ H2.out.1.rdr) ?_)); rintro r wq ⟨rfl, hq⟩; obtain rfl := hq.symm; clear hq)
              | (have z := H2; clear z; go_at_call 98; go_must (refine (Calls.mono (at_c q 0 _ _ _ H2.out.1.rdr) ?_)); rintro r wq ⟨rfl, hq⟩; obtain rfl := hq.symm; clear hq))
            go_roundw
            case rel => exact ⟨2, E + (Q + V), by omega, hle, rfl, by rw [show ((E + (Q + V) : Nat) : Int) = (E : Int) + ((Q : Int) + (V : Int)) from by omega], HQS.out.2.2 (by first | rfl | trivial) hle, H2.out.2⟩
            case measure => simp [intOf]
        · have hEr2 : (Er == 0) = false := by simp; exact hEr
          go_wp2_with (first
            | ((fail_if_success (have z := H1)); go_at_call 51; go_must (refine (Calls.mono HNW.out ?_)); rintro r w1 ⟨q, a', cap', rfl, h1, h2, h3, h4⟩; have H1 : Hid (RS w1 q a' (n - E) cap' ((xs.drop E).take 10) 0 0 ∧ wr.heap.size ≤ q ∧ wr.grownBy w1 none) := ⟨h1, h2, h4⟩; clear h1 h2 h3 h4)
            | ((fail_if_success (have z := H2)); have z := H1; clear z; go_at_call 81; go_must (refine (Calls.mono (HIN.out _ _ _ _ H1.out.1) ?_)); rintro r w2 ⟨rfl, h1, h2⟩; have H2 : Hid (RS w2 q a' (n - E) cap' ((xs.drop E).take 10) Er Q ∧ w.grownBy w2 none) := ⟨h1, gb_trans HG.out (gb_far' H1.out.2.2 h2 H1.out.2.1)⟩; clear h1 h2)
            | (have z := H2; clear z; go_at_call 97; go_must (refine (Calls.mono (err_c q Er _ _ _ H2.out.1.rdr) ?_)); rintro r wq ⟨rfl, hq⟩; obtain rfl := hq.symm; clear hq)
            | (have z := H2; clear z; go_at_call 98; go_must (refine (Calls.mono (at_c q Er _ _ _ H2.out.1.rdr) ?_)); rintro r wq ⟨rfl, hq⟩; obtain rfl := hq.symm; clear hq))
          go_ret
          exact ⟨by rw [HQS.out.1 hEr]; rfl, H2.out.2⟩
      · rw [show E + 10 - E = 10 from by omega] at HNW HIN
        have hsl : ∀ W, (Instr.slice 27 (.slice a n c) (some (.int .i64 (E : Int))) (some (.int .i64 ((E : Int) + 10))) none).run Tryd.prog W = .ok (.slice (cutI a c E) 10 (c - E)) W := fun W => by
          have := sliceI a n c E (E + 10) E ((E : Int) + 10) rfl (by omega) (by omega) (by have := HX.out.2.2.2.1; omega) W
          rw [show E + 10 - E = 10 from by omega] at this
          exact this
        have hmin : ¬ (n : Int) ≤ (E : Int) + 10 := by omega
        have hmin2 : (E : Int) + 10 < (n : Int) := by omega
        by_cases hEr : Er = 0
        · subst hEr
          have hw1 : wrap64 ((Q : Int) + (V : Int)) = (Q : Int) + (V : Int) := IntWalk.wrap64_in _ ⟨by omega, by omega⟩
          have hw2 : wrap64 ((E : Int) + ((Q : Int) + (V : Int))) = (E : Int) + ((Q : Int) + (V : Int)) := IntWalk.wrap64_in _ ⟨by omega, by omega⟩
          have hw3 : IntKind.i64.wrap ((Q : Int) + (V : Int)) = (Q : Int) + (V : Int) := IntWalk.i64_in _ ⟨by omega, by omega⟩
          have hw4 : IntKind.i64.wrap ((E : Int) + ((Q : Int) + (V : Int))) = (E : Int) + ((Q : Int) + (V : Int)) := IntWalk.i64_in _ ⟨by omega, by omega⟩
          rcases Nat.lt_or_ge n (E + (Q + V)) with hgt | hle
          · have hgt1 : (n : Int) < (E : Int) + ((Q : Int) + (V : Int)) := by omega
            go_wp2_with (first
              | ((fail_if_success (have z := H1)); go_at_call 51; go_must (refine (Calls.mono HNW.out ?_)); rintro r w1 ⟨q, a', cap', rfl, h1, h2, h3, h4⟩; have H1 : Hid (RS w1 q a' 10 cap' ((xs.drop E).take 10) 0 0 ∧ wr.heap.size ≤ q ∧ wr.grownBy w1 none) := ⟨h1, h2, h4⟩; clear h1 h2 h3 h4)
              | ((fail_if_success (have z := H2)); have z := H1; clear z; go_at_call 81; go_must (refine (Calls.mono (HIN.out _ _ _ _ H1.out.1) ?_)); rintro r w2 ⟨rfl, h1, h2⟩; have H2 : Hid (RS w2 q a' 10 cap' ((xs.drop E).take 10) 0 Q ∧ w.grownBy w2 none) := ⟨h1, gb_trans HG.out (gb_far' H1.out.2.2 h2 H1.out.2.1)⟩; clear h1 h2)
              | (have z := H2; clear z; go_at_call 97; go_must (refine (Calls.mono (err_c q 0 _ _ _ H2.out.1.rdr) ?_)); rintro r wq ⟨rfl, hq⟩; obtain rfl := hq.symm; clear hq)
              | (have z := H2; clear z; go_at_call 98; go_must (refine (Calls.mono (at_c q 0 _ _ _ H2.out.1.rdr) ?_)); rintro r wq ⟨rfl, hq⟩; obtain rfl := hq.symm; clear hq))
            go_ret
            exact ⟨by rw [HQS.out.2.1 (by first | rfl | trivial) hgt, show ((E + (Q + V) : Nat) : Int) = (E : Int) + ((Q : Int) + (V : Int)) from by omega]; first | done | rfl | (congr 2; rfl) | (simp [go_sem]; done), H2.out.2⟩
          · have hle1 : ¬ (n : Int) < (E : Int) + ((Q : Int) + (V : Int)) := by omega
            go_wp2_with (first
              | ((fail_if_success (have z := H1)); go_at_call 51; go_must (refine (Calls.mono HNW.out ?_)); rintro r w1 ⟨q, a', cap', rfl, h1, h2, h3, h4⟩; have H1 : Hid (RS w1 q a' 10 cap' ((xs.drop E).take 10) 0 0 ∧ wr.heap.size ≤ q ∧ wr.grownBy w1 none) := ⟨h1, h2, h4⟩; clear h1 h2 h3 h4)
              | ((fail_if_success (have z := H2)); have z := H1; clear z; go_at_call 81; go_must (refine (Calls.mono (HIN.out _ _ _ _ H1.out.1) ?_)); rintro r w2 ⟨rfl, h1, h2⟩; have H2 : Hid (RS w2 q a' 10 cap' ((xs.drop E).take 10) 0 Q ∧ w.grownBy w2 none) := ⟨h1, gb_trans HG.out (gb_far' H1.out.2.2 h2 H1.out.2.1)⟩; clear h1 h2)
              | (have z := H2; clear z; go_at_call 97; go_must (refine (Calls.mono (err_c q 0 _ _ _ H2.out.1.rdr) ?_)); rintro r wq ⟨rfl, hq⟩; obtain rfl := hq.symm; clear hq)
              | (have z := H2; clear z; go_at_call 98; go_must (refine (Calls.mono (at_c q 0 _ _ _ H2.out.1.rdr) ?_)); rintro r wq ⟨rfl, hq⟩; obtain rfl := hq.symm; clear hq))
            go_roundw
            case rel => exact ⟨2, E + (Q + V), by omega, hle, rfl, by rw [show ((E + (Q + V) : Nat) : Int) = (E : Int) + ((Q : Int) + (V : Int)) from by omega], HQS.out.2.2 (by first | rfl | trivial) hle, H2.out.2⟩
            case measure => simp [intOf]
        · have hEr2 : (Er == 0) = false := by simp; exact hEr
          go_wp2_with (first
            | ((fail_if_success (have z := H1)); go_at_call 51; go_must (refine (Calls.mono HNW.out ?_)); rintro r w1 ⟨q, a', cap', rfl, h1, h2, h3, h4⟩; have H1 : Hid (RS w1 q a' 10 cap' ((xs.drop E).take 10) 0 0 ∧ wr.heap.size ≤ q ∧ wr.grownBy w1 none) := ⟨h1, h2, h4⟩; clear h1 h2 h3 h4)
            | ((fail_if_success (have z := H2)); have z := H1; clear z; go_at_call 81; go_must (refine (Calls.mono (HIN.out _ _ _ _ H1.out.1) ?_)); rintro r w2 ⟨rfl, h1, h2⟩; have H2 : Hid (RS w2 q a' 10 cap' ((xs.drop E).take 10) Er Q ∧ w.grownBy w2 none) := ⟨h1, gb_trans HG.out (gb_far' H1.out.2.2 h2 H1.out.2.1)⟩; clear h1 h2)
            | (have z := H2; clear z; go_at_call 97; go_must (refine (Calls.mono (err_c q Er _ _ _ H2.out.1.rdr) ?_)); rintro r wq ⟨rfl, hq⟩; obtain rfl := hq.symm; clear hq)
            | (have z := H2; clear z; go_at_call 98; go_must (refine (Calls.mono (at_c q Er _ _ _ H2.out.1.rdr) ?_)); rintro r wq ⟨rfl, hq⟩; obtain rfl := hq.symm; clear hq))
          go_ret
          exact ⟨by rw [HQS.out.1 hEr]; rfl, H2.out.2⟩
    · have hn1 : wrap64 ((n : Int) + 1) = (n : Int) + 1 := IntWalk.wrap64_in _ ⟨by omega, by omega⟩
      go_wp2
      go_ret
      exact ⟨by rw [ns_end HNS.out, HX.out.2.2.2.2]; rfl, HG.out⟩
end Go.Proofs.YtcdgfghcmeadgaaDoor
