/-
  What the document's in and wanted answer of whatever ranges: has one of them the text? Condition: at most 2^40 ranges.
-/
import Derived.Test.YtdjcokepeifojaaDoorNHa
import Derived.Test.YtdjcokepeifojaaDoorNRi
namespace Go.Proofs.YtdjcokepeifojaaDoor
set_option linter.unusedVariables false
open Go.RowKit

theorem has_take {A : List Rg} {k : Nat} (h : k < A.length) (t : ByteArray) : lHas (A.take (k + 1)) t = (lHas (A.take k) t || rHas (A.getD k (.empty, .empty)) t) := by
  rw [List.take_succ_eq_append_getElem h, lHas_app]
  have e : A.getD k (.empty, .empty) = A[k] := by simp [h]
  rw [e]; simp [lHas]
theorem has_mem {A : List Rg} {k : Nat} (h : k < A.length) {t : ByteArray} (hh : rHas (A.getD k (.empty, .empty)) t = true) : lHas A t = true := by
  have e : A.getD k (.empty, .empty) = A[k] := by simp [h]
  rw [e] at hh
  exact lHas_iff.2 ⟨A[k], List.getElem_mem h, hh⟩
set_option maxRecDepth 20000 in
set_option maxHeartbeats 1000000 in
theorem gin_c (A : List Rg) (t : ByteArray) (a : Option Addr) (ca : Nat) (w : World) (hA : Cells w a (flR A)) (hn : A.length ≤ 1099511627776) :
    Calls Tryd.prog 45 #[.slice a A.length ca, .string t] w fun e w' => e = .returned (.bool (lHas A t)) ∧ w.grownBy w' none := by
  have HA : Hid (Cells w a (flR A)) := hA
  obtain ⟨n, hna⟩ : ∃ n, n = A.length := ⟨_, rfl⟩
  rw [← hna] at hn ⊢
  have HN : Hid (n = A.length) := hna
  obtain ⟨T, hT⟩ : ∃ T, T = lHas A t := ⟨_, rfl⟩
  rw [← hT]
  have HT : Hid (T = lHas A t) := hT
  have HH : Hid _ := fun r w => ghas_c r t w
  clear hA hna hT
  go_enter Tryd.func45, Tryd.ntmps45
  go_wp2
  go_loopw [5] (fun i wr => ∃ k : Nat, k ≤ n ∧ i = .int .i64 k ∧ Hid (lHas (A.take k) t = false) ∧ Hid (w.grownBy wr none)) (fun i _ => n - (intOf i).toNat)
  case atStart => exact ⟨0, Nat.zero_le _, rfl, rfl, gb_refl _⟩
  case round =>
    obtain ⟨k, hk, rfl, hl, hr⟩ := hrel
    by_cases hlt : k < n
    · obtain ⟨ba, oa, hab, hba, c0, c1⟩ := cells_rg HA.out k (by have := HN.out; omega)
      have HTK : Hid _ := has_take (A := A) (k := k) (by have := HN.out; omega) t
      have HTM : Hid (rHas (A.getD k (.empty, .empty)) t = true → T = true) := fun h => by rw [HT.out]; exact has_mem (by have := HN.out; omega) h
      generalize A.getD k (.empty, .empty) = r at *
      obtain ⟨f, u⟩ := r
      have HK : Hid _ := HH.out (f, u)
      have c0r : wr.cell? ⟨ba, oa + k * 2, none⟩ = some (.string f) := ((gb_below hr.out).cell (p := ⟨ba, oa + k * 2, none⟩) hba).trans c0
      have c1r : wr.cell? ⟨ba, oa + k * 2 + 1, none⟩ = some (.string u) := ((gb_below hr.out).cell (p := ⟨ba, oa + k * 2 + 1, none⟩) hba).trans c1
      have i1 : (0 : Int) ≤ (k : Int) := by omega
      have i2 : (k : Int) < (n : Int) := by omega
      have HAB : Hid _ := hab
      rw [hab]
      unfold rv at HK
      clear c0 c1 hab
      cases hh : rHas (f, u) t
      · rw [hh] at HK HTK
        have HTN : Hid (lHas (A.take (k + 1)) t = false) := by show _ = _; rw [HTK.out, hl.out]; rfl
        clear hh HTK HTM
        go_wp2_with (first
          | (go_at_call 33; go_must (refine (HK.out _).mono ?_); rintro e w3 ⟨rfl, h3⟩; have H3 : Hid (w.grownBy w3 none) := gb_trans hr.out h3; clear h3))
        exact ⟨⟨k + 1, by omega, by simp, HTN, H3⟩, by simp [intOf]; omega⟩
      · rw [hh] at HK
        have HTT : Hid (T = true) := HTM.out hh
        clear hh HTK HTM
        go_wp2_with (first
          | (go_at_call 33; go_must (refine (HK.out _).mono ?_); rintro e w3 ⟨rfl, h3⟩; have H3 : Hid (w.grownBy w3 none) := gb_trans hr.out h3; clear h3))
        go_ret
        exact ⟨by rw [HTT.out]; rfl, H3.out⟩
    · obtain rfl : k = n := by omega
      have HTF : Hid (T = false) := by
        show _ = _
        rw [HT.out, ← hl.out, List.take_of_length_le (by have := HN.out; omega)]
      go_wp2
      go_ret
      exact ⟨by rw [HTF.out]; rfl, hr.out⟩
/-- What of two lists is wanted. -/
def wq (k : Nat) (x y : Bool) : Bool := if k = 1 then x && y else if k = 2 then x && !y else x || y
set_option maxRecDepth 20000 in
set_option maxHeartbeats 1000000 in
theorem gwanted_c (q : Nat) (hq : q < 3) (A B : List Rg) (t : ByteArray) (a b : Option Addr) (ca cb : Nat) (w : World) (hA : Cells w a (flR A)) (hB : Cells w b (flR B)) (hn : A.length + B.length ≤ 1099511627776) :
    Calls Tryd.prog 36 #[.int .i64 q, .slice a A.length ca, .slice b B.length cb, .string t] w fun e w' => e = .returned (.bool (wq q (lHas A t) (lHas B t))) ∧ w.grownBy w' none := by
  have HX : Hid _ := gin_c A t a ca w hA (by omega)
  have HY : Hid (∀ w', w.grownBy w' none → _) := fun w' h => gin_c B t b cb w' (hB.gb h) (by omega)
  generalize lHas A t = x at *
  generalize lHas B t = y at *
  clear hA hB
  rcases (show q = 0 ∨ q = 1 ∨ q = 2 by omega) with rfl | rfl | rfl <;> cases x <;> cases y <;>
  · go_enter Tryd.func36, Tryd.ntmps36
    go_wp2_with (first
      | ((fail_if_success (have zz := H1)); go_at_call 45; go_must (refine (Calls.mono HX.out ?_)); rintro e w1 ⟨rfl, h1⟩; have H1 : Hid (w.grownBy w1 none) := h1; clear h1)
      | (have zz := H1; clear zz; go_at_call 45; go_must (refine (Calls.mono (HY.out w1 H1.out) ?_)); rintro e w2 ⟨rfl, h2⟩; have H2 : Hid (w.grownBy w2 none) := gb_trans H1.out h2; clear h2))
    go_ret
    exact ⟨rfl, H2.out⟩
end Go.Proofs.YtdjcokepeifojaaDoor
