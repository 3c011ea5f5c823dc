/-
  What the law's own ordered answers of two chains whose shared nodes stand in one order: yes. Condition: at most 2^40 nodes each.
-/
import Derived.Test.YtekefbbjocekiabCGh
namespace Go.Proofs.Ytekefbbjocekiab
open Go.RowKit
set_option linter.unusedVariables false

/-- The nodes that are in both stand in one order in both; there is one. -/
structure Ordd (zs bs : List Int) : Prop where
  nd : bs.Nodup
  mono : ∀ (i j : Nat) (x y : Int), i < j → zs[i]? = some x → zs[j]? = some y → x ∈ bs → y ∈ bs → pla bs x ≤ pla bs y
  sh : ∃ (i : Nat) (x : Int), zs[i]? = some x ∧ x ∈ bs
theorem pla_nodup {bs : List Int} (h : bs.Nodup) {j : Nat} {x : Int} (hx : bs[j]? = some x) : x ∉ bs.take j ∧ pla bs x = j := by
  have hn : x ∉ bs.take j := by
    intro hm
    obtain ⟨i, hi, e⟩ := List.getElem_of_mem hm
    rw [List.length_take] at hi
    rw [List.getElem_take] at e
    have hj := (List.getElem?_eq_some_iff.1 hx)
    have := (List.getElem?_inj (by omega : i < bs.length) h).1 (by rw [hx, List.getElem?_eq_getElem (by omega), e] : bs[i]? = bs[j]?)
    omega
  exact ⟨hn, pla_at hx hn⟩
/-- Last and shared, behind k nodes. -/
structure OrI (zs bs : List Int) (k : Nat) (L S : Int) : Prop where
  lo : -1 ≤ L ∧ L ≤ bs.length
  up : L = -1 ∨ ∃ j x, j < k ∧ zs[j]? = some x ∧ x ∈ bs ∧ L = pla bs x
  s0 : 0 ≤ S ∧ S ≤ k
  s1 : ∀ j x, j < k → zs[j]? = some x → x ∈ bs → 0 < S
def orL (bs : List Int) (x L : Int) (j : Nat) : Int := if x ∈ bs.take j then pla bs x else L
def orS (bs : List Int) (x S : Int) (j : Nat) : Int := if x ∈ bs.take j then S + 1 else S
theorem OrI.le {zs bs : List Int} {k : Nat} {L S x : Int} (h : OrI zs bs k L S) (ho : Ordd zs bs) (hx : zs[k]? = some x) (hm : x ∈ bs) : L ≤ pla bs x := by
  rcases h.up with e | ⟨j, y, h1, h2, h3, h4⟩
  · have := pla_bd bs x; omega
  · rw [h4]; exact ho.mono j k y x h1 h2 hx h3 hm
theorem OrI.next {zs bs : List Int} {k : Nat} {L S x : Int} (h : OrI zs bs k L S) (hx : zs[k]? = some x) : OrI zs bs (k + 1) (orL bs x L bs.length) (orS bs x S bs.length) := by
  unfold orL orS
  rw [List.take_length]
  by_cases hm : x ∈ bs
  · rw [if_pos hm, if_pos hm]
    have := pla_bd bs x
    have := h.s0
    exact ⟨by omega, .inr ⟨k, x, by omega, hx, hm, rfl⟩, by omega, fun j y hj hy hb => by omega⟩
  · rw [if_neg hm, if_neg hm]
    have := h.s0
    refine ⟨h.lo, ?_, by omega, fun j y hj hy hb => ?_⟩
    · rcases h.up with e | ⟨j, y, h1, h2, h3, h4⟩
      · exact .inl e
      · exact .inr ⟨j, y, by omega, h2, h3, h4⟩
    · by_cases e : j = k
      · subst e
        rw [hx] at hy
        cases hy
        exact absurd hb hm
      · exact h.s1 j y (by omega) hy hb
theorem or_skip {bs : List Int} {j : Nat} {x y : Int} (hy : bs[j]? = some y) (hne : ¬ x = y) (L S : Int) : orL bs x L (j + 1) = orL bs x L j ∧ orS bs x S (j + 1) = orS bs x S j := by
  have e : (x ∈ bs.take (j + 1)) = (x ∈ bs.take j) := by
    rw [List.take_add_one, hy]
    simp [hne]
  unfold orL orS
  simp only [e, and_self]
theorem or_hit {bs : List Int} (h : bs.Nodup) {j : Nat} {x : Int} (hy : bs[j]? = some x) (L S : Int) : orL bs x L j = L ∧ orS bs x S j = S ∧ orL bs x L (j + 1) = j ∧ orS bs x S (j + 1) = S + 1 := by
  obtain ⟨h1, h2⟩ := pla_nodup h hy
  have e : x ∈ bs.take (j + 1) := by rw [List.take_add_one, hy]; simp
  unfold orL orS
  rw [if_neg h1, if_neg h1, if_pos e, if_pos e, h2]
  exact ⟨rfl, rfl, rfl, rfl⟩
set_option maxRecDepth 20000 in
set_option maxHeartbeats 8000000 in
theorem ordered_c (a b : Option Addr) (n c m d : Nat) (zs bs : List Int) (w : World) (h1 : Seg .i64 w a n zs) (h2 : Seg .i64 w b m bs) (hn : n ≤ 1099511627776) (hm : m ≤ 1099511627776) (ho : Ordd zs bs) :
    Calls Try.prog 25 #[.slice a n c, .slice b m d] w fun r w' => r = .returned (.bool true) ∧ Below w.heap.size w w' := by
  have HS : Hid (Seg .i64 w a n zs ∧ Seg .i64 w b m bs ∧ zs.length = n ∧ bs.length = m) := ⟨h1, h2, h1.1, h2.1⟩
  have HO : Hid (Ordd zs bs) := ho
  clear h1 h2 ho
  go_enter Try.func25, Try.ntmps25
  go_wp2
  go_loopw [7, 5, 6] (fun i l s wr => ∃ (k : Nat) (L S : Int), k ≤ n ∧ i = .int .i64 (k : Int) ∧ l = .int .i64 L ∧ s = .int .i64 S ∧ Hid (OrI zs bs k L S ∧ Below w.heap.size w wr)) (fun i _ _ _ => n - (intOf i).toNat)
  case atStart => exact ⟨0, -1, 0, Nat.zero_le _, rfl, rfl, rfl, ⟨by omega, .inl rfl, by omega, fun j x hj => absurd hj (Nat.not_lt_zero j)⟩, Below.refl _ _⟩
  case round =>
    obtain ⟨k, L, S, hk, rfl, rfl, rfl, hr⟩ := hrel
    by_cases hlt : k < n
    · have hi1 : (k : Int) < n := by omega
      have hw3 : wrap64 ((k : Int) + 1) = (k : Int) + 1 := IntWalk.wrap64_in _ ⟨by omega, by omega⟩
      obtain ⟨ba, oa, x, rfl, hx, ca0⟩ := seg_at1 (HS.out.1.below hr.out.2) hlt
      have HX : Hid (∀ W, Below w.heap.size w W → W.cell? ⟨ba, oa + k, none⟩ = some (.int .i64 x)) := by
        show ∀ W, _
        intro W hb
        obtain ⟨b2, o2, y, e2, hy, cy⟩ := seg_at1 (HS.out.1.below hb) hlt
        cases e2
        rw [cy]
        rw [hx] at hy
        cases hy
        rfl
      have HXA : Hid (zs[k]? = some x) := hx
      have hsb := hr.out.1.s0
      clear hx ca0
      go_wp2
      obtain ⟨wo, hwo⟩ : ∃ W : World, W = wr := ⟨_, rfl⟩
      rw [← hwo] at hr ⊢
      clear hwo
      go_loopw [8, 5, 6] (fun i l s wr => ∃ j : Nat, j ≤ m ∧ i = .int .i64 (j : Int) ∧ l = .int .i64 (orL bs x L j) ∧ s = .int .i64 (orS bs x S j) ∧ Hid (Below w.heap.size w wr)) (fun i _ _ _ => m - (intOf i).toNat)
      case atStart => exact ⟨0, Nat.zero_le _, rfl, by unfold orL; rw [if_neg (by simp)], by unfold orS; rw [if_neg (by simp)], hr.out.2⟩
      case round =>
        obtain ⟨j, hj, rfl, rfl, rfl, hq⟩ := hrel
        have hw4 : wrap64 ((j : Int) + 1) = (j : Int) + 1 := IntWalk.wrap64_in _ ⟨by omega, by omega⟩
        by_cases hjl : j < m
        · have hi2 : (j : Int) < (m : Int) := by omega
          obtain ⟨bb, ob, y, rfl, hy, cb⟩ := seg_at1 (HS.out.2.1.below hq.out) hjl
          have hcx := HX.out wr hq.out
          have HD : Hid (∀ q, Below w.heap.size w (wr.drewN q)) := fun q => below_drewN hq.out q
          by_cases hxy : x = y
          · subst hxy
            have HH := or_hit HO.out.nd hy L S
            have hle := hr.out.1.le HO.out HXA.out (List.mem_of_getElem? hy)
            rw [(pla_nodup HO.out.nd hy).2] at hle
            have hd : decide ((j : Int) < L) = false := decide_eq_false (by omega)
            have hw5 : wrap64 (S + 1) = S + 1 := IntWalk.wrap64_in _ ⟨by omega, by omega⟩
            rw [HH.1, HH.2.1]
            replace HH : Hid _ := HH
            clear hle hy
            go_wp2_with fail
            go_quiet (fail)
            go_wp2
            go_roundw
            case rel => exact ⟨j + 1, by omega, by go_num, by rw [HH.out.2.2.1], by rw [HH.out.2.2.2], HD.out _⟩
            case measure => simp [intOf]; omega
          · have hne : (x == y) = false := by simpa using hxy
            have HH : Hid _ := or_skip hy hxy L S
            obtain ⟨l0, hl0⟩ : ∃ l0, l0 = orL bs x L j := ⟨_, rfl⟩
            obtain ⟨s0, hs0⟩ : ∃ s0, s0 = orS bs x S j := ⟨_, rfl⟩
            rw [← hl0, ← hs0] at HH ⊢
            clear hxy hy hl0 hs0
            go_wp2_with fail
            go_quiet (fail)
            go_wp2
            go_roundw
            case rel => exact ⟨j + 1, by omega, by go_num, by rw [HH.out.1], by rw [HH.out.2], HD.out _⟩
            case measure => simp [intOf]; omega
        · obtain rfl : j = m := by omega
          have hi2 : ¬ ((j : Int) < (j : Int)) := by omega
          have HN : Hid (OrI zs bs (k + 1) (orL bs x L j) (orS bs x S j)) := by have := hr.out.1.next HXA.out; rw [HS.out.2.2.2] at this; exact this
          go_wp2
          go_roundw
          case rel => exact ⟨k + 1, _, _, by omega, by go_num, rfl, rfl, HN.out, hq.out⟩
          case measure => simp [intOf]; omega
    · obtain rfl : k = n := by omega
      have hi1 : ¬ (k : Int) < k := by omega
      have hs : 0 < S := by
        obtain ⟨i, x, h1, h2⟩ := HO.out.sh
        have hl := (List.getElem?_eq_some_iff.1 h1).1
        exact hr.out.1.s1 i x (by have := HS.out.2.2.1; omega) h1 h2
      have hd : decide ((0 : Int) < S) = true := decide_eq_true hs
      go_wp2
      go_ret
      exact ⟨rfl, hr.out.2⟩
end Go.Proofs.Ytekefbbjocekiab
