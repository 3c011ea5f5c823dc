/-
  What the laws' roomy and kept answer: the same ranges with marks behind them; and that they are as they were. Conditions: at most 2^40 ranges; the law's variable mark reads as two texts.
-/
import Derived.Test.YtdjcokepeifojaaDoorNSm
import Derived.Test.YtdjcokepeifojaaDoorNLv
import Derived.BigQuiet
import Derived.Laws.StructEq
namespace Go.Proofs.YtdjcokepeifojaaDoor
set_option linter.unusedVariables false
open Go.RowKit

/-- What the law's variable reads as. -/
def Mrk (x y : ByteArray) (w : World) : Prop := w.cell? ⟨0, 0, none⟩ = some (.string x) ∧ w.cell? ⟨0, 1, none⟩ = some (.string y)
theorem Mrk.gb {x y : ByteArray} {w w' : World} (h : Mrk x y w) (hg : w.grownBy w' none) : Mrk x y w' := by
  have k : ∀ (a : Addr) (v : Value), w.cell? a = some v → w'.cell? a = some v := fun a v c => by
    have hb : a.block < w.heap.size := by
      rcases Nat.lt_or_ge a.block w.heap.size with h1 | h1
      · exact h1
      · simp [World.cell?, h1] at c
    exact ((gb_below hg).cell (p := a) hb).trans c
  exact ⟨k _ _ h.1, k _ _ h.2⟩
def mks (x y : ByteArray) (k : Nat) : List Rg := List.replicate k (x, y)
theorem mks_succ (x y : ByteArray) (k : Nat) : mks x y (k + 1) = mks x y k ++ [(x, y)] := by
  unfold mks; rw [List.replicate_succ']
theorem mks_at (A : List Rg) (x y : ByteArray) (k : Nat) (h : k < 12) : (A ++ mks x y 12).getD (A.length + k) (.empty, .empty) = (x, y) := by
  unfold mks
  rw [List.getD_eq_getElem?_getD, List.getElem?_append_right (by omega), Nat.add_sub_cancel_left, List.getElem?_replicate, if_pos h]; rfl
theorem Cells.pre {w : World} {a : Option Addr} {xs ys : List Value} (h : Cells w a (xs ++ ys)) : Cells w a xs := by
  rcases h with h | ⟨b, off, ha, hl, hc⟩
  · exact .inl (List.append_eq_nil_iff.1 h).1
  · exact .inr ⟨b, off, ha, hl, fun j u hu => hc j u (by
      have hj : j < xs.length := by
        rcases Nat.lt_or_ge j xs.length with h1 | h1
        · exact h1
        · rw [List.getElem?_eq_none h1] at hu; cases hu
      rw [List.getElem?_append_left hj]; exact hu)⟩
theorem pre12 {w : World} {a : Option Addr} {A : List Rg} {x y : ByteArray} (h : Cells w a (flR (A ++ mks x y 12))) : Cells w a (flR A) := by
  rw [flR_app] at h; exact Cells.pre h
set_option maxRecDepth 20000 in
set_option maxHeartbeats 1000000 in
theorem roomy_c (x y : ByteArray) (A : List Rg) (a : Option Addr) (ca : Nat) (w : World) (hA : Cells w a (flR A)) (hnz : a = none → ca = 0) (hm : Mrk x y w) (hn : A.length ≤ 1099511627776) :
    Calls Tryd.prog 6 #[.slice a A.length ca] w fun e w' => ∃ g c, e = .returned (.slice (some ⟨g, 0, none⟩) A.length c) ∧ A.length + 12 ≤ c ∧ Cells w' (some ⟨g, 0, none⟩) (flR (A ++ mks x y 12)) ∧ w.grownBy w' none := by
  have HA : Hid (Cells w a (flR A)) := hA
  have HNZ : Hid (a = none → ca = 0) := hnz
  have HM : Hid (Mrk x y w) := hm
  obtain ⟨n, hna⟩ : ∃ n, n = A.length := ⟨_, rfl⟩
  rw [← hna] at hn ⊢
  have HN : Hid (n = A.length) := hna
  clear hA hnz hm hna
  go_enter Tryd.func6, Tryd.ntmps6
  go_wp2_with (first
    | (at_builtin; go_must (refine wpList_cat rfl _ _ 22 rfl w.heap.size 41 _ 2 32 Tryd.underlying22 infoRange rfl (by decide) (.slice none 0 0) 0 [] rfl (own_none _ _ _ _) a n ca (flR A) rfl HNZ.out (by rw [flR_len, HN.out]) HA.out (flR_one A) (by unfold maxLen; omega) (by omega) (Nat.le_refl _) ?_); intro v2 w2 ho2 hb2 _; rw [Nat.zero_add, List.nil_append] at ho2; have H2 : Hid (w2.ownsRow w.heap.size 41 2 v2 n (flR A) ∧ w.grownBy w2 none) := ⟨ho2, below_gb hb2⟩; clear ho2 hb2))
  go_loopw [3, 4] (fun v i wr => ∃ k m : Nat, k ≤ 12 ∧ i = .int .i64 k ∧ Hid (m = n + k) ∧ Hid (wr.ownsRow w.heap.size 41 2 v m (flR (A ++ mks x y k)) ∧ w.grownBy wr none)) (fun _ i _ => 12 - (intOf i).toNat)
  case atStart => exact ⟨0, n, Nat.zero_le _, rfl, rfl, by rw [show mks x y 0 = [] from rfl, List.append_nil]; exact H2.out⟩
  case round =>
    obtain ⟨k, m, hk, rfl, hm, hr⟩ := hrel
    by_cases hlt : k < 12
    · obtain ⟨m0, m1⟩ := HM.out.gb hr.out.2
      have i2 : (k : Int) < 12 := by omega
      have hmb := hm.out
      have hmb2 : m ≤ 1099511627788 := by omega
      have HFL : Hid (flR (A ++ mks x y (k + 1)) = flR (A ++ mks x y k) ++ (rC (x, y)).toArray.toList) := by show _ = _; rw [mks_succ, ← List.append_assoc, flR_snoc]
      clear hmb
      go_wp2_with (first
        | (at_builtin; go_must (refine wpList_lit rfl _ _ 22 rfl w.heap.size 41 _ 2 32 Tryd.underlying22 infoRange rfl (by decide) wr (rC (x, y)).toArray rfl _ m (flR (A ++ mks x y k)) rfl hr.out.1 rfl rfl (range_one _) (by unfold maxLen; omega) (by omega) hr.out.2.size ?_); intro g6 cap6 w6 ho6 hb6 _ _ _; have H6 : Hid (w6.ownsRow w.heap.size 41 2 (.slice (some ⟨g6, 0, none⟩) (m + 1) cap6) (m + 1) (flR (A ++ mks x y (k + 1))) ∧ w.grownBy w6 none) := ⟨(by rw [HFL.out]; exact ho6), below_gb ((gb_below hr.out.2).trans hb6)⟩; clear ho6 hb6))
      exact ⟨⟨k + 1, m + 1, by omega, by simp, by have := hm.out; show _ = _; omega, H6⟩, by simp [intOf]; omega⟩
    · obtain rfl : k = 12 := by omega
      obtain ⟨g, c, rfl, hg1, hg2⟩ := World.ownsRow.form hr.out.1 (by have := hm.out; omega)
      obtain ⟨x9, c9, he, hc9, hcap, -⟩ := own_cells hr.out.1
      cases he
      have HF : Hid (n + 12 ≤ c ∧ Cells wr (some ⟨g, 0, none⟩) (flR (A ++ mks x y 12)) ∧ w.grownBy wr none) := ⟨by have := hm.out; omega, hc9, hr.out.2⟩
      have s1 : (n : Int) ≤ (c : Int) := by have := HF.out.1; omega
      have s2 : ¬ c = 0 := by have := HF.out.1; omega
      have s3 : n ≤ c := by omega
      clear hc9 hcap hg1 hg2
      go_wp2
      go_ret
      exact ⟨g, c, rfl, HF.out⟩
set_option maxRecDepth 20000 in
set_option maxHeartbeats 1000000 in
theorem kept_c (x y : ByteArray) (A : List Rg) (g c : Nat) (a : Option Addr) (ca : Nat) (w : World) (hR : Cells w (some ⟨g, 0, none⟩) (flR (A ++ mks x y 12))) (hc : A.length + 12 ≤ c) (hA : Cells w a (flR A)) (hm : Mrk x y w) (hn : A.length ≤ 1099511627776) :
    Calls Tryd.prog 11 #[.slice (some ⟨g, 0, none⟩) A.length c, .slice a A.length ca] w fun e w' => e = .returned (.bool true) ∧ w.grownBy w' none := by
  have HE : Hid _ := equal_c A A (some ⟨g, 0, none⟩) a c ca w (pre12 hR) hA hn hn
  have HR : Hid (∀ k, k < 12 → ∀ w', w.grownBy w' none → w'.cell? ⟨g, (A.length + k) * 2, none⟩ = some (.string x) ∧ w'.cell? ⟨g, (A.length + k) * 2 + 1, none⟩ = some (.string y)) := fun k hk w' hg => by
    obtain ⟨b, off, ha, _, c0, c1⟩ := cells_rg (hR.gb hg) (A.length + k) (by rw [List.length_append]; simp [mks]; omega)
    cases ha
    rw [mks_at A x y k hk, Nat.zero_add] at c0 c1
    exact ⟨c0, c1⟩
  have HM : Hid (Mrk x y w) := hm
  rw [show decide (A = A) = true by simp] at HE
  obtain ⟨n, hna⟩ : ∃ n, n = A.length := ⟨_, rfl⟩
  rw [← hna] at hn hc HE HR ⊢
  have s1 : (n : Int) + 12 ≤ (c : Int) := by omega
  have s2 : ¬ c = 0 := by omega
  have s3 : ((n : Int) + 12).toNat = n + 12 := by omega
  have s4 : (0 : Int) ≤ (n : Int) + 12 := by omega
  clear hR hA hm hna
  go_enter Tryd.func11, Tryd.ntmps11
  go_wp2_with (first
    | (go_at_call 25; go_must (refine (Calls.mono HE.out ?_)); rintro e w1 ⟨rfl, h1⟩; have H1 : Hid (w.grownBy w1 none) := h1; clear h1))
  clear HE
  go_loopw [6] (fun i wr => ∃ k : Nat, k ≤ 12 ∧ i = .int .i64 k ∧ Hid (w.grownBy wr none)) (fun i _ => 12 - (intOf i).toNat)
  case atStart => exact ⟨0, Nat.zero_le _, rfl, H1.out⟩
  case round =>
    obtain ⟨k, hk, rfl, hr⟩ := hrel
    by_cases hlt : k < 12
    · obtain ⟨m0, m1⟩ := HM.out.gb hr.out
      obtain ⟨c0, c1⟩ := HR.out k hlt wr hr.out
      obtain ⟨s, hs⟩ : ∃ s, s = n + k := ⟨_, rfl⟩
      rw [← hs] at c0 c1
      have i2 : (k : Int) < 12 := by omega
      have e1 : IntKind.i64.wrap ((n : Int) + (k : Int)) = (s : Int) := (IntWalk.i64_in _ ⟨by omega, by omega⟩).trans (by omega)
      have e2 : wrap64 ((n : Int) + (k : Int)) = (s : Int) := (IntWalk.wrap64_in _ ⟨by omega, by omega⟩).trans (by omega)
      have e3 : (0 : Int) ≤ (s : Int) := by omega
      have e4 : (s : Int) < (n : Int) + 12 := by omega
      have e5 : s < n + 12 := by omega
      clear hs
      go_wp2
      go_quiet (fail)
      generalize hW5 : World.drewN wr _ = W5
      have H5 : Hid (w.grownBy W5 none) := by rw [← hW5]; exact gb_drewN hr.out _
      clear hW5
      go_wp2
      exact ⟨⟨k + 1, by omega, by simp, H5⟩, by simp [intOf]; omega⟩
    · obtain rfl : k = 12 := by omega
      go_wp2
      go_ret
      exact ⟨rfl, hr.out⟩
end Go.Proofs.YtdjcokepeifojaaDoor
