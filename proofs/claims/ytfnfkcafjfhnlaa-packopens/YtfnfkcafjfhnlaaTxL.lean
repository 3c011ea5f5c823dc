/-
  The law's lend and same over texts; texts that came in. Condition of lend: at most 2^20 texts.
-/
import Derived.Test.YtfnfkcafjfhnlaaTxO
namespace Go.Proofs.Ytfnfkcafjfhnlaa
open Go.RowKit
set_option linter.unusedVariables false

theorem below_dN {B : Nat} {w w' : World} (h : Below B w w') : ∀ n, Below B w (w'.drewN n)
  | 0 => h
  | n + 1 => by
    have := (below_dN h n).drew
    exact this
/-- What two appends came to, as lend and the law make them. -/
def Lent (w w' : World) (v : Value) (n : Nat) (X : List ByteArray) : Prop := SOwn w.heap.size w' v n X ∧ Below w.heap.size w w'
set_option maxRecDepth 20000 in
set_option maxHeartbeats 1000000 in
theorem lendS_c (a : Option Addr) (n cap : Nat) (X : List ByteArray) (w : World) (h : StrS w a n X) (hn : n ≤ 1048576) (hao : a = none → cap = 0) :
    Calls Try.prog 32 #[.slice a n cap] w fun r w' => ∃ g C, r = .returned (.tuple #[.slice (some ⟨g, 0, none⟩) (n + 2) C, .slice (some ⟨g, 0, none⟩) n C]) ∧ w.heap.size ≤ g ∧ StrS w' (some ⟨g, 0, none⟩) (n + 2) (X ++ [sX, sY]) ∧ Below w.heap.size w w' := by
  have HS : Hid (StrS w a n X) := h
  have HA : Hid (a = none → cap = 0) := hao
  clear h hao
  go_enter Try.func32, Try.ntmps32
  go_wp2_with (first
    | ((fail_if_success (have z := H1)); at_builtin; go_must (refine wpList_catS rfl (.tmp 5) (.tmp 6) rfl w.heap.size 0 _ [] rfl (sown_none w) a n cap X rfl HA.out (HS.out.below ((Below.refl _ _).alloc (Nat.le_refl _) _)) (by omega) (by simp) ?_); intro v1 w1 h1 h2; rw [Nat.zero_add] at h1; have H1 : Hid (Lent w w1 v1 n X) := ⟨h1, ((Below.refl _ _).alloc (Nat.le_refl _) _).trans h2⟩; obtain ⟨a1, c1, rfl, _⟩ := h1.str; clear h1 h2)
    | (have z := H1; clear z; at_builtin; go_must (refine wpList_catS rfl (.tmp 7) (.tmp 8) rfl w.heap.size n _ X rfl (H1.out.1.gb (World.grownBy_alloc w1 _ none)) (some ⟨w1.heap.size, 0, none⟩) 2 2 [sX, sY] rfl (fun h => by cases h) (strs_lit w1) (by omega) (by have := H1.out.2.size; simp; omega) ?_); intro v2 w2 h1 h2; have H2 : Hid (Lent w w2 v2 (n + 2) (X ++ [sX, sY])) := ⟨h1, H1.out.2.trans (((Below.refl _ _).alloc H1.out.2.size _).trans h2)⟩; obtain ⟨g, C, rfl, hg, hC⟩ := h1.form (by omega); have HG : Hid (w.heap.size ≤ g ∧ n + 2 ≤ C) := ⟨hg, hC⟩; clear h1 h2 hg hC))
  have hC1 : (n : Int) ≤ (C : Int) := by have := HG.out.2; omega
  have hC2 : n ≤ C := by have := HG.out.2; omega
  have hC0 : (0 : Int) ≤ (n : Int) := by omega
  go_quiet (fail)
  go_wp2
  go_ret2
  obtain ⟨a2, c2, e2, hs2, _⟩ := H2.out.1.str
  cases e2
  exact ⟨g, C, rfl, HG.out.1, hs2.below (below_dN (Below.refl _ _) _), below_dN H2.out.2 _⟩
theorem StrS.at' {w a n X} (h : StrS w a n X) (i : Nat) (hi : i < n) : ∃ b off, a = some ⟨b, off, none⟩ ∧ w.cell? ⟨b, off + i, none⟩ = some (.string (X[i]?.getD ByteArray.empty)) := by
  rcases h.2 with h0 | ⟨b, off, ha, _, hc⟩
  · omega
  · exact ⟨b, off, ha, hc i hi⟩
set_option maxRecDepth 20000 in
set_option maxHeartbeats 1000000 in
theorem sameS_c (a b : Option Addr) (n ca cb : Nat) (X : List ByteArray) (w : World) (h1 : StrS w a n X) (h2 : StrS w b n X) (hn : n ≤ 1125899906842624) :
    Calls Try.prog 35 #[.slice a n ca, .slice b n cb] w fun r w' => r = .returned (.bool true) ∧ Below w.heap.size w w' := by
  have HA : Hid (StrS w a n X) := h1
  have HB : Hid (StrS w b n X) := h2
  clear h1 h2
  go_enter Try.func35, Try.ntmps35
  go_wp2
  go_loopw [13] (fun i wr => ∃ k : Nat, k ≤ n ∧ i = .int .i64 k ∧ Hid (Below w.heap.size w wr)) (fun i _ => n - (intOf i).toNat)
  case atStart => exact ⟨0, Nat.zero_le _, rfl, Below.refl _ _⟩
  case round =>
    obtain ⟨k, hk, rfl, hr⟩ := hrel
    by_cases hlt : k < n
    · obtain ⟨b1, o1, rfl, c1⟩ := (HA.out.below hr.out).at' k hlt
      obtain ⟨b2, o2, rfl, c2⟩ := (HB.out.below hr.out).at' k hlt
      generalize X[k]?.getD ByteArray.empty = s at c1 c2
      have hi1 : (k : Int) < n := by omega
      have hi0 : (0 : Int) ≤ (k : Int) := by omega
      go_wp2
      go_quiet (fail)
      go_wp2
      go_roundw
      case rel => exact ⟨k + 1, by omega, by go_num, below_dN hr.out _⟩
      case measure => simp [intOf]; omega
    · obtain rfl : k = n := by omega
      have hge : ¬ (k : Int) < k := by omega
      go_wp2
      go_ret
      exact ⟨rfl, hr.out⟩
end Go.Proofs.Ytfnfkcafjfhnlaa
