/-
  What leb.Size and math/bits.Len64 answer, called with whatever numbers of 64 bits. Condition: the slice can be read, and holds at most 2^50 numbers.
-/
import Derived.Test.YtekefbbjocekiabRows
import Derived.Test.YtekefbbjocekiabMath
import Derived.Test.YtekefbbjocekiabRd
import Derived.WalkKit
import Derived.WalkSmall
import Derived.Laws.Bits64b
import Derived.WalkSpells
namespace Go.Proofs.Ytekefbbjocekiab
set_option linter.unusedVariables false
open Go.RowKit

theorem ret_int {k : IntKind} {a b : Int} (h : a = b) : Ending.returned (.int k a) = .returned (.int k b) := by rw [h]

theorem tab_step (c y : Int) (h0 : 0 ≤ y) (h1 : y < 256) (c0 : 0 ≤ c) (c1 : c ≤ 56) (h : y.toNat < tab.size) : wrap64 (c + wrap64 ((tab[y.toNat]'h).toNat : Int)) = c + bl8 y := by
  rw [tab_get y h0 h1 h]
  have hb : 0 ≤ bl8 y ∧ bl8 y ≤ 8 := by unfold bl8; repeat' split
                                        all_goals omega
  have e1 : wrap64 (bl8 y) = bl8 y := IntWalk.wrap64_in _ ⟨by omega, by omega⟩
  rw [e1]
  exact IntWalk.wrap64_in _ ⟨by omega, by omega⟩
theorem tab_step0 (y : Int) (h0 : 0 ≤ y) (h1 : y < 256) (h : y.toNat < tab.size) : wrap64 (wrap64 ((tab[y.toNat]'h).toNat : Int)) = 0 + bl8 y := by
  have e := tab_step 0 y h0 h1 (by omega) (by omega) h
  rw [Int.zero_add] at e
  exact e
theorem or_one (v : Int) (h0 : 0 ≤ v) (h1 : v < 18446744073709551616) : bits .or .u64 v 1 = v / 2 * 2 + 1 := by
  have h := bits_or_u64_nat v.toNat 1 (by omega) (by omega)
  rw [Int.toNat_of_nonneg h0] at h
  refine Eq.trans h ?_
  have e : v.toNat ||| 1 = v.toNat / 2 * 2 + 1 := by
    apply Nat.eq_of_testBit_eq
    intro i
    cases i with
    | zero => simp
    | succ i =>
      rw [Nat.testBit_or, Nat.testBit_succ, Nat.testBit_succ, Nat.testBit_succ]
      rw [show (v.toNat / 2 * 2 + 1) / 2 = v.toNat / 2 from by omega, show (1 : Nat) / 2 = 0 from rfl, Nat.zero_testBit, Bool.or_false]
  rw [e]; omega

set_option maxRecDepth 20000 in
theorem len64_c (a : Int) (h1 : 0 ≤ a) (h2 : a < 18446744073709551616) (w : World) :
    Calls Try.prog 71 #[.int .u64 a] w fun e w' => e = .returned (.int .i64 (bl64 a)) ∧ w' = w := by
  go_enter Try.func71, Try.ntmps71
  go_wp2
  all_goals go_ret
  · exact ⟨ret_int ((tab_step 56 _ (by omega) (by omega) (by omega) (by omega) _).trans (bl_56 a (by assumption) (by assumption) (by assumption)).symm), rfl⟩
  · exact ⟨ret_int ((tab_step 48 _ (by omega) (by omega) (by omega) (by omega) _).trans (bl_48 a (by assumption) (by assumption) (by assumption)).symm), rfl⟩
  · exact ⟨ret_int ((tab_step 40 _ (by omega) (by omega) (by omega) (by omega) _).trans (bl_40 a (by assumption) (by assumption) (by assumption)).symm), rfl⟩
  · exact ⟨ret_int ((tab_step 32 _ (by omega) (by omega) (by omega) (by omega) _).trans (bl_32 a (by assumption) (by assumption) (by assumption)).symm), rfl⟩
  · exact ⟨ret_int ((tab_step 24 _ (by omega) (by omega) (by omega) (by omega) _).trans (bl_24 a (by assumption) (by assumption) (by assumption)).symm), rfl⟩
  · exact ⟨ret_int ((tab_step 16 _ (by omega) (by omega) (by omega) (by omega) _).trans (bl_16 a (by assumption) (by assumption) (by assumption)).symm), rfl⟩
  · exact ⟨ret_int ((tab_step 8 _ (by omega) (by omega) (by omega) (by omega) _).trans (bl_8 a (by assumption) (by assumption) (by assumption)).symm), rfl⟩
  · exact ⟨ret_int ((tab_step0 _ (by omega) (by omega) _).trans (bl_0 a (by assumption) (by assumption) (by assumption)).symm), rfl⟩

/-- A slice of integers of a kind that can be read: these are its elements. -/
def Seg (k : IntKind) (w : World) (a : Option Addr) (len : Nat) (xs : List Int) : Prop :=
  xs.length = len ∧ (len = 0 ∨ ∃ b off, a = some ⟨b, off, none⟩ ∧ b < w.heap.size ∧ ∀ i, i < len → w.cell? ⟨b, off + i, none⟩ = some (.int k (xs[i]?.getD 0)))
theorem Seg.below {k : IntKind} {w w' : World} {a : Option Addr} {len : Nat} {xs : List Int} (h : Seg k w a len xs) (hb : Below w.heap.size w w') : Seg k w' a len xs := by
  refine ⟨h.1, ?_⟩
  rcases h.2 with h0 | ⟨b, off, ha, hlt, hc⟩
  · exact .inl h0
  · have := hb.size
    exact .inr ⟨b, off, ha, by omega, fun i hi => (hb.cell (p := ⟨b, off + i, none⟩) hlt).trans (hc i hi)⟩

theorem wf_u64 {n : Int} (h : (Lit.int .u64 n).wf = true) : 0 ≤ n ∧ n < 18446744073709551616 := by
  simp [Lit.wf, IntKind.min, IntKind.max, IntKind.signed, IntKind.bits] at h; omega
theorem wf_u8 {n : Int} (h : (Lit.int .u8 n).wf = true) : 0 ≤ n ∧ n < 256 := by
  simp [Lit.wf, IntKind.min, IntKind.max, IntKind.signed, IntKind.bits] at h; omega
/-- A slice that came in. -/
theorem seg_of_row {k : IntKind} {R : Nat} {w : World} {a : Option Addr} {len cap : Nat} {zs : List Int}
    (h : (a = none ∧ len = 0 ∧ cap = 0 ∧ zs = []) ∨
      ∃ x, a = some x ∧ len ≤ cap ∧ cap ≤ R ∧ zs.length = cap ∧ (∀ i, i < zs.length → w.cell? (x.add i) = some (.int k (zs.getD i 0))) ∧ ∀ n ∈ zs, (Lit.int k n).wf = true) :
    Seg k w a len (zs.take len) ∧ len ≤ cap ∧ cap ≤ R ∧ ∀ i, i < (zs.take len).length → (Lit.int k ((zs.take len)[i]?.getD 0)).wf = true := by
  rcases h with ⟨rfl, rfl, rfl, rfl⟩ | ⟨x, rfl, hl, hm, hz, hc, hw⟩
  · exact ⟨⟨rfl, .inl rfl⟩, Nat.le_refl _, Nat.zero_le _, fun i hi => by simp at hi⟩
  · refine ⟨⟨by simp; omega, ?_⟩, hl, hm, fun i hi => ?_⟩
    · by_cases h0 : len = 0
      · exact .inl h0
      · right
        obtain ⟨b, off, spot⟩ := x
        have hspot : spot = none := by simpa [Addr.add] using World.cell?_spot (hc 0 (by omega))
        subst hspot
        have hc0 : ∀ i, i < len → w.cell? ⟨b, off + i, none⟩ = some (.int k ((zs.take len)[i]?.getD 0)) := fun i hi => by
          have := hc i (by omega)
          rw [Go.WideShapes.add_plain] at this
          rw [this, List.getElem?_take_of_lt hi]; simp
        refine ⟨b, off, rfl, ?_, hc0⟩
        have := hc0 0 (by omega)
        rcases Nat.lt_or_ge b w.heap.size with h | h
        · exact h
        · simp [World.cell?, h] at this
    · have hi' : i < zs.length := by simp at hi; omega
      have hi2 : i < len := by simp at hi; omega
      rw [List.getElem?_take_of_lt hi2]
      exact hw _ (by simp [hi'])

/-- A slice that a literal makes. -/
theorem seg_new (w : World) (k : IntKind) (C : Array Value) (T : TypeId) (n : Nat) (xs : List Int) (hC : C = (xs.map (Value.int k)).toArray) (hn : n = xs.length) :
    Seg k (w.alloc (.cells C T)) (some ⟨w.heap.size, 0, none⟩) n xs := by
  subst hC hn
  refine ⟨rfl, .inr ⟨_, _, rfl, by simp, fun i hi => ?_⟩⟩
  rw [Nat.zero_add, World.cell?_alloc_new]
  simp [hi]

theorem seg_at (n0 : Nat) (w : World) (k : IntKind) (C : Array Value) (T : TypeId) (n : Nat) (xs : List Int) (h0 : n0 = w.heap.size) (hC : C = (xs.map (Value.int k)).toArray) (hn : n = xs.length) :
    Seg k (w.alloc (.cells C T)) (some ⟨n0, 0, none⟩) n xs := by
  subst h0; exact seg_new w k C T n xs hC hn

/-- How many groups all of them have. -/
def szs : List Int → Nat
  | [] => 0
  | v :: l => sz v + szs l
theorem szs_snoc (l : List Int) (v : Int) : szs (l ++ [v]) = szs l + sz v := by
  induction l with
  | nil => simp [szs]
  | cons x l ih => simp [szs, ih]; omega
theorem szs_le (l : List Int) : szs l ≤ 10 * l.length := by
  induction l with
  | nil => simp [szs]
  | cons x l ih => simp [szs]; have := sz_bd x; omega

/-- Each number is one of 64 bits without a sign. -/
def Bits64 (xs : List Int) : Prop := ∀ i, i < xs.length → 0 ≤ xs[i]?.getD 0 ∧ xs[i]?.getD 0 < 18446744073709551616

theorem bl64_or (v : Int) (h0 : 0 ≤ v) (h1 : v < 18446744073709551616) : (0 ≤ bl64 (v / 2 * 2 + 1) ∧ bl64 (v / 2 * 2 + 1) ≤ 64) ∧ (bl64 (v / 2 * 2 + 1) + 7 - 1) / 7 = (sz v : Int) := by
  obtain ⟨m, rfl⟩ := Int.eq_ofNat_of_zero_le h0
  have e : ((m : Int) / 2 * 2 + 1) = ((m / 2 * 2 + 1 : Nat) : Int) := by omega
  rw [e]
  refine ⟨?_, sz_of_bits m (by omega)⟩
  obtain ⟨n, hn, hle, _⟩ := bl64_is (m / 2 * 2 + 1) (by omega)
  rw [hn]; omega

set_option maxHeartbeats 400000 in
theorem size_c (a : Option Addr) (len cap : Nat) (xs : List Int) (w : World) (h : Seg .u64 w a len xs) (hx : Bits64 xs) (hl : len ≤ 1125899906842624) :
    Calls Try.prog 69 #[.slice a len cap] w fun e w' => e = .returned (.int .i64 (szs xs)) ∧ w' = w := by
  obtain ⟨hlen, h⟩ := h
  rcases h with rfl | ⟨b, off, rfl, hbw, hc⟩
  · obtain rfl : xs = [] := List.eq_nil_of_length_eq_zero hlen
    go_enter Try.func69, Try.ntmps69
    go_wp2
    refine wp_loop_rounds 1 ?_
    rw [rounds_succ]
    go_wp2
    go_ret
    exact ⟨rfl, rfl⟩
  · go_enter Try.func69, Try.ntmps69
    go_wp2
    go_loop [3, 8] (fun n i => ∃ k : Nat, k ≤ len ∧ i = .int .i64 k ∧ n = .int .i64 (szs (xs.take k))) (fun _ i => len - (intOf i).toNat)
    case atStart => exact ⟨0, Nat.zero_le _, rfl, rfl⟩
    case round =>
      obtain ⟨k, hk, rfl, rfl⟩ := hrel
      have hz := szs_le (xs.take k)
      have hzl : (xs.take k).length ≤ k := List.length_take_le _ _
      by_cases hlt : k < len
      · have hcell := hc k hlt
        have hxk := hx k (by omega)
        have hor := or_one (xs[k]?.getD 0) hxk.1 hxk.2
        have HS : Hid (szs (xs.take (k + 1)) = szs (xs.take k) + sz (xs[k]?.getD 0)) := by rw [take_snoc xs k (by omega)]; exact szs_snoc _ _
        obtain ⟨hbl, hsz⟩ := bl64_or (xs[k]?.getD 0) hxk.1 hxk.2
        have HZ : Hid ((bl64 (xs[k]?.getD 0 / 2 * 2 + 1) + 7 - 1) / 7 = (sz (xs[k]?.getD 0) : Int)) := hsz
        clear hc hx hlen hsz
        go_wp2_with (go_at_call 71; go_must (refine (len64_c _ (by omega) (by omega) _).mono ?_); rintro e w' ⟨rfl, rfl⟩)
        go_round
        case rel => exact ⟨k + 1, by omega, by go_num, congrArg (Value.int .i64) (by rw [HS.out, HZ.out]; omega)⟩
        case measure => simp [intOf]; omega
      · go_wp2
        go_ret
        exact ⟨ret_int (by rw [List.take_of_length_le (by omega)]), rfl⟩
end Go.Proofs.Ytekefbbjocekiab
