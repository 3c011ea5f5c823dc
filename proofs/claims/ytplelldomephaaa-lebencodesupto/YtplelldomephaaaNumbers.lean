/-
  What the law's own numbers answers of whatever numbers: a row of them with three marks behind, and the part without the marks. Condition: the slice can be read, and holds at most 2^40 numbers.
-/
import Derived.Test.YtplelldomephaaaRow
import Derived.BigQuiet
import Derived.Deep.QuietTactic
namespace Go.Proofs.Ytplelldomephaaa
open Go.RowKit
set_option linter.unusedVariables false

/-- The numbers and the marks, of which those below place k are laid. -/
def marked (xs : List Int) (k : Nat) : List Int := xs ++ (List.range 3).map fun j => if xs.length + j < k then (1000 : Int) + ((xs.length + j : Nat) : Int) else 0
theorem marked_length (xs : List Int) (k : Nat) : (marked xs k).length = xs.length + 3 := by simp [marked]
theorem marked_set (xs : List Int) (k : Nat) (h1 : xs.length ≤ k) (h2 : k < xs.length + 3) : (marked xs k).set k ((1000 : Int) + k) = marked xs (k + 1) := by
  have h : k = xs.length + 0 ∨ k = xs.length + 1 ∨ k = xs.length + 2 := by omega
  unfold marked
  rcases h with h | h | h <;> subst h <;> rw [List.set_append_right _ _ (by omega)] <;> simp [List.range_succ] <;> omega
theorem marked_start (xs : List Int) : marked xs xs.length = xs ++ List.replicate 3 0 := by
  unfold marked; simp [List.range_succ, List.replicate]; omega
theorem marked_lo (xs : List Int) (k i : Nat) (h : i < xs.length) : (marked xs k)[i]?.getD 0 = xs[i]?.getD 0 := by
  simp [marked, List.getElem?_append_left h]
theorem marked_hi (xs : List Int) (i : Nat) (h : xs.length ≤ i) (h2 : i < xs.length + 3) : (marked xs (xs.length + 3))[i]?.getD 0 = (1000 : Int) + i := by
  obtain ⟨j, rfl⟩ : ∃ j, i = xs.length + j := ⟨i - xs.length, by omega⟩
  have hj : j < 3 := by omega
  simp [marked, hj]
theorem marked_take (xs : List Int) (k : Nat) : (marked xs k).take xs.length = xs := by simp [marked]

theorem Try.infoU64 : (Try.prog.info? 30).map (fun i => (i.zero, i.size, i.bytes)) = some (some (.int .u64 0), 1, 8) := by kernel_rfl

set_option maxRecDepth 20000 in
set_option maxHeartbeats 1000000 in
theorem numbers_c (a : Option Addr) (len cap : Nat) (xs : List Int) (w : World) (h : Seg .u64 w a len xs) (hl : len ≤ 1099511627776) :
    Calls Try.prog 10 #[.slice a len cap] w fun e w' => ∃ g, e = .returned (.tuple #[.slice (some ⟨g, 0, none⟩) (len + 3) (len + 3), .slice (some ⟨g, 0, none⟩) len (len + 3)]) ∧
      w.heap.size ≤ g ∧ Row .u64 30 w' g (marked xs (len + 3)) ∧ Below w.heap.size w w' := by
  obtain ⟨i0, hi, hz0, hz1, hz2⟩ := info_parts Try.infoU64
  have HS : Hid (Seg .u64 w a len xs) := h
  have hlen : Hid (xs.length = len) := h.1
  clear h
  have HN : Hid ((xs.map (Value.int .u64)).length = Nat.min len (len + 3)) := by show _ = _; rw [List.length_map, hlen.out]; exact (Nat.min_eq_left (by omega)).symm
  have H1 : Hid (∀ v ∈ xs.map (Value.int .u64), v.oneCell' = true) := by
    intro v hv
    obtain ⟨z, _, rfl⟩ := List.mem_map.1 hv
    rfl
  go_enter Try.func10, Try.ntmps10
  go_wp2_with (first
    | (at_make; go_must (refine wpList_make_full _ rfl _ _ 22 rfl w.heap.size 30 i0 (.int .u64 0) 1 Try.underlying22 hi hz0 hz1 _ _ _ _ (len + 3) rfl rfl (by omega) (by omega) (by rw [hz2]; omega) (by unfold maxLen; omega) (Nat.le_refl _) ?_); intro w1 hown hgrow; have HR1 : Hid (Row .u64 30 w1 w.heap.size (List.replicate (len + 3) 0)) := row_of_own _ hown (by rw [List.map_replicate]; simpa [Value.cells] using toList_madeCells_one (.int .u64 0) (len + 3)); have HB1 : Hid (Below w.heap.size w w1) := (Below.refl _ _).grown hgrow (Nat.le_refl _) (fun k hk => by cases hk); clear hown hgrow)
    | (refine wpList_copy_splice rfl (.tmp 10) (.tmp 11) 22 22 rfl 30 Try.underlying22 (by rw [hi]; simp [hz1]) _ _ _ _ _ _ rfl rfl w.heap.size 0 _ 30 HR1.out (xs.map (Value.int .u64)) HN.out (by
        intro hp
        refine ⟨rfl, ?_⟩
        rcases HS.out.2 with h0 | ⟨b, off, ha, hbw, hc⟩
        · rw [List.length_map, hlen.out] at hp; omega
        · exact ⟨⟨b, off, none⟩, ha, seg_news' (HS.out.below HB1.out) _ ha⟩) (by simp [hlen.out]) H1.out w.heap.size w HB1.out (Nat.le_refl _) ?_; intro w2 hg2 hb2))
  have hrow2 : Row .u64 30 w2 w.heap.size (marked xs len) := by
    unfold Row
    rw [hg2.out, ← hlen.out, marked_start]
    simp [splice]
  obtain ⟨g, hg⟩ : ∃ g, g = w.heap.size := ⟨_, rfl⟩
  rw [← hg] at hrow2 ⊢
  have HG : Hid (g = w.heap.size) := hg
  clear hg hg2
  go_loopw [5] (fun i wr => ∃ k : Nat, len ≤ k ∧ k ≤ len + 3 ∧ i = .int .i64 k ∧ Row .u64 30 wr g (marked xs k) ∧ Below w.heap.size w wr) (fun i _ => len + 3 - (intOf i).toNat)
  case atStart => exact ⟨len, Nat.le_refl _, by omega, rfl, hrow2, hb2⟩
  case round =>
    obtain ⟨k, hk0, hk, rfl, hr, hb⟩ := hrel
    clear hrow2 hb2
    by_cases hlt : k < len + 3
    · have hcell := hr.cell k (by rw [marked_length, hlen.out]; exact hlt)
      have hfree := hr.free k
      have HR : Hid (Row .u64 30 (wr.setCell ⟨g, k, none⟩ (.int .u64 ((1000 : Int) + k))) g (marked xs (k + 1))) := by
        have := hr.set k ((1000 : Int) + k)
        rw [marked_set xs k (by rw [hlen.out]; exact hk0) (by rw [hlen.out]; exact hlt)] at this
        exact this
      have HB : Hid (Below w.heap.size w (wr.setCell ⟨g, k, none⟩ (.int .u64 ((1000 : Int) + k)))) := hb.setCell (p := ⟨g, k, none⟩) (by rw [HG.out]; exact Nat.le_refl _) _
      clear hr hb
      go_wp2
      go_roundw
      case rel => exact ⟨k + 1, by omega, by omega, by go_num, HR.out, HB.out⟩
      case measure => simp [intOf]; omega
    · obtain rfl : k = len + 3 := by omega
      have HR : Hid (Row .u64 30 wr g (marked xs (len + 3))) := hr
      have HB : Hid (Below w.heap.size w wr) := hb
      clear hr hb
      go_wp2
      go_quiet (fail)
      go_wp2
      go_ret2
      go_light
      exact ⟨g, rfl, by rw [HG.out]; exact Nat.le_refl _, HR.out.drewN _, below_drewN HB.out _⟩
end Go.Proofs.Ytplelldomephaaa
