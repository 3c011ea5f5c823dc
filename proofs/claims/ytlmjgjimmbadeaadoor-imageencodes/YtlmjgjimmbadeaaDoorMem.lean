/-
  What the document's Lend and Kept answer: Lend gives a row of the bytes and nine marks, Kept says whether such a row still stands. Condition: the slices can be read, and their lengths are ones that a machine has.
-/
import Derived.Test.YtlmjgjimmbadeaaDoorFa
import Derived.Deep.Light
import Derived.Laws.CopyOwn
import Derived.BigQuiet
import Derived.Deep.QuietTactic
namespace Go.Proofs.YtlmjgjimmbadeaaDoor
open Go.RowKit
set_option linter.unusedVariables false

/-- The marks behind the bytes. -/
def fill (n k : Nat) : List Int := (List.range n).map fun j => if j < k then ((201 : Int) + j) % 256 else 0
theorem fill_length (n k : Nat) : (fill n k).length = n := by simp [fill]
theorem fill_set (n k : Nat) : (fill n k).set k (((201 : Int) + k) % 256) = fill n (k + 1) := by
  apply List.ext_getElem?
  intro i
  by_cases hi : i < n
  · by_cases h : k = i
    · subst h; simp [fill, hi]
    · simp [fill, hi, h]
      by_cases h2 : i < k
      · simp [h2, Nat.lt_succ_of_lt h2]
      · have : ¬ i < k + 1 := by omega
        simp [h2, this]
  · rw [List.getElem?_eq_none (by simp [fill]; omega), List.getElem?_eq_none (by simp [fill]; omega)]
theorem fill_zero (n : Nat) : (fill n 0).map (Value.int .u8) = List.replicate n (.int .u8 0) := by
  apply List.ext_getElem?
  intro i
  by_cases hi : i < n <;> simp [fill, hi]
def lent (xs : List Int) : List Int := xs ++ (fill (xs.length + 9) (xs.length + 9)).drop xs.length
theorem lent_length (xs : List Int) : (lent xs).length = xs.length + 9 := by simp [lent, fill_length]
theorem lent_take (xs : List Int) : (lent xs).take xs.length = xs := by simp [lent]
theorem lent_lo (xs : List Int) (i : Nat) (h : i < xs.length) : (lent xs)[i]?.getD 0 = xs[i]?.getD 0 := by
  simp [lent, List.getElem?_append_left h]
theorem lent_hi (xs : List Int) (i : Nat) (h : xs.length ≤ i) (h2 : i < xs.length + 9) : (lent xs)[i]?.getD 0 = ((201 : Int) + i) % 256 := by
  simp only [lent]
  rw [List.getElem?_append_right h, List.getElem?_drop, show xs.length + (i - xs.length) = i from by omega]
  simp [fill, h2]

set_option maxRecDepth 20000 in
set_option maxHeartbeats 1000000 in
theorem lend_c (a : Option Addr) (len cap : Nat) (xs : List Int) (w : World) (h : Seg .u8 w a len xs) (hx : Bytes xs) (hl : len ≤ 140737488355328) :
    Calls Tryd.prog 18 #[.slice a len cap] w fun e w' => ∃ g, e = .returned (.tuple #[.slice (some ⟨g, 0, none⟩) (len + 9) (len + 9), .slice (some ⟨g, 0, none⟩) len (len + 9)]) ∧
      w.heap.size ≤ g ∧ Row .u8 5 w' g (lent xs) ∧ Below w.heap.size w w' := by
  obtain ⟨i0, hi, hz0, hz1, hz2⟩ := info_parts Tryd.infoU8
  have HS : Hid (Seg .u8 w a len xs) := h
  have hlen : Hid (xs.length = len) := h.1
  clear h
  go_enter Tryd.func18, Tryd.ntmps18
  go_wp2_with (at_make; go_must (refine wpList_make_full _ rfl _ _ 27 rfl w.heap.size 5 i0 (.int .u8 0) 1 Tryd.underlying27 hi hz0 hz1 _ _ _ _ (len + 9) rfl rfl (by omega) (by omega) (by rw [hz2]; omega) (by unfold maxLen; omega) (Nat.le_refl _) ?_); intro w1 hown hgrow)
  obtain ⟨g, hg⟩ : ∃ g, g = w.heap.size := ⟨_, rfl⟩
  rw [← hg] at hown ⊢
  have hrow : Row .u8 5 w1 g (fill (len + 9) 0) := row_of_own (fill (len + 9) 0) hown (by rw [fill_zero]; simpa [Value.cells] using toList_madeCells_one (.int .u8 0) (len + 9))
  have hbel : Below w.heap.size w w1 := (Below.refl _ _).grown hgrow (Nat.le_refl _) (fun k hk => by cases hk)
  have HG : Hid (g = w.heap.size) := hg
  clear hown hgrow hg
  go_loopw [12] (fun i wr => ∃ k : Nat, k ≤ len + 9 ∧ i = .int .i64 k ∧ Row .u8 5 wr g (fill (len + 9) k) ∧ Below w.heap.size w wr) (fun i _ => len + 9 - (intOf i).toNat)
  case atStart => exact ⟨0, Nat.zero_le _, rfl, hrow, hbel⟩
  case round =>
    obtain ⟨k, hk, rfl, hr, hb⟩ := hrel
    clear hrow hbel
    by_cases hlt : k < len + 9
    · have hcell := hr.cell k (by rw [fill_length]; exact hlt)
      have hfree := hr.free k
      have hset := hr.set k (((201 : Int) + k) % 256)
      rw [fill_set] at hset
      have hb2 := hb.setCell (p := ⟨g, k, none⟩) (by rw [HG.out]; exact Nat.le_refl _) (.int .u8 (((201 : Int) + k) % 256))
      have HR : Hid (Row .u8 5 (wr.setCell ⟨g, k, none⟩ (.int .u8 (((201 : Int) + k) % 256))) g (fill (len + 9) (k + 1))) := hset
      have HB : Hid (Below w.heap.size w (wr.setCell ⟨g, k, none⟩ (.int .u8 (((201 : Int) + k) % 256)))) := hb2
      clear hset hb2 hr hb
      go_wp2
      go_roundw
      case rel => exact ⟨k + 1, by omega, by go_num, HR.out, HB.out⟩
      case measure => simp [intOf]; omega
    · obtain rfl : k = len + 9 := by omega
      have hn : (xs.map (Value.int .u8)).length = Nat.min len (len + 9) := by rw [List.length_map, hlen.out]; exact (Nat.min_eq_left (by omega)).symm
      have HP : Hid (0 < (xs.map (Value.int .u8)).length → (some ⟨g, 0, none⟩ : Option Addr) = some ⟨g, 0, none⟩ ∧ ∃ ad, a = some ad ∧ ∀ j v, (xs.map (Value.int .u8))[j]? = some v → wr.cell? (ad.add j) = some v) := by
        intro hp
        refine ⟨rfl, ?_⟩
        rcases HS.out.2 with h0 | ⟨b, off, ha, hbw, hc⟩
        · rw [List.length_map, hlen.out] at hp; omega
        · refine ⟨⟨b, off, none⟩, ha, fun j v hv => ?_⟩
          have hj : j < len := by
            rcases Nat.lt_or_ge j len with h | h
            · exact h
            · rw [List.getElem?_eq_none (by rw [List.length_map, hlen.out]; exact h)] at hv; cases hv
          have e := (hb.cell (p := ⟨b, off + j, none⟩) hbw).trans (hc j hj)
          rw [Go.WideShapes.add_plain, e, ← hv]
          have hjx : j < xs.length := by rw [hlen.out]; exact hj
          simp [hjx]
      have H1 : Hid (∀ v ∈ xs.map (Value.int .u8), v.oneCell' = true) := by
        intro v hv
        obtain ⟨z, _, rfl⟩ := List.mem_map.1 hv
        rfl
      have HF : Hid (0 + (xs.map (Value.int .u8)).length ≤ ((fill (len + 9) (len + 9)).map (Value.int .u8)).length) := by
        show _ ≤ _
        rw [List.length_map, List.length_map, fill_length, hlen.out]; omega
      have HN : Hid ((xs.map (Value.int .u8)).length = Nat.min len (len + 9)) := hn
      clear hn
      go_wp2_with ((refine wpList_copy_splice rfl (.tmp 22) (.tmp 23) 27 27 rfl 5 Tryd.underlying27 (by rw [hi]; simp [hz1]) _ _ _ _ _ _ rfl rfl g 0 _ 5 hr (xs.map (Value.int .u8)) HN.out HP.out HF.out H1.out w.heap.size w hb (by rw [HG.out]; exact Nat.le_refl _) ?_); intro w2 hg2 hb2)
      have hrow2 : Row .u8 5 w2 g (lent xs) := by
        unfold Row
        rw [hg2.out]
        simp [splice, lent, hlen.out]
      have HR : Hid (Row .u8 5 w2 g (lent xs)) := hrow2
      have HB : Hid (Below w.heap.size w w2) := hb2
      clear hrow2 hg2 hb2 hr hb
      go_quiet (fail)
      go_wp2
      go_ret2
      go_light
      exact ⟨g, rfl, by rw [HG.out]; exact Nat.le_refl _, HR.out.drewN _, below_drewN HB.out _⟩

set_option maxRecDepth 20000 in
set_option maxHeartbeats 400000 in
theorem kept_c (g cap : Nat) (a : Option Addr) (len cap2 : Nat) (xs : List Int) (w : World) (hr : Row .u8 5 w g (lent xs)) (h : Seg .u8 w a len xs) (hx : Bytes xs) (hl : len ≤ 140737488355328) :
    Calls Tryd.prog 22 #[.slice (some ⟨g, 0, none⟩) (len + 9) cap, .slice a len cap2] w fun e w' => e = .returned (.bool true) ∧ ∃ n, w' = w.drewN n := by
  obtain ⟨hlen, h⟩ := h
  have HS : Hid (len = 0 ∨ ∃ b off, a = some ⟨b, off, none⟩ ∧ b < w.heap.size ∧ ∀ i, i < len → w.cell? ⟨b, off + i, none⟩ = some (.int .u8 (xs[i]?.getD 0))) := h
  have HL : Hid (xs.length = len) := hlen
  have HX : Hid (Bytes xs) := hx
  have HR : Hid (Row .u8 5 w g (lent xs)) := hr
  clear h hlen hx hr
  have hne : (((len : Int) + 9) != ((len : Int) + 9)) = false := by simp
  go_enter Tryd.func22, Tryd.ntmps22
  go_wp2
  go_loopw [14] (fun i wr => ∃ k n : Nat, k ≤ len + 9 ∧ i = .int .i64 k ∧ wr = w.drewN n) (fun i _ => len + 9 - (intOf i).toNat)
  case atStart => exact ⟨0, 0, Nat.zero_le _, rfl, rfl⟩
  case round =>
    obtain ⟨k, n, hk, rfl, rfl⟩ := hrel
    by_cases hlt : k < len
    · rcases HS.out with h0 | ⟨b, off, rfl, hbw, hc⟩
      · omega
      · have hcell := hc k hlt
        have hcell2 : w.cell? ⟨g, k, none⟩ = some (.int .u8 (xs[k]?.getD 0)) := by rw [← lent_lo xs k (by rw [HL.out]; exact hlt)]; exact HR.out.cell k (by rw [lent_length, HL.out]; omega)
        have hd1 : decide (len ≤ k) = false := by simp; omega
        clear hc
        go_wp2
        go_quiet (fail)
        go_wp2
        go_roundw
        case rel => exact ⟨k + 1, _, by omega, by go_num, rfl⟩
        case measure => simp [intOf]; omega
    · by_cases hlt2 : k < len + 9
      · have hcell2 : w.cell? ⟨g, k, none⟩ = some (.int .u8 (((201 : Int) + k) % 256)) := by rw [← lent_hi xs k (by rw [HL.out]; omega) (by rw [HL.out]; omega)]; exact HR.out.cell k (by rw [lent_length, HL.out]; omega)
        have hd1 : decide (k < len) = false := by simp; omega
        have hd2 : decide (len ≤ k) = true := by simp; omega
        go_wp2
        go_quiet (fail)
        go_wp2
        go_roundw
        case rel => exact ⟨k + 1, _, by omega, by go_num, rfl⟩
        case measure => simp [intOf]; omega
      · go_wp2
        go_ret
        exact ⟨rfl, _, rfl⟩
end Go.Proofs.YtlmjgjimmbadeaaDoor
