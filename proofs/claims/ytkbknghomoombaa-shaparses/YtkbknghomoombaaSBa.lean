/-
  A text that is parsed to a digest is that digest's text; a string as a list of numbers. No condition of its own.
-/
import Derived.Test.YtkbknghomoombaaSOp
import Derived.Test.YtkbknghomoombaaSGq
namespace Go.Proofs.Ytkbknghomoombaa
set_option linter.unusedVariables false
open Go.RowKit

theorem hx_of (c : Int) (h : 0 ≤ udx c) : hx (udx c) = c := by
  have hb := udx_bd c
  obtain ⟨j, hj⟩ := Int.eq_ofNat_of_zero_le h
  rw [hj]
  exact (hx_udx c j (by omega)).2 hj
/-- The bytes of the first 2k digits. -/
def pb (ts : List Int) (k : Nat) : List Int := (List.range k).map fun i => udx (ts.getD (2 * i) 0) * 16 + udx (ts.getD (2 * i + 1) 0)
theorem pb_succ (ts : List Int) (k : Nat) : pb ts (k + 1) = pb ts k ++ [udx (ts.getD (2 * k) 0) * 16 + udx (ts.getD (2 * k + 1) 0)] := by
  unfold pb; rw [List.range_succ, List.map_append]; rfl
theorem pb_len (ts : List Int) (k : Nat) : (pb ts k).length = k := by simp [pb]
theorem pd_pb (ts : List Int) (hg : ∀ j, j < 64 → 0 ≤ udx (ts.getD j 0)) (k : Nat) (hk : k ≤ 32) : pd ts (2 * k) = pb ts k ++ List.replicate (32 - k) 0 := by
  induction k with
  | zero => rfl
  | succ k ih =>
    have ih := ih (by omega)
    have g1 := hg (2 * k) (by omega)
    have g2 := hg (2 * k + 1) (by omega)
    have u1 := udx_bd (ts.getD (2 * k) 0)
    have u2 := udx_bd (ts.getD (2 * k + 1) 0)
    have lt := pb_len ts k
    obtain ⟨a, ha⟩ : ∃ a, a = udx (ts.getD (2 * k) 0) := ⟨_, rfl⟩
    obtain ⟨b, hb⟩ : ∃ b, b = udx (ts.getD (2 * k + 1) 0) := ⟨_, rfl⟩
    rw [← ha] at g1 u1
    rw [← hb] at g2 u2
    have s1 : pd ts (2 * k + 1) = pb ts k ++ a :: List.replicate (32 - (k + 1)) 0 := by
      rw [pd, ih, show 2 * k / 2 = k from by omega, ← ha]
      rw [show 32 - k = (32 - (k + 1)) + 1 from by omega, List.replicate_succ, List.set_append_right _ _ (by omega), lt, Nat.sub_self, List.set_cons_zero]
      congr 2
      simp only [List.getD_eq_getElem?_getD]
      rw [List.getElem?_append_right (by omega), lt, Nat.sub_self]
      simp; omega
    rw [show 2 * (k + 1) = 2 * k + 1 + 1 from by omega, pd, s1, show (2 * k + 1) / 2 = k from by omega, ← hb, pb_succ, ← ha, ← hb]
    rw [List.set_append_right _ _ (by omega), lt, Nat.sub_self, List.set_cons_zero]
    simp only [List.getD_eq_getElem?_getD]
    rw [List.getElem?_append_right (by omega), lt, Nat.sub_self]
    simp only [List.getElem?_cons_zero, Option.getD_some, List.append_assoc, List.singleton_append]
    congr 2
    omega
theorem ptx_pb (ts : List Int) (hl : ts.length = 64) (hg : ∀ j, j < 64 → 0 ≤ udx (ts.getD j 0)) (k : Nat) (hk : k ≤ 32) : ptx (pb ts k) = ts.take (2 * k) := by
  induction k with
  | zero => rfl
  | succ k ih =>
    have ih := ih (by omega)
    have g1 := hg (2 * k) (by omega)
    have g2 := hg (2 * k + 1) (by omega)
    have u1 := udx_bd (ts.getD (2 * k) 0)
    have u2 := udx_bd (ts.getD (2 * k + 1) 0)
    have x1 := hx_of _ g1
    have x2 := hx_of _ g2
    rw [pb_succ, ptx_app, ih, show 2 * (k + 1) = 2 * k + 1 + 1 from by omega, List.take_succ_eq_append_getElem (by omega), List.take_succ_eq_append_getElem (by omega), List.append_assoc]
    congr 1
    show [hx ((udx (ts.getD (2 * k) 0) * 16 + udx (ts.getD (2 * k + 1) 0)) / 16), hx ((udx (ts.getD (2 * k) 0) * 16 + udx (ts.getD (2 * k + 1) 0)) % 16)] = _
    rw [show (udx (ts.getD (2 * k) 0) * 16 + udx (ts.getD (2 * k + 1) 0)) / 16 = udx (ts.getD (2 * k) 0) from by omega, show (udx (ts.getD (2 * k) 0) * 16 + udx (ts.getD (2 * k + 1) 0)) % 16 = udx (ts.getD (2 * k + 1) 0) from by omega, x1, x2]
    simp [hl, show 2 * k < 64 from by omega, show 2 * k + 1 < 64 from by omega]
theorem pans_len (ts : List Int) : (pans ts).1.length = 32 ∧ Bytes (pans ts).1 := by
  have hz : dz32.length = 32 ∧ Bytes dz32 := ⟨rfl, bytes_of_mem (fun z hz => by unfold dz32 at hz; rw [List.mem_replicate] at hz; omega)⟩
  unfold pans
  split
  · exact hz
  · split
    · dsimp only; exact ⟨pd_len ts 64, pd_bytes ts 64⟩
    · exact hz
theorem pans_err (ts : List Int) : (pans ts).2.1 = 50 ∨ ((pans ts).2.1 = 0 ∧ ptx (pans ts).1 = ts) := by
  unfold pans
  split
  · exact .inl rfl
  · rename_i hn
    split
    · rename_i hl
      right
      refine ⟨rfl, ?_⟩
      have hg : ∀ j, j < 64 → 0 ≤ udx (ts.getD j 0) := by
        intro j hj
        unfold fbad at hn
        rw [List.find?_range_eq_none] at hn
        have := hn j (by omega)
        simp only [Bool.not_eq_true', decide_eq_false_iff_not] at this
        omega
      have h64 := pd_pb ts hg 32 (Nat.le_refl _)
      rw [show 2 * 32 = 64 from rfl, show 32 - 32 = 0 from rfl, List.replicate_zero, List.append_nil] at h64
      dsimp only
      rw [h64, ptx_pb ts hl hg 32 (Nat.le_refl _)]
      exact List.take_of_length_le (by omega)
    · exact .inl rfl
theorem str_of (s : ByteArray) : ∃ ts : List Int, s = strOfNums ts ∧ Bytes ts ∧ ts.length = s.size := by
  refine ⟨s.data.toList.map fun b => (b.toNat : Int), ?_, bytes_of_mem (fun z hz => ?_), by simp⟩
  · apply ByteArray.ext
    apply Array.toList_inj.1
    rw [strOfNums_data, List.map_map]
    have : (fun n : Int => UInt8.ofNat n.toNat) ∘ (fun b : UInt8 => (b.toNat : Int)) = id := by funext b; simp
    rw [this, List.map_id]
  · obtain ⟨b, _, rfl⟩ := List.mem_map.1 hz
    have := b.toNat_lt
    omega
theorem pans_ba : pans [66, 97] = (dz32, 50, 0) := by decide +kernel
theorem str_ba : strOfNums [66, 97] = { data := #[66, 97] } := by
  apply ByteArray.ext
  apply Array.toList_inj.1
  rw [strOfNums_data]; rfl
end Go.Proofs.Ytkbknghomoombaa
