/-
  What an image's beginning tells, as plain data, and what image's marked and head answer. Condition: at most 2^47 bytes.
-/
import Derived.Test.YtlmjgjimmbadeaaDoorXRs
import Derived.Test.YtlmjgjimmbadeaaDoorPNew
import Derived.Test.YtlmjgjimmbadeaaDoorMem
namespace Go.Proofs.YtlmjgjimmbadeaaDoor
open Go.RowKit
set_option linter.unusedVariables false

theorem lead_take : ∀ (xs : List Int) (n : Nat), lead (xs.take n) = min (lead xs) n
  | [], n => by simp [lead]
  | c :: l, 0 => by simp [lead]
  | c :: l, n + 1 => by
    rw [List.take_succ_cons]
    simp only [lead]
    rw [lead_take l n]
    split <;> omega
theorem lead_len (xs : List Int) : lead xs ≤ xs.length := by
  induction xs with
  | nil => simp [lead]
  | cons c l ih => simp only [lead, List.length_cons]; split <;> omega
/-- No more than ten bytes are looked at. -/
theorem rd_take (xs : List Int) (n : Nat) (hn : 10 ≤ n) : rd (xs.take n) = rd xs := by
  rcases Nat.lt_or_ge n xs.length with h | h
  · have hl := lead_len xs
    have ht : (xs.take n).length = n := by rw [List.length_take]; omega
    unfold rd
    rw [lead_take, ht]
    rcases Nat.lt_or_ge (lead xs) 10 with k | k
    · rw [Nat.min_eq_left (by omega), if_neg (by omega), if_neg (by omega : ¬ (lead xs = xs.length ∧ xs.length < 10))]
      rw [List.getElem?_take_of_lt (by omega), List.getElem?_take_of_lt (by omega), List.take_take, Nat.min_eq_left (by omega)]
      have e1 : (lead xs = n) = False := by simp; omega
      have e2 : (lead xs = xs.length) = False := by simp; omega
      simp only [e1, e2]
    · rw [if_neg (by omega), if_pos (.inl (by omega)), if_neg (by omega), if_pos (.inl k)]
  · rw [List.take_of_length_le h]
theorem ru_take (xs : List Int) (n p : Nat) (h : p + 10 ≤ n) : ru (xs.take n) p = ru xs p := by
  unfold ru
  rw [List.drop_take, rd_take _ _ (by omega)]
theorem ri_take (xs : List Int) (n p : Nat) (most : Int) (h : p + 10 ≤ n) : ri (xs.take n) p most = ri xs p most := by
  unfold ri
  rw [ru_take xs n p h]
theorem ri_le10 {xs : List Int} (hx : Bytes xs) (p : Nat) (most : Int) : (ri xs p most).2.1 ≤ p + 10 := by
  have h := (rd_bd _ (bytes_drop hx p)).2.1.2.1
  unfold ri ru
  split
  · simp
  · split
    · simp
    · split
      · simp
      · simp; omega
/-- What a reader answers of a number, behind an error too. -/
def pI (xs : List Int) (p : Nat) (e most : Int) : Int × Nat × Int := if e ≠ 0 then (0, p, e) else ri xs p most
theorem pI_take (xs : List Int) (n p : Nat) (e most : Int) (h : p + 10 ≤ n) : pI (xs.take n) p e most = pI xs p e most := by
  unfold pI
  rw [ri_take xs n p most h]
theorem pI_le {xs : List Int} (hx : Bytes xs) {p : Nat} (hp : p ≤ xs.length) (e most : Int) : (pI xs p e most).2.1 ≤ xs.length := by
  unfold pI
  split
  · exact hp
  · exact (ri_bd hx p hp most).2.2.2.1
/-- Whether bytes begin with the mark. -/
def mk4 (xs : List Int) : Bool := decide (4 ≤ xs.length) && decide (xs.take 4 = [104, 119, 105, 49])
def h1 (xs : List Int) : Int × Nat × Int := ri (xs.drop 4) 0 1152921504606846976
def h2 (xs : List Int) : Int × Nat × Int := pI (xs.drop 4) (h1 xs).2.1 (h1 xs).2.2 1048576
/-- Seq, the count, where they end, the error. -/
def pk (xs : List Int) : Int × Int × Nat × Int := if mk4 xs = true ∧ (h2 xs).2.2 = 0 then ((h1 xs).1, (h2 xs).1, 4 + (h2 xs).2.1, 0) else (0, 0, 0, 92)
/-- How many rows there can be. -/
def rm (xs : List Int) : Int := if (pk xs).2.2.2 = 0 then min (pk xs).2.1 (((xs.length - (pk xs).2.2.1 - 4 : Nat) / 4 : Nat) : Int) else 0
/-- Where a list that is cut begins. -/
def cutI (a : Option Addr) (cap p : Nat) : Option Addr := if cap = p then a else a.map (·.add p)
theorem sliceI (a : Option Addr) (len cap p h : Nat) (P H : Int) (hP : P = p) (hH : H = h) (hp : p ≤ h) (hc : h ≤ cap) (W : World) : (Instr.slice 27 (.slice a len cap) (some (.int .i64 P)) (some (.int .i64 H)) none).run Tryd.prog W = .ok (.slice (cutI a cap p) (h - p) (cap - p)) W := by
  subst hP hH
  obtain ⟨i0, hi, hz0, hz1, hz2⟩ := info_parts Tryd.infoU8
  have hel : Tryd.prog.elem 27 = 5 := by simp [Program.elem]
  rw [run_slice_lh W 27 a len cap (by rw [hel]; exact Tryd.underlying27) .i64 .i64 p h (by omega) (by omega) (by omega)]
  rw [hel]
  simp [sizeOf, typeInfo, hi, sliced, hz1, cutI]
theorem sliceL (a : Option Addr) (len cap p : Nat) (P : Int) (hP : P = p) (hp : p ≤ len) (W : World) : (Instr.slice 27 (.slice a len cap) (some (.int .i64 P)) none none).run Tryd.prog W = .ok (.slice (cutI a cap p) (len - p) (cap - p)) W := by
  subst hP
  obtain ⟨i0, hi, hz0, hz1, hz2⟩ := info_parts Tryd.infoU8
  have hel : Tryd.prog.elem 27 = 5 := by simp [Program.elem]
  rw [run_slice_l W 27 a len cap (by rw [hel]; exact Tryd.underlying27) .i64 p (by omega) (by omega)]
  rw [hel]
  simp [sizeOf, typeInfo, hi, sliced, hz1, cutI]
theorem sliceH (a : Option Addr) (len cap h : Nat) (H : Int) (hH : H = h) (hc : h ≤ cap) (W : World) : (Instr.slice 27 (.slice a len cap) none (some (.int .i64 H)) none).run Tryd.prog W = .ok (.slice a h cap) W := by
  subst hH
  obtain ⟨i0, hi, hz0, hz1, hz2⟩ := info_parts Tryd.infoU8
  have hel : Tryd.prog.elem 27 = 5 := by simp [Program.elem]
  rw [run_slice_h W 27 a len cap (by rw [hel]; exact Tryd.underlying27) .i64 h (by omega) (by omega)]
  rw [hel]
  have ea : ∀ (a : Option Addr), Option.map (fun x => x.add 0) a = a := fun a => by cases a <;> simp [Addr.add]
  simp [sizeOf, typeInfo, hi, sliced, hz1, ea]
theorem seg_cutI {w : World} {a : Option Addr} {len cap : Nat} {xs : List Int} (h : Seg .u8 w a len xs) (p : Nat) (hlc : len ≤ cap) : Seg .u8 w (cutI a cap p) (len - p) (xs.drop p) := by
  unfold cutI
  cases a with
  | none =>
    have h0 : len = 0 := by
      rcases h.2 with z | ⟨b, off, q, _⟩
      · exact z
      · cases q
    exact ⟨by rw [List.length_drop, h.1], .inl (by omega)⟩
  | some ad => exact seg_cut h p hlc
theorem len_of_mk4 {xs : List Int} (h : mk4 xs = true) : 4 ≤ xs.length := by
  unfold mk4 at h
  simp only [Bool.and_eq_true, decide_eq_true_eq] at h
  exact h.1
theorem neq_list {s t : ByteArray} (h : s ≠ t) : (s.toList == t.toList) = false := by
  apply beq_false_of_ne
  intro e
  apply h
  rw [ByteArray.toList_eq, ByteArray.toList_eq] at e
  exact Go.WideShapes.bytes_inj e
theorem mark_eq {xs : List Int} (hx : Bytes xs) (hl : 4 ≤ xs.length) : ((strOfNums (xs.take 4)).toList == [104, 119, 105, 49]) = mk4 xs := by
  have e0 : ([104, 119, 105, 49] : List UInt8) = (ByteArray.mk #[104, 119, 105, 49]).toList := by decide +kernel
  rw [e0]
  unfold mk4
  rw [decide_eq_true hl, Bool.true_and]
  have e : (ByteArray.mk #[104, 119, 105, 49]) = strOfNums [104, 119, 105, 49] := by decide +kernel
  rw [e]
  have ht : Bytes (xs.take 4) := fun i hi => by
    have hi4 : i < 4 := by rw [List.length_take] at hi; omega
    rw [List.getElem?_take_of_lt hi4]
    exact hx i (by rw [List.length_take] at hi; omega)
  have hb : Bytes [104, 119, 105, 49] := by unfold Bytes; decide
  by_cases hq : xs.take 4 = [104, 119, 105, 49]
  · rw [hq]; simp
  · rw [decide_eq_false hq]
    exact neq_list (fun z => hq (strOfNums_inj ht hb z))
set_option maxRecDepth 20000 in
theorem marked_c (a : Option Addr) (len cap : Nat) (xs : List Int) (w : World) (h : Seg .u8 w a len xs) (hx : Bytes xs) (hl : len ≤ 140737488355328) (hlc : len ≤ cap) :
    Calls Tryd.prog 48 #[.slice a len cap] w fun r w' => r = .returned (.bool (mk4 xs)) ∧ w' = w := by
  have hxl : xs.length = len := h.1
  rcases Nat.lt_or_ge len 4 with hlt | hge
  · have hf : mk4 xs = false := by
      unfold mk4
      rw [decide_eq_false (by omega), Bool.false_and]
    rw [hf]
    have hd : decide ((4 : Int) ≤ (len : Int)) = false := by simp; omega
    clear h hf hxl
    go_enter Tryd.func48, Tryd.ntmps48
    go_wp2
    go_ret
    exact ⟨rfl, rfl⟩
  · have hd : decide ((4 : Int) ≤ (len : Int)) = true := by simp; omega
    have hs := sliceH a len cap 4 4 rfl (by omega)
    have hcv := seg_string (P := Tryd.prog) 27 9 5 cap (seg_take h 4 hge) Tryd.underlying27 Tryd.underlying5 Tryd.underlying9
    have he := mark_eq hx (by omega)
    generalize strOfNums (xs.take 4) = S at hcv he
    generalize mk4 xs = B at he ⊢
    clear h hxl
    go_enter Tryd.func48, Tryd.ntmps48
    go_wp2
    go_ret
    exact ⟨rfl, rfl⟩
end Go.Proofs.YtlmjgjimmbadeaaDoor
