/-
  What Open takes up, as plain data: a list of texts text by text, or the first error. No condition of its own.
-/
import Derived.Test.YtfnfkcafjfhnlaaFb
import Derived.Test.YtfnfkcafjfhnlaaPText
import Derived.Test.YtfnfkcafjfhnlaaPFl
namespace Go.Proofs.Ytfnfkcafjfhnlaa
open Go.RowKit
set_option linter.unusedVariables false

/-- Is a text greater? -/
def gtS (s t : ByteArray) : Bool := !(Op.bytesLess s.toList t.toList || s.toList == t.toList)
/-- What Open has come to: the place, the text ahead, the bytes so far, the texts, the error. -/
structure OS where
  p : Nat
  last : ByteArray
  all : Nat
  l : List ByteArray
  e : Int
/-- How many bytes of the text ahead; the rest; where that ends. -/
def ov (xs : List Int) (p : Nat) : Nat := (ri xs p 65536).1.toNat
def ot (xs : List Int) (p : Nat) : ByteArray := strOfNums (rt xs (ri xs p 65536).2.1 65536).1
def oq (xs : List Int) (p : Nat) : Nat := (rt xs (ri xs p 65536).2.1 65536).2.1
def oz (xs : List Int) (s : OS) : Nat := ov xs s.p + (ot xs s.p).size
def oback (xs : List Int) (s : OS) : ByteArray := s.last.extract (ov xs s.p) s.last.size
/-- The first error of one text. -/
def oe (xs : List Int) (k : Nat) (s : OS) : Int :=
  if (ri xs s.p 65536).2.2 ≠ 0 then (ri xs s.p 65536).2.2
  else if s.last.size < ov xs s.p then 32
  else if (rt xs (ri xs s.p 65536).2.1 65536).2.2 ≠ 0 then (rt xs (ri xs s.p 65536).2.1 65536).2.2
  else if 65536 < oz xs s ∨ 268435456 < s.all + oz xs s then 31
  else if lcs (oback xs s) (ot xs s.p) ≠ 0 then 32
  else if k ≠ 0 ∧ gtS (ot xs s.p) (oback xs s) = false then 33
  else 0
/-- The text that was met. -/
def onew (xs : List Int) (s : OS) : ByteArray := s.last.extract 0 (ov xs s.p) ++ ot xs s.p
def ostep (xs : List Int) (k : Nat) (s : OS) : OS :=
  if s.e ≠ 0 then s else if oe xs k s ≠ 0 then { s with e := oe xs k s } else ⟨oq xs s.p, onew xs s, s.all + oz xs s, s.l ++ [onew xs s], 0⟩
def ogo (xs : List Int) (p0 : Nat) : Nat → OS
  | 0 => ⟨p0, ByteArray.empty, 0, [], 0⟩
  | k + 1 => ostep xs k (ogo xs p0 k)
theorem ogo_succ (xs : List Int) (p0 k : Nat) : ogo xs p0 (k + 1) = ostep xs k (ogo xs p0 k) := rfl
theorem ogo_stay {xs : List Int} {p0 k n : Nat} (h : k ≤ n) (he : (ogo xs p0 k).e ≠ 0) : ogo xs p0 n = ogo xs p0 k := by
  induction n with
  | zero => obtain rfl : k = 0 := by omega
            rfl
  | succ n ih =>
    rcases Nat.lt_or_ge n k with q | q
    · obtain rfl : k = n + 1 := by omega
      rfl
    · have := ih q
      rw [ogo_succ, this]
      unfold ostep
      rw [if_pos he]
theorem ogo_err {xs : List Int} {p0 k n : Nat} (h : k < n) (h0 : (ogo xs p0 k).e = 0) (he : oe xs k (ogo xs p0 k) ≠ 0) : (ogo xs p0 n).e = oe xs k (ogo xs p0 k) := by
  have e1 : (ogo xs p0 (k + 1)).e = oe xs k (ogo xs p0 k) := by
    rw [ogo_succ]
    unfold ostep
    rw [if_neg (by simpa using h0), if_pos he]
  rw [ogo_stay (k := k + 1) (n := n) (by omega) (by rw [e1]; exact he), e1]
theorem ogo_next {xs : List Int} {p0 k : Nat} (h0 : (ogo xs p0 k).e = 0) (he : oe xs k (ogo xs p0 k) = 0) : ogo xs p0 (k + 1) = ⟨oq xs (ogo xs p0 k).p, onew xs (ogo xs p0 k), (ogo xs p0 k).all + oz xs (ogo xs p0 k), (ogo xs p0 k).l ++ [onew xs (ogo xs p0 k)], 0⟩ := by
  rw [ogo_succ]
  unfold ostep
  rw [if_neg (by simpa using h0), if_neg (by simpa using he)]
theorem ogo_len {xs : List Int} {p0 : Nat} : ∀ k, (ogo xs p0 k).e = 0 → (ogo xs p0 k).l.length = k
  | 0, _ => rfl
  | k + 1, h => by
    rcases Decidable.em ((ogo xs p0 k).e = 0) with q | q
    · rcases Decidable.em (oe xs k (ogo xs p0 k) = 0) with r | r
      · rw [ogo_next q r]; simp [ogo_len k q]
      · exact absurd h (by rw [ogo_err (Nat.lt_succ_self k) q r]; exact r)
    · exact absurd h (by rw [ogo_stay (Nat.le_succ k) q]; exact q)
/-- Both ways to say it: how far the new text begins like the one ahead. -/
theorem lc_app : ∀ (a b c : List UInt8), lc (a ++ b) (a ++ c) = a.length + lc b c
  | [], b, c => by simp
  | x :: a, b, c => by
    have := lc_app a b c
    simp only [List.cons_append, lc, if_true, List.length_cons]
    omega
theorem bl_app : ∀ (a b c : List UInt8), Op.bytesLess (a ++ b) (a ++ c) = Op.bytesLess b c
  | [], b, c => rfl
  | x :: a, b, c => by
    simp [Op.bytesLess, bl_app a b c]
theorem cut_back (s : ByteArray) (v : Nat) (hv : v ≤ s.size) : s.data.toList = (s.extract 0 v).data.toList ++ (s.extract v s.size).data.toList := by
  have hs : s.data.toList.length = s.size := by simp
  rw [ByteArray.data_extract, ByteArray.data_extract, Array.toList_extract, Array.toList_extract, List.extract_eq_take_drop, List.extract_eq_take_drop]
  simp only [List.drop_zero, Nat.sub_zero]
  rw [List.take_of_length_le (i := s.size - v) (by rw [List.length_drop, hs]; exact Nat.le_refl _), List.take_append_drop]
theorem lcs_new (s t : ByteArray) (v : Nat) (hv : v ≤ s.size) : lcs s (s.extract 0 v ++ t) = v + lcs (s.extract v s.size) t := by
  unfold lcs
  have e := cut_back s v hv
  have hl : (s.extract 0 v).data.toList.length = v := by
    rw [ByteArray.data_extract, Array.toList_extract, List.extract_eq_take_drop, List.length_take]
    simp
    omega
  conv => lhs; rw [e]
  rw [ByteArray.data_append, Array.toList_append, lc_app, hl]
theorem gt_new (s t : ByteArray) (v : Nat) (hv : v ≤ s.size) : gtS (s.extract 0 v ++ t) s = gtS t (s.extract v s.size) := by
  unfold gtS
  simp only [ByteArray.toList_eq]
  have e := cut_back s v hv
  conv => lhs; rw [e]
  rw [ByteArray.data_append, Array.toList_append, bl_app]
  congr 2
  exact Bool.eq_iff_iff.2 (by simp)
end Go.Proofs.Ytfnfkcafjfhnlaa
