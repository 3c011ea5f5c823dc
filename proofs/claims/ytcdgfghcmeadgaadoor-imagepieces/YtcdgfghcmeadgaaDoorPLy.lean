/-
  Numbers and texts as bytes, there and back, as plain data. No condition of its own.
-/
import Derived.Test.YtcdgfghcmeadgaaDoorFb
import Derived.Test.YtcdgfghcmeadgaaDoorFa
namespace Go.Proofs.YtcdgfghcmeadgaaDoor
open Go.RowKit
set_option linter.unusedVariables false

theorem nm0 : nm 0 = 0 := by unfold nm; simp
theorem strOfNums_sb (s : ByteArray) : strOfNums (sb s) = s := by
  apply ByteArray.ext
  apply Array.toList_inj.1
  unfold strOfNums sb
  simp only [List.map_map]
  have h : ((fun n : Int => UInt8.ofNat n.toNat) ∘ fun c : UInt8 => (c.toNat : Int)) = id := by
    funext c
    simp
  rw [h, List.map_id]
theorem sb_strOfNums (xs : List Int) (h : Bytes xs) : sb (strOfNums xs) = xs := by
  apply List.ext_getElem?
  intro i
  unfold sb strOfNums
  by_cases hi : i < xs.length
  · have hb := h i hi
    simp only [List.getElem?_map, List.getElem?_eq_getElem hi, Option.map_some, Option.getD_some] at hb ⊢
    simp only [Option.some.injEq, UInt8.toNat_ofNat']
    omega
  · simp [List.getElem?_eq_none (Nat.le_of_not_lt hi)]
theorem size_strOfNums (xs : List Int) : (strOfNums xs).size = xs.length := by
  show (strOfNums xs).data.size = _
  simp [strOfNums]
theorem drop_len {xs ys zs : List Int} {p : Nat} (h : xs.drop p = ys ++ zs) : xs.drop (p + ys.length) = zs := by
  rw [← List.drop_drop, h, List.drop_left]
theorem len_of_drop {xs ys zs : List Int} {p : Nat} (h : xs.drop p = ys ++ zs) (hy : 1 ≤ ys.length) : p + ys.length + zs.length = xs.length := by
  have := congrArg List.length h
  rw [List.length_drop, List.length_append] at this
  omega
theorem ru_lay (xs : List Int) (p : Nat) (v : Nat) (hv : v < 18446744073709551616) (rest : List Int) (h : xs.drop p = enc v ++ rest) : ru xs p = ((v : Int), (enc v).length, 0) := by
  unfold ru
  rw [h, rd_enc v hv rest]
  simp [nm0]
theorem ri_lay (xs : List Int) (p : Nat) (n most : Int) (h0 : 0 ≤ n) (h1 : n ≤ most) (hm : most ≤ 9223372036854775807) (rest : List Int) (h : xs.drop p = enc n.toNat ++ rest) : ri xs p most = (n, p + (enc n.toNat).length, 0) := by
  unfold ri
  rw [ru_lay xs p n.toNat (by omega) rest h, if_neg (by omega)]
  have : ((n.toNat : Nat) : Int) = n := by omega
  simp only [this]
  rw [if_neg (by simp), if_neg (by omega)]
theorem rt_lay (xs : List Int) (p : Nat) (s : ByteArray) (most : Int) (h1 : (s.size : Int) ≤ most) (hm : most ≤ 9223372036854775807) (rest : List Int) (h : xs.drop p = (enc s.size ++ sb s) ++ rest) : rt xs p most = (sb s, p + (enc s.size ++ sb s).length, 0) := by
  have h' : xs.drop p = enc ((s.size : Int)).toNat ++ (sb s ++ rest) := by rw [h]; simp
  have hr := ri_lay xs p s.size most (by omega) h1 hm _ h'
  have hd := drop_len h'
  have hl := len_of_drop h' (enc_pos _)
  have hsl := sb_length s
  unfold rt
  rw [hr]
  simp only [Int.toNat_natCast] at hd hl ⊢
  rw [if_neg (by simp), if_neg (by rw [List.length_append, hsl] at hl; omega), hd, ← hsl, List.take_left]
  simp [hsl, Nat.add_assoc]
theorem take_more (xs : List Int) (p n : Nat) : xs.take (p + n) = xs.take p ++ (xs.drop p).take n := List.take_add
theorem ru_again {xs : List Int} (hx : Bytes xs) (p : Nat) (h : (ru xs p).2.2 = 0) : xs.take (p + (ru xs p).2.1) = xs.take p ++ enc (ru xs p).1.toNat := by
  have hb := rd_bd (xs.drop p) (bytes_drop hx p)
  have h' : (rd (xs.drop p)).2.2 = 0 := (nm_zero (by omega)).1 h
  rw [take_more]
  unfold ru
  simp only
  rw [(rd_back _ (bytes_drop hx p) h').2.2]
theorem ri_again {xs : List Int} (hx : Bytes xs) (p : Nat) (most : Int) (h : (ri xs p most).2.2 = 0) : xs.take (ri xs p most).2.1 = xs.take p ++ enc (ri xs p most).1.toNat ∧ 0 ≤ (ri xs p most).1 ∧ (ri xs p most).1 ≤ most := by
  have hb := ru_bd hx p
  unfold ri at h ⊢
  by_cases h1 : most < 0
  · rw [if_pos h1] at h; simp at h
  rw [if_neg h1] at h ⊢
  by_cases h2 : (ru xs p).2.2 ≠ 0
  · rw [if_pos h2] at h; exact absurd h h2
  rw [if_neg h2] at h ⊢
  by_cases h3 : most < (ru xs p).1
  · rw [if_pos h3] at h; simp at h
  rw [if_neg h3]
  exact ⟨ru_again hx p (by simpa using h2), hb.1, by simp; omega⟩
theorem rt_again {xs : List Int} (hx : Bytes xs) (p : Nat) (most : Int) (h : (rt xs p most).2.2 = 0) : xs.take (rt xs p most).2.1 = xs.take p ++ (enc (rt xs p most).1.length ++ (rt xs p most).1) ∧ ((rt xs p most).1.length : Int) ≤ most ∧ 0 ≤ most := by
  unfold rt at h ⊢
  by_cases h1 : (ri xs p most).2.2 ≠ 0
  · rw [if_pos h1] at h; exact absurd h h1
  rw [if_neg h1] at h ⊢
  obtain ⟨a1, a2, a3⟩ := ri_again hx p most (by simpa using h1)
  by_cases h2 : ((xs.length - (ri xs p most).2.1 : Nat) : Int) < (ri xs p most).1
  · rw [if_pos h2] at h; simp at h
  rw [if_neg h2]
  have hl : ((xs.drop (ri xs p most).2.1).take (ri xs p most).1.toNat).length = (ri xs p most).1.toNat := by
    rw [List.length_take, List.length_drop]; omega
  simp only
  rw [hl, take_more, a1]
  exact ⟨by simp, by omega, by omega⟩
end Go.Proofs.YtcdgfghcmeadgaaDoor
