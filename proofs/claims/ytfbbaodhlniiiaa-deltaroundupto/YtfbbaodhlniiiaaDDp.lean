/-
  Updates as bytes, there and back, as plain data: what Decode takes of Encode's bytes, and what Encode writes of what Decode took. No condition of its own.
-/
import Derived.Test.YtfbbaodhlniiiaaDDf
import Derived.Test.YtfbbaodhlniiiaaPLy
namespace Go.Proofs.Ytfbbaodhlniiiaa.Dl
open Go.RowKit
set_option linter.unusedVariables false

theorem rI_lay {xs : List Int} {p : Nat} {v most : Int} {rest : List Int} (h0 : 0 ≤ v) (h1 : v ≤ most) (hm : most ≤ 9223372036854775807) (h : xs.drop p = enc v.toNat ++ rest) : rI xs p 0 most = (v, p + (enc v.toNat).length, 0) := by
  unfold rI
  rw [if_neg (by simp)]
  exact ri_lay xs p v most h0 h1 hm rest h
theorem rT_lay {xs : List Int} {p : Nat} {s : ByteArray} {most : Int} {rest : List Int} (h1 : (s.size : Int) ≤ most) (hm : most ≤ 9223372036854775807) (h : xs.drop p = (enc s.size ++ sb s) ++ rest) : rT xs p 0 most = (sb s, p + (enc s.size ++ sb s).length, 0) := by
  unfold rT
  rw [if_neg (by simp)]
  exact rt_lay xs p s most h1 hm rest h
theorem end_of {xs ys : List Int} {p : Nat} (h : xs.drop p = ys) (hp : p + ys.length = p + (xs.drop p).length) : xs.length ≤ p + ys.length := by
  rw [h] at hp
  have := congrArg List.length h
  rw [List.length_drop] at this
  omega
/-- The bytes of an update. -/
def Upd.bytes (u : Upd) : List Int := updB u.q u.c u.n u.k u.key u.val u.ver
theorem there (u : Upd) (h : u.err = 0) : dok u.bytes = true ∧ dupd u.bytes = u := by
  obtain ⟨q, c, n, k, key, val, ver⟩ := u
  have h' : updE q c n k key val ver = 0 := h
  have hb := upd_bd h'
  obtain ⟨b1, b2, b3, b4, b5, b6, b7, _, b9, b10⟩ := hb
  obtain ⟨xs, hxs⟩ : ∃ xs, xs = Upd.bytes ⟨q, c, n, k, key, val, ver⟩ := ⟨_, rfl⟩
  rw [← hxs]
  obtain ⟨V, hV⟩ : ∃ V, V = (if k = 2 then [] else enc val.size ++ sb val) := ⟨_, rfl⟩
  obtain ⟨T, hT⟩ : ∃ T, T = (if k = 3 then enc ver.toNat else []) := ⟨_, rfl⟩
  have e0 : xs.drop 0 = enc q.toNat ++ (enc c.toNat ++ (enc n.toNat ++ (enc k.toNat ++ ((enc key.size ++ sb key) ++ (V ++ T))))) := by
    rw [hxs, hV, hT]
    unfold Upd.bytes updB updA
    simp only [List.drop_zero, List.append_assoc]
  have hd1 : d1 xs = (q, 0 + (enc q.toNat).length, 0) := rI_lay (by omega) (by omega) (by omega) e0
  have e1 := drop_len e0
  have hd2 : d2 xs = (c, 0 + (enc q.toNat).length + (enc c.toNat).length, 0) := by unfold d2; rw [hd1]; exact rI_lay (by omega) (by omega) (by omega) e1
  have e2 := drop_len e1
  have hd3 : d3 xs = (n, 0 + (enc q.toNat).length + (enc c.toNat).length + (enc n.toNat).length, 0) := by unfold d3; rw [hd2]; exact rI_lay (by omega) (by omega) (by omega) e2
  have e3 := drop_len e2
  have hd4 : d4 xs = (k, 0 + (enc q.toNat).length + (enc c.toNat).length + (enc n.toNat).length + (enc k.toNat).length, 0) := by unfold d4; rw [hd3]; exact rI_lay (by omega) (by omega) (by omega) e3
  have e4 := drop_len e3
  have hd5 : d5 xs = (sb key, 0 + (enc q.toNat).length + (enc c.toNat).length + (enc n.toNat).length + (enc k.toNat).length + (enc key.size ++ sb key).length, 0) := by unfold d5; rw [hd4]; exact rT_lay (by omega) (by omega) e4
  have e5 := drop_len e4
  obtain ⟨p5, hp5⟩ : ∃ p5, p5 = 0 + (enc q.toNat).length + (enc c.toNat).length + (enc n.toNat).length + (enc k.toNat).length + (enc key.size ++ sb key).length := ⟨_, rfl⟩
  rw [← hp5] at hd5 e5
  have hd6 : d6 xs = (sb val, p5 + V.length, 0) := by
    unfold d6
    rw [hd4, hd5]
    by_cases hk : k = 2
    · have := b9 hk
      rw [if_pos hk, hV, if_pos hk, this]
      rfl
    · rw [if_neg hk]
      rw [hV, if_neg hk] at e5
      rw [hV, if_neg hk]
      exact rT_lay (by omega) (by omega) e5
  have e6 : xs.drop (p5 + V.length) = T := by
    have := congrArg (List.drop V.length) e5
    rw [List.drop_drop, List.drop_left] at this
    exact this
  have hd7 : d7 xs = (ver, p5 + V.length + T.length, 0) := by
    unfold d7
    rw [hd4, hd6]
    by_cases hk : k = 3
    · rw [if_pos hk]
      rw [hT, if_pos hk] at e6
      rw [hT, if_pos hk]
      exact rI_lay (rest := []) (by omega) (by omega) (by omega) (by rw [List.append_nil]; exact e6)
    · have := b10 hk
      rw [if_neg hk, hT, if_neg hk, this]
      rfl
  have hlen : xs.length ≤ p5 + V.length + T.length := by
    have := congrArg List.length e6
    rw [List.length_drop] at this
    omega
  have hfin : dfin xs = 0 := by
    unfold dfin rend
    rw [hd7, if_pos rfl, if_neg (by show ¬ p5 + V.length + T.length < _; omega)]
  have hu : dupd xs = ⟨q, c, n, k, key, val, ver⟩ := by
    unfold dupd
    rw [hd1, hd2, hd3, hd4, hd5, hd6, hd7]
    simp only [strOfNums_sb]
  refine ⟨?_, hu⟩
  unfold dok
  rw [hd4, hfin, hu, h]
  rfl
theorem rI_again {xs : List Int} (hx : Bytes xs) {p : Nat} {e most : Int} (h : (rI xs p e most).2.2 = 0) : e = 0 ∧ xs.take (rI xs p e most).2.1 = xs.take p ++ enc (rI xs p e most).1.toNat := by
  unfold rI at h ⊢
  by_cases he : e = 0
  · subst he
    rw [if_neg (by simp)] at h ⊢
    exact ⟨rfl, (ri_again hx p most h).1⟩
  · rw [if_pos he] at h
    exact absurd h he
theorem rT_again {xs : List Int} (hx : Bytes xs) {p : Nat} (hp : p ≤ xs.length) {e most : Int} (h : (rT xs p e most).2.2 = 0) : e = 0 ∧ xs.take (rT xs p e most).2.1 = xs.take p ++ (enc (strOfNums (rT xs p e most).1).size ++ sb (strOfNums (rT xs p e most).1)) := by
  unfold rT at h ⊢
  by_cases he : e = 0
  · subst he
    rw [if_neg (by simp)] at h ⊢
    refine ⟨rfl, ?_⟩
    rw [size_strOfNums, sb_strOfNums _ (rt_bd hx p hp most).2.2.2.2]
    exact (rt_again hx p most h).1
  · rw [if_pos he] at h
    exact absurd h he
theorem rI_le {xs : List Int} (hx : Bytes xs) {p : Nat} (hp : p ≤ xs.length) (e most : Int) : (rI xs p e most).2.1 ≤ xs.length := by
  unfold rI
  split
  · exact hp
  · exact (ri_bd hx p hp most).2.2.2.1
theorem rT_le {xs : List Int} (hx : Bytes xs) {p : Nat} (hp : p ≤ xs.length) (e most : Int) : (rT xs p e most).2.1 ≤ xs.length := by
  unfold rT
  split
  · exact hp
  · exact (rt_bd hx p hp most).1
theorem again {xs : List Int} (hx : Bytes xs) (h : dok xs = true) : (dupd xs).err = 0 ∧ (dupd xs).bytes = xs := by
  unfold dok at h
  simp only [Bool.and_eq_true, beq_iff_eq] at h
  obtain ⟨⟨h4, hf⟩, he⟩ := h
  refine ⟨he, ?_⟩
  obtain ⟨q4, t4⟩ := rI_again hx (show (rI xs (d3 xs).2.1 (d3 xs).2.2 3).2.2 = 0 from h4)
  obtain ⟨q3, t3⟩ := rI_again hx (show (rI xs (d2 xs).2.1 (d2 xs).2.2 1152921504606846976).2.2 = 0 from q4)
  obtain ⟨q2, t2⟩ := rI_again hx (show (rI xs (d1 xs).2.1 (d1 xs).2.2 16).2.2 = 0 from q3)
  obtain ⟨_, t1⟩ := rI_again hx (show (rI xs 0 0 1152921504606846976).2.2 = 0 from q2)
  have l1 : (d1 xs).2.1 ≤ xs.length := rI_le hx (Nat.zero_le _) _ _
  have l2 : (d2 xs).2.1 ≤ xs.length := rI_le hx l1 _ _
  have l3 : (d3 xs).2.1 ≤ xs.length := rI_le hx l2 _ _
  have l4 : (d4 xs).2.1 ≤ xs.length := rI_le hx l3 _ _
  have l5 : (d5 xs).2.1 ≤ xs.length := rT_le hx l4 _ _
  have l6 : (d6 xs).2.1 ≤ xs.length := by
    unfold d6
    split
    · exact l5
    · exact rT_le hx l5 _ _
  have hf7 : (d7 xs).2.2 = 0 ∧ xs.length ≤ (d7 xs).2.1 := by
    unfold dfin rend at hf
    split at hf
    · rename_i z
      split at hf
      · omega
      · exact ⟨z, by omega⟩
    · rename_i z
      exact absurd hf z
  have t7 : (d6 xs).2.2 = 0 ∧ xs.take (d7 xs).2.1 = xs.take (d6 xs).2.1 ++ (if (d4 xs).1 = 3 then enc (d7 xs).1.toNat else []) := by
    by_cases hk : (d4 xs).1 = 3
    · have e7 : d7 xs = rI xs (d6 xs).2.1 (d6 xs).2.2 1152921504606846976 := by unfold d7; rw [if_pos hk]
      have := rI_again hx (show (rI xs (d6 xs).2.1 (d6 xs).2.2 1152921504606846976).2.2 = 0 from by rw [← e7]; exact hf7.1)
      rw [if_pos hk, e7]
      exact this
    · have e7 : d7 xs = (0, (d6 xs).2.1, (d6 xs).2.2) := by unfold d7; rw [if_neg hk]
      rw [if_neg hk, e7, List.append_nil]
      rw [e7] at hf7
      exact ⟨hf7.1, rfl⟩
  have t6 : (d5 xs).2.2 = 0 ∧ xs.take (d6 xs).2.1 = xs.take (d5 xs).2.1 ++ (if (d4 xs).1 = 2 then [] else enc (strOfNums (d6 xs).1).size ++ sb (strOfNums (d6 xs).1)) := by
    by_cases hk : (d4 xs).1 = 2
    · have e6 : d6 xs = ([], (d5 xs).2.1, (d5 xs).2.2) := by unfold d6; rw [if_pos hk]
      rw [if_pos hk, e6, List.append_nil]
      have := t7.1
      rw [e6] at this
      exact ⟨this, rfl⟩
    · have e6 : d6 xs = rT xs (d5 xs).2.1 (d5 xs).2.2 65536 := by unfold d6; rw [if_neg hk]
      have := rT_again hx l5 (show (rT xs (d5 xs).2.1 (d5 xs).2.2 65536).2.2 = 0 from by rw [← e6]; exact t7.1)
      rw [if_neg hk, e6]
      exact this
  obtain ⟨_, t5⟩ := rT_again hx l4 (show (rT xs (d4 xs).2.1 (d4 xs).2.2 1024).2.2 = 0 from t6.1)
  have hfull : xs.take (d7 xs).2.1 = xs := List.take_of_length_le hf7.2
  refine Eq.trans ?_ hfull
  rw [t7.2, t6.2]
  rw [show xs.take (d5 xs).2.1 = _ from t5, show xs.take (d4 xs).2.1 = _ from t4, show xs.take (d3 xs).2.1 = _ from t3, show xs.take (d2 xs).2.1 = _ from t2, show xs.take (d1 xs).2.1 = _ from t1, List.take_zero, List.nil_append]
  rfl
end Go.Proofs.Ytfbbaodhlniiiaa.Dl
