/-
  The document's Decode and delta's take the same bytes, as the same update, as plain data. No condition of its own.
-/
import Derived.Test.YtmekcjonpmkoeaaDGd
namespace Go.Proofs.Ytmekcjonpmkoeaa.Dl
open Go.RowKit
set_option linter.unusedVariables false

theorem grd_num {xs rest : List Int} {p : Nat} {v : Int} (h0 : 0 ≤ v) (h1 : v ≤ 1152921504606846976) (h : xs.drop p = enc v.toNat ++ rest) : grd (xs.drop p) 0 0 = (v.toNat, (enc v.toNat).length) := by
  rw [h]
  have := grd_enc 9 v.toNat rest 0 0 (enc9 _ (by omega)) (by have := enc9 v.toNat (by omega); omega) (by omega) (.inl rfl)
  simpa using this
theorem gthere (u : Upd) (h : u.err = 0) : gok u.bytes = true ∧ gupd u.bytes = u := by
  obtain ⟨q, c, n, k, key, val, ver⟩ := u
  have h' : updE q c n k key val ver = 0 := h
  obtain ⟨b1, b2, b3, b4, b5, b6, b7, _, b9, b10⟩ := upd_bd h'
  obtain ⟨xs, hxs⟩ : ∃ xs, xs = Upd.bytes ⟨q, c, n, k, key, val, ver⟩ := ⟨_, rfl⟩
  obtain ⟨V, hV⟩ : ∃ V, V = (if k = 2 then [] else enc val.size ++ sb val) := ⟨_, rfl⟩
  obtain ⟨T, hT⟩ : ∃ T, T = (if k = 3 then enc ver.toNat else []) := ⟨_, rfl⟩
  have e0 : xs.drop (gp xs 0) = enc q.toNat ++ (enc c.toNat ++ (enc n.toNat ++ (enc k.toNat ++ ((enc key.size ++ sb key) ++ (V ++ T))))) := by
    show xs.drop 0 = _
    rw [hxs, hV, hT]
    unfold Upd.bytes updB updA
    simp only [List.drop_zero, List.append_assoc]
  have r0 := grd_num (by omega) (by omega) e0
  have p1 : gp xs 1 = gp xs 0 + (enc q.toNat).length := by show gp xs 0 + (grd (xs.drop (gp xs 0)) 0 0).2 = _; rw [r0]
  have e1 := drop_len e0
  rw [← p1] at e1
  have r1 := grd_num (by omega) (by omega) e1
  have p2 : gp xs 2 = gp xs 1 + (enc c.toNat).length := by show gp xs 1 + (grd (xs.drop (gp xs 1)) 0 0).2 = _; rw [r1]
  have e2 := drop_len e1
  rw [← p2] at e2
  have r2 := grd_num (by omega) (by omega) e2
  have p3 : gp xs 3 = gp xs 2 + (enc n.toNat).length := by show gp xs 2 + (grd (xs.drop (gp xs 2)) 0 0).2 = _; rw [r2]
  have e3 := drop_len e2
  rw [← p3] at e3
  have r3 := grd_num (by omega) (by omega) e3
  have p4 : gp xs 4 = gp xs 3 + (enc k.toNat).length := by show gp xs 3 + (grd (xs.drop (gp xs 3)) 0 0).2 = _; rw [r3]
  have e4 := drop_len e3
  rw [← p4] at e4
  have n0 : gn xs 0 = q.toNat := by unfold gn; rw [r0]
  have n1 : gn xs 1 = c.toNat := by unfold gn; rw [r1]
  have n2 : gn xs 2 = n.toNat := by unfold gn; rw [r2]
  have n3 : gn xs 3 = k.toNat := by unfold gn; rw [r3]
  have k0 : gk xs 0 ≠ 0 := by unfold gk; rw [r0]; have := enc_pos q.toNat; show (enc q.toNat).length ≠ 0; omega
  have k1 : gk xs 1 ≠ 0 := by unfold gk; rw [r1]; have := enc_pos c.toNat; show (enc c.toNat).length ≠ 0; omega
  have k2 : gk xs 2 ≠ 0 := by unfold gk; rw [r2]; have := enc_pos n.toNat; show (enc n.toNat).length ≠ 0; omega
  have k3 : gk xs 3 ≠ 0 := by unfold gk; rw [r3]; have := enc_pos k.toNat; show (enc k.toNat).length ≠ 0; omega
  have h5 : g5 xs = (sb key, (enc key.size ++ sb key).length) := by unfold g5; rw [e4]; exact gtk_text key (by omega) _
  have l5 : 0 < (enc key.size ++ sb key).length := by rw [List.length_append]; have := enc_pos key.size; omega
  have e5 := drop_len e4
  have h6 : g6 xs = (sb val, if k = 2 then (enc key.size ++ sb key).length else V.length) := by
    unfold g6
    rw [h5, n3]
    by_cases hk : k = 2
    · have := b9 hk
      rw [if_neg (by rintro ⟨_, z⟩; omega), if_pos hk, this]
      rfl
    · rw [if_pos ⟨l5, by omega⟩, if_neg hk]
      rw [hV, if_neg hk] at e5
      rw [hV, if_neg hk, e5]
      exact gtk_text val (by omega) T
  have l6 : 0 < (g6 xs).2 := by
    rw [h6]
    show 0 < if k = 2 then _ else _
    split
    · exact l5
    · rename_i hk
      rw [hV, if_neg hk, List.length_append]
      have := enc_pos val.size
      omega
  have h7 : (g7 xs).1 = ver.toNat ∧ (g7 xs).2 ≠ 0 := by
    unfold g7
    rw [n3]
    by_cases hk : k = 3
    · have hp6 : gp6 xs = gp xs 4 + (enc key.size ++ sb key).length + V.length := by
        unfold gp6
        rw [h5, n3, if_pos ⟨l5, by omega⟩, h6]
        show _ + _ + (if k = 2 then _ else V.length) = _
        rw [if_neg (by omega)]
      have e6 : xs.drop (gp6 xs) = enc ver.toNat ++ [] := by
        rw [hp6]
        have := congrArg (List.drop V.length) e5
        rw [List.drop_drop, List.drop_left] at this
        rw [List.append_nil, this, hT, if_pos hk]
      rw [if_pos ⟨l6, by omega⟩, grd_num (by omega) (by omega) e6]
      exact ⟨rfl, by have := enc_pos ver.toNat; show (enc ver.toNat).length ≠ 0; omega⟩
    · have := b10 hk
      rw [if_neg (by rintro ⟨_, z⟩; omega)]
      exact ⟨by rw [this]; rfl, by omega⟩
  have hu : gupd xs = ⟨q, c, n, k, key, val, ver⟩ := by
    unfold gupd
    rw [n0, n1, n2, n3, h5, h6, h7.1]
    simp only [strOfNums_sb]
    rw [Int.toNat_of_nonneg (by omega), Int.toNat_of_nonneg (by omega), Int.toNat_of_nonneg (by omega), Int.toNat_of_nonneg (by omega), Int.toNat_of_nonneg (by omega)]
  rw [← hxs]
  refine ⟨?_, hu⟩
  unfold gok gfour
  rw [decide_eq_true k0, decide_eq_true k1, decide_eq_true k2, decide_eq_true k3, decide_eq_true h7.2, hu, h, ← hxs, decide_eq_true rfl]
  rfl
theorem gagain {xs : List Int} (h : gok xs = true) : (gupd xs).err = 0 ∧ (gupd xs).bytes = xs := by
  unfold gok at h
  simp only [Bool.and_eq_true, beq_iff_eq, decide_eq_true_eq] at h
  exact ⟨h.1.2, h.2⟩
theorem same_ans {xs : List Int} (hx : Bytes xs) : gres xs = dres xs ∧ gerr xs = derr xs := by
  cases hg : gok xs with
  | true =>
    have h1 := gagain hg
    have h2 := there (gupd xs) h1.1
    rw [h1.2] at h2
    unfold gres dres gerr derr
    rw [if_pos hg, if_pos h2.1, if_pos hg, if_pos h2.1, h2.2]
    exact ⟨rfl, rfl⟩
  | false =>
    have hd : dok xs = false := by
      cases hd : dok xs with
      | false => rfl
      | true =>
        have h1 := again hx hd
        have h2 := (gthere (dupd xs) h1.1).1
        rw [h1.2, hg] at h2
        cases h2
    unfold gres dres gerr derr
    rw [if_neg (by rw [hg]; decide), if_neg (by rw [hd]; decide), if_neg (by rw [hg]; decide), if_neg (by rw [hd]; decide)]
    exact ⟨rfl, rfl⟩
end Go.Proofs.Ytmekcjonpmkoeaa.Dl
