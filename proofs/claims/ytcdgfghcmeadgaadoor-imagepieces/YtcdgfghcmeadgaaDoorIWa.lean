/-
  Bytes that are read while more are to come, as plain data: what is whole, or wrong, stays so with more bytes behind; how many bytes a row has at least. No condition of its own.
-/
import Derived.Test.YtcdgfghcmeadgaaDoorIDk
namespace Go.Proofs.YtcdgfghcmeadgaaDoor
open Go.RowKit
set_option linter.unusedVariables false

theorem lead_le : ∀ (xs : List Int), lead xs ≤ xs.length
  | [] => Nat.le_refl _
  | c :: l => by
    have := lead_le l
    simp only [lead, List.length_cons]
    split <;> omega
theorem lead_app_lt : ∀ (xs zs : List Int), lead xs < xs.length → lead (xs ++ zs) = lead xs
  | [], zs, h => by simp at h
  | c :: l, zs, h => by
    simp only [lead, List.length_cons, List.cons_append] at h ⊢
    split
    · rename_i hc
      rw [if_pos hc] at h
      rw [lead_app_lt l zs (by omega)]
    · rfl
theorem lead_app_ge : ∀ (xs zs : List Int), lead xs = xs.length → xs.length ≤ lead (xs ++ zs)
  | [], zs, h => Nat.zero_le _
  | c :: l, zs, h => by
    simp only [lead, List.length_cons, List.cons_append] at h ⊢
    split
    · rename_i hc
      rw [if_pos hc] at h
      have := lead_app_ge l zs (by omega)
      omega
    · rename_i hc
      rw [if_neg hc] at h
      omega
theorem rd_app (xs zs : List Int) (h : (rd xs).2.2 ≠ 10) : rd (xs ++ zs) = rd xs := by
  have hle := lead_le xs
  by_cases h1 : lead xs = xs.length
  · have h10 : 10 ≤ xs.length := by
      rcases Nat.lt_or_ge xs.length 10 with q | q
      · exfalso; apply h; unfold rd; rw [if_pos ⟨h1, q⟩]
      · exact q
    have h2 := lead_app_ge xs zs h1
    unfold rd
    rw [if_neg (by rw [List.length_append]; omega), if_pos (.inl (by omega)), if_neg (by omega), if_pos (.inl (by omega))]
  · have hlt : lead xs < xs.length := by omega
    have e := lead_app_lt xs zs hlt
    have e9 : lead xs = 9 → (xs ++ zs)[9]? = xs[9]? := fun q => List.getElem?_append_left (by omega)
    have eL : (xs ++ zs)[lead xs]? = xs[lead xs]? := List.getElem?_append_left hlt
    have eT : (xs ++ zs).take (lead xs + 1) = xs.take (lead xs + 1) := List.take_append_of_le_length (by omega)
    unfold rd
    rw [e, if_neg (by rw [List.length_append]; omega), if_neg (show ¬ (lead xs = xs.length ∧ xs.length < 10) by omega)]
    have c2 : (10 ≤ lead xs ∨ lead xs = (xs ++ zs).length ∨ (lead xs = 9 ∧ (1 : Int) < (xs ++ zs)[9]?.getD 0)) ↔ (10 ≤ lead xs ∨ lead xs = xs.length ∨ (lead xs = 9 ∧ (1 : Int) < xs[9]?.getD 0)) := by
      rw [List.length_append]
      constructor
      · rintro (a | a | ⟨a, b⟩)
        · exact .inl a
        · omega
        · rw [e9 a] at b; exact .inr (.inr ⟨a, b⟩)
      · rintro (a | a | ⟨a, b⟩)
        · exact .inl a
        · omega
        · rw [← e9 a] at b; exact .inr (.inr ⟨a, b⟩)
    simp only [c2, eL, eT]
theorem rd_err (xs : List Int) : (rd xs).2.2 = 0 ∨ (rd xs).2.2 = 10 ∨ (rd xs).2.2 = 11 ∨ (rd xs).2.2 = 12 := by
  unfold rd
  split
  · simp
  · split
    · simp
    · split <;> simp
theorem ru_app (xs zs : List Int) (p : Nat) (hp : p ≤ xs.length) (h : (ru xs p).2.2 ≠ 30) : ru (xs ++ zs) p = ru xs p := by
  unfold ru at h ⊢
  rw [List.drop_append_of_le_length hp, rd_app]
  intro q
  apply h
  simp only [q]
  rfl
theorem ri_app (xs zs : List Int) (p : Nat) (most : Int) (hp : p ≤ xs.length) (h : (ri xs p most).2.2 ≠ 30) : ri (xs ++ zs) p most = ri xs p most := by
  by_cases h1 : most < 0
  · unfold ri; rw [if_pos h1, if_pos h1]
  · have hu : (ru xs p).2.2 ≠ 30 := by
      intro q
      apply h
      unfold ri
      rw [if_neg h1, if_pos (by rw [q]; decide), q]
    unfold ri
    rw [ru_app xs zs p hp hu]
theorem rt_app {xs : List Int} (hx : Bytes xs) (zs : List Int) (p : Nat) (most : Int) (hp : p ≤ xs.length) (h : (rt xs p most).2.2 ≠ 30) : rt (xs ++ zs) p most = rt xs p most := by
  have hi : (ri xs p most).2.2 ≠ 30 := by
    intro q
    apply h
    unfold rt
    rw [if_pos (by rw [q]; decide), q]
  have hb := ri_bd hx p hp most
  have e := ri_app xs zs p most hp hi
  unfold rt at h ⊢
  rw [e]
  by_cases h1 : (ri xs p most).2.2 ≠ 0
  · rw [if_pos h1, if_pos h1]
  · rw [if_neg h1, if_neg h1]
    rw [if_neg h1] at h
    by_cases h2 : ((xs.length - (ri xs p most).2.1 : Nat) : Int) < (ri xs p most).1
    · rw [if_pos h2] at h; exact absurd rfl h
    · rw [if_neg h2, if_neg (by rw [List.length_append]; omega), List.drop_append_of_le_length hb.2.2.2.1, List.take_append_of_le_length (by rw [List.length_drop]; omega)]
theorem rr_app {xs : List Int} (hx : Bytes xs) (zs : List Int) (p : Nat) (hp : p ≤ xs.length) (h : (rr xs p).2.2 ≠ 30) : rr (xs ++ zs) p = rr xs p := by
  have k1 : (rt xs p 1024).2.2 ≠ 30 := by
    intro q; apply h; unfold rr; rw [if_pos (by rw [q]; decide), q]
  have e1 := rt_app hx zs p 1024 hp k1
  have b1 := rt_bd hx p hp 1024
  by_cases h1 : (rt xs p 1024).2.2 ≠ 0
  · unfold rr; rw [e1, if_pos h1, if_pos h1]
  have k2 : (rt xs (rt xs p 1024).2.1 65536).2.2 ≠ 30 := by
    intro q; apply h; unfold rr; rw [if_neg h1, if_pos (by rw [q]; decide), q]
  have e2 := rt_app hx zs _ 65536 b1.1 k2
  have b2 := rt_bd hx _ b1.1 65536
  by_cases h2 : (rt xs (rt xs p 1024).2.1 65536).2.2 ≠ 0
  · unfold rr; rw [e1, e2, if_neg h1, if_pos h2, if_neg h1, if_pos h2]
  have k3 : (ri xs (rt xs (rt xs p 1024).2.1 65536).2.1 1152921504606846976).2.2 ≠ 30 := by
    intro q; apply h; unfold rr; rw [if_neg h1, if_neg h2, if_pos (by rw [q]; decide), q]
  have e3 := ri_app xs zs _ 1152921504606846976 b2.1 k3
  unfold rr
  rw [e1, e2, e3]
/-- The first ten bytes tell a number. -/
theorem ri_ten (xs : List Int) (most : Int) : ri (xs.take 10) 0 most = ri xs 0 most := by
  by_cases h : (ri (xs.take 10) 0 most).2.2 = 30
  · have hl : xs.length < 10 := by
      rcases Nat.lt_or_ge xs.length 10 with q | q
      · exact q
      · exfalso
        have hr : (ru (xs.take 10) 0).2.2 = 30 := by
          unfold ri at h
          by_cases h1 : most < 0
          · rw [if_pos h1] at h; exact absurd h (show ¬ (1 : Int) = 30 by decide)
          · rw [if_neg h1] at h
            by_cases h2 : (ru (xs.take 10) 0).2.2 ≠ 0
            · rw [if_pos h2] at h; exact h
            · rw [if_neg h2] at h
              by_cases h3 : most < (ru (xs.take 10) 0).1
              · rw [if_pos h3] at h; exact absurd h (show ¬ (31 : Int) = 30 by decide)
              · rw [if_neg h3] at h; exact absurd h (show ¬ (0 : Int) = 30 by decide)
        have hd : (rd (xs.take 10)).2.2 = 10 := by
          have e := rd_err (xs.take 10)
          unfold ru at hr
          rw [List.drop_zero] at hr
          rcases e with e | e | e | e
          · rw [e] at hr; exact absurd hr (show ¬ nm 0 = 30 by decide)
          · exact e
          · rw [e] at hr; exact absurd hr (show ¬ nm 11 = 30 by decide)
          · rw [e] at hr; exact absurd hr (show ¬ nm 12 = 30 by decide)
        have hl : (xs.take 10).length = 10 := by rw [List.length_take]; omega
        unfold rd at hd
        rw [if_neg (by omega)] at hd
        split at hd
        · exact absurd hd (show ¬ (11 : Int) = 10 by decide)
        · split at hd
          · exact absurd hd (show ¬ (12 : Int) = 10 by decide)
          · exact absurd hd (show ¬ (0 : Int) = 10 by decide)
    rw [List.take_of_length_le (by omega)]
  · have := ri_app (xs.take 10) (xs.drop 10) 0 most (Nat.zero_le _) h
    rw [List.take_append_drop] at this
    exact this.symm
theorem ru_shift (xs : List Int) (a q : Nat) : ru (xs.drop a) q = ru xs (a + q) := by unfold ru; rw [List.drop_drop]
theorem ri_shift (xs : List Int) (a q : Nat) (most : Int) : ri xs (a + q) most = ((ri (xs.drop a) q most).1, a + (ri (xs.drop a) q most).2.1, (ri (xs.drop a) q most).2.2) := by
  unfold ri
  rw [ru_shift]
  split
  · rfl
  · split
    · rfl
    · split
      · rfl
      · simp only [Nat.add_assoc]
theorem rt_shift (xs : List Int) (a q : Nat) (most : Int) : rt xs (a + q) most = ((rt (xs.drop a) q most).1, a + (rt (xs.drop a) q most).2.1, (rt (xs.drop a) q most).2.2) := by
  unfold rt
  rw [ri_shift]
  simp only [List.length_drop, List.drop_drop]
  rw [show xs.length - (a + (ri (xs.drop a) q most).2.1) = xs.length - a - (ri (xs.drop a) q most).2.1 from by omega]
  split
  · rfl
  · split
    · rfl
    · simp only [Nat.add_assoc]
theorem rr_shift (xs : List Int) (a q : Nat) : rr xs (a + q) = ((rr (xs.drop a) q).1, a + (rr (xs.drop a) q).2.1, (rr (xs.drop a) q).2.2) := by
  unfold rr
  rw [rt_shift]
  simp only
  rw [rt_shift]
  simp only
  rw [ri_shift]
  simp only
  split
  · rfl
  · split
    · rfl
    · split
      · rfl
      · split <;> rfl
/-- How many bytes a row has at least that begins so and is not whole. -/
def nd (b : List Int) : Nat :=
  if (ri (b.take 10) 0 1024).2.2 ≠ 0 then b.length + 1
  else if b.length < (ri (b.take 10) 0 1024).2.1 + (ri (b.take 10) 0 1024).1.toNat then (ri (b.take 10) 0 1024).2.1 + (ri (b.take 10) 0 1024).1.toNat
  else if (ri ((b.drop ((ri (b.take 10) 0 1024).2.1 + (ri (b.take 10) 0 1024).1.toNat)).take 10) 0 65536).2.2 ≠ 0 then b.length + 1
  else if b.length < (ri (b.take 10) 0 1024).2.1 + (ri (b.take 10) 0 1024).1.toNat + ((ri ((b.drop ((ri (b.take 10) 0 1024).2.1 + (ri (b.take 10) 0 1024).1.toNat)).take 10) 0 65536).2.1 + (ri ((b.drop ((ri (b.take 10) 0 1024).2.1 + (ri (b.take 10) 0 1024).1.toNat)).take 10) 0 65536).1.toNat) then
    (ri (b.take 10) 0 1024).2.1 + (ri (b.take 10) 0 1024).1.toNat + ((ri ((b.drop ((ri (b.take 10) 0 1024).2.1 + (ri (b.take 10) 0 1024).1.toNat)).take 10) 0 65536).2.1 + (ri ((b.drop ((ri (b.take 10) 0 1024).2.1 + (ri (b.take 10) 0 1024).1.toNat)).take 10) 0 65536).1.toNat)
  else b.length + 1
theorem nd_short0 {b : List Int} (hx : Bytes b) (zs : List Int) (h : (rr b 0).2.2 = 30) (hl : (b ++ zs).length < nd b) : (rr (b ++ zs) 0).2.2 = 30 := by
  unfold nd at hl
  have hz : (b ++ zs).length < b.length + 1 → (rr (b ++ zs) 0).2.2 = 30 := fun q => by
    rw [List.length_append] at q
    have : zs = [] := List.length_eq_zero_iff.1 (by omega)
    rw [this, List.append_nil]; exact h
  by_cases h1 : (ri (b.take 10) 0 1024).2.2 ≠ 0
  · rw [if_pos h1] at hl; exact hz hl
  rw [if_neg h1] at hl
  rw [ri_ten] at hl h1
  have b1 := ri_bd hx 0 (Nat.zero_le _) 1024
  have e1 := ri_app b zs 0 1024 (Nat.zero_le _) (by intro q; apply h1; rw [q]; decide)
  by_cases h2 : b.length < (ri b 0 1024).2.1 + (ri b 0 1024).1.toNat
  · rw [if_pos h2] at hl
    have hs : (rt (b ++ zs) 0 1024) = ([], 0, 30) := by
      unfold rt
      rw [e1, if_neg h1, if_pos (by omega)]
    unfold rr
    rw [hs, if_pos (show (30 : Int) ≠ 0 by decide)]
  rw [if_neg h2] at hl
  generalize hE : (ri b 0 1024).2.1 + (ri b 0 1024).1.toNat = E1 at hl h2
  by_cases h3 : (ri ((b.drop E1).take 10) 0 65536).2.2 ≠ 0
  · rw [if_pos h3] at hl; exact hz hl
  rw [if_neg h3] at hl
  rw [ri_ten] at hl h3
  have b2 := ri_bd (bytes_drop hx E1) 0 (Nat.zero_le _) 65536
  rw [List.length_drop] at b2
  have la : (b ++ zs).length = b.length + zs.length := List.length_append
  have sh := ri_shift b E1 0 65536
  rw [Nat.add_zero] at sh
  by_cases h4 : b.length < E1 + ((ri (b.drop E1) 0 65536).2.1 + (ri (b.drop E1) 0 65536).1.toNat)
  · rw [if_pos h4] at hl
    have t1 : rt (b ++ zs) 0 1024 = ((b.drop (ri b 0 1024).2.1).take (ri b 0 1024).1.toNat, E1, 0) := by
      unfold rt
      rw [e1, if_neg h1, if_neg (by rw [List.length_append]; omega), hE, List.drop_append_of_le_length b1.2.2.2.1, List.take_append_of_le_length (by rw [List.length_drop]; omega)]
    have r2 : ri (b ++ zs) E1 65536 = ri b E1 65536 := ri_app b zs E1 65536 (by omega) (by rw [sh]; intro q; apply h3; simp only at q; rw [q]; decide)
    have t2 : rt (b ++ zs) E1 65536 = ([], E1, 30) := by
      unfold rt
      rw [r2, sh, if_neg (by simpa using h3), if_pos (by simp only; omega)]
    unfold rr
    rw [t1]
    simp only
    rw [if_neg (by decide), t2, if_pos (show (30 : Int) ≠ 0 by decide)]
  · rw [if_neg h4] at hl; exact hz hl
theorem nd_short {ys : List Int} (hx : Bytes ys) (zs : List Int) (p : Nat) (hp : p ≤ ys.length) (h : (rr ys p).2.2 = 30) (hl : (ys ++ zs).length - p < nd (ys.drop p)) : (rr (ys ++ zs) p).2.2 = 30 := by
  have e1 := rr_shift ys p 0
  have e2 := rr_shift (ys ++ zs) p 0
  rw [Nat.add_zero] at e1 e2
  rw [e2]
  rw [e1] at h
  simp only at h ⊢
  rw [List.drop_append_of_le_length hp]
  exact nd_short0 (bytes_drop hx p) zs h (by rw [← List.drop_append_of_le_length hp, List.length_drop]; exact hl)
end Go.Proofs.YtcdgfghcmeadgaaDoor
