/-
  Lists of texts as bytes, there and back, as plain data: what Open takes up of the bytes that Texts lays down, and what Texts lays down of the texts that Open took up. No condition of its own.
-/
import Derived.Test.YtfnfkcafjfhnlaaOpA
import Derived.Test.YtfnfkcafjfhnlaaPBk
import Derived.Test.YtfnfkcafjfhnlaaTxA
namespace Go.Proofs.Ytfnfkcafjfhnlaa
open Go.RowKit
set_option linter.unusedVariables false

theorem lc_take : ∀ a b : List UInt8, a.take (lc a b) = b.take (lc a b)
  | [], b => by simp [lc]
  | x :: a, [] => by simp [lc]
  | x :: a, y :: b => by
    by_cases h : x = y
    · subst h
      simp only [lc, if_true]
      rw [List.take_succ_cons, List.take_succ_cons, lc_take a b]
    · simp [lc, h]
theorem data_inj {a b : ByteArray} (h : a.data.toList = b.data.toList) : a = b := Go.WideShapes.bytes_inj h
theorem ext_data (s : ByteArray) (i j : Nat) : (s.extract i j).data.toList = (s.data.toList.drop i).take (j - i) := by
  rw [ByteArray.data_extract, Array.toList_extract, List.extract_eq_take_drop]
theorem size_len (s : ByteArray) : s.data.toList.length = s.size := by simp
/-- The text at a place is what it shares with the one ahead, and the rest. -/
theorem new_at (X : List ByteArray) (k : Nat) : (prev X k).extract 0 (lcs (prev X k) (at' X k)) ++ scut X k = at' X k := by
  apply data_inj
  rw [ByteArray.data_append, Array.toList_append]
  unfold scut
  rw [ext_data, ext_data]
  unfold lcs
  rw [List.drop_zero, Nat.sub_zero, lc_take]
  have hl : lc (prev X k).data.toList (at' X k).data.toList ≤ (at' X k).data.toList.length := (lc_le _ _).2
  rw [List.take_of_length_le (i := (at' X k).size - _) (by rw [List.length_drop, size_len]; exact Nat.le_refl _), List.take_append_drop]
theorem lcs_le1 (s t : ByteArray) : lcs s t ≤ s.size := by have := (lc_le s.data.toList t.data.toList).1; rw [size_len] at this; exact this
theorem lcs_le2 (s t : ByteArray) : lcs s t ≤ t.size := by have := (lc_le s.data.toList t.data.toList).2; rw [size_len] at this; exact this
theorem scut_sz (X : List ByteArray) (k : Nat) : lcs (prev X k) (at' X k) + (scut X k).size = (at' X k).size := by
  have := lcs_le2 (prev X k) (at' X k)
  unfold scut
  simp
  omega
theorem rises_gt (X : List ByteArray) (k : Nat) : rises X k = (decide (k = 0) || gtS (at' X k) (prev X k)) := rfl
theorem tbt_more (X : List ByteArray) (k : Nat) : ∀ m, ∃ r, tbt X (k + m) = tbt X k ++ r
  | 0 => ⟨[], by simp⟩
  | m + 1 => by
    obtain ⟨r, h⟩ := tbt_more X k m
    exact ⟨r ++ sbt X (k + m), by show tbt X (k + m) ++ sbt X (k + m) = _; rw [h, List.append_assoc]⟩
theorem tbt_at (X : List ByteArray) {k n : Nat} (h : k < n) : ∃ r, tbt X n = tbt X k ++ (sbt X k ++ r) := by
  obtain ⟨r, hr⟩ := tbt_more X (k + 1) (n - (k + 1))
  refine ⟨r, ?_⟩
  rw [show k + 1 + (n - (k + 1)) = n from by omega] at hr
  rw [hr]
  show tbt X k ++ sbt X k ++ r = _
  rw [List.append_assoc]
theorem terr_pre (X : List ByteArray) {k n : Nat} (h : k ≤ n) (h0 : terr X n = 0) : terr X k = 0 := by
  rcases Decidable.em (terr X k = 0) with q | q
  · exact q
  · have := terr_stay X k n h q
    rw [h0] at this
    exact absurd this.symm q
theorem terr_at2 (X : List ByteArray) {k n : Nat} (h : k < n) (h0 : terr X n = 0) : (at' X k).size ≤ 65536 ∧ rises X k = true := by
  have h1 := terr_pre X (show k + 1 ≤ n from h) h0
  have h2 := terr_pre X (show k ≤ n from by omega) h0
  have h3 : (if terr X k ≠ 0 then terr X k else serr X k) = 0 := h1
  rw [h2] at h3
  have h4 : serr X k = 0 := by simpa using h3
  unfold serr at h4
  split at h4
  · omega
  · split at h4
    · omega
    · rename_i h5 h6
      exact ⟨by omega, by simpa using h6⟩
theorem enc_pos1 (n : Nat) : 1 ≤ (enc n).length := by
  rw [enc]
  split <;> simp
theorem tbt_two (X : List ByteArray) : ∀ n, 2 * n ≤ (tbt X n).length
  | 0 => Nat.zero_le _
  | n + 1 => by
    have ih := tbt_two X n
    show _ ≤ (tbt X n ++ sbt X n).length
    unfold sbt
    have h1 := enc_pos1 (lcs (prev X n) (at' X n))
    have h2 := enc_pos1 (scut X n).size
    simp only [List.length_append]
    omega
/-- What Open comes to, text by text, of the bytes of texts that rise. -/
theorem ogo_there (X : List ByteArray) (n : Nat) (hl : X.length = n) (h0 : terr X n = 0) (hz : ∀ k, tsz X k ≤ 268435456) : ∀ k, k ≤ n → ogo (enc n ++ tbt X n) (enc n).length k = ⟨(enc n ++ tbt X k).length, prev X k, tsz X k, X.take k, 0⟩
  | 0, _ => by simp [ogo, tbt, prev_zero, tsz]
  | k + 1, hk => by
    have ih := ogo_there X n hl h0 hz k (by omega)
    obtain ⟨hs, hr⟩ := terr_at2 X (show k < n from hk) h0
    obtain ⟨r, hr2⟩ := tbt_at X (show k < n from hk)
    obtain ⟨xs, hxs⟩ : ∃ xs, xs = enc n ++ tbt X n := ⟨_, rfl⟩
    obtain ⟨V, hV⟩ : ∃ V, V = lcs (prev X k) (at' X k) := ⟨_, rfl⟩
    have hV1 : V ≤ (prev X k).size := by rw [hV]; exact lcs_le1 _ _
    have hV2 : V ≤ (at' X k).size := by rw [hV]; exact lcs_le2 _ _
    have hcs := scut_sz X k
    rw [← hV] at hcs
    obtain ⟨P, hP⟩ : ∃ P, P = (enc n ++ tbt X k).length := ⟨_, rfl⟩
    have hd : xs.drop P = enc V ++ ((enc (scut X k).size ++ sb (scut X k)) ++ r) := by
      rw [hxs, hr2, ← List.append_assoc, hP, List.drop_left]
      unfold sbt
      rw [← hV]
      simp only [List.append_assoc]
    have hri := ri_lay xs P (V : Int) 65536 (by omega) (by omega) (by omega) _ (by simpa using hd)
    simp only [Int.toNat_natCast] at hri
    have hd2 : xs.drop (P + (enc V).length) = (enc (scut X k).size ++ sb (scut X k)) ++ r := drop_len hd
    have hrt := rt_lay xs (P + (enc V).length) (scut X k) 65536 (by omega) (by omega) r hd2
    have e1 : ov xs P = V := by unfold ov; rw [hri]; simp
    have e2 : ot xs P = scut X k := by unfold ot; rw [hri]; simp only; rw [hrt]; exact strOfNums_sb _
    have e3 : oq xs P = P + (enc V).length + (enc (scut X k).size ++ sb (scut X k)).length := by unfold oq; rw [hri]; simp only; rw [hrt]
    have hnew : (prev X k).extract 0 V ++ scut X k = at' X k := by rw [hV]; exact new_at X k
    have hoz : oz xs ⟨P, prev X k, tsz X k, X.take k, 0⟩ = (at' X k).size := by unfold oz; rw [e1, e2]; omega
    have hb : oback xs ⟨P, prev X k, tsz X k, X.take k, 0⟩ = (prev X k).extract V (prev X k).size := by unfold oback; rw [e1]
    have hlc : lcs ((prev X k).extract V (prev X k).size) (scut X k) = 0 := by
      have := lcs_new (prev X k) (scut X k) V hV1
      rw [hnew, ← hV] at this
      omega
    have hgt : k ≠ 0 → gtS (scut X k) ((prev X k).extract V (prev X k).size) = true := fun q => by
      rw [← gt_new (prev X k) (scut X k) V hV1, hnew]
      rw [rises_gt] at hr
      simpa [q] using hr
    have hn1 : onew xs ⟨P, prev X k, tsz X k, X.take k, 0⟩ = at' X k := by unfold onew; rw [e1, e2]; exact hnew
    have hz1 := hz (k + 1)
    have hz2 : tsz X (k + 1) = tsz X k + (at' X k).size := rfl
    have hoe : oe xs k ⟨P, prev X k, tsz X k, X.take k, 0⟩ = 0 := by
      unfold oe
      rw [hoz, hb]
      simp only [hri, hrt, e1, e2]
      rw [if_neg (by simp), if_neg (by omega), if_neg (by simp), if_neg (by omega), if_neg (by rw [hlc]; simp), if_neg]
      rintro ⟨q1, q2⟩
      rw [hgt q1] at q2
      cases q2
    rw [← hxs] at ih ⊢
    rw [← hP] at ih
    have hst := ogo_next (xs := xs) (p0 := (enc n).length) (k := k) (by rw [ih]) (by rw [ih]; exact hoe)
    rw [hst, ih, hn1, hoz, e3]
    have hk2 : k < X.length := by omega
    have ht : X.take k ++ [at' X k] = X.take (k + 1) := by
      rw [List.take_succ_eq_append_getElem hk2]
      congr 2
      unfold at'
      rw [List.getElem?_eq_getElem hk2]
      rfl
    rw [prev_succ, ht, hz2]
    congr 1
    rw [hP]
    show _ = (enc n ++ (tbt X k ++ sbt X k)).length
    unfold sbt
    rw [← hV]
    simp only [List.length_append]
    omega
theorem open_there (X : List ByteArray) (n : Nat) (hl : X.length = n) (hn : n ≤ 1048576) (h0 : terr X n = 0) (hz : ∀ k, tsz X k ≤ 268435456) : oans (enc n ++ tbt X n) = 0 ∧ oL (enc n ++ tbt X n) = X := by
  have hri := ri_lay (enc n ++ tbt X n) 0 (n : Int) 1048576 (by omega) (by omega) (by omega) (tbt X n) (by simp)
  have h2 := tbt_two X n
  have hrc : rc (enc n ++ tbt X n) 0 1048576 2 = ((n : Int), (enc n).length, 0) := by
    unfold rc
    rw [hri]
    simp only [Int.toNat_natCast, Nat.zero_add]
    rw [if_neg (by omega), if_neg (by simp), if_neg]
    rintro ⟨_, q⟩
    rw [List.length_append, Nat.add_sub_cancel_left] at q
    omega
  have hon : onum (enc n ++ tbt X n) = n := by unfold onum; rw [hrc]; simp
  have hof : ofin (enc n ++ tbt X n) = ⟨(enc n ++ tbt X n).length, prev X n, tsz X n, X.take n, 0⟩ := by
    unfold ofin
    rw [hon, hrc]
    simp only
    rw [if_neg (by simp)]
    exact ogo_there X n hl h0 hz n (Nat.le_refl _)
  have ha : oans (enc n ++ tbt X n) = 0 := by unfold oans rend; rw [hof]; simp
  refine ⟨ha, ?_⟩
  unfold oL
  rw [if_pos ha, hof]
  simp only
  rw [← hl, List.take_length]
theorem at_app {X : List ByteArray} {s : ByteArray} {j : Nat} (h : j < X.length) : at' (X ++ [s]) j = at' X j := by unfold at'; rw [List.getElem?_append_left h]
theorem at_new (X : List ByteArray) (s : ByteArray) : at' (X ++ [s]) X.length = s := by unfold at'; simp
theorem prev_app {X : List ByteArray} {s : ByteArray} {j : Nat} (h : j ≤ X.length) : prev (X ++ [s]) j = prev X j := by
  unfold prev
  split
  · rfl
  · exact at_app (by omega)
theorem tbt_app {X : List ByteArray} {s : ByteArray} : ∀ j, j ≤ X.length → tbt (X ++ [s]) j = tbt X j
  | 0, _ => rfl
  | j + 1, h => by
    show tbt _ j ++ sbt _ j = tbt X j ++ sbt X j
    rw [tbt_app j (by omega)]
    unfold sbt scut
    rw [prev_app (by omega), at_app (by omega)]
theorem tsz_app {X : List ByteArray} {s : ByteArray} : ∀ j, j ≤ X.length → tsz (X ++ [s]) j = tsz X j
  | 0, _ => rfl
  | j + 1, h => by
    show tsz _ j + _ = tsz X j + _
    rw [tsz_app j (by omega), at_app (by omega)]
theorem terr_app {X : List ByteArray} {s : ByteArray} : ∀ j, j ≤ X.length → terr (X ++ [s]) j = terr X j
  | 0, _ => rfl
  | j + 1, h => by
    show (if terr _ j ≠ 0 then terr _ j else serr _ j) = (if terr X j ≠ 0 then terr X j else serr X j)
    rw [terr_app j (by omega)]
    unfold serr rises
    rw [prev_app (by omega), at_app (by omega)]
/-- What Texts would lay down of what Open has come to. -/
theorem ogo_back {xs : List Int} (hx : Bytes xs) (n p0 : Nat) (h0 : xs.take p0 = enc n) (hp0 : p0 ≤ xs.length) : ∀ k, (ogo xs p0 k).e = 0 →
    xs.take (ogo xs p0 k).p = enc n ++ tbt (ogo xs p0 k).l k ∧ (ogo xs p0 k).last = prev (ogo xs p0 k).l k ∧ (ogo xs p0 k).all = tsz (ogo xs p0 k).l k ∧ terr (ogo xs p0 k).l k = 0 ∧ (ogo xs p0 k).l.length = k ∧ (ogo xs p0 k).all ≤ 268435456 ∧ (ogo xs p0 k).p ≤ xs.length
  | 0, _ => ⟨by simpa [ogo, tbt] using h0, by simp [ogo, prev_zero], rfl, rfl, rfl, Nat.zero_le _, hp0⟩
  | k + 1, he => by
    have he0 : (ogo xs p0 k).e = 0 := by
      rcases Decidable.em ((ogo xs p0 k).e = 0) with q | q
      · exact q
      · rw [ogo_stay (Nat.le_succ k) q] at he; exact absurd he q
    have hoe : oe xs k (ogo xs p0 k) = 0 := by
      rcases Decidable.em (oe xs k (ogo xs p0 k) = 0) with q | q
      · exact q
      · rw [ogo_err (Nat.lt_succ_self k) he0 q] at he; exact absurd he q
    obtain ⟨i1, i2, i3, i4, i5, i6, i7⟩ := ogo_back hx n p0 h0 hp0 k he0
    rw [ogo_next he0 hoe]
    obtain ⟨s, hs⟩ : ∃ s, s = ogo xs p0 k := ⟨_, rfl⟩
    rw [← hs] at i1 i2 i3 i4 i5 i6 i7 hoe ⊢
    obtain ⟨P, last, T, L, E⟩ := s
    simp only at i1 i2 i3 i4 i5 i6 i7 ⊢
    unfold oe at hoe
    simp only at hoe
    split at hoe
    · rename_i q; exact absurd hoe q
    rename_i c1
    split at hoe
    · omega
    rename_i c2
    split at hoe
    · rename_i q; exact absurd hoe q
    rename_i c3
    split at hoe
    · omega
    rename_i c4
    split at hoe
    · omega
    rename_i c5
    split at hoe
    · omega
    rename_i c6
    have hri := ri_again hx P 65536 (by simpa using c1)
    have hrt := rt_again hx (ri xs P 65536).2.1 65536 (by simpa using c3)
    have hrb := ri_bd hx P i7 65536
    have htb := rt_bd hx (ri xs P 65536).2.1 hrb.2.2.2.1 65536
    have hV : ov xs P ≤ last.size := by omega
    have hts : (ot xs P).size = (rt xs (ri xs P 65536).2.1 65536).1.length := by unfold ot; rw [strOfNums_size]
    have hsb : sb (ot xs P) = (rt xs (ri xs P 65536).2.1 65536).1 := by unfold ot; exact sb_strOfNums _ htb.2.2.2.2
    have hnw : onew xs ⟨P, last, T, L, E⟩ = last.extract 0 (ov xs P) ++ ot xs P := rfl
    have hoz : oz xs ⟨P, last, T, L, E⟩ = ov xs P + (ot xs P).size := rfl
    have hob : oback xs ⟨P, last, T, L, E⟩ = last.extract (ov xs P) last.size := rfl
    rw [hoz] at c4
    rw [hob] at c5 c6
    rw [hnw, hoz]
    have hl1 : lcs last (last.extract 0 (ov xs P) ++ ot xs P) = ov xs P := by
      rw [lcs_new last (ot xs P) (ov xs P) hV]
      have : lcs (last.extract (ov xs P) last.size) (ot xs P) = 0 := by simpa using c5
      omega
    have hg1 : k ≠ 0 → gtS (last.extract 0 (ov xs P) ++ ot xs P) last = true := fun q => by
      rw [gt_new last (ot xs P) (ov xs P) hV]
      cases hh : gtS (ot xs P) (last.extract (ov xs P) last.size) with
      | true => rfl
      | false => exact absurd ⟨q, hh⟩ c6
    obtain ⟨N, hN⟩ : ∃ N, N = last.extract 0 (ov xs P) ++ ot xs P := ⟨_, rfl⟩
    have hNs : N.size = ov xs P + (ot xs P).size := by rw [hN]; simp; omega
    have hcut : N.extract (ov xs P) N.size = ot xs P := by
      apply data_inj
      rw [ext_data, hN, ByteArray.data_append, Array.toList_append, ext_data, List.drop_zero, Nat.sub_zero]
      have hl : (last.data.toList.take (ov xs P)).length = ov xs P := by rw [List.length_take, size_len]; omega
      rw [List.drop_append_of_le_length (by rw [hl]; exact Nat.le_refl _), List.drop_of_length_le (by rw [hl]; exact Nat.le_refl _), List.nil_append]
      apply List.take_of_length_le
      rw [size_len]
      simp
      omega
    rw [← hN] at hl1 hg1 ⊢
    have hpk : prev (L ++ [N]) k = last := by rw [prev_app (by omega), ← i2]
    have hak : at' (L ++ [N]) k = N := by rw [← i5]; exact at_new L N
    have hsk : scut (L ++ [N]) k = ot xs P := by unfold scut; rw [hpk, hak, hl1]; exact hcut
    refine ⟨?_, by rw [prev_succ, hak], ?_, ?_, by simp [i5], by omega, ?_⟩
    · show xs.take (rt xs (ri xs P 65536).2.1 65536).2.1 = enc n ++ (tbt (L ++ [N]) k ++ sbt (L ++ [N]) k)
      rw [hrt.1, hri.1, i1, tbt_app k (by omega)]
      unfold sbt
      rw [hpk, hak, hl1, hsk, hsb, hts]
      simp only [List.append_assoc]
      rfl
    · show T + _ = tsz (L ++ [N]) k + (at' (L ++ [N]) k).size
      rw [tsz_app k (by omega), hak, hNs, i3]
    · show (if terr (L ++ [N]) k ≠ 0 then terr (L ++ [N]) k else serr (L ++ [N]) k) = 0
      rw [terr_app k (by omega), i4, if_neg (by simp)]
      unfold serr
      rw [hak, if_neg (by omega), if_neg]
      rw [rises_gt, hpk, hak]
      by_cases hk : k = 0
      · simp [hk]
      · rw [hg1 hk]; simp
    · exact htb.1
theorem open_back {xs : List Int} (hx : Bytes xs) (h : oans xs = 0) : terr (oL xs) (oL xs).length = 0 ∧ enc (oL xs).length ++ tbt (oL xs) (oL xs).length = xs ∧ (∀ k, tsz (oL xs) k ≤ 268435456) := by
  have hlen := ofin_len h
  have hL : oL xs = (ofin xs).l := if_pos h
  have he : (ofin xs).e = 0 := by
    rcases Decidable.em ((ofin xs).e = 0) with q | q
    · exact q
    · rw [oans_err q] at h; exact absurd h q
  rw [hL, hlen]
  have hc : (rc xs 0 1048576 2).2.2 = 0 := by
    rcases Decidable.em ((rc xs 0 1048576 2).2.2 = 0) with q | q
    · exact q
    · unfold ofin at he; rw [if_pos q] at he; exact absurd he q
  have hof : ofin xs = ogo xs (rc xs 0 1048576 2).2.1 (onum xs) := by unfold ofin; rw [if_neg (by simpa using hc)]
  have hri : (ri xs 0 1048576).2.2 = 0 ∧ (rc xs 0 1048576 2).1 = (ri xs 0 1048576).1 ∧ (rc xs 0 1048576 2).2.1 = (ri xs 0 1048576).2.1 := by
    unfold rc at hc ⊢
    rw [if_neg (by omega)] at hc ⊢
    split at hc
    · rename_i q; exact absurd hc q
    · rename_i q
      rw [if_neg q]
      split at hc
      · exact absurd hc (by simp)
      · rename_i q2
        rw [if_neg q2]
        exact ⟨by simpa using q, rfl, rfl⟩
  have hra := ri_again hx 0 1048576 hri.1
  have hrb := ri_bd hx 0 (Nat.zero_le _) 1048576
  rw [hof] at he ⊢
  have hb := ogo_back hx (onum xs) (rc xs 0 1048576 2).2.1 (by rw [hri.2.2, hra.1]; unfold onum; rw [hri.2.1]; simp) (by rw [hri.2.2]; exact hrb.2.2.2.1) (onum xs) he
  obtain ⟨b1, b2, b3, b4, b5, b6, b7⟩ := hb
  have hp : (ogo xs (rc xs 0 1048576 2).2.1 (onum xs)).p = xs.length := by
    unfold oans rend at h
    rw [hof, he, if_pos rfl] at h
    split at h
    · omega
    · omega
  rw [hp, List.take_length] at b1
  refine ⟨b4, b1.symm, fun k => ?_⟩
  obtain ⟨Z, hZ⟩ : ∃ Z, Z = (ogo xs (rc xs 0 1048576 2).2.1 (onum xs)).l := ⟨_, rfl⟩
  rw [← hZ] at b3 b5 ⊢
  have hmono : ∀ k, k ≤ onum xs → tsz Z k ≤ tsz Z (onum xs) := fun k hk => by
    have : ∀ m, tsz Z k ≤ tsz Z (k + m) := fun m => by
      induction m with
      | zero => exact Nat.le_refl _
      | succ m ih => exact Nat.le_trans ih (Nat.le_add_right _ _)
    have := this (onum xs - k)
    rwa [show k + (onum xs - k) = onum xs from by omega] at this
  have hafter : ∀ m, tsz Z (onum xs + m) = tsz Z (onum xs) := fun m => by
    induction m with
    | zero => rfl
    | succ m ih =>
      show tsz Z (onum xs + m) + (at' Z (onum xs + m)).size = _
      rw [ih]
      have : at' Z (onum xs + m) = ByteArray.empty := by unfold at'; rw [List.getElem?_eq_none (by omega)]; rfl
      rw [this]
      simp
  rcases Nat.le_total k (onum xs) with q | q
  · have := hmono k q; omega
  · have := hafter (k - onum xs)
    rw [show onum xs + (k - onum xs) = k from by omega] at this
    omega
/-- The other order of texts, the same question. -/
theorem bl_tri : ∀ a b : List UInt8, Op.bytesLess a b = !(Op.bytesLess b a || b == a)
  | [], [] => by decide
  | [], y :: b => by simp [Op.bytesLess]
  | x :: a, [] => by simp [Op.bytesLess]
  | x :: a, y :: b => by
    have ih := bl_tri a b
    by_cases h : x = y
    · subst h
      have e : ((x :: b) == (x :: a)) = (b == a) := by simp
      rw [e]
      simp only [Op.bytesLess]
      have hx : decide (x < x) = false := by simp
      rw [hx]
      simp only [BEq.rfl, Bool.false_or, Bool.true_and]
      exact ih
    · have e : ((y :: b) == (x :: a)) = false := by
        apply Bool.eq_false_iff.2
        intro q
        have := eq_of_beq q
        injection this with q1 q2
        exact h q1.symm
      have e1 : (x == y) = false := by simpa using h
      have e2 : (y == x) = false := by simpa using fun q => h q.symm
      rw [e]
      simp only [Op.bytesLess, e1, e2, Bool.false_and, Bool.or_false]
      rcases Nat.lt_or_gt_of_ne (fun q => h (UInt8.toNat_inj.1 q)) with q | q
      · have h1 : x < y := UInt8.lt_iff_toNat_lt.2 q
        have h2 : ¬ y < x := fun z => by have := UInt8.lt_iff_toNat_lt.1 z; omega
        simp [h1, h2]
      · have h1 : y < x := UInt8.lt_iff_toNat_lt.2 q
        have h2 : ¬ x < y := fun z => by have := UInt8.lt_iff_toNat_lt.1 z; omega
        simp [h1, h2]
theorem lt_gt (s t : ByteArray) : Op.bytesLess s.toList t.toList = gtS t s := bl_tri _ _
/-- A list that came in lies in memory. -/
theorem slice_in {P : Program} {w : World} {r : Reach} {base : Nat} {t e : TypeId} {x : Addr} {len cap : Nat} (hu : P.underlying t = some (.slice e)) (hv : Value.okWide P w r base t (.slice (some x) len cap)) : x.block < w.heap.size := by
  unfold Value.okWide at hv
  rw [hu] at hv
  unfold Cell.okWide at hv
  rw [hu] at hv
  unfold Cell.ok at hv
  rw [hu] at hv
  obtain ⟨_, _, _, _, row, cells, hs, _⟩ := hv
  rcases Nat.lt_or_ge x.block w.heap.size with q | q
  · exact q
  · unfold World.shape? at hs
    simp [q] at hs
end Go.Proofs.Ytfnfkcafjfhnlaa
