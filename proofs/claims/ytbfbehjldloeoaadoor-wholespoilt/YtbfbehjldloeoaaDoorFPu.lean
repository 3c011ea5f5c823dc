/-
  Plain mathematics for the laws of package frame: what the bytes of a frame are, and what is read of any bytes. No condition of its own.
-/
import Derived.Test.YtbfbehjldloeoaaDoorRows
import Derived.Test.YtbfbehjldloeoaaDoorSealC
import Derived.Test.YtbfbehjldloeoaaDoorFa
namespace Go.Proofs.YtbfbehjldloeoaaDoor
set_option linter.unusedVariables false
open Go.RowKit

/-- Have bytes the magic at their front, as far as they go? -/
def fmagic (xs : List Int) : Bool := (decide (xs.length < 1) || decide (xs[0]?.getD 0 = 72)) && (decide (xs.length < 2) || decide (xs[1]?.getD 0 = 87))
/-- The body's length that a head tells. -/
def flen (xs : List Int) : Nat := (xs[3]?.getD 0 + 256 * xs[4]?.getD 0 + 65536 * xs[5]?.getD 0).toNat
/-- Is the head one? -/
def fhead (xs : List Int) : Bool := holds (xs.take 10) && decide (xs[2]?.getD 0 ≠ 0)
/-- Why no frame of a body of at most so many bytes begins here, the sum aside. -/
def fbeg (most : Nat) (xs : List Int) : Nat :=
  if fmagic xs = false then 41 else if xs.length < 10 then 40 else if fhead xs = false then 42 else if most < flen xs then 43 else if xs.length < flen xs + 14 then 40 else 0
/-- Why no frame begins here. -/
def fmeet (most : Nat) (xs : List Int) : Nat := if fbeg most xs = 0 then (if holds (xs.take (flen xs + 14)) = true then 0 else 44) else fbeg most xs
def fdec (xs : List Int) : Nat := fmeet 1048576 xs
/-- The body of the frame at the front. -/
def fbody (xs : List Int) : List Int := (xs.drop 10).take (flen xs)
/-- A head's first six bytes. -/
def fsix (t : Int) (n : Int) : List Int := [72, 87, t, n % 256, n / 256 % 256, n / 65536 % 256]
/-- The bytes of a frame. -/
def fenc (t : Int) (body : List Int) : List Int := sealed (sealed (fsix t body.length) ++ body)

theorem holds_sealed (xs : List Int) : holds (sealed xs) = true := by
  unfold holds sealed
  have h4 : (by4 (sum xs)).length = 4 := rfl
  apply decide_eq_true
  rw [List.length_append, h4]
  have e : xs.length + 4 - 4 = xs.length := by omega
  rw [e]
  exact ⟨by omega, by rw [List.drop_left, List.take_left]⟩
theorem holds_is {xs : List Int} (h : holds xs = true) : 4 ≤ xs.length ∧ xs = sealed (xs.take (xs.length - 4)) := by
  unfold holds at h
  obtain ⟨h1, h2⟩ := of_decide_eq_true h
  refine ⟨h1, ?_⟩
  unfold sealed
  rw [← h2, List.take_append_drop]
theorem flen_nn {xs : List Int} (hx : Bytes xs) : ((flen xs : Nat) : Int) = xs[3]?.getD 0 + 256 * xs[4]?.getD 0 + 65536 * xs[5]?.getD 0 ∧ flen xs < 16777216 := by
  have h : ∀ i : Nat, (0 : Int) ≤ xs[i]?.getD 0 ∧ xs[i]?.getD 0 < (256 : Int) := fun i => by
    by_cases hi : i < xs.length
    · exact hx i hi
    · rw [List.getElem?_eq_none (by omega)]; exact ⟨by decide, by decide⟩
  have h3 := h 3
  have h4 := h 4
  have h5 := h 5
  unfold flen
  constructor <;> omega
theorem sealed_length (xs : List Int) : (sealed xs).length = xs.length + 4 := by unfold sealed; rw [List.length_append]; rfl
theorem sealed_bytes {xs : List Int} (h : Bytes xs) : Bytes (sealed xs) := bytes_of_mem (fun z hz => by
  unfold sealed at hz
  rcases List.mem_append.1 hz with h' | h'
  · exact h.mem z h'
  · exact by4_bytes _ z h')
theorem fsix_bytes {t n : Int} (h0 : 0 ≤ t) (h1 : t < 256) : Bytes (fsix t n) := bytes_of_mem (fun z hz => by
  unfold fsix at hz
  simp only [List.mem_cons, List.not_mem_nil, or_false] at hz
  rcases hz with rfl | rfl | rfl | rfl | rfl | rfl <;> omega)
theorem bytes_append {xs ys : List Int} (h : Bytes xs) (h' : Bytes ys) : Bytes (xs ++ ys) := bytes_of_mem (fun z hz => by
  rcases List.mem_append.1 hz with q | q
  · exact h.mem z q
  · exact h'.mem z q)
theorem fenc_length (t : Int) (body : List Int) : (fenc t body).length = body.length + 14 := by
  unfold fenc
  rw [sealed_length, List.length_append, sealed_length]
  show 6 + 4 + body.length + 4 = _
  omega
theorem fenc_bytes {t : Int} {body : List Int} (h0 : 0 ≤ t) (h1 : t < 256) (hb : Bytes body) : Bytes (fenc t body) := sealed_bytes (bytes_append (sealed_bytes (fsix_bytes h0 h1)) hb)
/-- A frame's bytes, the head's six first ones apart. -/
theorem fenc_form (t : Int) (body : List Int) : ∃ a b c d, sealed (fsix t body.length) = fsix t body.length ++ [a, b, c, d] ∧ fenc t body = fsix t body.length ++ ([a, b, c, d] ++ (body ++ by4 (sum (sealed (fsix t body.length) ++ body)))) := by
  refine ⟨_, _, _, _, rfl, ?_⟩
  unfold fenc
  conv => lhs; unfold sealed
  rw [show sealed (fsix t body.length) = fsix t body.length ++ by4 (sum (fsix t body.length)) from rfl, List.append_assoc, List.append_assoc]
  rfl
/-- There and back: what is read of a frame's bytes, whatever stands behind. -/
theorem fdec_fenc (t : Int) (body behind : List Int) (ht : 1 ≤ t) (ht' : t ≤ 255) (hl : body.length ≤ 1048576) :
    flen (fenc t body ++ behind) = body.length ∧ (fenc t body ++ behind)[2]?.getD 0 = t ∧ fbody (fenc t body ++ behind) = body ∧ (∀ most, body.length ≤ most → fmeet most (fenc t body ++ behind) = 0) := by
  obtain ⟨a, b, c, d, h1, h2⟩ := fenc_form t body
  have hlen := fenc_length t body
  have e2 : (fenc t body ++ behind)[2]?.getD 0 = t := by rw [h2]; rfl
  have ef : flen (fenc t body ++ behind) = body.length := by
    rw [h2]
    show ((body.length : Int) % 256 + 256 * ((body.length : Int) / 256 % 256) + 65536 * ((body.length : Int) / 65536 % 256)).toNat = _
    omega
  have e10 : (fenc t body ++ behind).take 10 = sealed (fsix t body.length) := by rw [h1, h2]; rfl
  have eall : (fenc t body ++ behind).take (body.length + 14) = fenc t body := by rw [← hlen, List.take_left]
  have eb : fbody (fenc t body ++ behind) = body := by
    unfold fbody
    rw [ef, h2]
    show ((body ++ by4 _) ++ behind).take body.length = body
    rw [List.append_assoc, List.take_left]
  refine ⟨ef, e2, eb, fun most hm => ?_⟩
  have em : fmagic (fenc t body ++ behind) = true := by
    unfold fmagic
    have q0 : (fenc t body ++ behind)[0]?.getD 0 = 72 := by rw [h2]; rfl
    have q1 : (fenc t body ++ behind)[1]?.getD 0 = 87 := by rw [h2]; rfl
    rw [q0, q1]
    simp
  have eh : fhead (fenc t body ++ behind) = true := by
    unfold fhead
    rw [e10, holds_sealed, e2, decide_eq_true (by omega)]
    rfl
  have eL : (fenc t body ++ behind).length = body.length + 14 + behind.length := by rw [List.length_append, hlen]
  have e0 : fbeg most (fenc t body ++ behind) = 0 := by
    unfold fbeg
    rw [em, eh, ef, eL, if_neg (by decide), if_neg (by omega), if_neg (by decide), if_neg (by omega), if_neg (by omega)]
  unfold fmeet
  rw [e0, if_pos rfl, ef, eall]
  unfold fenc
  rw [holds_sealed, if_pos rfl]
theorem fbeg_ok {most : Nat} {xs : List Int} (h : fbeg most xs = 0) : fmagic xs = true ∧ 10 ≤ xs.length ∧ fhead xs = true ∧ flen xs ≤ most ∧ flen xs + 14 ≤ xs.length := by
  unfold fbeg at h
  split at h
  · cases h
  split at h
  · cases h
  split at h
  · cases h
  split at h
  · cases h
  split at h
  · cases h
  rename_i h1 h2 h3 h4 h5
  exact ⟨by cases q : fmagic xs <;> simp_all, by omega, by cases q : fhead xs <;> simp_all, by omega, by omega⟩
theorem fmeet_ok {most : Nat} {xs : List Int} (h : fmeet most xs = 0) : fbeg most xs = 0 ∧ holds (xs.take (flen xs + 14)) = true := by
  unfold fmeet at h
  split at h
  · rename_i h0
    split at h
    · rename_i h1; exact ⟨h0, h1⟩
    · cases h
  · rename_i h0; exact absurd h h0
/-- What is read is what would be written. -/
theorem fenc_fdec {most : Nat} {xs : List Int} (hx : Bytes xs) (h : fmeet most xs = 0) : (1 : Int) ≤ xs[2]?.getD 0 ∧ xs[2]?.getD 0 ≤ (255 : Int) ∧ (fbody xs).length = flen xs ∧ fenc (xs[2]?.getD 0) (fbody xs) = xs.take (flen xs + 14) := by
  obtain ⟨h0, hh⟩ := fmeet_ok h
  obtain ⟨hm, h10, hd, hl, hlen⟩ := fbeg_ok h0
  have hn := flen_nn hx
  have hbl : (fbody xs).length = flen xs := by unfold fbody; rw [List.length_take, List.length_drop]; omega
  have b2 := hx 2 (by omega)
  have b3 := hx 3 (by omega)
  have b4 := hx 4 (by omega)
  have b5 := hx 5 (by omega)
  unfold fhead at hd
  rw [Bool.and_eq_true] at hd
  obtain ⟨hd1, hd2⟩ := hd
  have hd2 := of_decide_eq_true hd2
  have hd3 : xs[2]?.getD 0 ≠ (0 : Int) := hd2
  refine ⟨by omega, by omega, hbl, ?_⟩
  obtain ⟨_, k1⟩ := holds_is hd1
  obtain ⟨_, k2⟩ := holds_is hh
  rw [List.length_take, Nat.min_eq_left h10, List.take_take, show min (10 - 4) 10 = 6 from rfl] at k1
  rw [List.length_take, Nat.min_eq_left hlen, List.take_take, Nat.min_eq_left (by omega), show flen xs + 14 - 4 = flen xs + 10 from by omega] at k2
  have k3 : xs.take 6 = fsix (xs[2]?.getD 0) (fbody xs).length := by
    rw [hbl]
    match xs, h10, hm, hn, b3, b4, b5 with
    | x0 :: x1 :: x2 :: x3 :: x4 :: x5 :: r, _, hm, hn, b3, b4, b5 =>
      unfold fmagic at hm
      simp at hm b3 b4 b5
      have hn1 := hn.1
      simp at hn1
      unfold fsix
      have q3 : x3 = (flen (x0 :: x1 :: x2 :: x3 :: x4 :: x5 :: r) : Int) % 256 := by omega
      have q4 : x4 = (flen (x0 :: x1 :: x2 :: x3 :: x4 :: x5 :: r) : Int) / 256 % 256 := by omega
      have q5 : x5 = (flen (x0 :: x1 :: x2 :: x3 :: x4 :: x5 :: r) : Int) / 65536 % 256 := by omega
      have m2 : x1 = 87 := hm.2.resolve_left (by omega)
      rw [← q3, ← q4, ← q5, hm.1, m2]
      rfl
  unfold fenc
  rw [← k3, ← k1, k2]
  congr 1
  unfold fbody
  rw [show flen xs + 10 = 10 + flen xs from by omega, List.take_add]
/-- Of a beginning of what is read nothing is read: the bytes end too early. -/
theorem fbeg_part {most k : Nat} {xs : List Int} (h : fbeg most xs = 0) (hk : k < flen xs + 14) : fbeg most (xs.take k) = 40 := by
  obtain ⟨hm, h10, hd, hl, hlen⟩ := fbeg_ok h
  have hL : (xs.take k).length = k := by rw [List.length_take]; omega
  have hg : ∀ i, i < k → (xs.take k)[i]?.getD 0 = xs[i]?.getD 0 := fun i hi => by rw [List.getElem?_take_of_lt hi]
  have m' : fmagic (xs.take k) = true := by
    unfold fmagic at hm ⊢
    rw [hL]
    rw [Bool.and_eq_true, Bool.or_eq_true, Bool.or_eq_true, decide_eq_true_iff, decide_eq_true_iff, decide_eq_true_iff, decide_eq_true_iff] at hm ⊢
    refine ⟨?_, ?_⟩
    · by_cases q : k < 1
      · exact .inl q
      · rw [hg 0 (by omega)]; exact .inr (hm.1.resolve_left (by omega))
    · by_cases q : k < 2
      · exact .inl q
      · rw [hg 1 (by omega)]; exact .inr (hm.2.resolve_left (by omega))
  unfold fbeg
  rw [m', hL, if_neg (by decide)]
  by_cases q : k < 10
  · rw [if_pos q]
  · have d' : fhead (xs.take k) = true := by
      unfold fhead at hd ⊢
      rw [hg 2 (by omega), List.take_take, Nat.min_eq_left (by omega)]; exact hd
    have l' : flen (xs.take k) = flen xs := by unfold flen; rw [hg 3 (by omega), hg 4 (by omega), hg 5 (by omega)]
    rw [if_neg q, d', l', if_neg (by decide), if_neg (by omega), if_pos hk]

end Go.Proofs.YtbfbehjldloeoaaDoor
