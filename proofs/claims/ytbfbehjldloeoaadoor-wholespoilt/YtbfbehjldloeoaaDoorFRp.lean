/-
  Plain mathematics: a frame of which one to three bits are turned is none any more, and what is found further in is shorter. No condition of its own.
-/
import Derived.Test.YtbfbehjldloeoaaDoorFTo
import Derived.Test.YtbfbehjldloeoaaDoorFWk
namespace Go.Proofs.YtbfbehjldloeoaaDoor
open Go.RowKit
set_option linter.unusedVariables false

theorem xs'_erase (n j : Nat) : ∀ T : List Nat, j ∈ T → xs' n T = pw (n - j) ^^^ xs' n (T.erase j)
  | [], h => by cases h
  | a :: T, h => by
    by_cases e : a = j
    · subst e
      rw [List.erase_cons_head]
      rfl
    · have hj : j ∈ T := by
        rcases List.mem_cons.1 h with q | q
        · exact absurd q.symm e
        · exact q
      rw [List.erase_cons_tail (by simpa using e)]
      show pw (n - a) ^^^ xs' n T = pw (n - j) ^^^ (pw (n - a) ^^^ xs' n (T.erase j))
      rw [xs'_erase n j T hj, ← BitVec.xor_assoc, ← BitVec.xor_assoc, BitVec.xor_comm (pw (n - a))]
/-- A bit turned back. -/
theorem turnt_back {xs ys : List Int} {T : List Nat} (h : Turnt xs ys T) (j : Nat) (hj : j < 8 * xs.length) (hn : bt ys j ≠ bt xs j) : Turnt xs (flip ys j) (T.erase j) := by
  have hT : j ∈ T := by
    apply Classical.byContradiction
    intro hm
    have := h.bit j
    rw [decide_eq_false hm] at this
    apply hn
    rw [this]
    simp
  refine ⟨by rw [flip_length, h.len], flip_bytes ys j h.bytes, h.nodup.erase j, fun i hi => h.lt i (List.mem_of_mem_erase hi), ?_, ?_⟩
  · intro i
    rw [bt_flip ys i j (by rw [h.len]; exact hj), h.bit i]
    by_cases hij : i = j
    · subst hij
      have : i ∉ T.erase i := fun q => by rw [h.nodup.mem_erase_iff] at q; exact q.1 rfl
      simp [hT, this]
    · have : (i ∈ T.erase j) = (i ∈ T) := by rw [h.nodup.mem_erase_iff]; simp [hij]
      simp [hij, this]
  · intro r
    rw [reg_flip ys r j (by rw [h.len]; exact hj) h.bytes, h.reg, h.len, xs'_erase _ j T hT, BitVec.xor_assoc]
    congr 1
    rw [BitVec.xor_comm (pw _), BitVec.xor_assoc, BitVec.xor_self]
    exact BitVec.xor_zero
theorem turnt_none {xs ys : List Int} (h : Turnt xs ys []) (hx : ∀ z ∈ xs, 0 ≤ z ∧ z < 256) : ys = xs := by
  apply List.ext_getElem h.len
  intro i h1 h2
  have b1 := h.bytes _ (List.getElem_mem h1)
  have b2 := hx _ (List.getElem_mem h2)
  have e : ys[i].toNat = xs[i].toNat := by
    apply Nat.eq_of_testBit_eq
    intro t
    by_cases ht : t < 8
    · have := h.bit (8 * i + t)
      unfold bt at this
      rw [show (8 * i + t) / 8 = i by omega, show (8 * i + t) % 8 = t by omega, List.getElem?_eq_getElem h1, List.getElem?_eq_getElem h2] at this
      simpa using this
    · have p : (256 : Nat) ≤ 2 ^ t := by
        have : 2 ^ 8 ≤ 2 ^ t := Nat.pow_le_pow_right (by decide) (by omega)
        simpa using this
      rw [Nat.testBit_lt_two_pow (by omega), Nat.testBit_lt_two_pow (by omega)]
  omega
/-- One more bit turned, or turned back. -/
theorem turnt_more {xs ys : List Int} {T : List Nat} (h : Turnt xs ys T) (j : Nat) (hj : j < 8 * xs.length) : ∃ T', Turnt xs (flip ys j) T' ∧ T'.length ≤ T.length + 1 := by
  by_cases e : bt ys j = bt xs j
  · exact ⟨_, h.step j hj e, by simp⟩
  · exact ⟨_, turnt_back h j hj e, by have := List.length_erase_le (a := j) (l := T); omega⟩

/-- Two lists of bytes of which each beginning that holds is the other's, where that holds. -/
def Tells (b c : List Int) : Prop := c.length = b.length ∧ Bytes c ∧ ∀ k, holds (b.take k) = true → holds (c.take k) = true → c.take k = b.take k
/-- A spoilt frame is none. -/
theorem spoilt_none {t : Int} {body c : List Int} (ht : 1 ≤ t) (ht' : t ≤ 255) (hl : body.length ≤ 1048576) (hc : Tells (fenc t body) c) (hne : c ≠ fenc t body) (most : Nat) : fmeet most c ≠ 0 := by
  intro h
  obtain ⟨h0, hh⟩ := fmeet_ok h
  obtain ⟨hm, h10, hd, hlm, hlen⟩ := fbeg_ok h0
  have hlb := fenc_length t body
  obtain ⟨d1, d2, d3, d4⟩ := fdec_fenc t body [] ht ht' hl
  rw [List.append_nil] at d1 d2 d3 d4
  have hb0 := fbeg_ok (fmeet_ok (d4 1048576 hl)).1
  have hhb : holds ((fenc t body).take 10) = true := by
    have := hb0.2.2.1
    unfold fhead at this
    rw [Bool.and_eq_true] at this
    exact this.1
  have hhc : holds (c.take 10) = true := by
    unfold fhead at hd
    rw [Bool.and_eq_true] at hd
    exact hd.1
  have e10 := hc.2.2 10 hhb hhc
  have hg : ∀ i, i < 10 → c[i]?.getD 0 = (fenc t body)[i]?.getD (0 : Int) := fun i hi => by
    have := congrArg (fun l => l[i]?.getD (0 : Int)) e10
    simp only [List.getElem?_take_of_lt hi] at this
    exact this
  have hfl : flen c = body.length := by
    rw [← d1]
    unfold flen
    rw [hg 3 (by omega), hg 4 (by omega), hg 5 (by omega)]
  have hcl := hc.1
  have hh2 := (fmeet_ok (d4 1048576 hl)).2
  rw [d1] at hh2
  rw [hfl] at hh
  have e := hc.2.2 (body.length + 14) hh2 hh
  rw [List.take_of_length_le (by omega), List.take_of_length_le (by omega)] at e
  exact hne e
/-- All that is found of a stream and behind its end. -/
def fAll (most : Nat) (xs : List Int) : List (Int × List Int) := (fseen most false xs).frames ++ (fseen most true (fseen most false xs).rest).frames
def fbytes (l : List (Int × List Int)) : Nat := (l.map fun f => f.2.length + 14).sum
theorem fbytes_mem {l : List (Int × List Int)} {f : Int × List Int} (h : f ∈ l) : f.2.length + 14 ≤ fbytes l := by
  induction l with
  | nil => cases h
  | cons g l ih =>
    have e : fbytes (g :: l) = g.2.length + 14 + fbytes l := by simp [fbytes]
    rcases List.mem_cons.1 h with rfl | h
    · omega
    · have := ih h; omega
theorem fAll_le (most : Nat) (xs : List Int) : fbytes (fAll most xs) ≤ xs.length := by
  have h1 := fseen_all most false _ xs (Nat.le_refl _)
  have h2 := fseen_all most true _ (fseen most false xs).rest (Nat.le_refl _)
  unfold fAll fbytes
  rw [List.map_append, List.sum_append]
  omega
theorem fAll_less (most : Nat) (xs : List Int) (h0 : xs ≠ []) (h : fmeet most xs ≠ 0) : fbytes (fAll most xs) + 1 ≤ xs.length := by
  have hp : 0 < xs.length := List.length_pos_iff.2 h0
  by_cases h40 : fmeet most xs = 40
  · have e : fseen most false xs = ⟨[], 0, 0, xs⟩ := by rw [fseen_step most false xs h0, if_neg h, if_pos ⟨h40, rfl⟩]
    have e2 : fAll most xs = (fseen most true (xs.drop 1)).frames := by
      unfold fAll
      rw [e]
      show [] ++ (fseen most true xs).frames = _
      rw [fseen_step most true xs h0, if_neg h, if_neg (fun z => by cases z.2), if_neg (by omega)]
      rfl
    rw [e2]
    have := fseen_all most true _ (xs.drop 1) (Nat.le_refl _)
    rw [List.length_drop] at this
    unfold fbytes
    omega
  · have e : (fseen most false xs).frames = (fseen most false (xs.drop 1)).frames ∧ (fseen most false xs).rest = (fseen most false (xs.drop 1)).rest := by
      rw [fseen_step most false xs h0, if_neg h, if_neg (fun z => h40 z.1)]
      split
      · exact ⟨rfl, rfl⟩
      · exact ⟨rfl, rfl⟩
    have e2 : fAll most xs = fAll most (xs.drop 1) := by unfold fAll; rw [e.1, e.2]
    have := fAll_le most (xs.drop 1)
    rw [e2]
    rw [List.length_drop] at this
    omega
theorem fAll_bare (most : Nat) (xs : List Int) (h : fmeet most xs ≠ 0) (hb : ∀ z ∈ xs.drop 1, z ≠ 72) : fAll most xs = [] := by
  by_cases h0 : xs = []
  · subst h0; rfl
  have hj : ∀ e, fseen most e (xs.drop 1) = ⟨[], (xs.drop 1).length, 0, []⟩ := fun e => by
    have := fseen_junk most e (xs.drop 1) [] hb
    rw [List.append_nil] at this
    rw [this, fseen_nil]
    simp [Seen.add]
  by_cases h40 : fmeet most xs = 40
  · have e : fseen most false xs = ⟨[], 0, 0, xs⟩ := by rw [fseen_step most false xs h0, if_neg h, if_pos ⟨h40, rfl⟩]
    unfold fAll
    rw [e]
    show [] ++ (fseen most true xs).frames = _
    rw [fseen_step most true xs h0, if_neg h, if_neg (fun z => by cases z.2), if_neg (by omega), hj]
    rfl
  · unfold fAll
    have e : (fseen most false xs).frames = [] ∧ (fseen most false xs).rest = [] := by
      rw [fseen_step most false xs h0, if_neg h, if_neg (fun z => h40 z.1)]
      split
      · rw [hj]; exact ⟨rfl, rfl⟩
      · rw [hj]; exact ⟨rfl, rfl⟩
    rw [e.1, e.2, fseen_nil]
    rfl
/-- Some bits turned, one behind the other. -/
def flipsOf (b : List Int) (js : List Nat) : List Int := js.foldl flip b
theorem flipsOf_snoc (b : List Int) (js : List Nat) (j : Nat) : flipsOf b (js ++ [j]) = flip (flipsOf b js) j := by unfold flipsOf; rw [List.foldl_append]; rfl
theorem flip_take_lt (xs : List Int) (j k : Nat) (h : j < 8 * k) : (flip xs j).take k = flip (xs.take k) j := by
  unfold flip
  rw [List.take_set, List.getElem?_take_of_lt (by omega)]
theorem flip_take_ge (xs : List Int) (j k : Nat) (h : 8 * k ≤ j) : (flip xs j).take k = xs.take k := by
  unfold flip
  rw [List.take_set_of_le (by omega)]
/-- The beginning of what bits were turned of. -/
theorem turnt_take (b : List Int) (hb : ∀ z ∈ b, 0 ≤ z ∧ z < 256) (k : Nat) (hk : k ≤ b.length) : ∀ js : List Nat, ∃ T, Turnt (b.take k) ((flipsOf b js).take k) T ∧ T.length ≤ js.length := by
  have hbt : ∀ z ∈ b.take k, 0 ≤ z ∧ z < 256 := fun z hz => hb z (List.mem_of_mem_take hz)
  intro js
  generalize hn : js.length = n
  induction n generalizing js with
  | zero =>
    obtain rfl : js = [] := List.length_eq_zero_iff.1 hn
    exact ⟨[], Turnt.start _ hbt, by simp⟩
  | succ n ih =>
    have hne : js ≠ [] := fun e => by subst e; cases hn
    have e := (List.dropLast_concat_getLast hne).symm
    obtain ⟨T, h1, h2⟩ := ih js.dropLast (by rw [List.length_dropLast]; omega)
    rw [e, flipsOf_snoc]
    by_cases hj : js.getLast hne < 8 * k
    · rw [flip_take_lt _ _ _ hj]
      obtain ⟨T', q1, q2⟩ := turnt_more h1 (js.getLast hne) (by rw [List.length_take]; omega)
      exact ⟨T', q1, by omega⟩
    · rw [flip_take_ge _ _ _ (by omega)]
      exact ⟨T, h1, by omega⟩
theorem flipsOf_len (b : List Int) (js : List Nat) : (flipsOf b js).length = b.length := by
  unfold flipsOf
  induction js generalizing b with
  | nil => rfl
  | cons j js ih => rw [List.foldl_cons, ih, flip_length]
theorem flipsOf_bytes (b : List Int) (js : List Nat) (hb : ∀ z ∈ b, 0 ≤ z ∧ z < 256) : ∀ z ∈ flipsOf b js, 0 ≤ z ∧ z < 256 := by
  unfold flipsOf
  induction js generalizing b with
  | nil => exact hb
  | cons j js ih => rw [List.foldl_cons]; exact ih _ (flip_bytes b j hb)
/-- One to three turned bits are told. -/
theorem tells_flips (b : List Int) (hb : Bytes b) (hl : b.length ≤ 134217728) (js : List Nat) (h3 : js.length ≤ 3) : Tells b (flipsOf b js) := by
  refine ⟨flipsOf_len b js, bytes_of_mem (flipsOf_bytes b js hb.mem), fun k h1 h2 => ?_⟩
  by_cases hk : k ≤ b.length
  · obtain ⟨T, q1, q2⟩ := turnt_take b hb.mem k hk js
    have hbt : ∀ z ∈ b.take k, 0 ≤ z ∧ z < 256 := fun z hz => hb.mem z (List.mem_of_mem_take hz)
    match T, q1, q2 with
    | [], q1, _ => exact turnt_none q1 hbt
    | i :: T, q1, q2 =>
      exfalso
      obtain ⟨hk4, hse⟩ := holds_is h1
      have hno := q1.told (by simp) (by omega) (by rw [List.length_take]; omega)
      rw [hse] at hno
      have := spoilt _ _ (fun z hz => hbt z (List.mem_of_mem_take hz)) q1.bytes hno
      rw [this] at h2
      cases h2
  · obtain ⟨T, q1, q2⟩ := turnt_take b hb.mem b.length (Nat.le_refl _) js
    rw [List.take_of_length_le (Nat.le_refl _), List.take_of_length_le (by rw [flipsOf_len]; exact Nat.le_refl _)] at q1
    rw [List.take_of_length_le (by omega)] at h1
    rw [List.take_of_length_le (by rw [flipsOf_len]; omega)] at h2
    rw [List.take_of_length_le (by rw [flipsOf_len]; omega), List.take_of_length_le (by omega)]
    match T, q1, q2 with
    | [], q1, _ => exact turnt_none q1 hb.mem
    | i :: T, q1, q2 =>
      exfalso
      obtain ⟨hk4, hse⟩ := holds_is h1
      have hno := q1.told (by simp) (by omega) (by omega)
      have hno' : ∀ r, reg r (flipsOf b js) ≠ reg r (sealed (b.take (b.length - 4))) := fun r => by rw [← hse]; exact hno r
      have := spoilt _ _ (fun z hz => hb.mem z (List.mem_of_mem_take hz)) q1.bytes hno'
      rw [this] at h2
      cases h2
end Go.Proofs.YtbfbehjldloeoaaDoor
