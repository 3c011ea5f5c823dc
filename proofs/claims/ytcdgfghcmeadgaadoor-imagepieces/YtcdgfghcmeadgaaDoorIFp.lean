/-
  An image of which some bits are turned, as plain data: it is as it was, or its sum is not right any more. Condition: at most 2^27 bytes.
-/
import Derived.Test.YtcdgfghcmeadgaaDoorIBp
import Derived.Test.YtcdgfghcmeadgaaDoorCrB
namespace Go.Proofs.YtcdgfghcmeadgaaDoor
open Go.RowKit
set_option linter.unusedVariables false

open Cr in
theorem xs'_erase (n j : Nat) : ∀ T : List Nat, j ∈ T → Cr.xs' n T = pw (n - j) ^^^ Cr.xs' n (T.erase j)
  | [], h => by cases h
  | a :: T, h => by
    by_cases e : a = j
    · subst e
      rw [List.erase_cons_head]
      rfl
    · have hj : j ∈ T := by
        rcases List.mem_cons.1 h with q | q
        · exact absurd q.symm e
        · exact q
      rw [List.erase_cons_tail (by simpa using e)]
      show pw (n - a) ^^^ Cr.xs' n T = pw (n - j) ^^^ (pw (n - a) ^^^ Cr.xs' n (T.erase j))
      rw [xs'_erase n j T hj, ← BitVec.xor_assoc, ← BitVec.xor_assoc, BitVec.xor_comm (pw (n - a))]
open Cr in
/-- A bit turned back. -/
theorem turnt_back {xs ys : List Int} {T : List Nat} (h : Cr.Turnt xs ys T) (j : Nat) (hj : j < 8 * xs.length) (hn : bt ys j ≠ bt xs j) : Cr.Turnt xs (flip ys j) (T.erase j) := by
  have hT : j ∈ T := by
    apply Classical.byContradiction
    intro hm
    have := h.bit j
    rw [decide_eq_false hm] at this
    apply hn
    rw [this]
    simp
  refine ⟨by rw [flip_length, h.len], flip_bytes ys j h.bytes, h.nodup.erase j, fun i hi => h.lt i (List.mem_of_mem_erase hi), ?_, ?_⟩
  · intro i
    rw [bt_flip ys i j (by rw [h.len]; exact hj), h.bit i]
    by_cases hij : i = j
    · subst hij
      have : i ∉ T.erase i := fun q => by rw [h.nodup.mem_erase_iff] at q; exact q.1 rfl
      simp [hT, this]
    · have : (i ∈ T.erase j) = (i ∈ T) := by rw [h.nodup.mem_erase_iff]; simp [hij]
      simp [hij, this]
  · intro r
    rw [reg_flip ys r j (by rw [h.len]; exact hj) h.bytes, h.reg, h.len, xs'_erase _ j T hT, BitVec.xor_assoc]
    congr 1
    rw [BitVec.xor_comm (pw _), BitVec.xor_assoc, BitVec.xor_self]
    exact BitVec.xor_zero
open Cr in
theorem turnt_none {xs ys : List Int} (h : Cr.Turnt xs ys []) (hx : ∀ z ∈ xs, 0 ≤ z ∧ z < 256) : ys = xs := by
  apply List.ext_getElem h.len
  intro i h1 h2
  have b1 := h.bytes _ (List.getElem_mem h1)
  have b2 := hx _ (List.getElem_mem h2)
  have e : ys[i].toNat = xs[i].toNat := by
    apply Nat.eq_of_testBit_eq
    intro t
    by_cases ht : t < 8
    · have := h.bit (8 * i + t)
      unfold bt at this
      rw [show (8 * i + t) / 8 = i by omega, show (8 * i + t) % 8 = t by omega, List.getElem?_eq_getElem h1, List.getElem?_eq_getElem h2] at this
      simpa using this
    · have p : (256 : Nat) ≤ 2 ^ t := by
        have : 2 ^ 8 ≤ 2 ^ t := Nat.pow_le_pow_right (by decide) (by omega)
        simpa using this
      rw [Nat.testBit_lt_two_pow (by omega), Nat.testBit_lt_two_pow (by omega)]
  omega
open Cr in
/-- One more bit turned, or turned back. -/
theorem turnt_more {xs ys : List Int} {T : List Nat} (h : Cr.Turnt xs ys T) (j : Nat) (hj : j < 8 * xs.length) : ∃ T', Cr.Turnt xs (flip ys j) T' ∧ T'.length ≤ T.length + 1 := by
  by_cases e : bt ys j = bt xs j
  · exact ⟨_, h.step j hj e, by simp⟩
  · exact ⟨_, turnt_back h j hj e, by have := List.length_erase_le (a := j) (l := T); omega⟩
open Cr in
/-- Behind one to three turned bits. -/
theorem turnt_end {seq : Int} {n : Nat} {X : List Rwi} {ys : List Int} {T : List Nat} (hb : ∀ z ∈ bodyTo seq n X n, 0 ≤ z ∧ z < 256) (h : Cr.Turnt (img seq n X) ys T) (h3 : T.length ≤ 3) (hl : (img seq n X).length ≤ 134217728) : ys = img seq n X ∨ Cr.holds ys = false := by
  have hs : img seq n X = sealed (bodyTo seq n X n) := rfl
  have hx : ∀ z ∈ img seq n X, 0 ≤ z ∧ z < 256 := by rw [hs]; exact sealed_bytes _ hb
  match T, h, h3 with
  | [], h, _ => exact .inl (turnt_none h hx)
  | a :: T, h, h3 =>
    right
    have q := h.told (by simp) h3 hl
    exact spoilt (bodyTo seq n X n) ys hb h.bytes (by rw [← hs]; exact q)
open Cr in
/-- Behind a run of turned bits. -/
theorem run_end {seq : Int} {n : Nat} {X : List Rwi} {ys : List Int} {v : Wd} {k m : Nat} (hb : ∀ z ∈ bodyTo seq n X n, 0 ≤ z ∧ z < 256) (hy : ∀ z ∈ ys, 0 ≤ z ∧ z < 256) (hr : ∀ r, reg r ys = reg r (img seq n X) ^^^ txn m (low v k)) (h0 : low v k = 0 → ys = img seq n X) : ys = img seq n X ∨ Cr.holds ys = false := by
  by_cases e : low v k = 0
  · exact .inl (h0 e)
  · right
    refine spoilt (bodyTo seq n X n) ys hb hy fun r q => ?_
    have h1 := hr r
    have hs : img seq n X = sealed (bodyTo seq n X n) := rfl
    rw [← hs] at q
    rw [q] at h1
    have h2 := congrArg (fun t => reg r (img seq n X) ^^^ t) h1
    simp only [← BitVec.xor_assoc, BitVec.xor_self] at h2
    rw [show ∀ t : Wd, (0#32 : Wd) ^^^ t = t from fun t => BitVec.zero_xor] at h2
    exact e (txn_inj0 _ _ h2.symm)
end Go.Proofs.YtcdgfghcmeadgaaDoor
