/-
  A Hasher that was made here and what it has taken: Write, Sum, Len, and Save with Load behind it; sha's Sum of one part and of three. Condition: fewer than 2^60 bytes.
-/
import Derived.Test.YtlfppknpnfeplaaSHl
namespace Go.Proofs.Ytlfppknpnfeplaa
set_option linter.unusedVariables false
open Go.RowKit

/-- A Hasher that was made behind w and has taken ys. -/
def PH (w wr : World) (g : Nat) (ys : List Int) : Prop := Hs 70 [.bool true] wr g (shz (st0, []) ys) ys.length ∧ w.grownBy wr none ∧ w.heap.size ≤ g ∧ Bytes ys ∧ ys.length ≤ 1152921504606846976
theorem PH.gb {w wr wq : World} {g : Nat} {ys : List Int} (h : PH w wr g ys) (hg : wr.grownBy wq none) : PH w wq g ys := ⟨h.1.gb hg, gb_trans h.2.1 hg, h.2.2⟩
theorem bytes_none : Bytes ([] : List Int) := fun i hi => by simp at hi
theorem PH.bytes {w wr : World} {g : Nat} {ys : List Int} (h : PH w wr g ys) : Bytes (shz (st0, []) ys).2 := shz_bytes (st0, []) ys bytes_none h.2.2.2.1 (by decide)
theorem PH.held {w wr : World} {g : Nat} {ys : List Int} (h : PH w wr g ys) : (shz (st0, []) ys).2.length = ys.length % 64 := by rw [shz_len (st0, []) ys (by decide)]; simp
theorem pc_new (w : World) : Calls Try.prog 7 #[] w fun r w' => ∃ g, r = .returned (.pointer (some ⟨g, 0, none⟩)) ∧ PH w w' g [] :=
  (hnew_c w).mono fun r w' ⟨g, h1, h2, h3, h4⟩ => ⟨g, h1, h3, h4, h2, bytes_none, by simp⟩
theorem pc_sum {w wr : World} {g : Nat} {ys : List Int} (h : PH w wr g ys) : Calls Try.prog 13 #[.pointer (some ⟨g, 0, none⟩)] wr fun r w' => r = .returned (.agg (u8s (sha ys))) ∧ wr.grownBy w' none :=
  hsum_c g _ _ wr h.1 h.bytes (by have := h.2.2.2.2; omega)
theorem pc_len {w wr : World} {g : Nat} {ys : List Int} (h : PH w wr g ys) : Calls Try.prog 15 #[.pointer (some ⟨g, 0, none⟩)] wr fun r w' => r = .returned (.int .i64 (ys.length : Int)) ∧ w' = wr := hlen_c g _ _ wr h.1
theorem pc_write {w wr : World} {g : Nat} {ys : List Int} (h : PH w wr g ys) (a : Option Addr) (len cap : Nat) (xs : List Int) (hs : Seg .u8 w a len xs) (hx : Bytes xs) (hlc : len ≤ cap) (hcm : cap ≤ 9223372036854775807) (hn : ys.length + len ≤ 1152921504606846976) :
    Calls Try.prog 10 #[.pointer (some ⟨g, 0, none⟩), .slice a len cap] wr fun r w' => r = .returned (.tuple #[]) ∧ PH w w' g (ys ++ xs) := by
  have hf : Far g a len := by
    rcases hs.2 with h0 | ⟨b, off, e, hb, _⟩
    · exact .inl h0
    · exact .inr ⟨b, off, e, by have := h.2.2.1; omega⟩
  refine (hwrite_c g _ _ a len cap xs wr h.1 (hs.below (gb_below h.2.1)) hx h.bytes hf hlc hcm (by omega)).mono ?_
  rintro r w' ⟨rfl, h1, h2⟩
  refine ⟨rfl, ?_, gb_newer h.2.1 h2 h.2.2.1, h.2.2.1, ?_, ?_⟩
  · rw [← shz_app] at h1
    rw [List.length_append, hs.1]
    exact h1
  · refine bytes_of_mem fun z hz => ?_
    rcases List.mem_append.1 hz with k | k
    · exact h.2.2.2.1.mem z k
    · exact hx.mem z k
  · rw [List.length_append, hs.1]; exact hn
/-- What Save answers, as Load takes it. -/
theorem pc_save {w wr : World} {g : Nat} {ys : List Int} (h : PH w wr g ys) : Calls Try.prog 17 #[.pointer (some ⟨g, 0, none⟩)] wr fun r w' => ∃ b len cap, r = .returned (.slice (some ⟨b, 0, none⟩) len cap) ∧ Seg .u8 w' (some ⟨b, 0, none⟩) len (svB (shz (st0, []) ys) ys.length) ∧ len ≤ cap ∧ cap ≤ maxLen ∧ PH w w' g ys := by
  refine (hsave_c g _ _ wr h.1 h.bytes (by have := h.2.2.2.2; omega)).mono ?_
  rintro r w' ⟨v, rfl, h1, h2⟩
  have hl : 0 < (svB (shz (st0, []) ys) ys.length).length := by unfold svB; simp
  have h3 := h1.seg
  rcases h1.2 with ⟨rfl, h0⟩ | ⟨b, cap, cur, rfl, hB, hgb, hnn, hm, hsz, htake⟩
  · omega
  · obtain ⟨a, c, e, s1, _, _⟩ := h3
    injection e with e1 e2 e3
    subst e1 e3
    exact ⟨b, _, cap, rfl, s1, hnn, hm, h.gb ⟨h2.os, h2.tape, h2.output, h2.size, fun i hi _ => h2.block i hi⟩⟩
theorem pc_load {w wr : World} {g : Nat} {ys : List Int} (h : PH w wr g ys) (b len cap : Nat) (hs : Seg .u8 wr (some ⟨b, 0, none⟩) len (svB (shz (st0, []) ys) ys.length)) (hlc : len ≤ cap) (hcm : cap ≤ maxLen) :
    Calls Try.prog 20 #[.slice (some ⟨b, 0, none⟩) len cap] wr fun r w' => ∃ g', r = .returned (.tuple #[.pointer (some ⟨g', 0, none⟩), .int .i64 0]) ∧ PH w w' g' ys := by
  refine (hload_c b 0 len cap _ _ wr hs h.held h.bytes h.2.2.2.2 hlc hcm).mono ?_
  rintro r w' ⟨g', rfl, h1, h2, h3⟩
  exact ⟨g', rfl, h2, gb_trans h.2.1 h3, Nat.le_trans h.2.1.size h1, h.2.2.2⟩
theorem sum1_c (g : Nat) (a : Option Addr) (l c : Nat) (xs : List Int) (W : World) (hc : W.cell? ⟨g, 0, none⟩ = some (.slice a l c)) (hg : g < W.heap.size) (hs : Seg .u8 W a l xs) (hx : Bytes xs) (hlc : l ≤ c) (hcm : c ≤ 9223372036854775807) (hn : xs.length < 2305843009213693952) :
    Calls Try.prog 24 #[.slice (some ⟨g, 0, none⟩) 1 1] W fun r w' => r = .returned (.agg (u8s (sha xs))) ∧ W.grownBy w' none := by
  have hp : SParts W (some ⟨g, 0, none⟩) 1 [xs] := by
    refine ⟨rfl, .inr ⟨g, 0, rfl, hg, fun i hi => ?_⟩⟩
    obtain rfl : i = 0 := by omega
    exact ⟨a, l, c, hc, hs, hx, hlc, hcm⟩
  have h := sum_c (some ⟨g, 0, none⟩) 1 1 [xs] W hp (by decide) (by simpa using hn)
  rwa [show ([xs] : List (List Int)).flatten = xs from by simp] at h
theorem sum3_c (g : Nat) (a b : Option Addr) (l c m d : Nat) (xs ys : List Int) (W : World) (h0 : W.cell? ⟨g, 0, none⟩ = some (.slice a l c)) (h1 : W.cell? ⟨g, 1, none⟩ = some (.slice none 0 0)) (h2 : W.cell? ⟨g, 2, none⟩ = some (.slice b m d)) (hg : g < W.heap.size) (hs : Seg .u8 W a l xs) (hx : Bytes xs) (hlc : l ≤ c) (hcm : c ≤ 9223372036854775807) (ht : Seg .u8 W b m ys) (hy : Bytes ys) (hmd : m ≤ d) (hdm : d ≤ 9223372036854775807) (hn : xs.length + ys.length < 2305843009213693952) :
    Calls Try.prog 24 #[.slice (some ⟨g, 0, none⟩) 3 3] W fun r w' => r = .returned (.agg (u8s (sha (xs ++ ys)))) ∧ W.grownBy w' none := by
  have hp : SParts W (some ⟨g, 0, none⟩) 3 [xs, [], ys] := by
    refine ⟨rfl, .inr ⟨g, 0, rfl, hg, fun i hi => ?_⟩⟩
    match i, hi with
    | 0, _ => exact ⟨a, l, c, h0, hs, hx, hlc, hcm⟩
    | 1, _ => exact ⟨none, 0, 0, h1, ⟨rfl, .inl rfl⟩, bytes_none, Nat.le_refl _, by omega⟩
    | 2, _ => exact ⟨b, m, d, h2, ht, hy, hmd, hdm⟩
  have h := sum_c (some ⟨g, 0, none⟩) 3 3 [xs, [], ys] W hp (by decide) (by simpa using hn)
  rwa [show ([xs, [], ys] : List (List Int)).flatten = xs ++ ys from by simp] at h
end Go.Proofs.Ytlfppknpnfeplaa
