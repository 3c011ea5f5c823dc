/-
  What a writer comes to, as plain data: bytes laid down, the first error. No condition of its own.
-/
import Derived.Test.YtekefbbjocekiaaEncC
import Derived.Test.YtekefbbjocekiaaApp
import Derived.Test.YtekefbbjocekiaaStr
namespace Go.Proofs.Ytekefbbjocekiaa
open Go.RowKit
set_option linter.unusedVariables false

/-- What is laid down behind what was, if there is no error yet. -/
def wadd (e : Int) (ys zs : List Int) : List Int := if e = 0 then ys ++ zs else ys
/-- The first error stays. -/
def ferr (e x : Int) : Int := if e = 0 then x else e
/-- The error of a number that does not fit. -/
def wie (v most : Int) : Int := if v < 0 ∨ most < 0 then 1 else if most < v then 31 else 0
/-- The error of a text that does not fit. -/
def wte (n : Nat) (most : Int) : Int := if most < 0 then 1 else if most < n then 31 else 0
/-- A yes or no as a byte. -/
def fb (f : Bool) : Int := if f then 1 else 0
/-- A text's bytes. -/
def sb (s : ByteArray) : List Int := s.data.toList.map fun c => (c.toNat : Int)
theorem sb_length (s : ByteArray) : (sb s).length = s.size := by simp [sb]
theorem sb_bytes (s : ByteArray) : Bytes (sb s) := bytes_of_mem (fun c hc => by
  obtain ⟨u, _, rfl⟩ := List.mem_map.1 hc
  have := u.toNat_lt
  omega)
theorem str_sb (s : ByteArray) : strOfNums (sb s) = s := by
  have h : (strOfNums (sb s)).data.toList = s.data.toList := by
    rw [strOfNums_data]
    simp only [sb, List.map_map]
    conv => rhs; rw [← List.map_id s.data.toList]
    apply List.map_congr_left
    intro u _
    simp
  cases s with
  | mk d =>
    have h2 : (strOfNums (sb ⟨d⟩)).data = d := by
      apply Array.ext'
      exact h
    cases h3 : strOfNums (sb ⟨d⟩)
    rw [h3] at h2
    rw [← h2]
theorem wadd_err {e : Int} (he : e ≠ 0) (ys zs : List Int) : wadd e ys zs = ys := by rw [wadd, if_neg he]
theorem ferr_zero (e : Int) : ferr e 0 = e := by unfold ferr; split <;> omega

theorem wrap_u64_bd (x : Int) : 0 ≤ IntKind.u64.wrap x ∧ IntKind.u64.wrap x < 18446744073709551616 := by
  rw [IntKind.wrap_u64]; omega
theorem enc_leN (n : Nat) (h0 : n < 18446744073709551616) : (enc n).length ≤ 10 := by
  rw [enc_length _ h0]; exact (sz_bd _).2
end Go.Proofs.Ytekefbbjocekiaa
