/-
  What the document's Same answers of whatever two lists of bytes: whether they are alike. Condition: both can be read.
-/
import Derived.Test.YtekefbbjocekiaaRow
import Derived.Laws.BytesArg
namespace Go.Proofs.Ytekefbbjocekiaa
open Go.RowKit
set_option linter.unusedVariables false

/-- A slice of bytes as a string. -/
theorem seg_string {P : Program} {w : World} {a : Option Addr} {len : Nat} {xs : List Int} (src dst e : TypeId) (cap : Nat) (h : Seg .u8 w a len xs) (hs : P.underlying src = some (.slice e)) (he : P.underlying e = some (.int .u8)) (hd : P.underlying dst = some .string) :
    (convert src dst (.slice a len cap)).run P w = .ok (.string (strOfNums xs)) w := by
  rcases h.2 with rfl | ⟨b, off, rfl, _, hc⟩
  · obtain rfl : xs = [] := List.eq_nil_of_length_eq_zero h.1
    cases a with
    | none => exact run_convert_bytes_nil w src e hs he 0 cap dst hd
    | some ad =>
      rw [run_convert_bytes_string w src dst e _ 0 cap hs he hd, run_bytesToString w ad 0 cap [] (run_loadCells_list (P := P) w ad [] (fun j v hj => by simp at hj))]
      rfl
  · exact run_convert_bytes_arg w src e hs he b off len cap xs h.1 (fun i hi => by rw [hc i hi]; simp) dst hd
theorem strOfNums_inj {xs ys : List Int} (hx : Bytes xs) (hy : Bytes ys) (h : strOfNums xs = strOfNums ys) : xs = ys := by
  have h1 : xs.map (fun n => UInt8.ofNat n.toNat) = ys.map (fun n => UInt8.ofNat n.toNat) := by
    rw [← strOfNums_data, ← strOfNums_data, h]
  have hl : xs.length = ys.length := by simpa using congrArg List.length h1
  apply List.ext_getElem hl
  intro i i1 i2
  have h2 := congrArg (fun l => l[i]?) h1
  simp [i1, i2] at h2
  have a := hx i i1
  have b := hy i i2
  simp [i1] at a
  simp [i2] at b
  have h3 := congrArg UInt8.toNat h2
  simp [UInt8.toNat_ofNat'] at h3
  omega
theorem str_eq {xs ys : List Int} (hx : Bytes xs) (hy : Bytes ys) : ((strOfNums xs).toList == (strOfNums ys).toList) = decide (xs = ys) := by
  by_cases h : xs = ys
  · subst h; simp
  · have : (strOfNums xs).toList ≠ (strOfNums ys).toList := fun e => h (strOfNums_inj hx hy (by
      rw [ByteArray.toList_eq, ByteArray.toList_eq] at e
      exact Go.WideShapes.bytes_inj e))
    simp [h, this]

end Go.Proofs.Ytekefbbjocekiaa
