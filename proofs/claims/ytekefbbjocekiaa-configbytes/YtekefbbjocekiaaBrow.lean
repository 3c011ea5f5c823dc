/-
  A string's bytes as a row of cells. No condition of its own.
-/
import Derived.Test.YtekefbbjocekiaaStr
import Derived.Test.YtekefbbjocekiaaApp
import Derived.Laws.IdiomStrings
namespace Go.Proofs.Ytekefbbjocekiaa
open Go.RowKit
set_option linter.unusedVariables false

theorem bytesRow_size (s : ByteArray) (cap : Nat) (h : s.size ≤ cap) : (bytesRow s cap).size = cap := by
  unfold bytesRow
  rw [Array.size_append, Array.size_map, Array.size_replicate]
  have e : s.data.size = s.size := rfl
  omega
theorem strOfNums_at (xs : List Int) (hx : Bytes xs) (cap i : Nat) (hi : i < xs.length) : (bytesRow (strOfNums xs) cap)[i]? = some (.int .u8 (xs[i]?.getD 0)) := by
  rw [bytesRow_at _ _ _ (by simpa [strOfNums] using hi)]
  have := hx i hi
  simp [hi] at this
  simp [strOfNums, hi, UInt8.toNat_ofNat']
  omega

end Go.Proofs.Ytekefbbjocekiaa
