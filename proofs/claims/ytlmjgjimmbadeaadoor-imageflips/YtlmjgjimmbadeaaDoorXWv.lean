/-
  What the document's Writer's Digest, Row and Bytes answer. Condition: what is laid down takes at most 2^47 bytes.
-/
import Derived.Test.YtlmjgjimmbadeaaDoorFb
namespace Go.Proofs.YtlmjgjimmbadeaaDoor
open Go.RowKit
set_option linter.unusedVariables false

theorem wadd_take (e : Int) (ys ds : List Int) (k : Nat) (hk : k < ds.length) : wadd e (wadd e ys (ds.take k)) [ds[k]?.getD 0] = wadd e ys (ds.take (k + 1)) := by
  unfold wadd
  split
  · rw [List.append_assoc, take_snoc ds k hk]
  · rfl
theorem wadd_len (e : Int) (ys zs : List Int) : (wadd e ys zs).length ≤ ys.length + zs.length := by
  unfold wadd; split <;> simp

end Go.Proofs.YtlmjgjimmbadeaaDoor
