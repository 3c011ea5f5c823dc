/-
  Memory that has grown, and changed in a block that is new. No condition of its own.
-/
import Derived.Test.YtekefbbjocekiaaPRs
namespace Go.Proofs.Ytekefbbjocekiaa
open Go.RowKit
set_option linter.unusedVariables false

theorem gb_newer {a b c : World} {N : Nat} (h : a.grownBy b none) (k : b.grownBy c (some N)) (hN : a.heap.size ≤ N) : a.grownBy c none :=
  ⟨k.os.trans h.os, k.tape.trans h.tape, k.output.trans h.output, Nat.le_trans h.size k.size, fun i hi hn => (k.block i (Nat.lt_of_lt_of_le hi h.size) (fun e => by cases e; omega)).trans (h.block i hi hn)⟩
end Go.Proofs.Ytekefbbjocekiaa
