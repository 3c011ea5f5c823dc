/-
  What a pack Reader's Uint answers: what the plain function rUint gives. Condition: the Reader's bytes can be read, and their length is one that a machine has.
-/
import Derived.Test.YtekefbbjocekiaaPRs
import Derived.Test.YtekefbbjocekiaaDec
import Derived.Deep.RegionHeld3
namespace Go.Proofs.Ytekefbbjocekiaa
open Go.RowKit
set_option linter.unusedVariables false

/-- What Uint takes up of these bytes, from place p on: the number, how many bytes, the error. -/
def ru (xs : List Int) (p : Nat) : Int × Nat × Int := ((rd (xs.drop p)).1, (rd (xs.drop p)).2.1.toNat, nm (rd (xs.drop p)).2.2)
theorem ru_le {xs : List Int} (hx : Bytes xs) (p : Nat) (hp : p ≤ xs.length) : p + (ru xs p).2.1 ≤ xs.length := by
  have := (rd_bd _ (bytes_drop hx p)).2.1
  simp only [List.length_drop] at this
  simp only [ru]; omega

end Go.Proofs.Ytekefbbjocekiaa
