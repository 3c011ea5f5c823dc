/-
  What a pack Reader's take and Text answer: what the plain functions give. Condition: the Reader's bytes can be read, and their length is one that a machine has.
-/
import Derived.Test.YtekefbbjocekiaaPInt
import Derived.Test.YtekefbbjocekiaaStr
namespace Go.Proofs.Ytekefbbjocekiaa
open Go.RowKit
set_option linter.unusedVariables false

end Go.Proofs.Ytekefbbjocekiaa
