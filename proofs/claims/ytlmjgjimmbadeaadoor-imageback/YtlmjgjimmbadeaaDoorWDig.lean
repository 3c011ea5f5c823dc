/-
  What the Writer's Digest answers. Condition: what is laid down takes at most 2^47 bytes.
-/
import Derived.Test.YtlmjgjimmbadeaaDoorFb
namespace Go.Proofs.YtlmjgjimmbadeaaDoor
open Go.RowKit
set_option linter.unusedVariables false

end Go.Proofs.YtlmjgjimmbadeaaDoor
