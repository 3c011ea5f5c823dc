/-
  What the document's Writer's Int, Flag, Text and Bytes answer. Condition: what is laid down takes at most 2^47 bytes.
-/
import Derived.Test.YtlmjgjimmbadeaaDoorXWr
import Derived.Test.YtlmjgjimmbadeaaDoorFa
namespace Go.Proofs.YtlmjgjimmbadeaaDoor
open Go.RowKit
set_option linter.unusedVariables false

end Go.Proofs.YtlmjgjimmbadeaaDoor
