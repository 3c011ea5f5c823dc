/-
  What the document's Writer's Int, Flag, Text and Bytes answer. Condition: what is laid down takes at most 2^47 bytes.
-/
import Derived.Test.YteilmkibbdlnoaaDoorXWr
import Derived.Test.YteilmkibbdlnoaaDoorBrow
namespace Go.Proofs.YteilmkibbdlnoaaDoor
open Go.RowKit
set_option linter.unusedVariables false

end Go.Proofs.YteilmkibbdlnoaaDoor
