/-
  What the Writer's Digest answers. Condition: what is laid down takes at most 2^47 bytes.
-/
import Derived.Test.YteilmkibbdlnoaaDoorWTx
namespace Go.Proofs.YteilmkibbdlnoaaDoor
open Go.RowKit
set_option linter.unusedVariables false

end Go.Proofs.YteilmkibbdlnoaaDoor
