/-
  What the Writer's Digest answers. Condition: what is laid down takes at most 2^47 bytes.
-/
import Derived.Test.YteilmkibbdlnoabDoorWTx
namespace Go.Proofs.YteilmkibbdlnoabDoor
open Go.RowKit
set_option linter.unusedVariables false

end Go.Proofs.YteilmkibbdlnoabDoor
