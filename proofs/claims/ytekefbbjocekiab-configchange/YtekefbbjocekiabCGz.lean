/-
  What the document's Follows answers. Conditions: the chains can be read, and have at most 2^43 nodes.
-/
import Derived.Test.YtekefbbjocekiabCGy
namespace Go.Proofs.Ytekefbbjocekiab
open Go.RowKit Go.ChangeShapes Go.WideShapes
set_option linter.unusedVariables false

end Go.Proofs.Ytekefbbjocekiab
