/-
  What the document's Seal answers, called with whatever bytes: they, and the four bytes of their sum, in memory of its own. Condition: the bytes can be read, and are at most 2^47 - 4096.
-/
import Derived.Test.YtegbgmihcokblaaDoorRows
import Derived.Test.YtegbgmihcokblaaDoorApart
import Derived.Test.YtegbgmihcokblaaDoorRSumC
import Derived.Test.YtegbgmihcokblaaDoorLowC
import Derived.Test.YtegbgmihcokblaaDoorSealC
namespace Go.Proofs.YtegbgmihcokblaaDoor
set_option linter.unusedVariables false
open Go.RowKit

end Go.Proofs.YtegbgmihcokblaaDoor
