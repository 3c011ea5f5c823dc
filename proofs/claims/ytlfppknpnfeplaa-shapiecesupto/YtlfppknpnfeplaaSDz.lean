/-
  The digest of zeros, as the program makes it. No condition.
-/
import Derived.Test.YtlfppknpnfeplaaSBl
namespace Go.Proofs.Ytlfppknpnfeplaa
set_option linter.unusedVariables false
open Go.RowKit

def dz32 : List Int := List.replicate 32 0
theorem zD (w : World) : (zeroValue 37).run Try.prog w = .ok (.agg (u8s dz32)) w := by
  have h : (Try.prog.info? 37).map (fun i => (i.zero, i.size)) = some (some (.agg (u8s dz32)), 32) := by kernel_rfl
  exact (zero_of_info h).1 w
end Go.Proofs.Ytlfppknpnfeplaa
