/-
  NARROWER THAN 'FOR EVERY INPUT', by the rows' own cells (each row's printed sentence says how): SpanNormals: laid · SpanMeets: laid · SpanTouches: laid.
  DERIVED. THE GIVEN ROWS OF THIS SEAT. 3 by the template 'for every input the law returns true; each argument reads behind the call as it read before'; 0 by the template 'total and deterministic' (their statements: YtdjcokepeifojaaDoorTotals.lean).
  GIVEN WITH THE SEED: the statements are not yours to turn. If you find one false, say at which input.
  Laid BY PROGRAM, IN A SANDBOX (cutbox-rows.mjs): the forced cells as the released guide's own fill.sh prints them over the translation d79a923d3e184bfa… (all of the seat's roots in one cut). By AI agents, Wed Nov 11 2026. No macro, syntax, notation, axiom, sorry.
-/
import Derived.Test.YtdjcokepeifojaaDoorChecked
import GoSem.Claim
import GoSem.ClaimJoined
import GoSem.ClaimMapViews
import Derived.JoinedTies
import Derived.KernelRfl
namespace Go.Proofs.YtdjcokepeifojaaDoor
/- THE CELL 'sum', in the pinned program and in every row, IS THE sha256 OF THE DUMP (.gsa) THAT YtdjcokepeifojaaDoorProg.lean LOADS. Nothing in Lean hashes anything: it is a label: what it is worth is what the hold of that sum in a sandbox is worth. -/
noncomputable def Tryd.pinned : Pinned := { name := "ytdjcokepeifojaadoor", sum := "d79a923d3e184bfa9f4d7fa672ac55b2c935fda4da2f9e1d52dff5ef1e556df8", checked := Tryd.checked }
namespace Rows
def none {H : Type} : Left H := { results := [], args := [] }

/- WHAT THE LISTED PACKAGE-LEVEL VARIABLES READ AS WHEN THE CALL BEGINS. Each datum BY PROGRAM (the guide's laid-datum.mjs) off the statement by which the dump's own 'gosem.cut.vars' lays the variable. In a bare row this is a premise. The card (YtdjcokepeifojaaDoorCards.lean) ties it to the program's text. -/
def laid_hawser_hawserlaw06_mark {H : Type} : DataW H := .agg [.lit (.string [109, 97, 114, 107]), .lit (.string [107, 114, 97, 109])]

/-- 'hawserlaw06.SpanNormals': WHATEVER THE INPUT: true; the input reads as it did. -/
def spanNormalsSpec : ChangeSpec := { name := "spanNormals", fn := fun _ => fun
  | [d] => { results := [.lit (.bool true)], args := [d] }
  | _ => none }
def spanNormalsRow : OpenClaim := { program := "ytdjcokepeifojaadoor", sum := "d79a923d3e184bfa9f4d7fa672ac55b2c935fda4da2f9e1d52dff5ef1e556df8", func := "hawser/hawserlaw06.SpanNormals", spec := "spanNormals", inPlace := ["internal/bytealg.abigen_runtime_cmpstring"], unfollowed := true, recurses := true, named := ["hawser/hawserlaw06.mark"], apart := false, laid := [("hawser/hawserlaw06.mark", laid_hawser_hawserlaw06_mark)] }
def SpanNormalsSaid : Prop := spanNormalsRow.holds Tryd.pinned (OpenSpec.ofChange spanNormalsSpec)

/-- ITS FALSE NEIGHBOUR: 'it returns false'. Refute it at one input. -/
def spanNormalsWrong : ChangeSpec := { name := "spanNormals", fn := fun _ => fun
  | [d] => { results := [.lit (.bool false)], args := [d] }
  | _ => none }
def SpanNormalsWrongFalsely : Prop := spanNormalsRow.holds Tryd.pinned (OpenSpec.ofChange spanNormalsWrong)

/-- 'hawserlaw06.SpanMeets': WHATEVER THE INPUT: true; the input reads as it did. -/
def spanMeetsSpec : ChangeSpec := { name := "spanMeets", fn := fun _ => fun
  | [d1, d2] => { results := [.lit (.bool true)], args := [d1, d2] }
  | _ => none }
def spanMeetsRow : OpenClaim := { program := "ytdjcokepeifojaadoor", sum := "d79a923d3e184bfa9f4d7fa672ac55b2c935fda4da2f9e1d52dff5ef1e556df8", func := "hawser/hawserlaw06.SpanMeets", spec := "spanMeets", inPlace := ["internal/bytealg.abigen_runtime_cmpstring"], unfollowed := true, recurses := true, named := ["hawser/hawserlaw06.mark"], apart := false, laid := [("hawser/hawserlaw06.mark", laid_hawser_hawserlaw06_mark)] }
def SpanMeetsSaid : Prop := spanMeetsRow.holds Tryd.pinned (OpenSpec.ofChange spanMeetsSpec)

/-- ITS FALSE NEIGHBOUR: 'it returns false'. Refute it at one input. -/
def spanMeetsWrong : ChangeSpec := { name := "spanMeets", fn := fun _ => fun
  | [d1, d2] => { results := [.lit (.bool false)], args := [d1, d2] }
  | _ => none }
def SpanMeetsWrongFalsely : Prop := spanMeetsRow.holds Tryd.pinned (OpenSpec.ofChange spanMeetsWrong)

/-- 'hawserlaw06.SpanTouches': WHATEVER THE INPUT: true; the input reads as it did. -/
def spanTouchesSpec : ChangeSpec := { name := "spanTouches", fn := fun _ => fun
  | [d1, d2] => { results := [.lit (.bool true)], args := [d1, d2] }
  | _ => none }
def spanTouchesRow : OpenClaim := { program := "ytdjcokepeifojaadoor", sum := "d79a923d3e184bfa9f4d7fa672ac55b2c935fda4da2f9e1d52dff5ef1e556df8", func := "hawser/hawserlaw06.SpanTouches", spec := "spanTouches", inPlace := ["internal/bytealg.abigen_runtime_cmpstring"], unfollowed := true, recurses := true, named := ["hawser/hawserlaw06.mark"], apart := false, laid := [("hawser/hawserlaw06.mark", laid_hawser_hawserlaw06_mark)] }
def SpanTouchesSaid : Prop := spanTouchesRow.holds Tryd.pinned (OpenSpec.ofChange spanTouchesSpec)

/-- ITS FALSE NEIGHBOUR: 'it returns false'. Refute it at one input. -/
def spanTouchesWrong : ChangeSpec := { name := "spanTouches", fn := fun _ => fun
  | [d1, d2] => { results := [.lit (.bool false)], args := [d1, d2] }
  | _ => none }
def SpanTouchesWrongFalsely : Prop := spanTouchesRow.holds Tryd.pinned (OpenSpec.ofChange spanTouchesWrong)

/- THE SECOND FORM. 'bulk': how many values and letters a reading holds, each counted each time it is reached (what is shared counts as often as it is met; a slice's spare places count too). A statement '..UptoSaid' is the law's where the arguments, and the package variables that the reading takes, are together of bulk at most 1048576: NARROWER than '..Said'. Prove '..Said' where nothing that the law and all that it calls make is longer than what came in: it says more and counts as full. Else prove '..UptoSaid'. A law counts once. -/
mutual
def uptoBulk {H : Type} : DataW H → Nat
  | .lit (.string bytes) => bytes.length + 1
  | .lit _ => 1
  | .nil => 1
  | .ptr d => uptoBulk d + 1
  | .slice elems spare => uptoBulkAll elems + uptoBulkAll spare + 1
  | .agg parts => uptoBulkAll parts + 1
  | .iface _ d => uptoBulk d + 1
  | .map entries => uptoBulkEntries entries + 1
  | .held _ => 1
def uptoBulkAll {H : Type} : List (DataW H) → Nat
  | [] => 0
  | d :: r => uptoBulk d + uptoBulkAll r
def uptoBulkEntries {H : Type} : List (Lit × DataW H) → Nat
  | [] => 0
  | x :: r => uptoBulkEntry x + uptoBulkEntries r
def uptoBulkEntry {H : Type} : Lit × DataW H → Nat
  | (.string bytes, d) => bytes.length + uptoBulk d + 1
  | (_, d) => uptoBulk d + 1
 end
def uptoSmall : (H : Type) → List (DataW H) → Bool := fun _ ds => decide (uptoBulkAll ds ≤ 1048576)
def OpenSpec.upto (s : _root_.Go.ChangeSpec) : _root_.Go.OpenSpec := { _root_.Go.OpenSpec.ofChange s with cond := some uptoSmall }

/-- 'hawserlaw06.SpanNormals', WHERE WHAT IT READS IS OF BULK AT MOST 1048576: true; the input reads as it did. -/
def spanNormalsUptoRow : OpenClaim := { program := "ytdjcokepeifojaadoor", sum := "d79a923d3e184bfa9f4d7fa672ac55b2c935fda4da2f9e1d52dff5ef1e556df8", func := "hawser/hawserlaw06.SpanNormals", spec := "spanNormals", inPlace := ["internal/bytealg.abigen_runtime_cmpstring"], unfollowed := true, recurses := true, named := ["hawser/hawserlaw06.mark"], apart := false, laid := [("hawser/hawserlaw06.mark", laid_hawser_hawserlaw06_mark)], narrowed := true }
def SpanNormalsUptoSaid : Prop := spanNormalsUptoRow.holds Tryd.pinned (OpenSpec.upto spanNormalsSpec)

/-- 'hawserlaw06.SpanMeets', WHERE WHAT IT READS IS OF BULK AT MOST 1048576: true; the input reads as it did. -/
def spanMeetsUptoRow : OpenClaim := { program := "ytdjcokepeifojaadoor", sum := "d79a923d3e184bfa9f4d7fa672ac55b2c935fda4da2f9e1d52dff5ef1e556df8", func := "hawser/hawserlaw06.SpanMeets", spec := "spanMeets", inPlace := ["internal/bytealg.abigen_runtime_cmpstring"], unfollowed := true, recurses := true, named := ["hawser/hawserlaw06.mark"], apart := false, laid := [("hawser/hawserlaw06.mark", laid_hawser_hawserlaw06_mark)], narrowed := true }
def SpanMeetsUptoSaid : Prop := spanMeetsUptoRow.holds Tryd.pinned (OpenSpec.upto spanMeetsSpec)

/-- 'hawserlaw06.SpanTouches', WHERE WHAT IT READS IS OF BULK AT MOST 1048576: true; the input reads as it did. -/
def spanTouchesUptoRow : OpenClaim := { program := "ytdjcokepeifojaadoor", sum := "d79a923d3e184bfa9f4d7fa672ac55b2c935fda4da2f9e1d52dff5ef1e556df8", func := "hawser/hawserlaw06.SpanTouches", spec := "spanTouches", inPlace := ["internal/bytealg.abigen_runtime_cmpstring"], unfollowed := true, recurses := true, named := ["hawser/hawserlaw06.mark"], apart := false, laid := [("hawser/hawserlaw06.mark", laid_hawser_hawserlaw06_mark)], narrowed := true }
def SpanTouchesUptoSaid : Prop := spanTouchesUptoRow.holds Tryd.pinned (OpenSpec.upto spanTouchesSpec)

end Rows
end Go.Proofs.YtdjcokepeifojaaDoor
