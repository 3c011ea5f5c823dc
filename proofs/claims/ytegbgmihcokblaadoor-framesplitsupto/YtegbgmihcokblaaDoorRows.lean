/-
  NARROWER THAN 'FOR EVERY INPUT', by the rows' own cells (each row's printed sentence says how): FrameSplits: laid · FrameCuts: laid · FrameFound: laid · FrameFlips: laid · FrameRuns: laid · FrameOwn: laid.
  DERIVED. THE GIVEN ROWS OF THIS SEAT. 6 by the template 'for every input the law returns true; each argument reads behind the call as it read before'; 0 by the template 'total and deterministic' (their statements: YtegbgmihcokblaaDoorTotals.lean).
  GIVEN WITH THE SEED: the statements are not yours to turn. If you find one false, say at which input.
  Laid BY PROGRAM, IN A SANDBOX (cutbox-rows.mjs): the forced cells as the released guide's own fill.sh prints them over the translation 5bf0f2cfdff96825… (all of the seat's roots in one cut). By AI agents, Wed Nov 11 2026. No macro, syntax, notation, axiom, sorry.
-/
import Derived.Test.YtegbgmihcokblaaDoorChecked
import GoSem.Claim
import GoSem.ClaimJoined
import GoSem.ClaimMapViews
import Derived.JoinedTies
import Derived.KernelRfl
namespace Go.Proofs.YtegbgmihcokblaaDoor
/- THE CELL 'sum', in the pinned program and in every row, IS THE sha256 OF THE DUMP (.gsa) THAT YtegbgmihcokblaaDoorProg.lean LOADS. Nothing in Lean hashes anything: it is a label: what it is worth is what the hold of that sum in a sandbox is worth. -/
noncomputable def Tryd.pinned : Pinned := { name := "ytegbgmihcokblaadoor", sum := "5bf0f2cfdff968259f888bd6d218db853bc68e36856673bf99ffeaeed20a1011", checked := Tryd.checked }
namespace Rows
def none {H : Type} : Left H := { results := [], args := [] }

/- WHAT THE LISTED PACKAGE-LEVEL VARIABLES READ AS WHEN THE CALL BEGINS. Each datum BY PROGRAM (the guide's laid-datum.mjs) off the statement by which the dump's own 'gosem.cut.vars' lays the variable. In a bare row this is a premise. The card (YtegbgmihcokblaaDoorCards.lean) ties it to the program's text. -/
def laid_hawser_crc_halves {H : Type} : DataW H := .agg [.lit (.int .u32 0), .lit (.int .u32 274646895), .lit (.int .u32 549293790), .lit (.int .u32 820201905), .lit (.int .u32 1098587580), .lit (.int .u32 1361435347), .lit (.int .u32 1640403810), .lit (.int .u32 1905808397), .lit (.int .u32 2197175160), .lit (.int .u32 2460548119), .lit (.int .u32 2722870694), .lit (.int .u32 2987750089), .lit (.int .u32 3280807620), .lit (.int .u32 3553878443), .lit (.int .u32 3811616794), .lit (.int .u32 4084100981)]

/-- 'hawserlaw04.FrameSplits': WHATEVER THE INPUT: true; the input reads as it did. -/
def frameSplitsSpec : ChangeSpec := { name := "frameSplits", fn := fun _ => fun
  | [d1, d2] => { results := [.lit (.bool true)], args := [d1, d2] }
  | _ => none }
def frameSplitsRow : OpenClaim := { program := "ytegbgmihcokblaadoor", sum := "5bf0f2cfdff968259f888bd6d218db853bc68e36856673bf99ffeaeed20a1011", func := "hawser/hawserlaw04.FrameSplits", spec := "frameSplits", unfollowed := true, recurses := true, named := ["hawser/crc.halves"], apart := false, laid := [("hawser/crc.halves", laid_hawser_crc_halves)] }
def FrameSplitsSaid : Prop := frameSplitsRow.holds Tryd.pinned (OpenSpec.ofChange frameSplitsSpec)

/-- ITS FALSE NEIGHBOUR: 'it returns false'. Refute it at one input. -/
def frameSplitsWrong : ChangeSpec := { name := "frameSplits", fn := fun _ => fun
  | [d1, d2] => { results := [.lit (.bool false)], args := [d1, d2] }
  | _ => none }
def FrameSplitsWrongFalsely : Prop := frameSplitsRow.holds Tryd.pinned (OpenSpec.ofChange frameSplitsWrong)

/-- 'hawserlaw04.FrameCuts': WHATEVER THE INPUT: true; the input reads as it did. -/
def frameCutsSpec : ChangeSpec := { name := "frameCuts", fn := fun _ => fun
  | [d1, d2] => { results := [.lit (.bool true)], args := [d1, d2] }
  | _ => none }
def frameCutsRow : OpenClaim := { program := "ytegbgmihcokblaadoor", sum := "5bf0f2cfdff968259f888bd6d218db853bc68e36856673bf99ffeaeed20a1011", func := "hawser/hawserlaw04.FrameCuts", spec := "frameCuts", unfollowed := true, recurses := true, named := ["hawser/crc.halves"], apart := false, laid := [("hawser/crc.halves", laid_hawser_crc_halves)] }
def FrameCutsSaid : Prop := frameCutsRow.holds Tryd.pinned (OpenSpec.ofChange frameCutsSpec)

/-- ITS FALSE NEIGHBOUR: 'it returns false'. Refute it at one input. -/
def frameCutsWrong : ChangeSpec := { name := "frameCuts", fn := fun _ => fun
  | [d1, d2] => { results := [.lit (.bool false)], args := [d1, d2] }
  | _ => none }
def FrameCutsWrongFalsely : Prop := frameCutsRow.holds Tryd.pinned (OpenSpec.ofChange frameCutsWrong)

/-- 'hawserlaw04.FrameFound': WHATEVER THE INPUT: true; the input reads as it did. -/
def frameFoundSpec : ChangeSpec := { name := "frameFound", fn := fun _ => fun
  | [d1, d2, d3] => { results := [.lit (.bool true)], args := [d1, d2, d3] }
  | _ => none }
def frameFoundRow : OpenClaim := { program := "ytegbgmihcokblaadoor", sum := "5bf0f2cfdff968259f888bd6d218db853bc68e36856673bf99ffeaeed20a1011", func := "hawser/hawserlaw04.FrameFound", spec := "frameFound", unfollowed := true, recurses := true, named := ["hawser/crc.halves"], apart := false, laid := [("hawser/crc.halves", laid_hawser_crc_halves)] }
def FrameFoundSaid : Prop := frameFoundRow.holds Tryd.pinned (OpenSpec.ofChange frameFoundSpec)

/-- ITS FALSE NEIGHBOUR: 'it returns false'. Refute it at one input. -/
def frameFoundWrong : ChangeSpec := { name := "frameFound", fn := fun _ => fun
  | [d1, d2, d3] => { results := [.lit (.bool false)], args := [d1, d2, d3] }
  | _ => none }
def FrameFoundWrongFalsely : Prop := frameFoundRow.holds Tryd.pinned (OpenSpec.ofChange frameFoundWrong)

/-- 'hawserlaw04.FrameFlips': WHATEVER THE INPUT: true; the input reads as it did. -/
def frameFlipsSpec : ChangeSpec := { name := "frameFlips", fn := fun _ => fun
  | [d1, d2] => { results := [.lit (.bool true)], args := [d1, d2] }
  | _ => none }
def frameFlipsRow : OpenClaim := { program := "ytegbgmihcokblaadoor", sum := "5bf0f2cfdff968259f888bd6d218db853bc68e36856673bf99ffeaeed20a1011", func := "hawser/hawserlaw04.FrameFlips", spec := "frameFlips", unfollowed := true, recurses := true, named := ["hawser/crc.halves"], apart := false, laid := [("hawser/crc.halves", laid_hawser_crc_halves)] }
def FrameFlipsSaid : Prop := frameFlipsRow.holds Tryd.pinned (OpenSpec.ofChange frameFlipsSpec)

/-- ITS FALSE NEIGHBOUR: 'it returns false'. Refute it at one input. -/
def frameFlipsWrong : ChangeSpec := { name := "frameFlips", fn := fun _ => fun
  | [d1, d2] => { results := [.lit (.bool false)], args := [d1, d2] }
  | _ => none }
def FrameFlipsWrongFalsely : Prop := frameFlipsRow.holds Tryd.pinned (OpenSpec.ofChange frameFlipsWrong)

/-- 'hawserlaw04.FrameRuns': WHATEVER THE INPUT: true; the input reads as it did. -/
def frameRunsSpec : ChangeSpec := { name := "frameRuns", fn := fun _ => fun
  | [d1, d2, d3] => { results := [.lit (.bool true)], args := [d1, d2, d3] }
  | _ => none }
def frameRunsRow : OpenClaim := { program := "ytegbgmihcokblaadoor", sum := "5bf0f2cfdff968259f888bd6d218db853bc68e36856673bf99ffeaeed20a1011", func := "hawser/hawserlaw04.FrameRuns", spec := "frameRuns", unfollowed := true, recurses := true, named := ["hawser/crc.halves"], apart := false, laid := [("hawser/crc.halves", laid_hawser_crc_halves)] }
def FrameRunsSaid : Prop := frameRunsRow.holds Tryd.pinned (OpenSpec.ofChange frameRunsSpec)

/-- ITS FALSE NEIGHBOUR: 'it returns false'. Refute it at one input. -/
def frameRunsWrong : ChangeSpec := { name := "frameRuns", fn := fun _ => fun
  | [d1, d2, d3] => { results := [.lit (.bool false)], args := [d1, d2, d3] }
  | _ => none }
def FrameRunsWrongFalsely : Prop := frameRunsRow.holds Tryd.pinned (OpenSpec.ofChange frameRunsWrong)

/-- 'hawserlaw04.FrameOwn': WHATEVER THE INPUT: true; the input reads as it did. -/
def frameOwnSpec : ChangeSpec := { name := "frameOwn", fn := fun _ => fun
  | [d] => { results := [.lit (.bool true)], args := [d] }
  | _ => none }
def frameOwnRow : OpenClaim := { program := "ytegbgmihcokblaadoor", sum := "5bf0f2cfdff968259f888bd6d218db853bc68e36856673bf99ffeaeed20a1011", func := "hawser/hawserlaw04.FrameOwn", spec := "frameOwn", unfollowed := true, recurses := true, named := ["hawser/crc.halves"], apart := false, laid := [("hawser/crc.halves", laid_hawser_crc_halves)] }
def FrameOwnSaid : Prop := frameOwnRow.holds Tryd.pinned (OpenSpec.ofChange frameOwnSpec)

/-- ITS FALSE NEIGHBOUR: 'it returns false'. Refute it at one input. -/
def frameOwnWrong : ChangeSpec := { name := "frameOwn", fn := fun _ => fun
  | [d] => { results := [.lit (.bool false)], args := [d] }
  | _ => none }
def FrameOwnWrongFalsely : Prop := frameOwnRow.holds Tryd.pinned (OpenSpec.ofChange frameOwnWrong)

/- THE SECOND FORM. 'bulk': how many values and letters a reading holds, each counted each time it is reached (what is shared counts as often as it is met; a slice's spare places count too). A statement '..UptoSaid' is the law's where the arguments, and the package variables that the reading takes, are together of bulk at most 1048576: NARROWER than '..Said'. Prove '..Said' where nothing that the law and all that it calls make is longer than what came in: it says more and counts as full. Else prove '..UptoSaid'. A law counts once. -/
mutual
def uptoBulk {H : Type} : DataW H → Nat
  | .lit (.string bytes) => bytes.length + 1
  | .lit _ => 1
  | .nil => 1
  | .ptr d => uptoBulk d + 1
  | .slice elems spare => uptoBulkAll elems + uptoBulkAll spare + 1
  | .agg parts => uptoBulkAll parts + 1
  | .iface _ d => uptoBulk d + 1
  | .map entries => uptoBulkEntries entries + 1
  | .held _ => 1
def uptoBulkAll {H : Type} : List (DataW H) → Nat
  | [] => 0
  | d :: r => uptoBulk d + uptoBulkAll r
def uptoBulkEntries {H : Type} : List (Lit × DataW H) → Nat
  | [] => 0
  | x :: r => uptoBulkEntry x + uptoBulkEntries r
def uptoBulkEntry {H : Type} : Lit × DataW H → Nat
  | (.string bytes, d) => bytes.length + uptoBulk d + 1
  | (_, d) => uptoBulk d + 1
 end
def uptoSmall : (H : Type) → List (DataW H) → Bool := fun _ ds => decide (uptoBulkAll ds ≤ 1048576)
def OpenSpec.upto (s : _root_.Go.ChangeSpec) : _root_.Go.OpenSpec := { _root_.Go.OpenSpec.ofChange s with cond := some uptoSmall }

/-- 'hawserlaw04.FrameSplits', WHERE WHAT IT READS IS OF BULK AT MOST 1048576: true; the input reads as it did. -/
def frameSplitsUptoRow : OpenClaim := { program := "ytegbgmihcokblaadoor", sum := "5bf0f2cfdff968259f888bd6d218db853bc68e36856673bf99ffeaeed20a1011", func := "hawser/hawserlaw04.FrameSplits", spec := "frameSplits", unfollowed := true, recurses := true, named := ["hawser/crc.halves"], apart := false, laid := [("hawser/crc.halves", laid_hawser_crc_halves)], narrowed := true }
def FrameSplitsUptoSaid : Prop := frameSplitsUptoRow.holds Tryd.pinned (OpenSpec.upto frameSplitsSpec)

/-- 'hawserlaw04.FrameCuts', WHERE WHAT IT READS IS OF BULK AT MOST 1048576: true; the input reads as it did. -/
def frameCutsUptoRow : OpenClaim := { program := "ytegbgmihcokblaadoor", sum := "5bf0f2cfdff968259f888bd6d218db853bc68e36856673bf99ffeaeed20a1011", func := "hawser/hawserlaw04.FrameCuts", spec := "frameCuts", unfollowed := true, recurses := true, named := ["hawser/crc.halves"], apart := false, laid := [("hawser/crc.halves", laid_hawser_crc_halves)], narrowed := true }
def FrameCutsUptoSaid : Prop := frameCutsUptoRow.holds Tryd.pinned (OpenSpec.upto frameCutsSpec)

/-- 'hawserlaw04.FrameFound', WHERE WHAT IT READS IS OF BULK AT MOST 1048576: true; the input reads as it did. -/
def frameFoundUptoRow : OpenClaim := { program := "ytegbgmihcokblaadoor", sum := "5bf0f2cfdff968259f888bd6d218db853bc68e36856673bf99ffeaeed20a1011", func := "hawser/hawserlaw04.FrameFound", spec := "frameFound", unfollowed := true, recurses := true, named := ["hawser/crc.halves"], apart := false, laid := [("hawser/crc.halves", laid_hawser_crc_halves)], narrowed := true }
def FrameFoundUptoSaid : Prop := frameFoundUptoRow.holds Tryd.pinned (OpenSpec.upto frameFoundSpec)

/-- 'hawserlaw04.FrameFlips', WHERE WHAT IT READS IS OF BULK AT MOST 1048576: true; the input reads as it did. -/
def frameFlipsUptoRow : OpenClaim := { program := "ytegbgmihcokblaadoor", sum := "5bf0f2cfdff968259f888bd6d218db853bc68e36856673bf99ffeaeed20a1011", func := "hawser/hawserlaw04.FrameFlips", spec := "frameFlips", unfollowed := true, recurses := true, named := ["hawser/crc.halves"], apart := false, laid := [("hawser/crc.halves", laid_hawser_crc_halves)], narrowed := true }
def FrameFlipsUptoSaid : Prop := frameFlipsUptoRow.holds Tryd.pinned (OpenSpec.upto frameFlipsSpec)

/-- 'hawserlaw04.FrameRuns', WHERE WHAT IT READS IS OF BULK AT MOST 1048576: true; the input reads as it did. -/
def frameRunsUptoRow : OpenClaim := { program := "ytegbgmihcokblaadoor", sum := "5bf0f2cfdff968259f888bd6d218db853bc68e36856673bf99ffeaeed20a1011", func := "hawser/hawserlaw04.FrameRuns", spec := "frameRuns", unfollowed := true, recurses := true, named := ["hawser/crc.halves"], apart := false, laid := [("hawser/crc.halves", laid_hawser_crc_halves)], narrowed := true }
def FrameRunsUptoSaid : Prop := frameRunsUptoRow.holds Tryd.pinned (OpenSpec.upto frameRunsSpec)

/-- 'hawserlaw04.FrameOwn', WHERE WHAT IT READS IS OF BULK AT MOST 1048576: true; the input reads as it did. -/
def frameOwnUptoRow : OpenClaim := { program := "ytegbgmihcokblaadoor", sum := "5bf0f2cfdff968259f888bd6d218db853bc68e36856673bf99ffeaeed20a1011", func := "hawser/hawserlaw04.FrameOwn", spec := "frameOwn", unfollowed := true, recurses := true, named := ["hawser/crc.halves"], apart := false, laid := [("hawser/crc.halves", laid_hawser_crc_halves)], narrowed := true }
def FrameOwnUptoSaid : Prop := frameOwnUptoRow.holds Tryd.pinned (OpenSpec.upto frameOwnSpec)

end Rows
end Go.Proofs.YtegbgmihcokblaaDoor
