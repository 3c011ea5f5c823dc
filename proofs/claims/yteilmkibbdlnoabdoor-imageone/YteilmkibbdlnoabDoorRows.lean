/-
  NARROWER THAN 'FOR EVERY INPUT', by the rows' own cells (each row's printed sentence says how): ImageOne: laid · ImageFlips: laid · ImagePieces: laid · ImageMade: laid.
  DERIVED. THE GIVEN ROWS OF THIS SEAT. 4 by the template 'for every input the law returns true; each argument reads behind the call as it read before'; 0 by the template 'total and deterministic' (their statements: YteilmkibbdlnoabDoorTotals.lean).
  GIVEN WITH THE SEED: the statements are not yours to turn. If you find one false, say at which input.
  Laid BY PROGRAM, IN A SANDBOX (cutbox-rows.mjs): the forced cells as the released guide's own fill.sh prints them over the translation db9e0f566502f168… (all of the seat's roots in one cut). By AI agents, Wed Nov 11 2026. No macro, syntax, notation, axiom, sorry.
-/
import Derived.Test.YteilmkibbdlnoabDoorChecked
import GoSem.Claim
import GoSem.ClaimJoined
import GoSem.ClaimMapViews
import Derived.JoinedTies
import Derived.KernelRfl
namespace Go.Proofs.YteilmkibbdlnoabDoor
/- THE CELL 'sum', in the pinned program and in every row, IS THE sha256 OF THE DUMP (.gsa) THAT YteilmkibbdlnoabDoorProg.lean LOADS. Nothing in Lean hashes anything: it is a label: what it is worth is what the hold of that sum in a sandbox is worth. -/
noncomputable def Tryd.pinned : Pinned := { name := "yteilmkibbdlnoabdoor", sum := "db9e0f566502f168ae14a692026fc85252ff93116fc1a1f567af083cd53fa276", checked := Tryd.checked }
namespace Rows
def none {H : Type} : Left H := { results := [], args := [] }

/- WHAT THE LISTED PACKAGE-LEVEL VARIABLES READ AS WHEN THE CALL BEGINS. Each datum BY PROGRAM (the guide's laid-datum.mjs) off the statement by which the dump's own 'gosem.cut.vars' lays the variable. In a bare row this is a premise. The card (YteilmkibbdlnoabDoorCards.lean) ties it to the program's text. -/
def laid_hawser_crc_halves {H : Type} : DataW H := .agg [.lit (.int .u32 0), .lit (.int .u32 274646895), .lit (.int .u32 549293790), .lit (.int .u32 820201905), .lit (.int .u32 1098587580), .lit (.int .u32 1361435347), .lit (.int .u32 1640403810), .lit (.int .u32 1905808397), .lit (.int .u32 2197175160), .lit (.int .u32 2460548119), .lit (.int .u32 2722870694), .lit (.int .u32 2987750089), .lit (.int .u32 3280807620), .lit (.int .u32 3553878443), .lit (.int .u32 3811616794), .lit (.int .u32 4084100981)]

/-- 'hawserlaw09.ImageOne': WHATEVER THE INPUT: true; the input reads as it did. -/
def imageOneSpec : ChangeSpec := { name := "imageOne", fn := fun _ => fun
  | [d] => { results := [.lit (.bool true)], args := [d] }
  | _ => none }
def imageOneRow : OpenClaim := { program := "yteilmkibbdlnoabdoor", sum := "db9e0f566502f168ae14a692026fc85252ff93116fc1a1f567af083cd53fa276", func := "hawser/hawserlaw09.ImageOne", spec := "imageOne", unfollowed := true, recurses := true, named := ["hawser/crc.halves"], apart := false, laid := [("hawser/crc.halves", laid_hawser_crc_halves)] }
def ImageOneSaid : Prop := imageOneRow.holds Tryd.pinned (OpenSpec.ofChange imageOneSpec)

/-- ITS FALSE NEIGHBOUR: 'it returns false'. Refute it at one input. -/
def imageOneWrong : ChangeSpec := { name := "imageOne", fn := fun _ => fun
  | [d] => { results := [.lit (.bool false)], args := [d] }
  | _ => none }
def ImageOneWrongFalsely : Prop := imageOneRow.holds Tryd.pinned (OpenSpec.ofChange imageOneWrong)

/-- 'hawserlaw09.ImageFlips': WHATEVER THE INPUT: true; the input reads as it did. -/
def imageFlipsSpec : ChangeSpec := { name := "imageFlips", fn := fun _ => fun
  | [d1, d2] => { results := [.lit (.bool true)], args := [d1, d2] }
  | _ => none }
def imageFlipsRow : OpenClaim := { program := "yteilmkibbdlnoabdoor", sum := "db9e0f566502f168ae14a692026fc85252ff93116fc1a1f567af083cd53fa276", func := "hawser/hawserlaw09.ImageFlips", spec := "imageFlips", unfollowed := true, recurses := true, named := ["hawser/crc.halves"], apart := false, laid := [("hawser/crc.halves", laid_hawser_crc_halves)] }
def ImageFlipsSaid : Prop := imageFlipsRow.holds Tryd.pinned (OpenSpec.ofChange imageFlipsSpec)

/-- ITS FALSE NEIGHBOUR: 'it returns false'. Refute it at one input. -/
def imageFlipsWrong : ChangeSpec := { name := "imageFlips", fn := fun _ => fun
  | [d1, d2] => { results := [.lit (.bool false)], args := [d1, d2] }
  | _ => none }
def ImageFlipsWrongFalsely : Prop := imageFlipsRow.holds Tryd.pinned (OpenSpec.ofChange imageFlipsWrong)

/-- 'hawserlaw09.ImagePieces': WHATEVER THE INPUT: true; the input reads as it did. -/
def imagePiecesSpec : ChangeSpec := { name := "imagePieces", fn := fun _ => fun
  | [d1, d2] => { results := [.lit (.bool true)], args := [d1, d2] }
  | _ => none }
def imagePiecesRow : OpenClaim := { program := "yteilmkibbdlnoabdoor", sum := "db9e0f566502f168ae14a692026fc85252ff93116fc1a1f567af083cd53fa276", func := "hawser/hawserlaw09.ImagePieces", spec := "imagePieces", unfollowed := true, recurses := true, named := ["hawser/crc.halves"], apart := false, laid := [("hawser/crc.halves", laid_hawser_crc_halves)] }
def ImagePiecesSaid : Prop := imagePiecesRow.holds Tryd.pinned (OpenSpec.ofChange imagePiecesSpec)

/-- ITS FALSE NEIGHBOUR: 'it returns false'. Refute it at one input. -/
def imagePiecesWrong : ChangeSpec := { name := "imagePieces", fn := fun _ => fun
  | [d1, d2] => { results := [.lit (.bool false)], args := [d1, d2] }
  | _ => none }
def ImagePiecesWrongFalsely : Prop := imagePiecesRow.holds Tryd.pinned (OpenSpec.ofChange imagePiecesWrong)

/-- 'hawserlaw09.ImageMade': WHATEVER THE INPUT: true; the input reads as it did. -/
def imageMadeSpec : ChangeSpec := { name := "imageMade", fn := fun _ => fun
  | [d] => { results := [.lit (.bool true)], args := [d] }
  | _ => none }
def imageMadeRow : OpenClaim := { program := "yteilmkibbdlnoabdoor", sum := "db9e0f566502f168ae14a692026fc85252ff93116fc1a1f567af083cd53fa276", func := "hawser/hawserlaw09.ImageMade", spec := "imageMade", unfollowed := true, recurses := true, named := ["hawser/crc.halves"], apart := false, laid := [("hawser/crc.halves", laid_hawser_crc_halves)] }
def ImageMadeSaid : Prop := imageMadeRow.holds Tryd.pinned (OpenSpec.ofChange imageMadeSpec)

/-- ITS FALSE NEIGHBOUR: 'it returns false'. Refute it at one input. -/
def imageMadeWrong : ChangeSpec := { name := "imageMade", fn := fun _ => fun
  | [d] => { results := [.lit (.bool false)], args := [d] }
  | _ => none }
def ImageMadeWrongFalsely : Prop := imageMadeRow.holds Tryd.pinned (OpenSpec.ofChange imageMadeWrong)

/- THE SECOND FORM. 'bulk': how many values and letters a reading holds, each counted each time it is reached (what is shared counts as often as it is met; a slice's spare places count too). A statement '..UptoSaid' is the law's where the arguments, and the package variables that the reading takes, are together of bulk at most 1048576: NARROWER than '..Said'. Prove '..Said' where nothing that the law and all that it calls make is longer than what came in: it says more and counts as full. Else prove '..UptoSaid'. A law counts once. -/
mutual
def uptoBulk {H : Type} : DataW H → Nat
  | .lit (.string bytes) => bytes.length + 1
  | .lit _ => 1
  | .nil => 1
  | .ptr d => uptoBulk d + 1
  | .slice elems spare => uptoBulkAll elems + uptoBulkAll spare + 1
  | .agg parts => uptoBulkAll parts + 1
  | .iface _ d => uptoBulk d + 1
  | .map entries => uptoBulkEntries entries + 1
  | .held _ => 1
def uptoBulkAll {H : Type} : List (DataW H) → Nat
  | [] => 0
  | d :: r => uptoBulk d + uptoBulkAll r
def uptoBulkEntries {H : Type} : List (Lit × DataW H) → Nat
  | [] => 0
  | x :: r => uptoBulkEntry x + uptoBulkEntries r
def uptoBulkEntry {H : Type} : Lit × DataW H → Nat
  | (.string bytes, d) => bytes.length + uptoBulk d + 1
  | (_, d) => uptoBulk d + 1
 end
def uptoSmall : (H : Type) → List (DataW H) → Bool := fun _ ds => decide (uptoBulkAll ds ≤ 1048576)
def OpenSpec.upto (s : _root_.Go.ChangeSpec) : _root_.Go.OpenSpec := { _root_.Go.OpenSpec.ofChange s with cond := some uptoSmall }

/-- 'hawserlaw09.ImageOne', WHERE WHAT IT READS IS OF BULK AT MOST 1048576: true; the input reads as it did. -/
def imageOneUptoRow : OpenClaim := { program := "yteilmkibbdlnoabdoor", sum := "db9e0f566502f168ae14a692026fc85252ff93116fc1a1f567af083cd53fa276", func := "hawser/hawserlaw09.ImageOne", spec := "imageOne", unfollowed := true, recurses := true, named := ["hawser/crc.halves"], apart := false, laid := [("hawser/crc.halves", laid_hawser_crc_halves)], narrowed := true }
def ImageOneUptoSaid : Prop := imageOneUptoRow.holds Tryd.pinned (OpenSpec.upto imageOneSpec)

/-- 'hawserlaw09.ImageFlips', WHERE WHAT IT READS IS OF BULK AT MOST 1048576: true; the input reads as it did. -/
def imageFlipsUptoRow : OpenClaim := { program := "yteilmkibbdlnoabdoor", sum := "db9e0f566502f168ae14a692026fc85252ff93116fc1a1f567af083cd53fa276", func := "hawser/hawserlaw09.ImageFlips", spec := "imageFlips", unfollowed := true, recurses := true, named := ["hawser/crc.halves"], apart := false, laid := [("hawser/crc.halves", laid_hawser_crc_halves)], narrowed := true }
def ImageFlipsUptoSaid : Prop := imageFlipsUptoRow.holds Tryd.pinned (OpenSpec.upto imageFlipsSpec)

/-- 'hawserlaw09.ImagePieces', WHERE WHAT IT READS IS OF BULK AT MOST 1048576: true; the input reads as it did. -/
def imagePiecesUptoRow : OpenClaim := { program := "yteilmkibbdlnoabdoor", sum := "db9e0f566502f168ae14a692026fc85252ff93116fc1a1f567af083cd53fa276", func := "hawser/hawserlaw09.ImagePieces", spec := "imagePieces", unfollowed := true, recurses := true, named := ["hawser/crc.halves"], apart := false, laid := [("hawser/crc.halves", laid_hawser_crc_halves)], narrowed := true }
def ImagePiecesUptoSaid : Prop := imagePiecesUptoRow.holds Tryd.pinned (OpenSpec.upto imagePiecesSpec)

/-- 'hawserlaw09.ImageMade', WHERE WHAT IT READS IS OF BULK AT MOST 1048576: true; the input reads as it did. -/
def imageMadeUptoRow : OpenClaim := { program := "yteilmkibbdlnoabdoor", sum := "db9e0f566502f168ae14a692026fc85252ff93116fc1a1f567af083cd53fa276", func := "hawser/hawserlaw09.ImageMade", spec := "imageMade", unfollowed := true, recurses := true, named := ["hawser/crc.halves"], apart := false, laid := [("hawser/crc.halves", laid_hawser_crc_halves)], narrowed := true }
def ImageMadeUptoSaid : Prop := imageMadeUptoRow.holds Tryd.pinned (OpenSpec.upto imageMadeSpec)

end Rows
end Go.Proofs.YteilmkibbdlnoabDoor
