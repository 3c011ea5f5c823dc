/-
  NARROWER THAN 'FOR EVERY INPUT', by the rows' own cells (each row's printed sentence says how): ImageEncodes: laid · ImageDecodes: laid · ImageOpens: laid · ImageBack: laid · ImageFlips: laid · ImagePieces: laid.
  DERIVED. THE GIVEN ROWS OF THIS SEAT. 6 by the template 'for every input the law returns true; each argument reads behind the call as it read before'; 0 by the template 'total and deterministic' (their statements: YtcdgfghcmeadgaaDoorTotals.lean).
  GIVEN WITH THE SEED: the statements are not yours to turn. If you find one false, say at which input.
  Laid BY PROGRAM, IN A SANDBOX (cutbox-rows.mjs): the forced cells as the released guide's own fill.sh prints them over the translation 651526454839e8a0… (all of the seat's roots in one cut). By AI agents, Wed Nov 11 2026. No macro, syntax, notation, axiom, sorry.
-/
import Derived.Test.YtcdgfghcmeadgaaDoorChecked
import GoSem.Claim
import GoSem.ClaimJoined
import GoSem.ClaimMapViews
import Derived.JoinedTies
import Derived.KernelRfl
namespace Go.Proofs.YtcdgfghcmeadgaaDoor
/- THE CELL 'sum', in the pinned program and in every row, IS THE sha256 OF THE DUMP (.gsa) THAT YtcdgfghcmeadgaaDoorProg.lean LOADS. Nothing in Lean hashes anything: it is a label: what it is worth is what the hold of that sum in a sandbox is worth. -/
noncomputable def Tryd.pinned : Pinned := { name := "ytcdgfghcmeadgaadoor", sum := "651526454839e8a0b06766fedc4be94ce0a83237500dcb8363540e1e9c3d6a02", checked := Tryd.checked }
namespace Rows
def none {H : Type} : Left H := { results := [], args := [] }

/- WHAT THE LISTED PACKAGE-LEVEL VARIABLES READ AS WHEN THE CALL BEGINS. Each datum BY PROGRAM (the guide's laid-datum.mjs) off the statement by which the dump's own 'gosem.cut.vars' lays the variable. In a bare row this is a premise. The card (YtcdgfghcmeadgaaDoorCards.lean) ties it to the program's text. -/
def laid_hawser_crc_halves {H : Type} : DataW H := .agg [.lit (.int .u32 0), .lit (.int .u32 274646895), .lit (.int .u32 549293790), .lit (.int .u32 820201905), .lit (.int .u32 1098587580), .lit (.int .u32 1361435347), .lit (.int .u32 1640403810), .lit (.int .u32 1905808397), .lit (.int .u32 2197175160), .lit (.int .u32 2460548119), .lit (.int .u32 2722870694), .lit (.int .u32 2987750089), .lit (.int .u32 3280807620), .lit (.int .u32 3553878443), .lit (.int .u32 3811616794), .lit (.int .u32 4084100981)]

/-- 'hawserlaw09.ImageEncodes': WHATEVER THE INPUT: true; the input reads as it did. -/
def imageEncodesSpec : ChangeSpec := { name := "imageEncodes", fn := fun _ => fun
  | [d1, d2] => { results := [.lit (.bool true)], args := [d1, d2] }
  | _ => none }
def imageEncodesRow : OpenClaim := { program := "ytcdgfghcmeadgaadoor", sum := "651526454839e8a0b06766fedc4be94ce0a83237500dcb8363540e1e9c3d6a02", func := "hawser/hawserlaw09.ImageEncodes", spec := "imageEncodes", recurses := true, named := ["hawser/crc.halves"], apart := false, laid := [("hawser/crc.halves", laid_hawser_crc_halves)] }
def ImageEncodesSaid : Prop := imageEncodesRow.holds Tryd.pinned (OpenSpec.ofChange imageEncodesSpec)

/-- ITS FALSE NEIGHBOUR: 'it returns false'. Refute it at one input. -/
def imageEncodesWrong : ChangeSpec := { name := "imageEncodes", fn := fun _ => fun
  | [d1, d2] => { results := [.lit (.bool false)], args := [d1, d2] }
  | _ => none }
def ImageEncodesWrongFalsely : Prop := imageEncodesRow.holds Tryd.pinned (OpenSpec.ofChange imageEncodesWrong)

/-- 'hawserlaw09.ImageDecodes': WHATEVER THE INPUT: true; the input reads as it did. -/
def imageDecodesSpec : ChangeSpec := { name := "imageDecodes", fn := fun _ => fun
  | [d] => { results := [.lit (.bool true)], args := [d] }
  | _ => none }
def imageDecodesRow : OpenClaim := { program := "ytcdgfghcmeadgaadoor", sum := "651526454839e8a0b06766fedc4be94ce0a83237500dcb8363540e1e9c3d6a02", func := "hawser/hawserlaw09.ImageDecodes", spec := "imageDecodes", unfollowed := true, recurses := true, named := ["hawser/crc.halves"], apart := false, laid := [("hawser/crc.halves", laid_hawser_crc_halves)] }
def ImageDecodesSaid : Prop := imageDecodesRow.holds Tryd.pinned (OpenSpec.ofChange imageDecodesSpec)

/-- ITS FALSE NEIGHBOUR: 'it returns false'. Refute it at one input. -/
def imageDecodesWrong : ChangeSpec := { name := "imageDecodes", fn := fun _ => fun
  | [d] => { results := [.lit (.bool false)], args := [d] }
  | _ => none }
def ImageDecodesWrongFalsely : Prop := imageDecodesRow.holds Tryd.pinned (OpenSpec.ofChange imageDecodesWrong)

/-- 'hawserlaw09.ImageOpens': WHATEVER THE INPUT: true; the input reads as it did. -/
def imageOpensSpec : ChangeSpec := { name := "imageOpens", fn := fun _ => fun
  | [d] => { results := [.lit (.bool true)], args := [d] }
  | _ => none }
def imageOpensRow : OpenClaim := { program := "ytcdgfghcmeadgaadoor", sum := "651526454839e8a0b06766fedc4be94ce0a83237500dcb8363540e1e9c3d6a02", func := "hawser/hawserlaw09.ImageOpens", spec := "imageOpens", unfollowed := true, recurses := true, named := ["hawser/crc.halves"], apart := false, laid := [("hawser/crc.halves", laid_hawser_crc_halves)] }
def ImageOpensSaid : Prop := imageOpensRow.holds Tryd.pinned (OpenSpec.ofChange imageOpensSpec)

/-- ITS FALSE NEIGHBOUR: 'it returns false'. Refute it at one input. -/
def imageOpensWrong : ChangeSpec := { name := "imageOpens", fn := fun _ => fun
  | [d] => { results := [.lit (.bool false)], args := [d] }
  | _ => none }
def ImageOpensWrongFalsely : Prop := imageOpensRow.holds Tryd.pinned (OpenSpec.ofChange imageOpensWrong)

/-- 'hawserlaw09.ImageBack': WHATEVER THE INPUT: true; the input reads as it did. -/
def imageBackSpec : ChangeSpec := { name := "imageBack", fn := fun _ => fun
  | [d] => { results := [.lit (.bool true)], args := [d] }
  | _ => none }
def imageBackRow : OpenClaim := { program := "ytcdgfghcmeadgaadoor", sum := "651526454839e8a0b06766fedc4be94ce0a83237500dcb8363540e1e9c3d6a02", func := "hawser/hawserlaw09.ImageBack", spec := "imageBack", unfollowed := true, recurses := true, named := ["hawser/crc.halves"], apart := false, laid := [("hawser/crc.halves", laid_hawser_crc_halves)] }
def ImageBackSaid : Prop := imageBackRow.holds Tryd.pinned (OpenSpec.ofChange imageBackSpec)

/-- ITS FALSE NEIGHBOUR: 'it returns false'. Refute it at one input. -/
def imageBackWrong : ChangeSpec := { name := "imageBack", fn := fun _ => fun
  | [d] => { results := [.lit (.bool false)], args := [d] }
  | _ => none }
def ImageBackWrongFalsely : Prop := imageBackRow.holds Tryd.pinned (OpenSpec.ofChange imageBackWrong)

/-- 'hawserlaw09.ImageFlips': WHATEVER THE INPUT: true; the input reads as it did. -/
def imageFlipsSpec : ChangeSpec := { name := "imageFlips", fn := fun _ => fun
  | [d1, d2] => { results := [.lit (.bool true)], args := [d1, d2] }
  | _ => none }
def imageFlipsRow : OpenClaim := { program := "ytcdgfghcmeadgaadoor", sum := "651526454839e8a0b06766fedc4be94ce0a83237500dcb8363540e1e9c3d6a02", func := "hawser/hawserlaw09.ImageFlips", spec := "imageFlips", unfollowed := true, recurses := true, named := ["hawser/crc.halves"], apart := false, laid := [("hawser/crc.halves", laid_hawser_crc_halves)] }
def ImageFlipsSaid : Prop := imageFlipsRow.holds Tryd.pinned (OpenSpec.ofChange imageFlipsSpec)

/-- ITS FALSE NEIGHBOUR: 'it returns false'. Refute it at one input. -/
def imageFlipsWrong : ChangeSpec := { name := "imageFlips", fn := fun _ => fun
  | [d1, d2] => { results := [.lit (.bool false)], args := [d1, d2] }
  | _ => none }
def ImageFlipsWrongFalsely : Prop := imageFlipsRow.holds Tryd.pinned (OpenSpec.ofChange imageFlipsWrong)

/-- 'hawserlaw09.ImagePieces': WHATEVER THE INPUT: true; the input reads as it did. -/
def imagePiecesSpec : ChangeSpec := { name := "imagePieces", fn := fun _ => fun
  | [d1, d2] => { results := [.lit (.bool true)], args := [d1, d2] }
  | _ => none }
def imagePiecesRow : OpenClaim := { program := "ytcdgfghcmeadgaadoor", sum := "651526454839e8a0b06766fedc4be94ce0a83237500dcb8363540e1e9c3d6a02", func := "hawser/hawserlaw09.ImagePieces", spec := "imagePieces", unfollowed := true, recurses := true, named := ["hawser/crc.halves"], apart := false, laid := [("hawser/crc.halves", laid_hawser_crc_halves)] }
def ImagePiecesSaid : Prop := imagePiecesRow.holds Tryd.pinned (OpenSpec.ofChange imagePiecesSpec)

/-- ITS FALSE NEIGHBOUR: 'it returns false'. Refute it at one input. -/
def imagePiecesWrong : ChangeSpec := { name := "imagePieces", fn := fun _ => fun
  | [d1, d2] => { results := [.lit (.bool false)], args := [d1, d2] }
  | _ => none }
def ImagePiecesWrongFalsely : Prop := imagePiecesRow.holds Tryd.pinned (OpenSpec.ofChange imagePiecesWrong)

/- THE SECOND FORM. 'bulk': how many values and letters a reading holds, each counted each time it is reached (what is shared counts as often as it is met; a slice's spare places count too). A statement '..UptoSaid' is the law's where the arguments, and the package variables that the reading takes, are together of bulk at most 1048576: NARROWER than '..Said'. Prove '..Said' where nothing that the law and all that it calls make is longer than what came in: it says more and counts as full. Else prove '..UptoSaid'. A law counts once. -/
mutual
def uptoBulk {H : Type} : DataW H → Nat
  | .lit (.string bytes) => bytes.length + 1
  | .lit _ => 1
  | .nil => 1
  | .ptr d => uptoBulk d + 1
  | .slice elems spare => uptoBulkAll elems + uptoBulkAll spare + 1
  | .agg parts => uptoBulkAll parts + 1
  | .iface _ d => uptoBulk d + 1
  | .map entries => uptoBulkEntries entries + 1
  | .held _ => 1
def uptoBulkAll {H : Type} : List (DataW H) → Nat
  | [] => 0
  | d :: r => uptoBulk d + uptoBulkAll r
def uptoBulkEntries {H : Type} : List (Lit × DataW H) → Nat
  | [] => 0
  | x :: r => uptoBulkEntry x + uptoBulkEntries r
def uptoBulkEntry {H : Type} : Lit × DataW H → Nat
  | (.string bytes, d) => bytes.length + uptoBulk d + 1
  | (_, d) => uptoBulk d + 1
 end
def uptoSmall : (H : Type) → List (DataW H) → Bool := fun _ ds => decide (uptoBulkAll ds ≤ 1048576)
def OpenSpec.upto (s : _root_.Go.ChangeSpec) : _root_.Go.OpenSpec := { _root_.Go.OpenSpec.ofChange s with cond := some uptoSmall }

/-- 'hawserlaw09.ImageEncodes', WHERE WHAT IT READS IS OF BULK AT MOST 1048576: true; the input reads as it did. -/
def imageEncodesUptoRow : OpenClaim := { program := "ytcdgfghcmeadgaadoor", sum := "651526454839e8a0b06766fedc4be94ce0a83237500dcb8363540e1e9c3d6a02", func := "hawser/hawserlaw09.ImageEncodes", spec := "imageEncodes", recurses := true, named := ["hawser/crc.halves"], apart := false, laid := [("hawser/crc.halves", laid_hawser_crc_halves)], narrowed := true }
def ImageEncodesUptoSaid : Prop := imageEncodesUptoRow.holds Tryd.pinned (OpenSpec.upto imageEncodesSpec)

/-- 'hawserlaw09.ImageDecodes', WHERE WHAT IT READS IS OF BULK AT MOST 1048576: true; the input reads as it did. -/
def imageDecodesUptoRow : OpenClaim := { program := "ytcdgfghcmeadgaadoor", sum := "651526454839e8a0b06766fedc4be94ce0a83237500dcb8363540e1e9c3d6a02", func := "hawser/hawserlaw09.ImageDecodes", spec := "imageDecodes", unfollowed := true, recurses := true, named := ["hawser/crc.halves"], apart := false, laid := [("hawser/crc.halves", laid_hawser_crc_halves)], narrowed := true }
def ImageDecodesUptoSaid : Prop := imageDecodesUptoRow.holds Tryd.pinned (OpenSpec.upto imageDecodesSpec)

/-- 'hawserlaw09.ImageOpens', WHERE WHAT IT READS IS OF BULK AT MOST 1048576: true; the input reads as it did. -/
def imageOpensUptoRow : OpenClaim := { program := "ytcdgfghcmeadgaadoor", sum := "651526454839e8a0b06766fedc4be94ce0a83237500dcb8363540e1e9c3d6a02", func := "hawser/hawserlaw09.ImageOpens", spec := "imageOpens", unfollowed := true, recurses := true, named := ["hawser/crc.halves"], apart := false, laid := [("hawser/crc.halves", laid_hawser_crc_halves)], narrowed := true }
def ImageOpensUptoSaid : Prop := imageOpensUptoRow.holds Tryd.pinned (OpenSpec.upto imageOpensSpec)

/-- 'hawserlaw09.ImageBack', WHERE WHAT IT READS IS OF BULK AT MOST 1048576: true; the input reads as it did. -/
def imageBackUptoRow : OpenClaim := { program := "ytcdgfghcmeadgaadoor", sum := "651526454839e8a0b06766fedc4be94ce0a83237500dcb8363540e1e9c3d6a02", func := "hawser/hawserlaw09.ImageBack", spec := "imageBack", unfollowed := true, recurses := true, named := ["hawser/crc.halves"], apart := false, laid := [("hawser/crc.halves", laid_hawser_crc_halves)], narrowed := true }
def ImageBackUptoSaid : Prop := imageBackUptoRow.holds Tryd.pinned (OpenSpec.upto imageBackSpec)

/-- 'hawserlaw09.ImageFlips', WHERE WHAT IT READS IS OF BULK AT MOST 1048576: true; the input reads as it did. -/
def imageFlipsUptoRow : OpenClaim := { program := "ytcdgfghcmeadgaadoor", sum := "651526454839e8a0b06766fedc4be94ce0a83237500dcb8363540e1e9c3d6a02", func := "hawser/hawserlaw09.ImageFlips", spec := "imageFlips", unfollowed := true, recurses := true, named := ["hawser/crc.halves"], apart := false, laid := [("hawser/crc.halves", laid_hawser_crc_halves)], narrowed := true }
def ImageFlipsUptoSaid : Prop := imageFlipsUptoRow.holds Tryd.pinned (OpenSpec.upto imageFlipsSpec)

/-- 'hawserlaw09.ImagePieces', WHERE WHAT IT READS IS OF BULK AT MOST 1048576: true; the input reads as it did. -/
def imagePiecesUptoRow : OpenClaim := { program := "ytcdgfghcmeadgaadoor", sum := "651526454839e8a0b06766fedc4be94ce0a83237500dcb8363540e1e9c3d6a02", func := "hawser/hawserlaw09.ImagePieces", spec := "imagePieces", unfollowed := true, recurses := true, named := ["hawser/crc.halves"], apart := false, laid := [("hawser/crc.halves", laid_hawser_crc_halves)], narrowed := true }
def ImagePiecesUptoSaid : Prop := imagePiecesUptoRow.holds Tryd.pinned (OpenSpec.upto imagePiecesSpec)

end Rows
end Go.Proofs.YtcdgfghcmeadgaaDoor
