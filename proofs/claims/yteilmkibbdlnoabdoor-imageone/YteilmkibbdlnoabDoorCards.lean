/-
  DERIVED. GIVEN WITH THE SEED: THE CARDS: each row of YteilmkibbdlnoabDoorRows.lean that lists a variable, with what it lists TIED to the program's text (the seventh form; the later family's looks); each row that meets fmt, with fmt's text TOLD by the authors' own Lean function (tested against real Go, not proved from fmt's source: count such statements apart). THE CARD IS WHAT COUNTS. Prove the row's statement (the work); the ties are given (YteilmkibbdlnoabDoorTie.lean); close each card by the builder's one call (the guide's Derived/Test/ToyasCard.lean, 'card_holds'). Laid BY PROGRAM, IN A SANDBOX (cutbox-door.mjs). By AI agents, Wed Nov 11 2026. No macro, syntax, notation, axiom, sorry.
-/
import Derived.Test.YteilmkibbdlnoabDoorRows
import GoSem.ClaimSeven
namespace Go.Proofs.YteilmkibbdlnoabDoor
namespace Rows

/-- THE TIED CARD OF 'hawserlaw09.ImageOne'. -/
def imageOneCard : Claim7 := { stood := { row := imageOneRow, standIns := [], harness := (true, "6a0ab2db1ff73c27da6a6961437f98b92abf7d0e35278698563ccae8eac6720b"), looks := false }, kinds := [], alts := [], laidByText := true, laidKinds := [.data], laidTests := true, laidLooks := .later }
def ImageOneCardSaid : Prop := Claim7.holds Tryd.pinned (.plain (OpenSpec.ofChange imageOneSpec)) imageOneCard

/-- THE TIED CARD OF 'hawserlaw09.ImageFlips'. -/
def imageFlipsCard : Claim7 := { stood := { row := imageFlipsRow, standIns := [], harness := (true, "6a0ab2db1ff73c27da6a6961437f98b92abf7d0e35278698563ccae8eac6720b"), looks := false }, kinds := [], alts := [], laidByText := true, laidKinds := [.data], laidTests := true, laidLooks := .later }
def ImageFlipsCardSaid : Prop := Claim7.holds Tryd.pinned (.plain (OpenSpec.ofChange imageFlipsSpec)) imageFlipsCard

/-- THE TIED CARD OF 'hawserlaw09.ImagePieces'. -/
def imagePiecesCard : Claim7 := { stood := { row := imagePiecesRow, standIns := [], harness := (true, "6a0ab2db1ff73c27da6a6961437f98b92abf7d0e35278698563ccae8eac6720b"), looks := false }, kinds := [], alts := [], laidByText := true, laidKinds := [.data], laidTests := true, laidLooks := .later }
def ImagePiecesCardSaid : Prop := Claim7.holds Tryd.pinned (.plain (OpenSpec.ofChange imagePiecesSpec)) imagePiecesCard

/-- THE TIED CARD OF 'hawserlaw09.ImageMade'. -/
def imageMadeCard : Claim7 := { stood := { row := imageMadeRow, standIns := [], harness := (true, "6a0ab2db1ff73c27da6a6961437f98b92abf7d0e35278698563ccae8eac6720b"), looks := false }, kinds := [], alts := [], laidByText := true, laidKinds := [.data], laidTests := true, laidLooks := .later }
def ImageMadeCardSaid : Prop := Claim7.holds Tryd.pinned (.plain (OpenSpec.ofChange imageMadeSpec)) imageMadeCard

/-- THE SECOND FORM's CARD OF 'hawserlaw09.ImageOne'. -/
def imageOneUptoCard : Claim7 := { stood := { row := imageOneUptoRow, standIns := [], harness := (true, "6a0ab2db1ff73c27da6a6961437f98b92abf7d0e35278698563ccae8eac6720b"), looks := false }, kinds := [], alts := [], laidByText := true, laidKinds := [.data], laidTests := true, laidLooks := .later }
def ImageOneUptoCardSaid : Prop := Claim7.holds Tryd.pinned (.plain (OpenSpec.upto imageOneSpec)) imageOneUptoCard

/-- THE SECOND FORM's CARD OF 'hawserlaw09.ImageFlips'. -/
def imageFlipsUptoCard : Claim7 := { stood := { row := imageFlipsUptoRow, standIns := [], harness := (true, "6a0ab2db1ff73c27da6a6961437f98b92abf7d0e35278698563ccae8eac6720b"), looks := false }, kinds := [], alts := [], laidByText := true, laidKinds := [.data], laidTests := true, laidLooks := .later }
def ImageFlipsUptoCardSaid : Prop := Claim7.holds Tryd.pinned (.plain (OpenSpec.upto imageFlipsSpec)) imageFlipsUptoCard

/-- THE SECOND FORM's CARD OF 'hawserlaw09.ImagePieces'. -/
def imagePiecesUptoCard : Claim7 := { stood := { row := imagePiecesUptoRow, standIns := [], harness := (true, "6a0ab2db1ff73c27da6a6961437f98b92abf7d0e35278698563ccae8eac6720b"), looks := false }, kinds := [], alts := [], laidByText := true, laidKinds := [.data], laidTests := true, laidLooks := .later }
def ImagePiecesUptoCardSaid : Prop := Claim7.holds Tryd.pinned (.plain (OpenSpec.upto imagePiecesSpec)) imagePiecesUptoCard

/-- THE SECOND FORM's CARD OF 'hawserlaw09.ImageMade'. -/
def imageMadeUptoCard : Claim7 := { stood := { row := imageMadeUptoRow, standIns := [], harness := (true, "6a0ab2db1ff73c27da6a6961437f98b92abf7d0e35278698563ccae8eac6720b"), looks := false }, kinds := [], alts := [], laidByText := true, laidKinds := [.data], laidTests := true, laidLooks := .later }
def ImageMadeUptoCardSaid : Prop := Claim7.holds Tryd.pinned (.plain (OpenSpec.upto imageMadeSpec)) imageMadeUptoCard
end Rows
end Go.Proofs.YteilmkibbdlnoabDoor
