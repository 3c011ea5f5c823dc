/-
  DERIVED. GIVEN WITH THE SEED: THE CARDS: each row of YtdgoncpebfkbdacDoorRows.lean that lists a variable, with what it lists TIED to the program's text (the seventh form; the later family's looks); each row that meets fmt, with fmt's text TOLD by the authors' own Lean function (tested against real Go, not proved from fmt's source: count such statements apart). THE CARD IS WHAT COUNTS. Prove the row's statement (the work); the ties are given (YtdgoncpebfkbdacDoorTie.lean); close each card by the builder's one call (the guide's Derived/Test/ToyasCard.lean, 'card_holds'). Laid BY PROGRAM, IN A SANDBOX (cutbox-door.mjs). By AI agents, Wed Nov 11 2026. No macro, syntax, notation, axiom, sorry.
-/
import Derived.Test.YtdgoncpebfkbdacDoorRows
import GoSem.ClaimSeven
namespace Go.Proofs.YtdgoncpebfkbdacDoor
namespace Rows

/-- THE TIED CARD OF 'hawserlaw04.FrameSplits'. -/
def frameSplitsCard : Claim7 := { stood := { row := frameSplitsRow, standIns := [], harness := (true, "c9fdd0c54b26d1d8be6ea95830ebef08788ce82c3c20c7d7311c4073954e7d6f"), looks := false }, kinds := [], alts := [], laidByText := true, laidKinds := [.data], laidTests := true, laidLooks := .later }
def FrameSplitsCardSaid : Prop := Claim7.holds Tryd.pinned (.plain (OpenSpec.ofChange frameSplitsSpec)) frameSplitsCard

/-- THE TIED CARD OF 'hawserlaw04.FrameNil'. -/
def frameNilCard : Claim7 := { stood := { row := frameNilRow, standIns := [], harness := (true, "c9fdd0c54b26d1d8be6ea95830ebef08788ce82c3c20c7d7311c4073954e7d6f"), looks := false }, kinds := [], alts := [], laidByText := true, laidKinds := [.data], laidTests := true, laidLooks := .later }
def FrameNilCardSaid : Prop := Claim7.holds Tryd.pinned (.plain (OpenSpec.ofChange frameNilSpec)) frameNilCard

/-- THE TIED CARD OF 'hawserlaw04.FrameRound'. -/
def frameRoundCard : Claim7 := { stood := { row := frameRoundRow, standIns := [], harness := (true, "c9fdd0c54b26d1d8be6ea95830ebef08788ce82c3c20c7d7311c4073954e7d6f"), looks := false }, kinds := [], alts := [], laidByText := true, laidKinds := [.data], laidTests := true, laidLooks := .later }
def FrameRoundCardSaid : Prop := Claim7.holds Tryd.pinned (.plain (OpenSpec.ofChange frameRoundSpec)) frameRoundCard

/-- THE TIED CARD OF 'hawserlaw04.FrameCanon'. -/
def frameCanonCard : Claim7 := { stood := { row := frameCanonRow, standIns := [], harness := (true, "c9fdd0c54b26d1d8be6ea95830ebef08788ce82c3c20c7d7311c4073954e7d6f"), looks := false }, kinds := [], alts := [], laidByText := true, laidKinds := [.data], laidTests := true, laidLooks := .later }
def FrameCanonCardSaid : Prop := Claim7.holds Tryd.pinned (.plain (OpenSpec.ofChange frameCanonSpec)) frameCanonCard

/-- THE TIED CARD OF 'hawserlaw04.FrameCuts'. -/
def frameCutsCard : Claim7 := { stood := { row := frameCutsRow, standIns := [], harness := (true, "c9fdd0c54b26d1d8be6ea95830ebef08788ce82c3c20c7d7311c4073954e7d6f"), looks := false }, kinds := [], alts := [], laidByText := true, laidKinds := [.data], laidTests := true, laidLooks := .later }
def FrameCutsCardSaid : Prop := Claim7.holds Tryd.pinned (.plain (OpenSpec.ofChange frameCutsSpec)) frameCutsCard

/-- THE TIED CARD OF 'hawserlaw04.FrameFound'. -/
def frameFoundCard : Claim7 := { stood := { row := frameFoundRow, standIns := [], harness := (true, "c9fdd0c54b26d1d8be6ea95830ebef08788ce82c3c20c7d7311c4073954e7d6f"), looks := false }, kinds := [], alts := [], laidByText := true, laidKinds := [.data], laidTests := true, laidLooks := .later }
def FrameFoundCardSaid : Prop := Claim7.holds Tryd.pinned (.plain (OpenSpec.ofChange frameFoundSpec)) frameFoundCard

/-- THE SECOND FORM's CARD OF 'hawserlaw04.FrameSplits'. -/
def frameSplitsUptoCard : Claim7 := { stood := { row := frameSplitsUptoRow, standIns := [], harness := (true, "c9fdd0c54b26d1d8be6ea95830ebef08788ce82c3c20c7d7311c4073954e7d6f"), looks := false }, kinds := [], alts := [], laidByText := true, laidKinds := [.data], laidTests := true, laidLooks := .later }
def FrameSplitsUptoCardSaid : Prop := Claim7.holds Tryd.pinned (.plain (OpenSpec.upto frameSplitsSpec)) frameSplitsUptoCard

/-- THE SECOND FORM's CARD OF 'hawserlaw04.FrameNil'. -/
def frameNilUptoCard : Claim7 := { stood := { row := frameNilUptoRow, standIns := [], harness := (true, "c9fdd0c54b26d1d8be6ea95830ebef08788ce82c3c20c7d7311c4073954e7d6f"), looks := false }, kinds := [], alts := [], laidByText := true, laidKinds := [.data], laidTests := true, laidLooks := .later }
def FrameNilUptoCardSaid : Prop := Claim7.holds Tryd.pinned (.plain (OpenSpec.upto frameNilSpec)) frameNilUptoCard

/-- THE SECOND FORM's CARD OF 'hawserlaw04.FrameRound'. -/
def frameRoundUptoCard : Claim7 := { stood := { row := frameRoundUptoRow, standIns := [], harness := (true, "c9fdd0c54b26d1d8be6ea95830ebef08788ce82c3c20c7d7311c4073954e7d6f"), looks := false }, kinds := [], alts := [], laidByText := true, laidKinds := [.data], laidTests := true, laidLooks := .later }
def FrameRoundUptoCardSaid : Prop := Claim7.holds Tryd.pinned (.plain (OpenSpec.upto frameRoundSpec)) frameRoundUptoCard

/-- THE SECOND FORM's CARD OF 'hawserlaw04.FrameCanon'. -/
def frameCanonUptoCard : Claim7 := { stood := { row := frameCanonUptoRow, standIns := [], harness := (true, "c9fdd0c54b26d1d8be6ea95830ebef08788ce82c3c20c7d7311c4073954e7d6f"), looks := false }, kinds := [], alts := [], laidByText := true, laidKinds := [.data], laidTests := true, laidLooks := .later }
def FrameCanonUptoCardSaid : Prop := Claim7.holds Tryd.pinned (.plain (OpenSpec.upto frameCanonSpec)) frameCanonUptoCard

/-- THE SECOND FORM's CARD OF 'hawserlaw04.FrameCuts'. -/
def frameCutsUptoCard : Claim7 := { stood := { row := frameCutsUptoRow, standIns := [], harness := (true, "c9fdd0c54b26d1d8be6ea95830ebef08788ce82c3c20c7d7311c4073954e7d6f"), looks := false }, kinds := [], alts := [], laidByText := true, laidKinds := [.data], laidTests := true, laidLooks := .later }
def FrameCutsUptoCardSaid : Prop := Claim7.holds Tryd.pinned (.plain (OpenSpec.upto frameCutsSpec)) frameCutsUptoCard

/-- THE SECOND FORM's CARD OF 'hawserlaw04.FrameFound'. -/
def frameFoundUptoCard : Claim7 := { stood := { row := frameFoundUptoRow, standIns := [], harness := (true, "c9fdd0c54b26d1d8be6ea95830ebef08788ce82c3c20c7d7311c4073954e7d6f"), looks := false }, kinds := [], alts := [], laidByText := true, laidKinds := [.data], laidTests := true, laidLooks := .later }
def FrameFoundUptoCardSaid : Prop := Claim7.holds Tryd.pinned (.plain (OpenSpec.upto frameFoundSpec)) frameFoundUptoCard
end Rows
end Go.Proofs.YtdgoncpebfkbdacDoor
