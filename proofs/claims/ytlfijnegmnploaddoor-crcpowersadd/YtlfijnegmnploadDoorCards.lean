/-
  DERIVED. GIVEN WITH THE SEED: THE CARDS: each row of YtlfijnegmnploadDoorRows.lean that lists a variable, with what it lists TIED to the program's text (the seventh form; the later family's looks); each row that meets fmt, with fmt's text TOLD by the authors' own Lean function (tested against real Go, not proved from fmt's source: count such statements apart). THE CARD IS WHAT COUNTS. Prove the row's statement (the work); the ties are given (YtlfijnegmnploadDoorTie.lean); close each card by the builder's one call (the guide's Derived/Test/ToyasCard.lean, 'card_holds'). Laid BY PROGRAM, IN A SANDBOX (cutbox-door.mjs). By AI agents, Wed Nov 11 2026. No macro, syntax, notation, axiom, sorry.
-/
import Derived.Test.YtlfijnegmnploadDoorRows
import GoSem.ClaimSeven
namespace Go.Proofs.YtlfijnegmnploadDoor
namespace Rows

/-- THE TIED CARD OF 'hawserlaw02.CrcPowersAdd'. -/
def crcPowersAddCard : Claim7 := { stood := { row := crcPowersAddRow, standIns := [], harness := (true, "fb9bf4d88e85d8e98a40c24b5719dcc1ca180c424c17b73f9bea7cccbaf54f97"), looks := false }, kinds := [], alts := [], laidByText := true, laidKinds := [.data], laidTests := true, laidLooks := .later }
def CrcPowersAddCardSaid : Prop := Claim7.holds Tryd.pinned (.plain (OpenSpec.ofChange crcPowersAddSpec)) crcPowersAddCard

/-- THE SECOND FORM's CARD OF 'hawserlaw02.CrcPowersAdd'. -/
def crcPowersAddUptoCard : Claim7 := { stood := { row := crcPowersAddUptoRow, standIns := [], harness := (true, "fb9bf4d88e85d8e98a40c24b5719dcc1ca180c424c17b73f9bea7cccbaf54f97"), looks := false }, kinds := [], alts := [], laidByText := true, laidKinds := [.data], laidTests := true, laidLooks := .later }
def CrcPowersAddUptoCardSaid : Prop := Claim7.holds Tryd.pinned (.plain (OpenSpec.upto crcPowersAddSpec)) crcPowersAddUptoCard
end Rows
end Go.Proofs.YtlfijnegmnploadDoor
