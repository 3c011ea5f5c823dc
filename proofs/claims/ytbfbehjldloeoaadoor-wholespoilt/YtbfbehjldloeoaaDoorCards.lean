/-
  DERIVED. GIVEN WITH THE SEED: THE CARDS: each row of YtbfbehjldloeoaaDoorRows.lean that lists a variable, with what it lists TIED to the program's text (the seventh form; the later family's looks); each row that meets fmt, with fmt's text TOLD by the authors' own Lean function (tested against real Go, not proved from fmt's source: count such statements apart). THE CARD IS WHAT COUNTS. Prove the row's statement (the work); the ties are given (YtbfbehjldloeoaaDoorTie.lean); close each card by the builder's one call (the guide's Derived/Test/ToyasCard.lean, 'card_holds'). Laid BY PROGRAM, IN A SANDBOX (cutbox-door.mjs). By AI agents, Wed Nov 11 2026. No macro, syntax, notation, axiom, sorry.
-/
import Derived.Test.YtbfbehjldloeoaaDoorRows
import GoSem.ClaimSeven
namespace Go.Proofs.YtbfbehjldloeoaaDoor
namespace Rows

/-- THE TIED CARD OF 'hawsertop.WholeSpoilt'. -/
def wholeSpoiltCard : Claim7 := { stood := { row := wholeSpoiltRow, standIns := [], harness := (true, "9d0b8d4aea9b04e704cc93e374add03624fda0476710fc1e637f4de5cb8ea77b"), looks := false }, kinds := [], alts := [], laidByText := true, laidKinds := [.data], laidTests := true, laidLooks := .later }
def WholeSpoiltCardSaid : Prop := Claim7.holds Tryd.pinned (.plain (OpenSpec.ofChange wholeSpoiltSpec)) wholeSpoiltCard

/-- THE SECOND FORM's CARD OF 'hawsertop.WholeSpoilt'. -/
def wholeSpoiltUptoCard : Claim7 := { stood := { row := wholeSpoiltUptoRow, standIns := [], harness := (true, "9d0b8d4aea9b04e704cc93e374add03624fda0476710fc1e637f4de5cb8ea77b"), looks := false }, kinds := [], alts := [], laidByText := true, laidKinds := [.data], laidTests := true, laidLooks := .later }
def WholeSpoiltUptoCardSaid : Prop := Claim7.holds Tryd.pinned (.plain (OpenSpec.upto wholeSpoiltSpec)) wholeSpoiltUptoCard
end Rows
end Go.Proofs.YtbfbehjldloeoaaDoor
