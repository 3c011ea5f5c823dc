/-
  DERIVED. GIVEN WITH THE SEED: THE CARDS: each row of YtdjcokepeifojaaDoorRows.lean that lists a variable, with what it lists TIED to the program's text (the seventh form; the later family's looks); each row that meets fmt, with fmt's text TOLD by the authors' own Lean function (tested against real Go, not proved from fmt's source: count such statements apart). THE CARD IS WHAT COUNTS. Prove the row's statement (the work); the ties are given (YtdjcokepeifojaaDoorTie.lean); close each card by the builder's one call (the guide's Derived/Test/ToyasCard.lean, 'card_holds'). Laid BY PROGRAM, IN A SANDBOX (cutbox-door.mjs). By AI agents, Wed Nov 11 2026. No macro, syntax, notation, axiom, sorry.
-/
import Derived.Test.YtdjcokepeifojaaDoorRows
import GoSem.ClaimSeven
namespace Go.Proofs.YtdjcokepeifojaaDoor
namespace Rows

/-- THE TIED CARD OF 'hawserlaw06.SpanNormals'. -/
def spanNormalsCard : Claim7 := { stood := { row := spanNormalsRow, standIns := [], harness := (true, "1c99125bd2a4fad23569303b2d922ca5a0ebdb7304863d004e96ef34f0b4a389"), looks := false }, kinds := [], alts := [], laidByText := true, laidKinds := [.data], laidTests := true, laidLooks := .later }
def SpanNormalsCardSaid : Prop := Claim7.holds Tryd.pinned (.plain (OpenSpec.ofChange spanNormalsSpec)) spanNormalsCard

/-- THE TIED CARD OF 'hawserlaw06.SpanMeets'. -/
def spanMeetsCard : Claim7 := { stood := { row := spanMeetsRow, standIns := [], harness := (true, "1c99125bd2a4fad23569303b2d922ca5a0ebdb7304863d004e96ef34f0b4a389"), looks := false }, kinds := [], alts := [], laidByText := true, laidKinds := [.data], laidTests := true, laidLooks := .later }
def SpanMeetsCardSaid : Prop := Claim7.holds Tryd.pinned (.plain (OpenSpec.ofChange spanMeetsSpec)) spanMeetsCard

/-- THE TIED CARD OF 'hawserlaw06.SpanTouches'. -/
def spanTouchesCard : Claim7 := { stood := { row := spanTouchesRow, standIns := [], harness := (true, "1c99125bd2a4fad23569303b2d922ca5a0ebdb7304863d004e96ef34f0b4a389"), looks := false }, kinds := [], alts := [], laidByText := true, laidKinds := [.data], laidTests := true, laidLooks := .later }
def SpanTouchesCardSaid : Prop := Claim7.holds Tryd.pinned (.plain (OpenSpec.ofChange spanTouchesSpec)) spanTouchesCard

/-- THE SECOND FORM's CARD OF 'hawserlaw06.SpanNormals'. -/
def spanNormalsUptoCard : Claim7 := { stood := { row := spanNormalsUptoRow, standIns := [], harness := (true, "1c99125bd2a4fad23569303b2d922ca5a0ebdb7304863d004e96ef34f0b4a389"), looks := false }, kinds := [], alts := [], laidByText := true, laidKinds := [.data], laidTests := true, laidLooks := .later }
def SpanNormalsUptoCardSaid : Prop := Claim7.holds Tryd.pinned (.plain (OpenSpec.upto spanNormalsSpec)) spanNormalsUptoCard

/-- THE SECOND FORM's CARD OF 'hawserlaw06.SpanMeets'. -/
def spanMeetsUptoCard : Claim7 := { stood := { row := spanMeetsUptoRow, standIns := [], harness := (true, "1c99125bd2a4fad23569303b2d922ca5a0ebdb7304863d004e96ef34f0b4a389"), looks := false }, kinds := [], alts := [], laidByText := true, laidKinds := [.data], laidTests := true, laidLooks := .later }
def SpanMeetsUptoCardSaid : Prop := Claim7.holds Tryd.pinned (.plain (OpenSpec.upto spanMeetsSpec)) spanMeetsUptoCard

/-- THE SECOND FORM's CARD OF 'hawserlaw06.SpanTouches'. -/
def spanTouchesUptoCard : Claim7 := { stood := { row := spanTouchesUptoRow, standIns := [], harness := (true, "1c99125bd2a4fad23569303b2d922ca5a0ebdb7304863d004e96ef34f0b4a389"), looks := false }, kinds := [], alts := [], laidByText := true, laidKinds := [.data], laidTests := true, laidLooks := .later }
def SpanTouchesUptoCardSaid : Prop := Claim7.holds Tryd.pinned (.plain (OpenSpec.upto spanTouchesSpec)) spanTouchesUptoCard
end Rows
end Go.Proofs.YtdjcokepeifojaaDoor
