/-
  DERIVED. GIVEN WITH THE SEED: THE CARDS: each row of YtlfijnegmnploacDoorRows.lean that lists a variable, with what it lists TIED to the program's text (the seventh form; the later family's looks); each row that meets fmt, with fmt's text TOLD by the authors' own Lean function (tested against real Go, not proved from fmt's source: count such statements apart). THE CARD IS WHAT COUNTS. Prove the row's statement (the work); the ties are given (YtlfijnegmnploacDoorTie.lean); close each card by the builder's one call (the guide's Derived/Test/ToyasCard.lean, 'card_holds'). Laid BY PROGRAM, IN A SANDBOX (cutbox-door.mjs). By AI agents, Wed Nov 11 2026. No macro, syntax, notation, axiom, sorry.
-/
import Derived.Test.YtlfijnegmnploacDoorRows
import GoSem.ClaimSeven
namespace Go.Proofs.YtlfijnegmnploacDoor
namespace Rows

/-- THE TIED CARD OF 'hawserlaw02.CrcFlips'. -/
def crcFlipsCard : Claim7 := { stood := { row := crcFlipsRow, standIns := [], harness := (true, "3a4eeb641b0cca433cc85872c6bc599d65b40585be2f40cda7b6707050bb0a70"), looks := false }, kinds := [], alts := [], laidByText := true, laidKinds := [.data], laidTests := true, laidLooks := .later }
def CrcFlipsCardSaid : Prop := Claim7.holds Tryd.pinned (.plain (OpenSpec.ofChange crcFlipsSpec)) crcFlipsCard

/-- THE TIED CARD OF 'hawserlaw02.CrcRuns'. -/
def crcRunsCard : Claim7 := { stood := { row := crcRunsRow, standIns := [], harness := (true, "3a4eeb641b0cca433cc85872c6bc599d65b40585be2f40cda7b6707050bb0a70"), looks := false }, kinds := [], alts := [], laidByText := true, laidKinds := [.data], laidTests := true, laidLooks := .later }
def CrcRunsCardSaid : Prop := Claim7.holds Tryd.pinned (.plain (OpenSpec.ofChange crcRunsSpec)) crcRunsCard

/-- THE TIED CARD OF 'hawserlaw02.CrcCuts'. -/
def crcCutsCard : Claim7 := { stood := { row := crcCutsRow, standIns := [], harness := (true, "3a4eeb641b0cca433cc85872c6bc599d65b40585be2f40cda7b6707050bb0a70"), looks := false }, kinds := [], alts := [], laidByText := true, laidKinds := [.data], laidTests := true, laidLooks := .later }
def CrcCutsCardSaid : Prop := Claim7.holds Tryd.pinned (.plain (OpenSpec.ofChange crcCutsSpec)) crcCutsCard

/-- THE TIED CARD OF 'hawserlaw02.CrcTurnsBack'. -/
def crcTurnsBackCard : Claim7 := { stood := { row := crcTurnsBackRow, standIns := [], harness := (true, "3a4eeb641b0cca433cc85872c6bc599d65b40585be2f40cda7b6707050bb0a70"), looks := false }, kinds := [], alts := [], laidByText := true, laidKinds := [.data], laidTests := true, laidLooks := .later }
def CrcTurnsBackCardSaid : Prop := Claim7.holds Tryd.pinned (.plain (OpenSpec.ofChange crcTurnsBackSpec)) crcTurnsBackCard

/-- THE TIED CARD OF 'hawserlaw02.CrcRing'. -/
def crcRingCard : Claim7 := { stood := { row := crcRingRow, standIns := [], harness := (true, "3a4eeb641b0cca433cc85872c6bc599d65b40585be2f40cda7b6707050bb0a70"), looks := false }, kinds := [], alts := [], laidByText := true, laidKinds := [.data], laidTests := true, laidLooks := .later }
def CrcRingCardSaid : Prop := Claim7.holds Tryd.pinned (.plain (OpenSpec.ofChange crcRingSpec)) crcRingCard

/-- THE SECOND FORM's CARD OF 'hawserlaw02.CrcFlips'. -/
def crcFlipsUptoCard : Claim7 := { stood := { row := crcFlipsUptoRow, standIns := [], harness := (true, "3a4eeb641b0cca433cc85872c6bc599d65b40585be2f40cda7b6707050bb0a70"), looks := false }, kinds := [], alts := [], laidByText := true, laidKinds := [.data], laidTests := true, laidLooks := .later }
def CrcFlipsUptoCardSaid : Prop := Claim7.holds Tryd.pinned (.plain (OpenSpec.upto crcFlipsSpec)) crcFlipsUptoCard

/-- THE SECOND FORM's CARD OF 'hawserlaw02.CrcRuns'. -/
def crcRunsUptoCard : Claim7 := { stood := { row := crcRunsUptoRow, standIns := [], harness := (true, "3a4eeb641b0cca433cc85872c6bc599d65b40585be2f40cda7b6707050bb0a70"), looks := false }, kinds := [], alts := [], laidByText := true, laidKinds := [.data], laidTests := true, laidLooks := .later }
def CrcRunsUptoCardSaid : Prop := Claim7.holds Tryd.pinned (.plain (OpenSpec.upto crcRunsSpec)) crcRunsUptoCard

/-- THE SECOND FORM's CARD OF 'hawserlaw02.CrcCuts'. -/
def crcCutsUptoCard : Claim7 := { stood := { row := crcCutsUptoRow, standIns := [], harness := (true, "3a4eeb641b0cca433cc85872c6bc599d65b40585be2f40cda7b6707050bb0a70"), looks := false }, kinds := [], alts := [], laidByText := true, laidKinds := [.data], laidTests := true, laidLooks := .later }
def CrcCutsUptoCardSaid : Prop := Claim7.holds Tryd.pinned (.plain (OpenSpec.upto crcCutsSpec)) crcCutsUptoCard

/-- THE SECOND FORM's CARD OF 'hawserlaw02.CrcTurnsBack'. -/
def crcTurnsBackUptoCard : Claim7 := { stood := { row := crcTurnsBackUptoRow, standIns := [], harness := (true, "3a4eeb641b0cca433cc85872c6bc599d65b40585be2f40cda7b6707050bb0a70"), looks := false }, kinds := [], alts := [], laidByText := true, laidKinds := [.data], laidTests := true, laidLooks := .later }
def CrcTurnsBackUptoCardSaid : Prop := Claim7.holds Tryd.pinned (.plain (OpenSpec.upto crcTurnsBackSpec)) crcTurnsBackUptoCard

/-- THE SECOND FORM's CARD OF 'hawserlaw02.CrcRing'. -/
def crcRingUptoCard : Claim7 := { stood := { row := crcRingUptoRow, standIns := [], harness := (true, "3a4eeb641b0cca433cc85872c6bc599d65b40585be2f40cda7b6707050bb0a70"), looks := false }, kinds := [], alts := [], laidByText := true, laidKinds := [.data], laidTests := true, laidLooks := .later }
def CrcRingUptoCardSaid : Prop := Claim7.holds Tryd.pinned (.plain (OpenSpec.upto crcRingSpec)) crcRingUptoCard
end Rows
end Go.Proofs.YtlfijnegmnploacDoor
