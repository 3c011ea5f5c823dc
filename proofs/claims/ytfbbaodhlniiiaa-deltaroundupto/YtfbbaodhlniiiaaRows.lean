/-
  No cell of these rows narrows 'for every input' (looked for: loops, veiled, ifaces, maps, wideKeys, modest, calm, conditions, laid).
  DERIVED. THE GIVEN ROWS OF THIS SEAT. 6 by the template 'for every input the law returns true; each argument reads behind the call as it read before'; 0 by the template 'total and deterministic' (their statements: YtfbbaodhlniiiaaTotals.lean).
  GIVEN WITH THE SEED: the statements are not yours to turn. If you find one false, say at which input.
  Laid BY PROGRAM, IN A SANDBOX (cutbox-rows.mjs): the forced cells as the released guide's own fill.sh prints them over the translation 37fcab43feb815c9… (all of the seat's roots in one cut). By AI agents, Wed Nov 11 2026. No macro, syntax, notation, axiom, sorry.
-/
import Derived.Test.YtfbbaodhlniiiaaChecked
import GoSem.Claim
import GoSem.ClaimJoined
import GoSem.ClaimMapViews
import Derived.JoinedTies
import Derived.KernelRfl
namespace Go.Proofs.Ytfbbaodhlniiiaa
/- THE CELL 'sum', in the pinned program and in every row, IS THE sha256 OF THE DUMP (.gsa) THAT YtfbbaodhlniiiaaProg.lean LOADS. Nothing in Lean hashes anything: it is a label: what it is worth is what the hold of that sum in a sandbox is worth. -/
noncomputable def Try.pinned : Pinned := { name := "ytfbbaodhlniiiaa", sum := "37fcab43feb815c9da2c81ce6622741fd4d70d3368fcc1042610e1864ca0d9e4", checked := Try.checked }
namespace Rows
def none {H : Type} : Left H := { results := [], args := [] }

/-- 'hawserlaw08.DeltaStreams': WHATEVER THE INPUT: true; the input reads as it did. -/
def deltaStreamsSpec : ChangeSpec := { name := "deltaStreams", fn := fun _ => fun
  | [d] => { results := [.lit (.bool true)], args := [d] }
  | _ => none }
def deltaStreamsRow : OpenClaim := { program := "ytfbbaodhlniiiaa", sum := "37fcab43feb815c9da2c81ce6622741fd4d70d3368fcc1042610e1864ca0d9e4", func := "hawser/hawserlaw08.DeltaStreams", spec := "deltaStreams", apart := false }
def DeltaStreamsSaid : Prop := deltaStreamsRow.holds Try.pinned (OpenSpec.ofChange deltaStreamsSpec)

/-- ITS FALSE NEIGHBOUR: 'it returns false'. Refute it at one input. -/
def deltaStreamsWrong : ChangeSpec := { name := "deltaStreams", fn := fun _ => fun
  | [d] => { results := [.lit (.bool false)], args := [d] }
  | _ => none }
def DeltaStreamsWrongFalsely : Prop := deltaStreamsRow.holds Try.pinned (OpenSpec.ofChange deltaStreamsWrong)

/-- 'hawserlaw08.DeltaSplits': WHATEVER THE INPUT: true; the input reads as it did. -/
def deltaSplitsSpec : ChangeSpec := { name := "deltaSplits", fn := fun _ => fun
  | [d] => { results := [.lit (.bool true)], args := [d] }
  | _ => none }
def deltaSplitsRow : OpenClaim := { program := "ytfbbaodhlniiiaa", sum := "37fcab43feb815c9da2c81ce6622741fd4d70d3368fcc1042610e1864ca0d9e4", func := "hawser/hawserlaw08.DeltaSplits", spec := "deltaSplits", unfollowed := true, recurses := true, apart := false }
def DeltaSplitsSaid : Prop := deltaSplitsRow.holds Try.pinned (OpenSpec.ofChange deltaSplitsSpec)

/-- ITS FALSE NEIGHBOUR: 'it returns false'. Refute it at one input. -/
def deltaSplitsWrong : ChangeSpec := { name := "deltaSplits", fn := fun _ => fun
  | [d] => { results := [.lit (.bool false)], args := [d] }
  | _ => none }
def DeltaSplitsWrongFalsely : Prop := deltaSplitsRow.holds Try.pinned (OpenSpec.ofChange deltaSplitsWrong)

/-- 'hawserlaw08.DeltaSessions': WHATEVER THE INPUT: true; the input reads as it did. -/
def deltaSessionsSpec : ChangeSpec := { name := "deltaSessions", fn := fun _ => fun
  | [d] => { results := [.lit (.bool true)], args := [d] }
  | _ => none }
def deltaSessionsRow : OpenClaim := { program := "ytfbbaodhlniiiaa", sum := "37fcab43feb815c9da2c81ce6622741fd4d70d3368fcc1042610e1864ca0d9e4", func := "hawser/hawserlaw08.DeltaSessions", spec := "deltaSessions", apart := false }
def DeltaSessionsSaid : Prop := deltaSessionsRow.holds Try.pinned (OpenSpec.ofChange deltaSessionsSpec)

/-- ITS FALSE NEIGHBOUR: 'it returns false'. Refute it at one input. -/
def deltaSessionsWrong : ChangeSpec := { name := "deltaSessions", fn := fun _ => fun
  | [d] => { results := [.lit (.bool false)], args := [d] }
  | _ => none }
def DeltaSessionsWrongFalsely : Prop := deltaSessionsRow.holds Try.pinned (OpenSpec.ofChange deltaSessionsWrong)

/-- 'hawserlaw08.DeltaNone': WHATEVER THE INPUT: true; the input reads as it did. -/
def deltaNoneSpec : ChangeSpec := { name := "deltaNone", fn := fun _ => fun
  | [d1, d2] => { results := [.lit (.bool true)], args := [d1, d2] }
  | _ => none }
def deltaNoneRow : OpenClaim := { program := "ytfbbaodhlniiiaa", sum := "37fcab43feb815c9da2c81ce6622741fd4d70d3368fcc1042610e1864ca0d9e4", func := "hawser/hawserlaw08.DeltaNone", spec := "deltaNone", unfollowed := true, recurses := true, apart := false }
def DeltaNoneSaid : Prop := deltaNoneRow.holds Try.pinned (OpenSpec.ofChange deltaNoneSpec)

/-- ITS FALSE NEIGHBOUR: 'it returns false'. Refute it at one input. -/
def deltaNoneWrong : ChangeSpec := { name := "deltaNone", fn := fun _ => fun
  | [d1, d2] => { results := [.lit (.bool false)], args := [d1, d2] }
  | _ => none }
def DeltaNoneWrongFalsely : Prop := deltaNoneRow.holds Try.pinned (OpenSpec.ofChange deltaNoneWrong)

/-- 'hawserlaw08.DeltaRound': WHATEVER THE INPUT: true; the input reads as it did. -/
def deltaRoundSpec : ChangeSpec := { name := "deltaRound", fn := fun _ => fun
  | [d1, d2] => { results := [.lit (.bool true)], args := [d1, d2] }
  | _ => none }
def deltaRoundRow : OpenClaim := { program := "ytfbbaodhlniiiaa", sum := "37fcab43feb815c9da2c81ce6622741fd4d70d3368fcc1042610e1864ca0d9e4", func := "hawser/hawserlaw08.DeltaRound", spec := "deltaRound", unfollowed := true, recurses := true, apart := false }
def DeltaRoundSaid : Prop := deltaRoundRow.holds Try.pinned (OpenSpec.ofChange deltaRoundSpec)

/-- ITS FALSE NEIGHBOUR: 'it returns false'. Refute it at one input. -/
def deltaRoundWrong : ChangeSpec := { name := "deltaRound", fn := fun _ => fun
  | [d1, d2] => { results := [.lit (.bool false)], args := [d1, d2] }
  | _ => none }
def DeltaRoundWrongFalsely : Prop := deltaRoundRow.holds Try.pinned (OpenSpec.ofChange deltaRoundWrong)

/-- 'hawserlaw08.DeltaCanon': WHATEVER THE INPUT: true; the input reads as it did. -/
def deltaCanonSpec : ChangeSpec := { name := "deltaCanon", fn := fun _ => fun
  | [d] => { results := [.lit (.bool true)], args := [d] }
  | _ => none }
def deltaCanonRow : OpenClaim := { program := "ytfbbaodhlniiiaa", sum := "37fcab43feb815c9da2c81ce6622741fd4d70d3368fcc1042610e1864ca0d9e4", func := "hawser/hawserlaw08.DeltaCanon", spec := "deltaCanon", unfollowed := true, recurses := true, apart := false }
def DeltaCanonSaid : Prop := deltaCanonRow.holds Try.pinned (OpenSpec.ofChange deltaCanonSpec)

/-- ITS FALSE NEIGHBOUR: 'it returns false'. Refute it at one input. -/
def deltaCanonWrong : ChangeSpec := { name := "deltaCanon", fn := fun _ => fun
  | [d] => { results := [.lit (.bool false)], args := [d] }
  | _ => none }
def DeltaCanonWrongFalsely : Prop := deltaCanonRow.holds Try.pinned (OpenSpec.ofChange deltaCanonWrong)

/- THE SECOND FORM. 'bulk': how many values and letters a reading holds, each counted each time it is reached (what is shared counts as often as it is met; a slice's spare places count too). A statement '..UptoSaid' is the law's where the arguments, and the package variables that the reading takes, are together of bulk at most 1048576: NARROWER than '..Said'. Prove '..Said' where nothing that the law and all that it calls make is longer than what came in: it says more and counts as full. Else prove '..UptoSaid'. A law counts once. -/
mutual
def uptoBulk {H : Type} : DataW H → Nat
  | .lit (.string bytes) => bytes.length + 1
  | .lit _ => 1
  | .nil => 1
  | .ptr d => uptoBulk d + 1
  | .slice elems spare => uptoBulkAll elems + uptoBulkAll spare + 1
  | .agg parts => uptoBulkAll parts + 1
  | .iface _ d => uptoBulk d + 1
  | .map entries => uptoBulkEntries entries + 1
  | .held _ => 1
def uptoBulkAll {H : Type} : List (DataW H) → Nat
  | [] => 0
  | d :: r => uptoBulk d + uptoBulkAll r
def uptoBulkEntries {H : Type} : List (Lit × DataW H) → Nat
  | [] => 0
  | x :: r => uptoBulkEntry x + uptoBulkEntries r
def uptoBulkEntry {H : Type} : Lit × DataW H → Nat
  | (.string bytes, d) => bytes.length + uptoBulk d + 1
  | (_, d) => uptoBulk d + 1
 end
def uptoSmall : (H : Type) → List (DataW H) → Bool := fun _ ds => decide (uptoBulkAll ds ≤ 1048576)
def OpenSpec.upto (s : _root_.Go.ChangeSpec) : _root_.Go.OpenSpec := { _root_.Go.OpenSpec.ofChange s with cond := some uptoSmall }

/-- 'hawserlaw08.DeltaStreams', WHERE WHAT IT READS IS OF BULK AT MOST 1048576: true; the input reads as it did. -/
def deltaStreamsUptoRow : OpenClaim := { program := "ytfbbaodhlniiiaa", sum := "37fcab43feb815c9da2c81ce6622741fd4d70d3368fcc1042610e1864ca0d9e4", func := "hawser/hawserlaw08.DeltaStreams", spec := "deltaStreams", apart := false, narrowed := true }
def DeltaStreamsUptoSaid : Prop := deltaStreamsUptoRow.holds Try.pinned (OpenSpec.upto deltaStreamsSpec)

/-- 'hawserlaw08.DeltaSplits', WHERE WHAT IT READS IS OF BULK AT MOST 1048576: true; the input reads as it did. -/
def deltaSplitsUptoRow : OpenClaim := { program := "ytfbbaodhlniiiaa", sum := "37fcab43feb815c9da2c81ce6622741fd4d70d3368fcc1042610e1864ca0d9e4", func := "hawser/hawserlaw08.DeltaSplits", spec := "deltaSplits", unfollowed := true, recurses := true, apart := false, narrowed := true }
def DeltaSplitsUptoSaid : Prop := deltaSplitsUptoRow.holds Try.pinned (OpenSpec.upto deltaSplitsSpec)

/-- 'hawserlaw08.DeltaSessions', WHERE WHAT IT READS IS OF BULK AT MOST 1048576: true; the input reads as it did. -/
def deltaSessionsUptoRow : OpenClaim := { program := "ytfbbaodhlniiiaa", sum := "37fcab43feb815c9da2c81ce6622741fd4d70d3368fcc1042610e1864ca0d9e4", func := "hawser/hawserlaw08.DeltaSessions", spec := "deltaSessions", apart := false, narrowed := true }
def DeltaSessionsUptoSaid : Prop := deltaSessionsUptoRow.holds Try.pinned (OpenSpec.upto deltaSessionsSpec)

/-- 'hawserlaw08.DeltaNone', WHERE WHAT IT READS IS OF BULK AT MOST 1048576: true; the input reads as it did. -/
def deltaNoneUptoRow : OpenClaim := { program := "ytfbbaodhlniiiaa", sum := "37fcab43feb815c9da2c81ce6622741fd4d70d3368fcc1042610e1864ca0d9e4", func := "hawser/hawserlaw08.DeltaNone", spec := "deltaNone", unfollowed := true, recurses := true, apart := false, narrowed := true }
def DeltaNoneUptoSaid : Prop := deltaNoneUptoRow.holds Try.pinned (OpenSpec.upto deltaNoneSpec)

/-- 'hawserlaw08.DeltaRound', WHERE WHAT IT READS IS OF BULK AT MOST 1048576: true; the input reads as it did. -/
def deltaRoundUptoRow : OpenClaim := { program := "ytfbbaodhlniiiaa", sum := "37fcab43feb815c9da2c81ce6622741fd4d70d3368fcc1042610e1864ca0d9e4", func := "hawser/hawserlaw08.DeltaRound", spec := "deltaRound", unfollowed := true, recurses := true, apart := false, narrowed := true }
def DeltaRoundUptoSaid : Prop := deltaRoundUptoRow.holds Try.pinned (OpenSpec.upto deltaRoundSpec)

/-- 'hawserlaw08.DeltaCanon', WHERE WHAT IT READS IS OF BULK AT MOST 1048576: true; the input reads as it did. -/
def deltaCanonUptoRow : OpenClaim := { program := "ytfbbaodhlniiiaa", sum := "37fcab43feb815c9da2c81ce6622741fd4d70d3368fcc1042610e1864ca0d9e4", func := "hawser/hawserlaw08.DeltaCanon", spec := "deltaCanon", unfollowed := true, recurses := true, apart := false, narrowed := true }
def DeltaCanonUptoSaid : Prop := deltaCanonUptoRow.holds Try.pinned (OpenSpec.upto deltaCanonSpec)

end Rows
end Go.Proofs.Ytfbbaodhlniiiaa
