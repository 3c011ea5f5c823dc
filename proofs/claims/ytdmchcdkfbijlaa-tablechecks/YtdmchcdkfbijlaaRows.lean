/-
  No cell of these rows narrows 'for every input' (looked for: loops, veiled, ifaces, maps, wideKeys, modest, calm, conditions, laid).
  DERIVED. THE GIVEN ROWS OF THIS SEAT. 6 by the template 'for every input the law returns true; each argument reads behind the call as it read before'; 0 by the template 'total and deterministic' (their statements: YtdmchcdkfbijlaaTotals.lean).
  GIVEN WITH THE SEED: the statements are not yours to turn. If you find one false, say at which input.
  Laid BY PROGRAM, IN A SANDBOX (cutbox-rows.mjs): the forced cells as the released guide's own fill.sh prints them over the translation 23a559f6883ad9f2… (all of the seat's roots in one cut). By AI agents, Wed Nov 11 2026. No macro, syntax, notation, axiom, sorry.
-/
import Derived.Test.YtdmchcdkfbijlaaChecked
import GoSem.Claim
import GoSem.ClaimJoined
import GoSem.ClaimMapViews
import Derived.JoinedTies
import Derived.KernelRfl
namespace Go.Proofs.Ytdmchcdkfbijlaa
/- THE CELL 'sum', in the pinned program and in every row, IS THE sha256 OF THE DUMP (.gsa) THAT YtdmchcdkfbijlaaProg.lean LOADS. Nothing in Lean hashes anything: it is a label: what it is worth is what the hold of that sum in a sandbox is worth. -/
noncomputable def Try.pinned : Pinned := { name := "ytdmchcdkfbijlaa", sum := "23a559f6883ad9f28c04bcf402dcad6d981398ce49a3c64bd1cdd7ecad251826", checked := Try.checked }
namespace Rows
def none {H : Type} : Left H := { results := [], args := [] }

/-- 'hawserlaw07.TableNames': WHATEVER THE INPUT: true; the input reads as it did. -/
def tableNamesSpec : ChangeSpec := { name := "tableNames", fn := fun _ => fun
  | [] => { results := [.lit (.bool true)], args := [] }
  | _ => none }
def tableNamesRow : OpenClaim := { program := "ytdmchcdkfbijlaa", sum := "23a559f6883ad9f28c04bcf402dcad6d981398ce49a3c64bd1cdd7ecad251826", func := "hawser/hawserlaw07.TableNames", spec := "tableNames", apart := false }
def TableNamesSaid : Prop := tableNamesRow.holds Try.pinned (OpenSpec.ofChange tableNamesSpec)

/-- ITS FALSE NEIGHBOUR: 'it returns false'. Refute it at one input. -/
def tableNamesWrong : ChangeSpec := { name := "tableNames", fn := fun _ => fun
  | [] => { results := [.lit (.bool false)], args := [] }
  | _ => none }
def TableNamesWrongFalsely : Prop := tableNamesRow.holds Try.pinned (OpenSpec.ofChange tableNamesWrong)

/-- 'hawserlaw07.TableChecks': WHATEVER THE INPUT: true; the input reads as it did. -/
def tableChecksSpec : ChangeSpec := { name := "tableChecks", fn := fun _ => fun
  | [d] => { results := [.lit (.bool true)], args := [d] }
  | _ => none }
def tableChecksRow : OpenClaim := { program := "ytdmchcdkfbijlaa", sum := "23a559f6883ad9f28c04bcf402dcad6d981398ce49a3c64bd1cdd7ecad251826", func := "hawser/hawserlaw07.TableChecks", spec := "tableChecks", apart := false }
def TableChecksSaid : Prop := tableChecksRow.holds Try.pinned (OpenSpec.ofChange tableChecksSpec)

/-- ITS FALSE NEIGHBOUR: 'it returns false'. Refute it at one input. -/
def tableChecksWrong : ChangeSpec := { name := "tableChecks", fn := fun _ => fun
  | [d] => { results := [.lit (.bool false)], args := [d] }
  | _ => none }
def TableChecksWrongFalsely : Prop := tableChecksRow.holds Try.pinned (OpenSpec.ofChange tableChecksWrong)

/-- 'hawserlaw07.TablePlays': WHATEVER THE INPUT: true; the input reads as it did. -/
def tablePlaysSpec : ChangeSpec := { name := "tablePlays", fn := fun _ => fun
  | [d] => { results := [.lit (.bool true)], args := [d] }
  | _ => none }
def tablePlaysRow : OpenClaim := { program := "ytdmchcdkfbijlaa", sum := "23a559f6883ad9f28c04bcf402dcad6d981398ce49a3c64bd1cdd7ecad251826", func := "hawser/hawserlaw07.TablePlays", spec := "tablePlays", unfollowed := true, recurses := true, apart := false }
def TablePlaysSaid : Prop := tablePlaysRow.holds Try.pinned (OpenSpec.ofChange tablePlaysSpec)

/-- ITS FALSE NEIGHBOUR: 'it returns false'. Refute it at one input. -/
def tablePlaysWrong : ChangeSpec := { name := "tablePlays", fn := fun _ => fun
  | [d] => { results := [.lit (.bool false)], args := [d] }
  | _ => none }
def TablePlaysWrongFalsely : Prop := tablePlaysRow.holds Try.pinned (OpenSpec.ofChange tablePlaysWrong)

/-- 'hawserlaw07.TableFroms': WHATEVER THE INPUT: true; the input reads as it did. -/
def tableFromsSpec : ChangeSpec := { name := "tableFroms", fn := fun _ => fun
  | [d] => { results := [.lit (.bool true)], args := [d] }
  | _ => none }
def tableFromsRow : OpenClaim := { program := "ytdmchcdkfbijlaa", sum := "23a559f6883ad9f28c04bcf402dcad6d981398ce49a3c64bd1cdd7ecad251826", func := "hawser/hawserlaw07.TableFroms", spec := "tableFroms", unfollowed := true, recurses := true, apart := false }
def TableFromsSaid : Prop := tableFromsRow.holds Try.pinned (OpenSpec.ofChange tableFromsSpec)

/-- ITS FALSE NEIGHBOUR: 'it returns false'. Refute it at one input. -/
def tableFromsWrong : ChangeSpec := { name := "tableFroms", fn := fun _ => fun
  | [d] => { results := [.lit (.bool false)], args := [d] }
  | _ => none }
def TableFromsWrongFalsely : Prop := tableFromsRow.holds Try.pinned (OpenSpec.ofChange tableFromsWrong)

/-- 'hawserlaw07.TableTells': WHATEVER THE INPUT: true; the input reads as it did. -/
def tableTellsSpec : ChangeSpec := { name := "tableTells", fn := fun _ => fun
  | [d1, d2, d3] => { results := [.lit (.bool true)], args := [d1, d2, d3] }
  | _ => none }
def tableTellsRow : OpenClaim := { program := "ytdmchcdkfbijlaa", sum := "23a559f6883ad9f28c04bcf402dcad6d981398ce49a3c64bd1cdd7ecad251826", func := "hawser/hawserlaw07.TableTells", spec := "tableTells", unfollowed := true, recurses := true, apart := false }
def TableTellsSaid : Prop := tableTellsRow.holds Try.pinned (OpenSpec.ofChange tableTellsSpec)

/-- ITS FALSE NEIGHBOUR: 'it returns false'. Refute it at one input. -/
def tableTellsWrong : ChangeSpec := { name := "tableTells", fn := fun _ => fun
  | [d1, d2, d3] => { results := [.lit (.bool false)], args := [d1, d2, d3] }
  | _ => none }
def TableTellsWrongFalsely : Prop := tableTellsRow.holds Try.pinned (OpenSpec.ofChange tableTellsWrong)

/-- 'hawserlaw07.TableSnaps': WHATEVER THE INPUT: true; the input reads as it did. -/
def tableSnapsSpec : ChangeSpec := { name := "tableSnaps", fn := fun _ => fun
  | [d1, d2, d3] => { results := [.lit (.bool true)], args := [d1, d2, d3] }
  | _ => none }
def tableSnapsRow : OpenClaim := { program := "ytdmchcdkfbijlaa", sum := "23a559f6883ad9f28c04bcf402dcad6d981398ce49a3c64bd1cdd7ecad251826", func := "hawser/hawserlaw07.TableSnaps", spec := "tableSnaps", unfollowed := true, recurses := true, apart := false }
def TableSnapsSaid : Prop := tableSnapsRow.holds Try.pinned (OpenSpec.ofChange tableSnapsSpec)

/-- ITS FALSE NEIGHBOUR: 'it returns false'. Refute it at one input. -/
def tableSnapsWrong : ChangeSpec := { name := "tableSnaps", fn := fun _ => fun
  | [d1, d2, d3] => { results := [.lit (.bool false)], args := [d1, d2, d3] }
  | _ => none }
def TableSnapsWrongFalsely : Prop := tableSnapsRow.holds Try.pinned (OpenSpec.ofChange tableSnapsWrong)

/- THE SECOND FORM. 'bulk': how many values and letters a reading holds, each counted each time it is reached (what is shared counts as often as it is met; a slice's spare places count too). A statement '..UptoSaid' is the law's where the arguments, and the package variables that the reading takes, are together of bulk at most 1048576: NARROWER than '..Said'. Prove '..Said' where nothing that the law and all that it calls make is longer than what came in: it says more and counts as full. Else prove '..UptoSaid'. A law counts once. -/
mutual
def uptoBulk {H : Type} : DataW H → Nat
  | .lit (.string bytes) => bytes.length + 1
  | .lit _ => 1
  | .nil => 1
  | .ptr d => uptoBulk d + 1
  | .slice elems spare => uptoBulkAll elems + uptoBulkAll spare + 1
  | .agg parts => uptoBulkAll parts + 1
  | .iface _ d => uptoBulk d + 1
  | .map entries => uptoBulkEntries entries + 1
  | .held _ => 1
def uptoBulkAll {H : Type} : List (DataW H) → Nat
  | [] => 0
  | d :: r => uptoBulk d + uptoBulkAll r
def uptoBulkEntries {H : Type} : List (Lit × DataW H) → Nat
  | [] => 0
  | x :: r => uptoBulkEntry x + uptoBulkEntries r
def uptoBulkEntry {H : Type} : Lit × DataW H → Nat
  | (.string bytes, d) => bytes.length + uptoBulk d + 1
  | (_, d) => uptoBulk d + 1
 end
def uptoSmall : (H : Type) → List (DataW H) → Bool := fun _ ds => decide (uptoBulkAll ds ≤ 1048576)
def OpenSpec.upto (s : _root_.Go.ChangeSpec) : _root_.Go.OpenSpec := { _root_.Go.OpenSpec.ofChange s with cond := some uptoSmall }

/-- 'hawserlaw07.TableNames', WHERE WHAT IT READS IS OF BULK AT MOST 1048576: true; the input reads as it did. -/
def tableNamesUptoRow : OpenClaim := { program := "ytdmchcdkfbijlaa", sum := "23a559f6883ad9f28c04bcf402dcad6d981398ce49a3c64bd1cdd7ecad251826", func := "hawser/hawserlaw07.TableNames", spec := "tableNames", apart := false, narrowed := true }
def TableNamesUptoSaid : Prop := tableNamesUptoRow.holds Try.pinned (OpenSpec.upto tableNamesSpec)

/-- 'hawserlaw07.TableChecks', WHERE WHAT IT READS IS OF BULK AT MOST 1048576: true; the input reads as it did. -/
def tableChecksUptoRow : OpenClaim := { program := "ytdmchcdkfbijlaa", sum := "23a559f6883ad9f28c04bcf402dcad6d981398ce49a3c64bd1cdd7ecad251826", func := "hawser/hawserlaw07.TableChecks", spec := "tableChecks", apart := false, narrowed := true }
def TableChecksUptoSaid : Prop := tableChecksUptoRow.holds Try.pinned (OpenSpec.upto tableChecksSpec)

/-- 'hawserlaw07.TablePlays', WHERE WHAT IT READS IS OF BULK AT MOST 1048576: true; the input reads as it did. -/
def tablePlaysUptoRow : OpenClaim := { program := "ytdmchcdkfbijlaa", sum := "23a559f6883ad9f28c04bcf402dcad6d981398ce49a3c64bd1cdd7ecad251826", func := "hawser/hawserlaw07.TablePlays", spec := "tablePlays", unfollowed := true, recurses := true, apart := false, narrowed := true }
def TablePlaysUptoSaid : Prop := tablePlaysUptoRow.holds Try.pinned (OpenSpec.upto tablePlaysSpec)

/-- 'hawserlaw07.TableFroms', WHERE WHAT IT READS IS OF BULK AT MOST 1048576: true; the input reads as it did. -/
def tableFromsUptoRow : OpenClaim := { program := "ytdmchcdkfbijlaa", sum := "23a559f6883ad9f28c04bcf402dcad6d981398ce49a3c64bd1cdd7ecad251826", func := "hawser/hawserlaw07.TableFroms", spec := "tableFroms", unfollowed := true, recurses := true, apart := false, narrowed := true }
def TableFromsUptoSaid : Prop := tableFromsUptoRow.holds Try.pinned (OpenSpec.upto tableFromsSpec)

/-- 'hawserlaw07.TableTells', WHERE WHAT IT READS IS OF BULK AT MOST 1048576: true; the input reads as it did. -/
def tableTellsUptoRow : OpenClaim := { program := "ytdmchcdkfbijlaa", sum := "23a559f6883ad9f28c04bcf402dcad6d981398ce49a3c64bd1cdd7ecad251826", func := "hawser/hawserlaw07.TableTells", spec := "tableTells", unfollowed := true, recurses := true, apart := false, narrowed := true }
def TableTellsUptoSaid : Prop := tableTellsUptoRow.holds Try.pinned (OpenSpec.upto tableTellsSpec)

/-- 'hawserlaw07.TableSnaps', WHERE WHAT IT READS IS OF BULK AT MOST 1048576: true; the input reads as it did. -/
def tableSnapsUptoRow : OpenClaim := { program := "ytdmchcdkfbijlaa", sum := "23a559f6883ad9f28c04bcf402dcad6d981398ce49a3c64bd1cdd7ecad251826", func := "hawser/hawserlaw07.TableSnaps", spec := "tableSnaps", unfollowed := true, recurses := true, apart := false, narrowed := true }
def TableSnapsUptoSaid : Prop := tableSnapsUptoRow.holds Try.pinned (OpenSpec.upto tableSnapsSpec)

end Rows
end Go.Proofs.Ytdmchcdkfbijlaa
