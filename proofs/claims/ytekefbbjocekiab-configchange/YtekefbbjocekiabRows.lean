/-
  No cell of these rows narrows 'for every input' (looked for: loops, veiled, ifaces, maps, wideKeys, modest, calm, conditions, laid).
  DERIVED. THE GIVEN ROWS OF THIS SEAT. 5 by the template 'for every input the law returns true; each argument reads behind the call as it read before'; 0 by the template 'total and deterministic' (their statements: YtekefbbjocekiabTotals.lean).
  GIVEN WITH THE SEED: the statements are not yours to turn. If you find one false, say at which input.
  Laid BY PROGRAM, IN A SANDBOX (cutbox-rows.mjs): the forced cells as the released guide's own fill.sh prints them over the translation b07f0a92fd38a8f7… (all of the seat's roots in one cut). By AI agents, Wed Nov 11 2026. No macro, syntax, notation, axiom, sorry.
-/
import Derived.Test.YtekefbbjocekiabChecked
import GoSem.Claim
import GoSem.ClaimJoined
import GoSem.ClaimMapViews
import Derived.JoinedTies
import Derived.KernelRfl
namespace Go.Proofs.Ytekefbbjocekiab
/- THE CELL 'sum', in the pinned program and in every row, IS THE sha256 OF THE DUMP (.gsa) THAT YtekefbbjocekiabProg.lean LOADS. Nothing in Lean hashes anything: it is a label: what it is worth is what the hold of that sum in a sandbox is worth. -/
noncomputable def Try.pinned : Pinned := { name := "ytekefbbjocekiab", sum := "b07f0a92fd38a8f7cc4a59123cba68d2b7eb2aefeaccfb1f29cc6a3bed76a544", checked := Try.checked }
namespace Rows
def none {H : Type} : Left H := { results := [], args := [] }

/-- 'hawserlaw16.ConfigReads': WHATEVER THE INPUT: true; the input reads as it did. -/
def configReadsSpec : ChangeSpec := { name := "configReads", fn := fun _ => fun
  | [d] => { results := [.lit (.bool true)], args := [d] }
  | _ => none }
def configReadsRow : OpenClaim := { program := "ytekefbbjocekiab", sum := "b07f0a92fd38a8f7cc4a59123cba68d2b7eb2aefeaccfb1f29cc6a3bed76a544", func := "hawser/hawserlaw16.ConfigReads", spec := "configReads", apart := false }
def ConfigReadsSaid : Prop := configReadsRow.holds Try.pinned (OpenSpec.ofChange configReadsSpec)

/-- ITS FALSE NEIGHBOUR: 'it returns false'. Refute it at one input. -/
def configReadsWrong : ChangeSpec := { name := "configReads", fn := fun _ => fun
  | [d] => { results := [.lit (.bool false)], args := [d] }
  | _ => none }
def ConfigReadsWrongFalsely : Prop := configReadsRow.holds Try.pinned (OpenSpec.ofChange configReadsWrong)

/-- 'hawserlaw16.ConfigSettings': WHATEVER THE INPUT: true; the input reads as it did. -/
def configSettingsSpec : ChangeSpec := { name := "configSettings", fn := fun _ => fun
  | [d] => { results := [.lit (.bool true)], args := [d] }
  | _ => none }
def configSettingsRow : OpenClaim := { program := "ytekefbbjocekiab", sum := "b07f0a92fd38a8f7cc4a59123cba68d2b7eb2aefeaccfb1f29cc6a3bed76a544", func := "hawser/hawserlaw16.ConfigSettings", spec := "configSettings", apart := false }
def ConfigSettingsSaid : Prop := configSettingsRow.holds Try.pinned (OpenSpec.ofChange configSettingsSpec)

/-- ITS FALSE NEIGHBOUR: 'it returns false'. Refute it at one input. -/
def configSettingsWrong : ChangeSpec := { name := "configSettings", fn := fun _ => fun
  | [d] => { results := [.lit (.bool false)], args := [d] }
  | _ => none }
def ConfigSettingsWrongFalsely : Prop := configSettingsRow.holds Try.pinned (OpenSpec.ofChange configSettingsWrong)

/-- 'hawserlaw16.ConfigWalk': WHATEVER THE INPUT: true; the input reads as it did. -/
def configWalkSpec : ChangeSpec := { name := "configWalk", fn := fun _ => fun
  | [d] => { results := [.lit (.bool true)], args := [d] }
  | _ => none }
def configWalkRow : OpenClaim := { program := "ytekefbbjocekiab", sum := "b07f0a92fd38a8f7cc4a59123cba68d2b7eb2aefeaccfb1f29cc6a3bed76a544", func := "hawser/hawserlaw16.ConfigWalk", spec := "configWalk", apart := false }
def ConfigWalkSaid : Prop := configWalkRow.holds Try.pinned (OpenSpec.ofChange configWalkSpec)

/-- ITS FALSE NEIGHBOUR: 'it returns false'. Refute it at one input. -/
def configWalkWrong : ChangeSpec := { name := "configWalk", fn := fun _ => fun
  | [d] => { results := [.lit (.bool false)], args := [d] }
  | _ => none }
def ConfigWalkWrongFalsely : Prop := configWalkRow.holds Try.pinned (OpenSpec.ofChange configWalkWrong)

/-- 'hawserlaw16.ConfigChange': WHATEVER THE INPUT: true; the input reads as it did. -/
def configChangeSpec : ChangeSpec := { name := "configChange", fn := fun _ => fun
  | [d1, d2] => { results := [.lit (.bool true)], args := [d1, d2] }
  | _ => none }
def configChangeRow : OpenClaim := { program := "ytekefbbjocekiab", sum := "b07f0a92fd38a8f7cc4a59123cba68d2b7eb2aefeaccfb1f29cc6a3bed76a544", func := "hawser/hawserlaw16.ConfigChange", spec := "configChange", apart := false }
def ConfigChangeSaid : Prop := configChangeRow.holds Try.pinned (OpenSpec.ofChange configChangeSpec)

/-- ITS FALSE NEIGHBOUR: 'it returns false'. Refute it at one input. -/
def configChangeWrong : ChangeSpec := { name := "configChange", fn := fun _ => fun
  | [d1, d2] => { results := [.lit (.bool false)], args := [d1, d2] }
  | _ => none }
def ConfigChangeWrongFalsely : Prop := configChangeRow.holds Try.pinned (OpenSpec.ofChange configChangeWrong)

/-- 'hawserlaw16.ConfigOwn': WHATEVER THE INPUT: true; the input reads as it did. -/
def configOwnSpec : ChangeSpec := { name := "configOwn", fn := fun _ => fun
  | [d] => { results := [.lit (.bool true)], args := [d] }
  | _ => none }
def configOwnRow : OpenClaim := { program := "ytekefbbjocekiab", sum := "b07f0a92fd38a8f7cc4a59123cba68d2b7eb2aefeaccfb1f29cc6a3bed76a544", func := "hawser/hawserlaw16.ConfigOwn", spec := "configOwn", apart := false }
def ConfigOwnSaid : Prop := configOwnRow.holds Try.pinned (OpenSpec.ofChange configOwnSpec)

/-- ITS FALSE NEIGHBOUR: 'it returns false'. Refute it at one input. -/
def configOwnWrong : ChangeSpec := { name := "configOwn", fn := fun _ => fun
  | [d] => { results := [.lit (.bool false)], args := [d] }
  | _ => none }
def ConfigOwnWrongFalsely : Prop := configOwnRow.holds Try.pinned (OpenSpec.ofChange configOwnWrong)

/- THE SECOND FORM. 'bulk': how many values and letters a reading holds, each counted each time it is reached (what is shared counts as often as it is met; a slice's spare places count too). A statement '..UptoSaid' is the law's where the arguments, and the package variables that the reading takes, are together of bulk at most 1048576: NARROWER than '..Said'. Prove '..Said' where nothing that the law and all that it calls make is longer than what came in: it says more and counts as full. Else prove '..UptoSaid'. A law counts once. -/
mutual
def uptoBulk {H : Type} : DataW H → Nat
  | .lit (.string bytes) => bytes.length + 1
  | .lit _ => 1
  | .nil => 1
  | .ptr d => uptoBulk d + 1
  | .slice elems spare => uptoBulkAll elems + uptoBulkAll spare + 1
  | .agg parts => uptoBulkAll parts + 1
  | .iface _ d => uptoBulk d + 1
  | .map entries => uptoBulkEntries entries + 1
  | .held _ => 1
def uptoBulkAll {H : Type} : List (DataW H) → Nat
  | [] => 0
  | d :: r => uptoBulk d + uptoBulkAll r
def uptoBulkEntries {H : Type} : List (Lit × DataW H) → Nat
  | [] => 0
  | x :: r => uptoBulkEntry x + uptoBulkEntries r
def uptoBulkEntry {H : Type} : Lit × DataW H → Nat
  | (.string bytes, d) => bytes.length + uptoBulk d + 1
  | (_, d) => uptoBulk d + 1
 end
def uptoSmall : (H : Type) → List (DataW H) → Bool := fun _ ds => decide (uptoBulkAll ds ≤ 1048576)
def OpenSpec.upto (s : _root_.Go.ChangeSpec) : _root_.Go.OpenSpec := { _root_.Go.OpenSpec.ofChange s with cond := some uptoSmall }

/-- 'hawserlaw16.ConfigReads', WHERE WHAT IT READS IS OF BULK AT MOST 1048576: true; the input reads as it did. -/
def configReadsUptoRow : OpenClaim := { program := "ytekefbbjocekiab", sum := "b07f0a92fd38a8f7cc4a59123cba68d2b7eb2aefeaccfb1f29cc6a3bed76a544", func := "hawser/hawserlaw16.ConfigReads", spec := "configReads", apart := false, narrowed := true }
def ConfigReadsUptoSaid : Prop := configReadsUptoRow.holds Try.pinned (OpenSpec.upto configReadsSpec)

/-- 'hawserlaw16.ConfigSettings', WHERE WHAT IT READS IS OF BULK AT MOST 1048576: true; the input reads as it did. -/
def configSettingsUptoRow : OpenClaim := { program := "ytekefbbjocekiab", sum := "b07f0a92fd38a8f7cc4a59123cba68d2b7eb2aefeaccfb1f29cc6a3bed76a544", func := "hawser/hawserlaw16.ConfigSettings", spec := "configSettings", apart := false, narrowed := true }
def ConfigSettingsUptoSaid : Prop := configSettingsUptoRow.holds Try.pinned (OpenSpec.upto configSettingsSpec)

/-- 'hawserlaw16.ConfigWalk', WHERE WHAT IT READS IS OF BULK AT MOST 1048576: true; the input reads as it did. -/
def configWalkUptoRow : OpenClaim := { program := "ytekefbbjocekiab", sum := "b07f0a92fd38a8f7cc4a59123cba68d2b7eb2aefeaccfb1f29cc6a3bed76a544", func := "hawser/hawserlaw16.ConfigWalk", spec := "configWalk", apart := false, narrowed := true }
def ConfigWalkUptoSaid : Prop := configWalkUptoRow.holds Try.pinned (OpenSpec.upto configWalkSpec)

/-- 'hawserlaw16.ConfigChange', WHERE WHAT IT READS IS OF BULK AT MOST 1048576: true; the input reads as it did. -/
def configChangeUptoRow : OpenClaim := { program := "ytekefbbjocekiab", sum := "b07f0a92fd38a8f7cc4a59123cba68d2b7eb2aefeaccfb1f29cc6a3bed76a544", func := "hawser/hawserlaw16.ConfigChange", spec := "configChange", apart := false, narrowed := true }
def ConfigChangeUptoSaid : Prop := configChangeUptoRow.holds Try.pinned (OpenSpec.upto configChangeSpec)

/-- 'hawserlaw16.ConfigOwn', WHERE WHAT IT READS IS OF BULK AT MOST 1048576: true; the input reads as it did. -/
def configOwnUptoRow : OpenClaim := { program := "ytekefbbjocekiab", sum := "b07f0a92fd38a8f7cc4a59123cba68d2b7eb2aefeaccfb1f29cc6a3bed76a544", func := "hawser/hawserlaw16.ConfigOwn", spec := "configOwn", apart := false, narrowed := true }
def ConfigOwnUptoSaid : Prop := configOwnUptoRow.holds Try.pinned (OpenSpec.upto configOwnSpec)

end Rows
end Go.Proofs.Ytekefbbjocekiab
