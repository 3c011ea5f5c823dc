/-
  NARROWER THAN 'FOR EVERY INPUT', by the rows' own cells (each row's printed sentence says how): MessageKinds: laid.
  DERIVED. THE GIVEN ROWS OF THIS SEAT. 1 by the template 'for every input the law returns true; each argument reads behind the call as it read before'; 0 by the template 'total and deterministic' (their statements: YtokkhhekmebakaaDoorTotals.lean).
  GIVEN WITH THE SEED: the statements are not yours to turn. If you find one false, say at which input.
  Laid BY PROGRAM, IN A SANDBOX (cutbox-rows.mjs): the forced cells as the released guide's own fill.sh prints them over the translation 119b06e67032da8c… (all of the seat's roots in one cut). By AI agents, Wed Nov 11 2026. No macro, syntax, notation, axiom, sorry.
-/
import Derived.Test.YtokkhhekmebakaaDoorChecked
import GoSem.Claim
import GoSem.ClaimJoined
import GoSem.ClaimMapViews
import Derived.JoinedTies
import Derived.KernelRfl
namespace Go.Proofs.YtokkhhekmebakaaDoor
/- THE CELL 'sum', in the pinned program and in every row, IS THE sha256 OF THE DUMP (.gsa) THAT YtokkhhekmebakaaDoorProg.lean LOADS. Nothing in Lean hashes anything: it is a label: what it is worth is what the hold of that sum in a sandbox is worth. -/
noncomputable def Tryd.pinned : Pinned := { name := "ytokkhhekmebakaadoor", sum := "119b06e67032da8c440320f3b6e224b691265ecc08027f401046cf5e7346bc72", checked := Tryd.checked }
namespace Rows
def none {H : Type} : Left H := { results := [], args := [] }

/- WHAT THE LISTED PACKAGE-LEVEL VARIABLES READ AS WHEN THE CALL BEGINS. Each datum BY PROGRAM (the guide's laid-datum.mjs) off the statement by which the dump's own 'gosem.cut.vars' lays the variable. In a bare row this is a premise. The card (YtokkhhekmebakaaDoorCards.lean) ties it to the program's text. -/
def laid_hawser_message_kinds {H : Type} : DataW H := .agg [.agg [.lit (.string []), .lit (.string [])], .agg [.lit (.string [114, 101, 113, 117, 101, 115, 116]), .lit (.string [99, 62, 110])], .agg [.lit (.string [114, 101, 112, 108, 121]), .lit (.string [110, 62, 99])], .agg [.lit (.string [114, 101, 97, 100]), .lit (.string [99, 62, 110])], .agg [.lit (.string [118, 97, 108, 117, 101]), .lit (.string [110, 62, 99])], .agg [.lit (.string [119, 114, 111, 110, 103]), .lit (.string [110, 62, 99])], .agg [.lit (.string [108, 111, 111, 107, 117, 112]), .lit (.string [110, 62, 109, 32, 99, 62, 109])], .agg [.lit (.string [99, 111, 110, 102, 105, 103]), .lit (.string [109, 62, 110, 32, 109, 62, 99])], .agg [.lit (.string [97, 100, 111, 112, 116, 101, 100]), .lit (.string [110, 62, 109])], .agg [.lit (.string [102, 111, 114, 119, 97, 114, 100]), .lit (.string [110, 62, 110])], .agg [.lit (.string [97, 99, 107]), .lit (.string [110, 62, 110])], .agg [.lit (.string [113, 117, 101, 114, 121]), .lit (.string [110, 62, 110])], .agg [.lit (.string [97, 110, 115, 119, 101, 114]), .lit (.string [110, 62, 110])], .agg [.lit (.string [106, 111, 105, 110]), .lit (.string [110, 62, 109])], .agg [.lit (.string [98, 101, 103, 105, 110]), .lit (.string [109, 62, 110])], .agg [.lit (.string [111, 112, 101, 110]), .lit (.string [110, 62, 110])], .agg [.lit (.string [111, 112, 101, 110, 101, 100]), .lit (.string [110, 62, 110])], .agg [.lit (.string [112, 114, 111, 98, 101]), .lit (.string [110, 62, 110])], .agg [.lit (.string [100, 105, 103, 101, 115, 116, 115]), .lit (.string [110, 62, 110])], .agg [.lit (.string [119, 97, 110, 116]), .lit (.string [110, 62, 110])], .agg [.lit (.string [99, 104, 117, 110, 107]), .lit (.string [110, 62, 110])], .agg [.lit (.string [103, 111, 116]), .lit (.string [110, 62, 110])], .agg [.lit (.string [100, 101, 108, 116, 97]), .lit (.string [110, 62, 110])], .agg [.lit (.string [99, 97, 117, 103, 104, 116]), .lit (.string [110, 62, 110])], .agg [.lit (.string [97, 98, 111, 114, 116]), .lit (.string [110, 62, 110, 32, 110, 62, 109])], .agg [.lit (.string [114, 101, 97, 100, 121]), .lit (.string [110, 62, 109])], .agg [.lit (.string [112, 114, 101, 112, 97, 114, 101]), .lit (.string [109, 62, 110])], .agg [.lit (.string [112, 114, 101, 112, 97, 114, 101, 100]), .lit (.string [110, 62, 109])], .agg [.lit (.string [99, 97, 110, 99, 101, 108]), .lit (.string [109, 62, 110])]]

/-- 'hawserlaw15.MessageKinds': WHATEVER THE INPUT: true; the input reads as it did. -/
def messageKindsSpec : ChangeSpec := { name := "messageKinds", fn := fun _ => fun
  | [d] => { results := [.lit (.bool true)], args := [d] }
  | _ => none }
def messageKindsRow : OpenClaim := { program := "ytokkhhekmebakaadoor", sum := "119b06e67032da8c440320f3b6e224b691265ecc08027f401046cf5e7346bc72", func := "hawser/hawserlaw15.MessageKinds", spec := "messageKinds", inPlace := ["internal/bytealg.IndexByteString", "internal/bytealg.IndexString"], named := ["hawser/message.kinds", "internal/bytealg.MaxLen"], apart := false, laid := [("hawser/message.kinds", laid_hawser_message_kinds)] }
def MessageKindsSaid : Prop := messageKindsRow.holds Tryd.pinned (OpenSpec.ofChange messageKindsSpec)

/-- ITS FALSE NEIGHBOUR: 'it returns false'. Refute it at one input. -/
def messageKindsWrong : ChangeSpec := { name := "messageKinds", fn := fun _ => fun
  | [d] => { results := [.lit (.bool false)], args := [d] }
  | _ => none }
def MessageKindsWrongFalsely : Prop := messageKindsRow.holds Tryd.pinned (OpenSpec.ofChange messageKindsWrong)

/- THE SECOND FORM. 'bulk': how many values and letters a reading holds, each counted each time it is reached (what is shared counts as often as it is met; a slice's spare places count too). A statement '..UptoSaid' is the law's where the arguments, and the package variables that the reading takes, are together of bulk at most 1048576: NARROWER than '..Said'. Prove '..Said' where nothing that the law and all that it calls make is longer than what came in: it says more and counts as full. Else prove '..UptoSaid'. A law counts once. -/
mutual
def uptoBulk {H : Type} : DataW H → Nat
  | .lit (.string bytes) => bytes.length + 1
  | .lit _ => 1
  | .nil => 1
  | .ptr d => uptoBulk d + 1
  | .slice elems spare => uptoBulkAll elems + uptoBulkAll spare + 1
  | .agg parts => uptoBulkAll parts + 1
  | .iface _ d => uptoBulk d + 1
  | .map entries => uptoBulkEntries entries + 1
  | .held _ => 1
def uptoBulkAll {H : Type} : List (DataW H) → Nat
  | [] => 0
  | d :: r => uptoBulk d + uptoBulkAll r
def uptoBulkEntries {H : Type} : List (Lit × DataW H) → Nat
  | [] => 0
  | x :: r => uptoBulkEntry x + uptoBulkEntries r
def uptoBulkEntry {H : Type} : Lit × DataW H → Nat
  | (.string bytes, d) => bytes.length + uptoBulk d + 1
  | (_, d) => uptoBulk d + 1
 end
def uptoSmall : (H : Type) → List (DataW H) → Bool := fun _ ds => decide (uptoBulkAll ds ≤ 1048576)
def OpenSpec.upto (s : _root_.Go.ChangeSpec) : _root_.Go.OpenSpec := { _root_.Go.OpenSpec.ofChange s with cond := some uptoSmall }

/-- 'hawserlaw15.MessageKinds', WHERE WHAT IT READS IS OF BULK AT MOST 1048576: true; the input reads as it did. -/
def messageKindsUptoRow : OpenClaim := { program := "ytokkhhekmebakaadoor", sum := "119b06e67032da8c440320f3b6e224b691265ecc08027f401046cf5e7346bc72", func := "hawser/hawserlaw15.MessageKinds", spec := "messageKinds", inPlace := ["internal/bytealg.IndexByteString", "internal/bytealg.IndexString"], named := ["hawser/message.kinds", "internal/bytealg.MaxLen"], apart := false, laid := [("hawser/message.kinds", laid_hawser_message_kinds)], narrowed := true }
def MessageKindsUptoSaid : Prop := messageKindsUptoRow.holds Tryd.pinned (OpenSpec.upto messageKindsSpec)

end Rows
end Go.Proofs.YtokkhhekmebakaaDoor
