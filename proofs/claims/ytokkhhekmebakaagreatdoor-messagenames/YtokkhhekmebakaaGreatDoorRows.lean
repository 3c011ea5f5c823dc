/-
  NARROWER THAN 'FOR EVERY INPUT', by the rows' own cells (each row's printed sentence says how): MessageNames: laid · MessageChecks: laid · MessageEncodes: laid · MessageDecodes: laid · MessageAlikes: laid.
  DERIVED. THE GIVEN ROWS OF THIS SEAT. 5 by the template 'for every input the law returns true; each argument reads behind the call as it read before'; 0 by the template 'total and deterministic' (their statements: YtokkhhekmebakaaGreatDoorTotals.lean).
  GIVEN WITH THE SEED: the statements are not yours to turn. If you find one false, say at which input.
  Laid BY PROGRAM, IN A SANDBOX (cutbox-rows.mjs): the forced cells as the released guide's own fill.sh prints them over the translation 90e4c4a335c914ae… (all of the seat's roots in one cut). By AI agents, Wed Nov 11 2026. No macro, syntax, notation, axiom, sorry.
-/
import Derived.Test.YtokkhhekmebakaaGreatDoorChecked
import GoSem.Claim
import GoSem.ClaimJoined
import GoSem.ClaimMapViews
import Derived.JoinedTies
import Derived.KernelRfl
namespace Go.Proofs.YtokkhhekmebakaaGreatDoor
/- THE CELL 'sum', in the pinned program and in every row, IS THE sha256 OF THE DUMP (.gsa) THAT YtokkhhekmebakaaGreatDoorProg.lean LOADS. Nothing in Lean hashes anything: it is a label: what it is worth is what the hold of that sum in a sandbox is worth. -/
noncomputable def Tryz.pinned : Pinned := { name := "ytokkhhekmebakaagreatdoor", sum := "90e4c4a335c914ae5c0e590ae5b6bcb463274df0c371dad3e1e0266f1e3e533c", checked := Tryz.checked }
namespace Rows
def none {H : Type} : Left H := { results := [], args := [] }

/- WHAT THE LISTED PACKAGE-LEVEL VARIABLES READ AS WHEN THE CALL BEGINS. Each datum BY PROGRAM (the guide's laid-datum.mjs) off the statement by which the dump's own 'gosem.cut.vars' lays the variable. In a bare row this is a premise. The card (YtokkhhekmebakaaGreatDoorCards.lean) ties it to the program's text. -/
def laid_hawser_crc_halves {H : Type} : DataW H := .agg [.lit (.int .u32 0), .lit (.int .u32 274646895), .lit (.int .u32 549293790), .lit (.int .u32 820201905), .lit (.int .u32 1098587580), .lit (.int .u32 1361435347), .lit (.int .u32 1640403810), .lit (.int .u32 1905808397), .lit (.int .u32 2197175160), .lit (.int .u32 2460548119), .lit (.int .u32 2722870694), .lit (.int .u32 2987750089), .lit (.int .u32 3280807620), .lit (.int .u32 3553878443), .lit (.int .u32 3811616794), .lit (.int .u32 4084100981)]
def laid_hawser_message_kinds {H : Type} : DataW H := .agg [.agg [.lit (.string []), .lit (.string [])], .agg [.lit (.string [114, 101, 113, 117, 101, 115, 116]), .lit (.string [99, 62, 110])], .agg [.lit (.string [114, 101, 112, 108, 121]), .lit (.string [110, 62, 99])], .agg [.lit (.string [114, 101, 97, 100]), .lit (.string [99, 62, 110])], .agg [.lit (.string [118, 97, 108, 117, 101]), .lit (.string [110, 62, 99])], .agg [.lit (.string [119, 114, 111, 110, 103]), .lit (.string [110, 62, 99])], .agg [.lit (.string [108, 111, 111, 107, 117, 112]), .lit (.string [110, 62, 109, 32, 99, 62, 109])], .agg [.lit (.string [99, 111, 110, 102, 105, 103]), .lit (.string [109, 62, 110, 32, 109, 62, 99])], .agg [.lit (.string [97, 100, 111, 112, 116, 101, 100]), .lit (.string [110, 62, 109])], .agg [.lit (.string [102, 111, 114, 119, 97, 114, 100]), .lit (.string [110, 62, 110])], .agg [.lit (.string [97, 99, 107]), .lit (.string [110, 62, 110])], .agg [.lit (.string [113, 117, 101, 114, 121]), .lit (.string [110, 62, 110])], .agg [.lit (.string [97, 110, 115, 119, 101, 114]), .lit (.string [110, 62, 110])], .agg [.lit (.string [106, 111, 105, 110]), .lit (.string [110, 62, 109])], .agg [.lit (.string [98, 101, 103, 105, 110]), .lit (.string [109, 62, 110])], .agg [.lit (.string [111, 112, 101, 110]), .lit (.string [110, 62, 110])], .agg [.lit (.string [111, 112, 101, 110, 101, 100]), .lit (.string [110, 62, 110])], .agg [.lit (.string [112, 114, 111, 98, 101]), .lit (.string [110, 62, 110])], .agg [.lit (.string [100, 105, 103, 101, 115, 116, 115]), .lit (.string [110, 62, 110])], .agg [.lit (.string [119, 97, 110, 116]), .lit (.string [110, 62, 110])], .agg [.lit (.string [99, 104, 117, 110, 107]), .lit (.string [110, 62, 110])], .agg [.lit (.string [103, 111, 116]), .lit (.string [110, 62, 110])], .agg [.lit (.string [100, 101, 108, 116, 97]), .lit (.string [110, 62, 110])], .agg [.lit (.string [99, 97, 117, 103, 104, 116]), .lit (.string [110, 62, 110])], .agg [.lit (.string [97, 98, 111, 114, 116]), .lit (.string [110, 62, 110, 32, 110, 62, 109])], .agg [.lit (.string [114, 101, 97, 100, 121]), .lit (.string [110, 62, 109])], .agg [.lit (.string [112, 114, 101, 112, 97, 114, 101]), .lit (.string [109, 62, 110])], .agg [.lit (.string [112, 114, 101, 112, 97, 114, 101, 100]), .lit (.string [110, 62, 109])], .agg [.lit (.string [99, 97, 110, 99, 101, 108]), .lit (.string [109, 62, 110])]]

/-- 'hawserlaw15.MessageNames': WHATEVER THE INPUT: true; the input reads as it did. -/
def messageNamesSpec : ChangeSpec := { name := "messageNames", fn := fun _ => fun
  | [] => { results := [.lit (.bool true)], args := [] }
  | _ => none }
def messageNamesRow : OpenClaim := { program := "ytokkhhekmebakaagreatdoor", sum := "90e4c4a335c914ae5c0e590ae5b6bcb463274df0c371dad3e1e0266f1e3e533c", func := "hawser/hawserlaw15.MessageNames", spec := "messageNames", inPlace := ["internal/bytealg.IndexByteString", "internal/bytealg.IndexString"], unfollowed := true, recurses := true, named := ["hawser/message.kinds", "internal/bytealg.MaxLen", "hawser/crc.halves"], apart := false, laid := [("hawser/crc.halves", laid_hawser_crc_halves), ("hawser/message.kinds", laid_hawser_message_kinds)] }
def MessageNamesSaid : Prop := messageNamesRow.holds Tryz.pinned (OpenSpec.ofChange messageNamesSpec)

/-- ITS FALSE NEIGHBOUR: 'it returns false'. Refute it at one input. -/
def messageNamesWrong : ChangeSpec := { name := "messageNames", fn := fun _ => fun
  | [] => { results := [.lit (.bool false)], args := [] }
  | _ => none }
def MessageNamesWrongFalsely : Prop := messageNamesRow.holds Tryz.pinned (OpenSpec.ofChange messageNamesWrong)

/-- 'hawserlaw15.MessageChecks': WHATEVER THE INPUT: true; the input reads as it did. -/
def messageChecksSpec : ChangeSpec := { name := "messageChecks", fn := fun _ => fun
  | [d] => { results := [.lit (.bool true)], args := [d] }
  | _ => none }
def messageChecksRow : OpenClaim := { program := "ytokkhhekmebakaagreatdoor", sum := "90e4c4a335c914ae5c0e590ae5b6bcb463274df0c371dad3e1e0266f1e3e533c", func := "hawser/hawserlaw15.MessageChecks", spec := "messageChecks", inPlace := ["internal/bytealg.IndexByteString", "internal/bytealg.IndexString"], unfollowed := true, recurses := true, named := ["hawser/message.kinds", "internal/bytealg.MaxLen", "hawser/crc.halves"], apart := false, laid := [("hawser/crc.halves", laid_hawser_crc_halves), ("hawser/message.kinds", laid_hawser_message_kinds)] }
def MessageChecksSaid : Prop := messageChecksRow.holds Tryz.pinned (OpenSpec.ofChange messageChecksSpec)

/-- ITS FALSE NEIGHBOUR: 'it returns false'. Refute it at one input. -/
def messageChecksWrong : ChangeSpec := { name := "messageChecks", fn := fun _ => fun
  | [d] => { results := [.lit (.bool false)], args := [d] }
  | _ => none }
def MessageChecksWrongFalsely : Prop := messageChecksRow.holds Tryz.pinned (OpenSpec.ofChange messageChecksWrong)

/-- 'hawserlaw15.MessageEncodes': WHATEVER THE INPUT: true; the input reads as it did. -/
def messageEncodesSpec : ChangeSpec := { name := "messageEncodes", fn := fun _ => fun
  | [d1, d2] => { results := [.lit (.bool true)], args := [d1, d2] }
  | _ => none }
def messageEncodesRow : OpenClaim := { program := "ytokkhhekmebakaagreatdoor", sum := "90e4c4a335c914ae5c0e590ae5b6bcb463274df0c371dad3e1e0266f1e3e533c", func := "hawser/hawserlaw15.MessageEncodes", spec := "messageEncodes", inPlace := ["internal/bytealg.IndexByteString", "internal/bytealg.IndexString"], unfollowed := true, recurses := true, named := ["hawser/message.kinds", "internal/bytealg.MaxLen", "hawser/crc.halves"], apart := false, laid := [("hawser/crc.halves", laid_hawser_crc_halves), ("hawser/message.kinds", laid_hawser_message_kinds)] }
def MessageEncodesSaid : Prop := messageEncodesRow.holds Tryz.pinned (OpenSpec.ofChange messageEncodesSpec)

/-- ITS FALSE NEIGHBOUR: 'it returns false'. Refute it at one input. -/
def messageEncodesWrong : ChangeSpec := { name := "messageEncodes", fn := fun _ => fun
  | [d1, d2] => { results := [.lit (.bool false)], args := [d1, d2] }
  | _ => none }
def MessageEncodesWrongFalsely : Prop := messageEncodesRow.holds Tryz.pinned (OpenSpec.ofChange messageEncodesWrong)

/-- 'hawserlaw15.MessageDecodes': WHATEVER THE INPUT: true; the input reads as it did. -/
def messageDecodesSpec : ChangeSpec := { name := "messageDecodes", fn := fun _ => fun
  | [d] => { results := [.lit (.bool true)], args := [d] }
  | _ => none }
def messageDecodesRow : OpenClaim := { program := "ytokkhhekmebakaagreatdoor", sum := "90e4c4a335c914ae5c0e590ae5b6bcb463274df0c371dad3e1e0266f1e3e533c", func := "hawser/hawserlaw15.MessageDecodes", spec := "messageDecodes", inPlace := ["internal/bytealg.IndexByteString", "internal/bytealg.IndexString"], unfollowed := true, recurses := true, named := ["hawser/crc.halves", "hawser/message.kinds", "internal/bytealg.MaxLen"], apart := false, laid := [("hawser/crc.halves", laid_hawser_crc_halves), ("hawser/message.kinds", laid_hawser_message_kinds)] }
def MessageDecodesSaid : Prop := messageDecodesRow.holds Tryz.pinned (OpenSpec.ofChange messageDecodesSpec)

/-- ITS FALSE NEIGHBOUR: 'it returns false'. Refute it at one input. -/
def messageDecodesWrong : ChangeSpec := { name := "messageDecodes", fn := fun _ => fun
  | [d] => { results := [.lit (.bool false)], args := [d] }
  | _ => none }
def MessageDecodesWrongFalsely : Prop := messageDecodesRow.holds Tryz.pinned (OpenSpec.ofChange messageDecodesWrong)

/-- 'hawserlaw15.MessageAlikes': WHATEVER THE INPUT: true; the input reads as it did. -/
def messageAlikesSpec : ChangeSpec := { name := "messageAlikes", fn := fun _ => fun
  | [d1, d2] => { results := [.lit (.bool true)], args := [d1, d2] }
  | _ => none }
def messageAlikesRow : OpenClaim := { program := "ytokkhhekmebakaagreatdoor", sum := "90e4c4a335c914ae5c0e590ae5b6bcb463274df0c371dad3e1e0266f1e3e533c", func := "hawser/hawserlaw15.MessageAlikes", spec := "messageAlikes", inPlace := ["internal/bytealg.IndexByteString", "internal/bytealg.IndexString"], unfollowed := true, recurses := true, named := ["hawser/message.kinds", "internal/bytealg.MaxLen", "hawser/crc.halves"], apart := false, laid := [("hawser/crc.halves", laid_hawser_crc_halves), ("hawser/message.kinds", laid_hawser_message_kinds)] }
def MessageAlikesSaid : Prop := messageAlikesRow.holds Tryz.pinned (OpenSpec.ofChange messageAlikesSpec)

/-- ITS FALSE NEIGHBOUR: 'it returns false'. Refute it at one input. -/
def messageAlikesWrong : ChangeSpec := { name := "messageAlikes", fn := fun _ => fun
  | [d1, d2] => { results := [.lit (.bool false)], args := [d1, d2] }
  | _ => none }
def MessageAlikesWrongFalsely : Prop := messageAlikesRow.holds Tryz.pinned (OpenSpec.ofChange messageAlikesWrong)

/- THE SECOND FORM. 'bulk': how many values and letters a reading holds, each counted each time it is reached (what is shared counts as often as it is met; a slice's spare places count too). A statement '..UptoSaid' is the law's where the arguments, and the package variables that the reading takes, are together of bulk at most 1048576: NARROWER than '..Said'. Prove '..Said' where nothing that the law and all that it calls make is longer than what came in: it says more and counts as full. Else prove '..UptoSaid'. A law counts once. -/
mutual
def uptoBulk {H : Type} : DataW H → Nat
  | .lit (.string bytes) => bytes.length + 1
  | .lit _ => 1
  | .nil => 1
  | .ptr d => uptoBulk d + 1
  | .slice elems spare => uptoBulkAll elems + uptoBulkAll spare + 1
  | .agg parts => uptoBulkAll parts + 1
  | .iface _ d => uptoBulk d + 1
  | .map entries => uptoBulkEntries entries + 1
  | .held _ => 1
def uptoBulkAll {H : Type} : List (DataW H) → Nat
  | [] => 0
  | d :: r => uptoBulk d + uptoBulkAll r
def uptoBulkEntries {H : Type} : List (Lit × DataW H) → Nat
  | [] => 0
  | x :: r => uptoBulkEntry x + uptoBulkEntries r
def uptoBulkEntry {H : Type} : Lit × DataW H → Nat
  | (.string bytes, d) => bytes.length + uptoBulk d + 1
  | (_, d) => uptoBulk d + 1
 end
def uptoSmall : (H : Type) → List (DataW H) → Bool := fun _ ds => decide (uptoBulkAll ds ≤ 1048576)
def OpenSpec.upto (s : _root_.Go.ChangeSpec) : _root_.Go.OpenSpec := { _root_.Go.OpenSpec.ofChange s with cond := some uptoSmall }

/-- 'hawserlaw15.MessageNames', WHERE WHAT IT READS IS OF BULK AT MOST 1048576: true; the input reads as it did. -/
def messageNamesUptoRow : OpenClaim := { program := "ytokkhhekmebakaagreatdoor", sum := "90e4c4a335c914ae5c0e590ae5b6bcb463274df0c371dad3e1e0266f1e3e533c", func := "hawser/hawserlaw15.MessageNames", spec := "messageNames", inPlace := ["internal/bytealg.IndexByteString", "internal/bytealg.IndexString"], unfollowed := true, recurses := true, named := ["hawser/message.kinds", "internal/bytealg.MaxLen", "hawser/crc.halves"], apart := false, laid := [("hawser/crc.halves", laid_hawser_crc_halves), ("hawser/message.kinds", laid_hawser_message_kinds)], narrowed := true }
def MessageNamesUptoSaid : Prop := messageNamesUptoRow.holds Tryz.pinned (OpenSpec.upto messageNamesSpec)

/-- 'hawserlaw15.MessageChecks', WHERE WHAT IT READS IS OF BULK AT MOST 1048576: true; the input reads as it did. -/
def messageChecksUptoRow : OpenClaim := { program := "ytokkhhekmebakaagreatdoor", sum := "90e4c4a335c914ae5c0e590ae5b6bcb463274df0c371dad3e1e0266f1e3e533c", func := "hawser/hawserlaw15.MessageChecks", spec := "messageChecks", inPlace := ["internal/bytealg.IndexByteString", "internal/bytealg.IndexString"], unfollowed := true, recurses := true, named := ["hawser/message.kinds", "internal/bytealg.MaxLen", "hawser/crc.halves"], apart := false, laid := [("hawser/crc.halves", laid_hawser_crc_halves), ("hawser/message.kinds", laid_hawser_message_kinds)], narrowed := true }
def MessageChecksUptoSaid : Prop := messageChecksUptoRow.holds Tryz.pinned (OpenSpec.upto messageChecksSpec)

/-- 'hawserlaw15.MessageEncodes', WHERE WHAT IT READS IS OF BULK AT MOST 1048576: true; the input reads as it did. -/
def messageEncodesUptoRow : OpenClaim := { program := "ytokkhhekmebakaagreatdoor", sum := "90e4c4a335c914ae5c0e590ae5b6bcb463274df0c371dad3e1e0266f1e3e533c", func := "hawser/hawserlaw15.MessageEncodes", spec := "messageEncodes", inPlace := ["internal/bytealg.IndexByteString", "internal/bytealg.IndexString"], unfollowed := true, recurses := true, named := ["hawser/message.kinds", "internal/bytealg.MaxLen", "hawser/crc.halves"], apart := false, laid := [("hawser/crc.halves", laid_hawser_crc_halves), ("hawser/message.kinds", laid_hawser_message_kinds)], narrowed := true }
def MessageEncodesUptoSaid : Prop := messageEncodesUptoRow.holds Tryz.pinned (OpenSpec.upto messageEncodesSpec)

/-- 'hawserlaw15.MessageDecodes', WHERE WHAT IT READS IS OF BULK AT MOST 1048576: true; the input reads as it did. -/
def messageDecodesUptoRow : OpenClaim := { program := "ytokkhhekmebakaagreatdoor", sum := "90e4c4a335c914ae5c0e590ae5b6bcb463274df0c371dad3e1e0266f1e3e533c", func := "hawser/hawserlaw15.MessageDecodes", spec := "messageDecodes", inPlace := ["internal/bytealg.IndexByteString", "internal/bytealg.IndexString"], unfollowed := true, recurses := true, named := ["hawser/crc.halves", "hawser/message.kinds", "internal/bytealg.MaxLen"], apart := false, laid := [("hawser/crc.halves", laid_hawser_crc_halves), ("hawser/message.kinds", laid_hawser_message_kinds)], narrowed := true }
def MessageDecodesUptoSaid : Prop := messageDecodesUptoRow.holds Tryz.pinned (OpenSpec.upto messageDecodesSpec)

/-- 'hawserlaw15.MessageAlikes', WHERE WHAT IT READS IS OF BULK AT MOST 1048576: true; the input reads as it did. -/
def messageAlikesUptoRow : OpenClaim := { program := "ytokkhhekmebakaagreatdoor", sum := "90e4c4a335c914ae5c0e590ae5b6bcb463274df0c371dad3e1e0266f1e3e533c", func := "hawser/hawserlaw15.MessageAlikes", spec := "messageAlikes", inPlace := ["internal/bytealg.IndexByteString", "internal/bytealg.IndexString"], unfollowed := true, recurses := true, named := ["hawser/message.kinds", "internal/bytealg.MaxLen", "hawser/crc.halves"], apart := false, laid := [("hawser/crc.halves", laid_hawser_crc_halves), ("hawser/message.kinds", laid_hawser_message_kinds)], narrowed := true }
def MessageAlikesUptoSaid : Prop := messageAlikesUptoRow.holds Tryz.pinned (OpenSpec.upto messageAlikesSpec)

end Rows
end Go.Proofs.YtokkhhekmebakaaGreatDoor
