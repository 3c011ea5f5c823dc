/-
  No cell of these rows narrows 'for every input' (looked for: loops, veiled, ifaces, maps, wideKeys, modest, calm, conditions, laid).
  DERIVED. THE GIVEN ROWS OF THIS SEAT. 4 by the template 'for every input the law returns true; each argument reads behind the call as it read before'; 0 by the template 'total and deterministic' (their statements: YtlfppknpnfeplaaTotals.lean).
  GIVEN WITH THE SEED: the statements are not yours to turn. If you find one false, say at which input.
  Laid BY PROGRAM, IN A SANDBOX (cutbox-rows.mjs): the forced cells as the released guide's own fill.sh prints them over the translation 9774a42e8d309d7d… (all of the seat's roots in one cut). By AI agents, Wed Nov 11 2026. No macro, syntax, notation, axiom, sorry.
-/
import Derived.Test.YtlfppknpnfeplaaChecked
import GoSem.Claim
import GoSem.ClaimJoined
import GoSem.ClaimMapViews
import Derived.JoinedTies
import Derived.KernelRfl
namespace Go.Proofs.Ytlfppknpnfeplaa
/- THE CELL 'sum', in the pinned program and in every row, IS THE sha256 OF THE DUMP (.gsa) THAT YtlfppknpnfeplaaProg.lean LOADS. Nothing in Lean hashes anything: it is a label: what it is worth is what the hold of that sum in a sandbox is worth. -/
noncomputable def Try.pinned : Pinned := { name := "ytlfppknpnfeplaa", sum := "9774a42e8d309d7dddd98bf02a61022b44ee2f974e10463d601fde08565149dd", checked := Try.checked }
namespace Rows
def none {H : Type} : Left H := { results := [], args := [] }

/-- 'hawserlaw05.ShaHashes': WHATEVER THE INPUT: true; the input reads as it did. -/
def shaHashesSpec : ChangeSpec := { name := "shaHashes", fn := fun _ => fun
  | [d] => { results := [.lit (.bool true)], args := [d] }
  | _ => none }
def shaHashesRow : OpenClaim := { program := "ytlfppknpnfeplaa", sum := "9774a42e8d309d7dddd98bf02a61022b44ee2f974e10463d601fde08565149dd", func := "hawser/hawserlaw05.ShaHashes", spec := "shaHashes", recurses := true, apart := false }
def ShaHashesSaid : Prop := shaHashesRow.holds Try.pinned (OpenSpec.ofChange shaHashesSpec)

/-- ITS FALSE NEIGHBOUR: 'it returns false'. Refute it at one input. -/
def shaHashesWrong : ChangeSpec := { name := "shaHashes", fn := fun _ => fun
  | [d] => { results := [.lit (.bool false)], args := [d] }
  | _ => none }
def ShaHashesWrongFalsely : Prop := shaHashesRow.holds Try.pinned (OpenSpec.ofChange shaHashesWrong)

/-- 'hawserlaw05.ShaLoads': WHATEVER THE INPUT: true; the input reads as it did. -/
def shaLoadsSpec : ChangeSpec := { name := "shaLoads", fn := fun _ => fun
  | [d1, d2] => { results := [.lit (.bool true)], args := [d1, d2] }
  | _ => none }
def shaLoadsRow : OpenClaim := { program := "ytlfppknpnfeplaa", sum := "9774a42e8d309d7dddd98bf02a61022b44ee2f974e10463d601fde08565149dd", func := "hawser/hawserlaw05.ShaLoads", spec := "shaLoads", recurses := true, apart := false }
def ShaLoadsSaid : Prop := shaLoadsRow.holds Try.pinned (OpenSpec.ofChange shaLoadsSpec)

/-- ITS FALSE NEIGHBOUR: 'it returns false'. Refute it at one input. -/
def shaLoadsWrong : ChangeSpec := { name := "shaLoads", fn := fun _ => fun
  | [d1, d2] => { results := [.lit (.bool false)], args := [d1, d2] }
  | _ => none }
def ShaLoadsWrongFalsely : Prop := shaLoadsRow.holds Try.pinned (OpenSpec.ofChange shaLoadsWrong)

/-- 'hawserlaw05.ShaPieces': WHATEVER THE INPUT: true; the input reads as it did. -/
def shaPiecesSpec : ChangeSpec := { name := "shaPieces", fn := fun _ => fun
  | [d1, d2] => { results := [.lit (.bool true)], args := [d1, d2] }
  | _ => none }
def shaPiecesRow : OpenClaim := { program := "ytlfppknpnfeplaa", sum := "9774a42e8d309d7dddd98bf02a61022b44ee2f974e10463d601fde08565149dd", func := "hawser/hawserlaw05.ShaPieces", spec := "shaPieces", apart := false }
def ShaPiecesSaid : Prop := shaPiecesRow.holds Try.pinned (OpenSpec.ofChange shaPiecesSpec)

/-- ITS FALSE NEIGHBOUR: 'it returns false'. Refute it at one input. -/
def shaPiecesWrong : ChangeSpec := { name := "shaPieces", fn := fun _ => fun
  | [d1, d2] => { results := [.lit (.bool false)], args := [d1, d2] }
  | _ => none }
def ShaPiecesWrongFalsely : Prop := shaPiecesRow.holds Try.pinned (OpenSpec.ofChange shaPiecesWrong)

/-- 'hawserlaw10.MerkleLeaves': WHATEVER THE INPUT: true; the input reads as it did. -/
def merkleLeavesSpec : ChangeSpec := { name := "merkleLeaves", fn := fun _ => fun
  | [d] => { results := [.lit (.bool true)], args := [d] }
  | _ => none }
def merkleLeavesRow : OpenClaim := { program := "ytlfppknpnfeplaa", sum := "9774a42e8d309d7dddd98bf02a61022b44ee2f974e10463d601fde08565149dd", func := "hawser/hawserlaw10.MerkleLeaves", spec := "merkleLeaves", unfollowed := true, recurses := true, apart := false }
def MerkleLeavesSaid : Prop := merkleLeavesRow.holds Try.pinned (OpenSpec.ofChange merkleLeavesSpec)

/-- ITS FALSE NEIGHBOUR: 'it returns false'. Refute it at one input. -/
def merkleLeavesWrong : ChangeSpec := { name := "merkleLeaves", fn := fun _ => fun
  | [d] => { results := [.lit (.bool false)], args := [d] }
  | _ => none }
def MerkleLeavesWrongFalsely : Prop := merkleLeavesRow.holds Try.pinned (OpenSpec.ofChange merkleLeavesWrong)

/- THE SECOND FORM. 'bulk': how many values and letters a reading holds, each counted each time it is reached (what is shared counts as often as it is met; a slice's spare places count too). A statement '..UptoSaid' is the law's where the arguments, and the package variables that the reading takes, are together of bulk at most 1048576: NARROWER than '..Said'. Prove '..Said' where nothing that the law and all that it calls make is longer than what came in: it says more and counts as full. Else prove '..UptoSaid'. A law counts once. -/
mutual
def uptoBulk {H : Type} : DataW H → Nat
  | .lit (.string bytes) => bytes.length + 1
  | .lit _ => 1
  | .nil => 1
  | .ptr d => uptoBulk d + 1
  | .slice elems spare => uptoBulkAll elems + uptoBulkAll spare + 1
  | .agg parts => uptoBulkAll parts + 1
  | .iface _ d => uptoBulk d + 1
  | .map entries => uptoBulkEntries entries + 1
  | .held _ => 1
def uptoBulkAll {H : Type} : List (DataW H) → Nat
  | [] => 0
  | d :: r => uptoBulk d + uptoBulkAll r
def uptoBulkEntries {H : Type} : List (Lit × DataW H) → Nat
  | [] => 0
  | x :: r => uptoBulkEntry x + uptoBulkEntries r
def uptoBulkEntry {H : Type} : Lit × DataW H → Nat
  | (.string bytes, d) => bytes.length + uptoBulk d + 1
  | (_, d) => uptoBulk d + 1
 end
def uptoSmall : (H : Type) → List (DataW H) → Bool := fun _ ds => decide (uptoBulkAll ds ≤ 1048576)
def OpenSpec.upto (s : _root_.Go.ChangeSpec) : _root_.Go.OpenSpec := { _root_.Go.OpenSpec.ofChange s with cond := some uptoSmall }

/-- 'hawserlaw05.ShaHashes', WHERE WHAT IT READS IS OF BULK AT MOST 1048576: true; the input reads as it did. -/
def shaHashesUptoRow : OpenClaim := { program := "ytlfppknpnfeplaa", sum := "9774a42e8d309d7dddd98bf02a61022b44ee2f974e10463d601fde08565149dd", func := "hawser/hawserlaw05.ShaHashes", spec := "shaHashes", recurses := true, apart := false, narrowed := true }
def ShaHashesUptoSaid : Prop := shaHashesUptoRow.holds Try.pinned (OpenSpec.upto shaHashesSpec)

/-- 'hawserlaw05.ShaLoads', WHERE WHAT IT READS IS OF BULK AT MOST 1048576: true; the input reads as it did. -/
def shaLoadsUptoRow : OpenClaim := { program := "ytlfppknpnfeplaa", sum := "9774a42e8d309d7dddd98bf02a61022b44ee2f974e10463d601fde08565149dd", func := "hawser/hawserlaw05.ShaLoads", spec := "shaLoads", recurses := true, apart := false, narrowed := true }
def ShaLoadsUptoSaid : Prop := shaLoadsUptoRow.holds Try.pinned (OpenSpec.upto shaLoadsSpec)

/-- 'hawserlaw05.ShaPieces', WHERE WHAT IT READS IS OF BULK AT MOST 1048576: true; the input reads as it did. -/
def shaPiecesUptoRow : OpenClaim := { program := "ytlfppknpnfeplaa", sum := "9774a42e8d309d7dddd98bf02a61022b44ee2f974e10463d601fde08565149dd", func := "hawser/hawserlaw05.ShaPieces", spec := "shaPieces", apart := false, narrowed := true }
def ShaPiecesUptoSaid : Prop := shaPiecesUptoRow.holds Try.pinned (OpenSpec.upto shaPiecesSpec)

/-- 'hawserlaw10.MerkleLeaves', WHERE WHAT IT READS IS OF BULK AT MOST 1048576: true; the input reads as it did. -/
def merkleLeavesUptoRow : OpenClaim := { program := "ytlfppknpnfeplaa", sum := "9774a42e8d309d7dddd98bf02a61022b44ee2f974e10463d601fde08565149dd", func := "hawser/hawserlaw10.MerkleLeaves", spec := "merkleLeaves", unfollowed := true, recurses := true, apart := false, narrowed := true }
def MerkleLeavesUptoSaid : Prop := merkleLeavesUptoRow.holds Try.pinned (OpenSpec.upto merkleLeavesSpec)

end Rows
end Go.Proofs.Ytlfppknpnfeplaa
