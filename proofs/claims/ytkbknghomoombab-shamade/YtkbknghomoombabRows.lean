/-
  No cell of these rows narrows 'for every input' (looked for: loops, veiled, ifaces, maps, wideKeys, modest, calm, conditions, laid).
  DERIVED. THE GIVEN ROWS OF THIS SEAT. 6 by the template 'for every input the law returns true; each argument reads behind the call as it read before'; 0 by the template 'total and deterministic' (their statements: YtkbknghomoombabTotals.lean).
  GIVEN WITH THE SEED: the statements are not yours to turn. If you find one false, say at which input.
  Laid BY PROGRAM, IN A SANDBOX (cutbox-rows.mjs): the forced cells as the released guide's own fill.sh prints them over the translation 4cf58bdf608bf36a… (all of the seat's roots in one cut). By AI agents, Wed Nov 11 2026. No macro, syntax, notation, axiom, sorry.
-/
import Derived.Test.YtkbknghomoombabChecked
import GoSem.Claim
import GoSem.ClaimJoined
import GoSem.ClaimMapViews
import Derived.JoinedTies
import Derived.KernelRfl
namespace Go.Proofs.Ytkbknghomoombab
/- THE CELL 'sum', in the pinned program and in every row, IS THE sha256 OF THE DUMP (.gsa) THAT YtkbknghomoombabProg.lean LOADS. Nothing in Lean hashes anything: it is a label: what it is worth is what the hold of that sum in a sandbox is worth. -/
noncomputable def Try.pinned : Pinned := { name := "ytkbknghomoombab", sum := "4cf58bdf608bf36a496d4eca453b9609683bc6e575e822a6823a43fdc35bc59f", checked := Try.checked }
namespace Rows
def none {H : Type} : Left H := { results := [], args := [] }

/-- 'hawserlaw05.ShaLoads': WHATEVER THE INPUT: true; the input reads as it did. -/
def shaLoadsSpec : ChangeSpec := { name := "shaLoads", fn := fun _ => fun
  | [d1, d2] => { results := [.lit (.bool true)], args := [d1, d2] }
  | _ => none }
def shaLoadsRow : OpenClaim := { program := "ytkbknghomoombab", sum := "4cf58bdf608bf36a496d4eca453b9609683bc6e575e822a6823a43fdc35bc59f", func := "hawser/hawserlaw05.ShaLoads", spec := "shaLoads", recurses := true, apart := false }
def ShaLoadsSaid : Prop := shaLoadsRow.holds Try.pinned (OpenSpec.ofChange shaLoadsSpec)

/-- ITS FALSE NEIGHBOUR: 'it returns false'. Refute it at one input. -/
def shaLoadsWrong : ChangeSpec := { name := "shaLoads", fn := fun _ => fun
  | [d1, d2] => { results := [.lit (.bool false)], args := [d1, d2] }
  | _ => none }
def ShaLoadsWrongFalsely : Prop := shaLoadsRow.holds Try.pinned (OpenSpec.ofChange shaLoadsWrong)

/-- 'hawserlaw05.ShaPieces': WHATEVER THE INPUT: true; the input reads as it did. -/
def shaPiecesSpec : ChangeSpec := { name := "shaPieces", fn := fun _ => fun
  | [d1, d2] => { results := [.lit (.bool true)], args := [d1, d2] }
  | _ => none }
def shaPiecesRow : OpenClaim := { program := "ytkbknghomoombab", sum := "4cf58bdf608bf36a496d4eca453b9609683bc6e575e822a6823a43fdc35bc59f", func := "hawser/hawserlaw05.ShaPieces", spec := "shaPieces", apart := false }
def ShaPiecesSaid : Prop := shaPiecesRow.holds Try.pinned (OpenSpec.ofChange shaPiecesSpec)

/-- ITS FALSE NEIGHBOUR: 'it returns false'. Refute it at one input. -/
def shaPiecesWrong : ChangeSpec := { name := "shaPieces", fn := fun _ => fun
  | [d1, d2] => { results := [.lit (.bool false)], args := [d1, d2] }
  | _ => none }
def ShaPiecesWrongFalsely : Prop := shaPiecesRow.holds Try.pinned (OpenSpec.ofChange shaPiecesWrong)

/-- 'hawserlaw05.ShaMade': WHATEVER THE INPUT: true; the input reads as it did. -/
def shaMadeSpec : ChangeSpec := { name := "shaMade", fn := fun _ => fun
  | [d] => { results := [.lit (.bool true)], args := [d] }
  | _ => none }
def shaMadeRow : OpenClaim := { program := "ytkbknghomoombab", sum := "4cf58bdf608bf36a496d4eca453b9609683bc6e575e822a6823a43fdc35bc59f", func := "hawser/hawserlaw05.ShaMade", spec := "shaMade", apart := false }
def ShaMadeSaid : Prop := shaMadeRow.holds Try.pinned (OpenSpec.ofChange shaMadeSpec)

/-- ITS FALSE NEIGHBOUR: 'it returns false'. Refute it at one input. -/
def shaMadeWrong : ChangeSpec := { name := "shaMade", fn := fun _ => fun
  | [d] => { results := [.lit (.bool false)], args := [d] }
  | _ => none }
def ShaMadeWrongFalsely : Prop := shaMadeRow.holds Try.pinned (OpenSpec.ofChange shaMadeWrong)

/-- 'hawserlaw01.LebEncodes': WHATEVER THE INPUT: true; the input reads as it did. -/
def lebEncodesSpec : ChangeSpec := { name := "lebEncodes", fn := fun _ => fun
  | [d1, d2] => { results := [.lit (.bool true)], args := [d1, d2] }
  | _ => none }
def lebEncodesRow : OpenClaim := { program := "ytkbknghomoombab", sum := "4cf58bdf608bf36a496d4eca453b9609683bc6e575e822a6823a43fdc35bc59f", func := "hawser/hawserlaw01.LebEncodes", spec := "lebEncodes", recurses := true, apart := false }
def LebEncodesSaid : Prop := lebEncodesRow.holds Try.pinned (OpenSpec.ofChange lebEncodesSpec)

/-- ITS FALSE NEIGHBOUR: 'it returns false'. Refute it at one input. -/
def lebEncodesWrong : ChangeSpec := { name := "lebEncodes", fn := fun _ => fun
  | [d1, d2] => { results := [.lit (.bool false)], args := [d1, d2] }
  | _ => none }
def LebEncodesWrongFalsely : Prop := lebEncodesRow.holds Try.pinned (OpenSpec.ofChange lebEncodesWrong)

/-- 'hawserlaw03.PackBack': WHATEVER THE INPUT: true; the input reads as it did. -/
def packBackSpec : ChangeSpec := { name := "packBack", fn := fun _ => fun
  | [d1, d2] => { results := [.lit (.bool true)], args := [d1, d2] }
  | _ => none }
def packBackRow : OpenClaim := { program := "ytkbknghomoombab", sum := "4cf58bdf608bf36a496d4eca453b9609683bc6e575e822a6823a43fdc35bc59f", func := "hawser/hawserlaw03.PackBack", spec := "packBack", recurses := true, apart := false }
def PackBackSaid : Prop := packBackRow.holds Try.pinned (OpenSpec.ofChange packBackSpec)

/-- ITS FALSE NEIGHBOUR: 'it returns false'. Refute it at one input. -/
def packBackWrong : ChangeSpec := { name := "packBack", fn := fun _ => fun
  | [d1, d2] => { results := [.lit (.bool false)], args := [d1, d2] }
  | _ => none }
def PackBackWrongFalsely : Prop := packBackRow.holds Try.pinned (OpenSpec.ofChange packBackWrong)

/-- 'hawserlaw03.PackAgain': WHATEVER THE INPUT: true; the input reads as it did. -/
def packAgainSpec : ChangeSpec := { name := "packAgain", fn := fun _ => fun
  | [d1, d2] => { results := [.lit (.bool true)], args := [d1, d2] }
  | _ => none }
def packAgainRow : OpenClaim := { program := "ytkbknghomoombab", sum := "4cf58bdf608bf36a496d4eca453b9609683bc6e575e822a6823a43fdc35bc59f", func := "hawser/hawserlaw03.PackAgain", spec := "packAgain", apart := false }
def PackAgainSaid : Prop := packAgainRow.holds Try.pinned (OpenSpec.ofChange packAgainSpec)

/-- ITS FALSE NEIGHBOUR: 'it returns false'. Refute it at one input. -/
def packAgainWrong : ChangeSpec := { name := "packAgain", fn := fun _ => fun
  | [d1, d2] => { results := [.lit (.bool false)], args := [d1, d2] }
  | _ => none }
def PackAgainWrongFalsely : Prop := packAgainRow.holds Try.pinned (OpenSpec.ofChange packAgainWrong)

/- THE SECOND FORM. 'bulk': how many values and letters a reading holds, each counted each time it is reached (what is shared counts as often as it is met; a slice's spare places count too). A statement '..UptoSaid' is the law's where the arguments, and the package variables that the reading takes, are together of bulk at most 1048576: NARROWER than '..Said'. Prove '..Said' where nothing that the law and all that it calls make is longer than what came in: it says more and counts as full. Else prove '..UptoSaid'. A law counts once. -/
mutual
def uptoBulk {H : Type} : DataW H → Nat
  | .lit (.string bytes) => bytes.length + 1
  | .lit _ => 1
  | .nil => 1
  | .ptr d => uptoBulk d + 1
  | .slice elems spare => uptoBulkAll elems + uptoBulkAll spare + 1
  | .agg parts => uptoBulkAll parts + 1
  | .iface _ d => uptoBulk d + 1
  | .map entries => uptoBulkEntries entries + 1
  | .held _ => 1
def uptoBulkAll {H : Type} : List (DataW H) → Nat
  | [] => 0
  | d :: r => uptoBulk d + uptoBulkAll r
def uptoBulkEntries {H : Type} : List (Lit × DataW H) → Nat
  | [] => 0
  | x :: r => uptoBulkEntry x + uptoBulkEntries r
def uptoBulkEntry {H : Type} : Lit × DataW H → Nat
  | (.string bytes, d) => bytes.length + uptoBulk d + 1
  | (_, d) => uptoBulk d + 1
 end
def uptoSmall : (H : Type) → List (DataW H) → Bool := fun _ ds => decide (uptoBulkAll ds ≤ 1048576)
def OpenSpec.upto (s : _root_.Go.ChangeSpec) : _root_.Go.OpenSpec := { _root_.Go.OpenSpec.ofChange s with cond := some uptoSmall }

/-- 'hawserlaw05.ShaLoads', WHERE WHAT IT READS IS OF BULK AT MOST 1048576: true; the input reads as it did. -/
def shaLoadsUptoRow : OpenClaim := { program := "ytkbknghomoombab", sum := "4cf58bdf608bf36a496d4eca453b9609683bc6e575e822a6823a43fdc35bc59f", func := "hawser/hawserlaw05.ShaLoads", spec := "shaLoads", recurses := true, apart := false, narrowed := true }
def ShaLoadsUptoSaid : Prop := shaLoadsUptoRow.holds Try.pinned (OpenSpec.upto shaLoadsSpec)

/-- 'hawserlaw05.ShaPieces', WHERE WHAT IT READS IS OF BULK AT MOST 1048576: true; the input reads as it did. -/
def shaPiecesUptoRow : OpenClaim := { program := "ytkbknghomoombab", sum := "4cf58bdf608bf36a496d4eca453b9609683bc6e575e822a6823a43fdc35bc59f", func := "hawser/hawserlaw05.ShaPieces", spec := "shaPieces", apart := false, narrowed := true }
def ShaPiecesUptoSaid : Prop := shaPiecesUptoRow.holds Try.pinned (OpenSpec.upto shaPiecesSpec)

/-- 'hawserlaw05.ShaMade', WHERE WHAT IT READS IS OF BULK AT MOST 1048576: true; the input reads as it did. -/
def shaMadeUptoRow : OpenClaim := { program := "ytkbknghomoombab", sum := "4cf58bdf608bf36a496d4eca453b9609683bc6e575e822a6823a43fdc35bc59f", func := "hawser/hawserlaw05.ShaMade", spec := "shaMade", apart := false, narrowed := true }
def ShaMadeUptoSaid : Prop := shaMadeUptoRow.holds Try.pinned (OpenSpec.upto shaMadeSpec)

/-- 'hawserlaw01.LebEncodes', WHERE WHAT IT READS IS OF BULK AT MOST 1048576: true; the input reads as it did. -/
def lebEncodesUptoRow : OpenClaim := { program := "ytkbknghomoombab", sum := "4cf58bdf608bf36a496d4eca453b9609683bc6e575e822a6823a43fdc35bc59f", func := "hawser/hawserlaw01.LebEncodes", spec := "lebEncodes", recurses := true, apart := false, narrowed := true }
def LebEncodesUptoSaid : Prop := lebEncodesUptoRow.holds Try.pinned (OpenSpec.upto lebEncodesSpec)

/-- 'hawserlaw03.PackBack', WHERE WHAT IT READS IS OF BULK AT MOST 1048576: true; the input reads as it did. -/
def packBackUptoRow : OpenClaim := { program := "ytkbknghomoombab", sum := "4cf58bdf608bf36a496d4eca453b9609683bc6e575e822a6823a43fdc35bc59f", func := "hawser/hawserlaw03.PackBack", spec := "packBack", recurses := true, apart := false, narrowed := true }
def PackBackUptoSaid : Prop := packBackUptoRow.holds Try.pinned (OpenSpec.upto packBackSpec)

/-- 'hawserlaw03.PackAgain', WHERE WHAT IT READS IS OF BULK AT MOST 1048576: true; the input reads as it did. -/
def packAgainUptoRow : OpenClaim := { program := "ytkbknghomoombab", sum := "4cf58bdf608bf36a496d4eca453b9609683bc6e575e822a6823a43fdc35bc59f", func := "hawser/hawserlaw03.PackAgain", spec := "packAgain", apart := false, narrowed := true }
def PackAgainUptoSaid : Prop := packAgainUptoRow.holds Try.pinned (OpenSpec.upto packAgainSpec)

end Rows
end Go.Proofs.Ytkbknghomoombab
