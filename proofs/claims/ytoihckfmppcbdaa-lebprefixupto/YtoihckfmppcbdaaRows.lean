/-
  No cell of these rows narrows 'for every input' (looked for: loops, veiled, ifaces, maps, wideKeys, modest, calm, conditions, laid).
  DERIVED. THE GIVEN ROWS OF THIS SEAT. 4 by the template 'for every input the law returns true; each argument reads behind the call as it read before'; 0 by the template 'total and deterministic' (their statements: YtoihckfmppcbdaaTotals.lean).
  GIVEN WITH THE SEED: the statements are not yours to turn. If you find one false, say at which input.
  Laid BY PROGRAM, IN A SANDBOX (cutbox-rows.mjs): the forced cells as the released guide's own fill.sh prints them over the translation 5f52d1e286b9db35… (all of the seat's roots in one cut). By AI agents, Wed Nov 11 2026. No macro, syntax, notation, axiom, sorry.
-/
import Derived.Test.YtoihckfmppcbdaaChecked
import GoSem.Claim
import GoSem.ClaimJoined
import GoSem.ClaimMapViews
import Derived.JoinedTies
import Derived.KernelRfl
namespace Go.Proofs.Ytoihckfmppcbdaa
/- THE CELL 'sum', in the pinned program and in every row, IS THE sha256 OF THE DUMP (.gsa) THAT YtoihckfmppcbdaaProg.lean LOADS. Nothing in Lean hashes anything: it is a label: what it is worth is what the hold of that sum in a sandbox is worth. -/
noncomputable def Try.pinned : Pinned := { name := "ytoihckfmppcbdaa", sum := "5f52d1e286b9db354399e260a239674ba0bbe3085e4a900d4cd5a25b0cc11ebe", checked := Try.checked }
namespace Rows
def none {H : Type} : Left H := { results := [], args := [] }

/-- 'hawserlaw01.LebSkips': WHATEVER THE INPUT: true; the input reads as it did. -/
def lebSkipsSpec : ChangeSpec := { name := "lebSkips", fn := fun _ => fun
  | [d1, d2] => { results := [.lit (.bool true)], args := [d1, d2] }
  | _ => none }
def lebSkipsRow : OpenClaim := { program := "ytoihckfmppcbdaa", sum := "5f52d1e286b9db354399e260a239674ba0bbe3085e4a900d4cd5a25b0cc11ebe", func := "hawser/hawserlaw01.LebSkips", spec := "lebSkips", unfollowed := true, recurses := true, apart := false }
def LebSkipsSaid : Prop := lebSkipsRow.holds Try.pinned (OpenSpec.ofChange lebSkipsSpec)

/-- ITS FALSE NEIGHBOUR: 'it returns false'. Refute it at one input. -/
def lebSkipsWrong : ChangeSpec := { name := "lebSkips", fn := fun _ => fun
  | [d1, d2] => { results := [.lit (.bool false)], args := [d1, d2] }
  | _ => none }
def LebSkipsWrongFalsely : Prop := lebSkipsRow.holds Try.pinned (OpenSpec.ofChange lebSkipsWrong)

/-- 'hawserlaw01.LebBack': WHATEVER THE INPUT: true; the input reads as it did. -/
def lebBackSpec : ChangeSpec := { name := "lebBack", fn := fun _ => fun
  | [d1, d2] => { results := [.lit (.bool true)], args := [d1, d2] }
  | _ => none }
def lebBackRow : OpenClaim := { program := "ytoihckfmppcbdaa", sum := "5f52d1e286b9db354399e260a239674ba0bbe3085e4a900d4cd5a25b0cc11ebe", func := "hawser/hawserlaw01.LebBack", spec := "lebBack", apart := false }
def LebBackSaid : Prop := lebBackRow.holds Try.pinned (OpenSpec.ofChange lebBackSpec)

/-- ITS FALSE NEIGHBOUR: 'it returns false'. Refute it at one input. -/
def lebBackWrong : ChangeSpec := { name := "lebBack", fn := fun _ => fun
  | [d1, d2] => { results := [.lit (.bool false)], args := [d1, d2] }
  | _ => none }
def LebBackWrongFalsely : Prop := lebBackRow.holds Try.pinned (OpenSpec.ofChange lebBackWrong)

/-- 'hawserlaw01.LebPrefix': WHATEVER THE INPUT: true; the input reads as it did. -/
def lebPrefixSpec : ChangeSpec := { name := "lebPrefix", fn := fun _ => fun
  | [d] => { results := [.lit (.bool true)], args := [d] }
  | _ => none }
def lebPrefixRow : OpenClaim := { program := "ytoihckfmppcbdaa", sum := "5f52d1e286b9db354399e260a239674ba0bbe3085e4a900d4cd5a25b0cc11ebe", func := "hawser/hawserlaw01.LebPrefix", spec := "lebPrefix", apart := false }
def LebPrefixSaid : Prop := lebPrefixRow.holds Try.pinned (OpenSpec.ofChange lebPrefixSpec)

/-- ITS FALSE NEIGHBOUR: 'it returns false'. Refute it at one input. -/
def lebPrefixWrong : ChangeSpec := { name := "lebPrefix", fn := fun _ => fun
  | [d] => { results := [.lit (.bool false)], args := [d] }
  | _ => none }
def LebPrefixWrongFalsely : Prop := lebPrefixRow.holds Try.pinned (OpenSpec.ofChange lebPrefixWrong)

/-- 'hawserlaw01.LebTells': WHATEVER THE INPUT: true; the input reads as it did. -/
def lebTellsSpec : ChangeSpec := { name := "lebTells", fn := fun _ => fun
  | [d1, d2] => { results := [.lit (.bool true)], args := [d1, d2] }
  | _ => none }
def lebTellsRow : OpenClaim := { program := "ytoihckfmppcbdaa", sum := "5f52d1e286b9db354399e260a239674ba0bbe3085e4a900d4cd5a25b0cc11ebe", func := "hawser/hawserlaw01.LebTells", spec := "lebTells", unfollowed := true, recurses := true, apart := false }
def LebTellsSaid : Prop := lebTellsRow.holds Try.pinned (OpenSpec.ofChange lebTellsSpec)

/-- ITS FALSE NEIGHBOUR: 'it returns false'. Refute it at one input. -/
def lebTellsWrong : ChangeSpec := { name := "lebTells", fn := fun _ => fun
  | [d1, d2] => { results := [.lit (.bool false)], args := [d1, d2] }
  | _ => none }
def LebTellsWrongFalsely : Prop := lebTellsRow.holds Try.pinned (OpenSpec.ofChange lebTellsWrong)

/- THE SECOND FORM. 'bulk': how many values and letters a reading holds, each counted each time it is reached (what is shared counts as often as it is met; a slice's spare places count too). A statement '..UptoSaid' is the law's where the arguments, and the package variables that the reading takes, are together of bulk at most 1048576: NARROWER than '..Said'. Prove '..Said' where nothing that the law and all that it calls make is longer than what came in: it says more and counts as full. Else prove '..UptoSaid'. A law counts once. -/
mutual
def uptoBulk {H : Type} : DataW H → Nat
  | .lit (.string bytes) => bytes.length + 1
  | .lit _ => 1
  | .nil => 1
  | .ptr d => uptoBulk d + 1
  | .slice elems spare => uptoBulkAll elems + uptoBulkAll spare + 1
  | .agg parts => uptoBulkAll parts + 1
  | .iface _ d => uptoBulk d + 1
  | .map entries => uptoBulkEntries entries + 1
  | .held _ => 1
def uptoBulkAll {H : Type} : List (DataW H) → Nat
  | [] => 0
  | d :: r => uptoBulk d + uptoBulkAll r
def uptoBulkEntries {H : Type} : List (Lit × DataW H) → Nat
  | [] => 0
  | x :: r => uptoBulkEntry x + uptoBulkEntries r
def uptoBulkEntry {H : Type} : Lit × DataW H → Nat
  | (.string bytes, d) => bytes.length + uptoBulk d + 1
  | (_, d) => uptoBulk d + 1
 end
def uptoSmall : (H : Type) → List (DataW H) → Bool := fun _ ds => decide (uptoBulkAll ds ≤ 1048576)
def OpenSpec.upto (s : _root_.Go.ChangeSpec) : _root_.Go.OpenSpec := { _root_.Go.OpenSpec.ofChange s with cond := some uptoSmall }

/-- 'hawserlaw01.LebSkips', WHERE WHAT IT READS IS OF BULK AT MOST 1048576: true; the input reads as it did. -/
def lebSkipsUptoRow : OpenClaim := { program := "ytoihckfmppcbdaa", sum := "5f52d1e286b9db354399e260a239674ba0bbe3085e4a900d4cd5a25b0cc11ebe", func := "hawser/hawserlaw01.LebSkips", spec := "lebSkips", unfollowed := true, recurses := true, apart := false, narrowed := true }
def LebSkipsUptoSaid : Prop := lebSkipsUptoRow.holds Try.pinned (OpenSpec.upto lebSkipsSpec)

/-- 'hawserlaw01.LebBack', WHERE WHAT IT READS IS OF BULK AT MOST 1048576: true; the input reads as it did. -/
def lebBackUptoRow : OpenClaim := { program := "ytoihckfmppcbdaa", sum := "5f52d1e286b9db354399e260a239674ba0bbe3085e4a900d4cd5a25b0cc11ebe", func := "hawser/hawserlaw01.LebBack", spec := "lebBack", apart := false, narrowed := true }
def LebBackUptoSaid : Prop := lebBackUptoRow.holds Try.pinned (OpenSpec.upto lebBackSpec)

/-- 'hawserlaw01.LebPrefix', WHERE WHAT IT READS IS OF BULK AT MOST 1048576: true; the input reads as it did. -/
def lebPrefixUptoRow : OpenClaim := { program := "ytoihckfmppcbdaa", sum := "5f52d1e286b9db354399e260a239674ba0bbe3085e4a900d4cd5a25b0cc11ebe", func := "hawser/hawserlaw01.LebPrefix", spec := "lebPrefix", apart := false, narrowed := true }
def LebPrefixUptoSaid : Prop := lebPrefixUptoRow.holds Try.pinned (OpenSpec.upto lebPrefixSpec)

/-- 'hawserlaw01.LebTells', WHERE WHAT IT READS IS OF BULK AT MOST 1048576: true; the input reads as it did. -/
def lebTellsUptoRow : OpenClaim := { program := "ytoihckfmppcbdaa", sum := "5f52d1e286b9db354399e260a239674ba0bbe3085e4a900d4cd5a25b0cc11ebe", func := "hawser/hawserlaw01.LebTells", spec := "lebTells", unfollowed := true, recurses := true, apart := false, narrowed := true }
def LebTellsUptoSaid : Prop := lebTellsUptoRow.holds Try.pinned (OpenSpec.upto lebTellsSpec)

end Rows
end Go.Proofs.Ytoihckfmppcbdaa
