/-
  No cell of these rows narrows 'for every input' (looked for: loops, veiled, ifaces, maps, wideKeys, modest, calm, conditions, laid).
  DERIVED. THE GIVEN ROWS OF THIS SEAT. 6 by the template 'for every input the law returns true; each argument reads behind the call as it read before'; 0 by the template 'total and deterministic' (their statements: YtggkkpbgnlmfeaaTotals.lean).
  GIVEN WITH THE SEED: the statements are not yours to turn. If you find one false, say at which input.
  Laid BY PROGRAM, IN A SANDBOX (cutbox-rows.mjs): the forced cells as the released guide's own fill.sh prints them over the translation 75ab702a87757727… (all of the seat's roots in one cut). By AI agents, Wed Nov 11 2026. No macro, syntax, notation, axiom, sorry.
-/
import Derived.Test.YtggkkpbgnlmfeaaChecked
import GoSem.Claim
import GoSem.ClaimJoined
import GoSem.ClaimMapViews
import Derived.JoinedTies
import Derived.KernelRfl
namespace Go.Proofs.Ytggkkpbgnlmfeaa
/- THE CELL 'sum', in the pinned program and in every row, IS THE sha256 OF THE DUMP (.gsa) THAT YtggkkpbgnlmfeaaProg.lean LOADS. Nothing in Lean hashes anything: it is a label: what it is worth is what the hold of that sum in a sandbox is worth. -/
noncomputable def Try.pinned : Pinned := { name := "ytggkkpbgnlmfeaa", sum := "75ab702a87757727aa083a595fc385cbe5c429379deeb30feb134fd3d746046d", checked := Try.checked }
namespace Rows
def none {H : Type} : Left H := { results := [], args := [] }

/-- 'hawserlaw06.SpanNames': WHATEVER THE INPUT: true; the input reads as it did. -/
def spanNamesSpec : ChangeSpec := { name := "spanNames", fn := fun _ => fun
  | [] => { results := [.lit (.bool true)], args := [] }
  | _ => none }
def spanNamesRow : OpenClaim := { program := "ytggkkpbgnlmfeaa", sum := "75ab702a87757727aa083a595fc385cbe5c429379deeb30feb134fd3d746046d", func := "hawser/hawserlaw06.SpanNames", spec := "spanNames", apart := false }
def SpanNamesSaid : Prop := spanNamesRow.holds Try.pinned (OpenSpec.ofChange spanNamesSpec)

/-- ITS FALSE NEIGHBOUR: 'it returns false'. Refute it at one input. -/
def spanNamesWrong : ChangeSpec := { name := "spanNames", fn := fun _ => fun
  | [] => { results := [.lit (.bool false)], args := [] }
  | _ => none }
def SpanNamesWrongFalsely : Prop := spanNamesRow.holds Try.pinned (OpenSpec.ofChange spanNamesWrong)

/-- 'hawserlaw06.SpanOne': WHATEVER THE INPUT: true; the input reads as it did. -/
def spanOneSpec : ChangeSpec := { name := "spanOne", fn := fun _ => fun
  | [d1, d2] => { results := [.lit (.bool true)], args := [d1, d2] }
  | _ => none }
def spanOneRow : OpenClaim := { program := "ytggkkpbgnlmfeaa", sum := "75ab702a87757727aa083a595fc385cbe5c429379deeb30feb134fd3d746046d", func := "hawser/hawserlaw06.SpanOne", spec := "spanOne", apart := false }
def SpanOneSaid : Prop := spanOneRow.holds Try.pinned (OpenSpec.ofChange spanOneSpec)

/-- ITS FALSE NEIGHBOUR: 'it returns false'. Refute it at one input. -/
def spanOneWrong : ChangeSpec := { name := "spanOne", fn := fun _ => fun
  | [d1, d2] => { results := [.lit (.bool false)], args := [d1, d2] }
  | _ => none }
def SpanOneWrongFalsely : Prop := spanOneRow.holds Try.pinned (OpenSpec.ofChange spanOneWrong)

/-- 'hawserlaw06.SpanBuckets': WHATEVER THE INPUT: true; the input reads as it did. -/
def spanBucketsSpec : ChangeSpec := { name := "spanBuckets", fn := fun _ => fun
  | [d1, d2, d3] => { results := [.lit (.bool true)], args := [d1, d2, d3] }
  | _ => none }
def spanBucketsRow : OpenClaim := { program := "ytggkkpbgnlmfeaa", sum := "75ab702a87757727aa083a595fc385cbe5c429379deeb30feb134fd3d746046d", func := "hawser/hawserlaw06.SpanBuckets", spec := "spanBuckets", apart := false }
def SpanBucketsSaid : Prop := spanBucketsRow.holds Try.pinned (OpenSpec.ofChange spanBucketsSpec)

/-- ITS FALSE NEIGHBOUR: 'it returns false'. Refute it at one input. -/
def spanBucketsWrong : ChangeSpec := { name := "spanBuckets", fn := fun _ => fun
  | [d1, d2, d3] => { results := [.lit (.bool false)], args := [d1, d2, d3] }
  | _ => none }
def SpanBucketsWrongFalsely : Prop := spanBucketsRow.holds Try.pinned (OpenSpec.ofChange spanBucketsWrong)

/-- 'hawserlaw06.SpanPrefix': WHATEVER THE INPUT: true; the input reads as it did. -/
def spanPrefixSpec : ChangeSpec := { name := "spanPrefix", fn := fun _ => fun
  | [d1, d2] => { results := [.lit (.bool true)], args := [d1, d2] }
  | _ => none }
def spanPrefixRow : OpenClaim := { program := "ytggkkpbgnlmfeaa", sum := "75ab702a87757727aa083a595fc385cbe5c429379deeb30feb134fd3d746046d", func := "hawser/hawserlaw06.SpanPrefix", spec := "spanPrefix", inPlace := ["internal/bytealg.abigen_runtime_cmpstring"], unfollowed := true, recurses := true, apart := false }
def SpanPrefixSaid : Prop := spanPrefixRow.holds Try.pinned (OpenSpec.ofChange spanPrefixSpec)

/-- ITS FALSE NEIGHBOUR: 'it returns false'. Refute it at one input. -/
def spanPrefixWrong : ChangeSpec := { name := "spanPrefix", fn := fun _ => fun
  | [d1, d2] => { results := [.lit (.bool false)], args := [d1, d2] }
  | _ => none }
def SpanPrefixWrongFalsely : Prop := spanPrefixRow.holds Try.pinned (OpenSpec.ofChange spanPrefixWrong)

/-- 'hawserlaw06.SpanAll': WHATEVER THE INPUT: true; the input reads as it did. -/
def spanAllSpec : ChangeSpec := { name := "spanAll", fn := fun _ => fun
  | [d1, d2] => { results := [.lit (.bool true)], args := [d1, d2] }
  | _ => none }
def spanAllRow : OpenClaim := { program := "ytggkkpbgnlmfeaa", sum := "75ab702a87757727aa083a595fc385cbe5c429379deeb30feb134fd3d746046d", func := "hawser/hawserlaw06.SpanAll", spec := "spanAll", unfollowed := true, recurses := true, apart := false }
def SpanAllSaid : Prop := spanAllRow.holds Try.pinned (OpenSpec.ofChange spanAllSpec)

/-- ITS FALSE NEIGHBOUR: 'it returns false'. Refute it at one input. -/
def spanAllWrong : ChangeSpec := { name := "spanAll", fn := fun _ => fun
  | [d1, d2] => { results := [.lit (.bool false)], args := [d1, d2] }
  | _ => none }
def SpanAllWrongFalsely : Prop := spanAllRow.holds Try.pinned (OpenSpec.ofChange spanAllWrong)

/-- 'hawserlaw06.SpanHome': WHATEVER THE INPUT: true; the input reads as it did. -/
def spanHomeSpec : ChangeSpec := { name := "spanHome", fn := fun _ => fun
  | [d1, d2] => { results := [.lit (.bool true)], args := [d1, d2] }
  | _ => none }
def spanHomeRow : OpenClaim := { program := "ytggkkpbgnlmfeaa", sum := "75ab702a87757727aa083a595fc385cbe5c429379deeb30feb134fd3d746046d", func := "hawser/hawserlaw06.SpanHome", spec := "spanHome", inPlace := ["internal/bytealg.abigen_runtime_cmpstring"], unfollowed := true, recurses := true, apart := false }
def SpanHomeSaid : Prop := spanHomeRow.holds Try.pinned (OpenSpec.ofChange spanHomeSpec)

/-- ITS FALSE NEIGHBOUR: 'it returns false'. Refute it at one input. -/
def spanHomeWrong : ChangeSpec := { name := "spanHome", fn := fun _ => fun
  | [d1, d2] => { results := [.lit (.bool false)], args := [d1, d2] }
  | _ => none }
def SpanHomeWrongFalsely : Prop := spanHomeRow.holds Try.pinned (OpenSpec.ofChange spanHomeWrong)

/- THE SECOND FORM. 'bulk': how many values and letters a reading holds, each counted each time it is reached (what is shared counts as often as it is met; a slice's spare places count too). A statement '..UptoSaid' is the law's where the arguments, and the package variables that the reading takes, are together of bulk at most 1048576: NARROWER than '..Said'. Prove '..Said' where nothing that the law and all that it calls make is longer than what came in: it says more and counts as full. Else prove '..UptoSaid'. A law counts once. -/
mutual
def uptoBulk {H : Type} : DataW H → Nat
  | .lit (.string bytes) => bytes.length + 1
  | .lit _ => 1
  | .nil => 1
  | .ptr d => uptoBulk d + 1
  | .slice elems spare => uptoBulkAll elems + uptoBulkAll spare + 1
  | .agg parts => uptoBulkAll parts + 1
  | .iface _ d => uptoBulk d + 1
  | .map entries => uptoBulkEntries entries + 1
  | .held _ => 1
def uptoBulkAll {H : Type} : List (DataW H) → Nat
  | [] => 0
  | d :: r => uptoBulk d + uptoBulkAll r
def uptoBulkEntries {H : Type} : List (Lit × DataW H) → Nat
  | [] => 0
  | x :: r => uptoBulkEntry x + uptoBulkEntries r
def uptoBulkEntry {H : Type} : Lit × DataW H → Nat
  | (.string bytes, d) => bytes.length + uptoBulk d + 1
  | (_, d) => uptoBulk d + 1
 end
def uptoSmall : (H : Type) → List (DataW H) → Bool := fun _ ds => decide (uptoBulkAll ds ≤ 1048576)
def OpenSpec.upto (s : _root_.Go.ChangeSpec) : _root_.Go.OpenSpec := { _root_.Go.OpenSpec.ofChange s with cond := some uptoSmall }

/-- 'hawserlaw06.SpanNames', WHERE WHAT IT READS IS OF BULK AT MOST 1048576: true; the input reads as it did. -/
def spanNamesUptoRow : OpenClaim := { program := "ytggkkpbgnlmfeaa", sum := "75ab702a87757727aa083a595fc385cbe5c429379deeb30feb134fd3d746046d", func := "hawser/hawserlaw06.SpanNames", spec := "spanNames", apart := false, narrowed := true }
def SpanNamesUptoSaid : Prop := spanNamesUptoRow.holds Try.pinned (OpenSpec.upto spanNamesSpec)

/-- 'hawserlaw06.SpanOne', WHERE WHAT IT READS IS OF BULK AT MOST 1048576: true; the input reads as it did. -/
def spanOneUptoRow : OpenClaim := { program := "ytggkkpbgnlmfeaa", sum := "75ab702a87757727aa083a595fc385cbe5c429379deeb30feb134fd3d746046d", func := "hawser/hawserlaw06.SpanOne", spec := "spanOne", apart := false, narrowed := true }
def SpanOneUptoSaid : Prop := spanOneUptoRow.holds Try.pinned (OpenSpec.upto spanOneSpec)

/-- 'hawserlaw06.SpanBuckets', WHERE WHAT IT READS IS OF BULK AT MOST 1048576: true; the input reads as it did. -/
def spanBucketsUptoRow : OpenClaim := { program := "ytggkkpbgnlmfeaa", sum := "75ab702a87757727aa083a595fc385cbe5c429379deeb30feb134fd3d746046d", func := "hawser/hawserlaw06.SpanBuckets", spec := "spanBuckets", apart := false, narrowed := true }
def SpanBucketsUptoSaid : Prop := spanBucketsUptoRow.holds Try.pinned (OpenSpec.upto spanBucketsSpec)

/-- 'hawserlaw06.SpanPrefix', WHERE WHAT IT READS IS OF BULK AT MOST 1048576: true; the input reads as it did. -/
def spanPrefixUptoRow : OpenClaim := { program := "ytggkkpbgnlmfeaa", sum := "75ab702a87757727aa083a595fc385cbe5c429379deeb30feb134fd3d746046d", func := "hawser/hawserlaw06.SpanPrefix", spec := "spanPrefix", inPlace := ["internal/bytealg.abigen_runtime_cmpstring"], unfollowed := true, recurses := true, apart := false, narrowed := true }
def SpanPrefixUptoSaid : Prop := spanPrefixUptoRow.holds Try.pinned (OpenSpec.upto spanPrefixSpec)

/-- 'hawserlaw06.SpanAll', WHERE WHAT IT READS IS OF BULK AT MOST 1048576: true; the input reads as it did. -/
def spanAllUptoRow : OpenClaim := { program := "ytggkkpbgnlmfeaa", sum := "75ab702a87757727aa083a595fc385cbe5c429379deeb30feb134fd3d746046d", func := "hawser/hawserlaw06.SpanAll", spec := "spanAll", unfollowed := true, recurses := true, apart := false, narrowed := true }
def SpanAllUptoSaid : Prop := spanAllUptoRow.holds Try.pinned (OpenSpec.upto spanAllSpec)

/-- 'hawserlaw06.SpanHome', WHERE WHAT IT READS IS OF BULK AT MOST 1048576: true; the input reads as it did. -/
def spanHomeUptoRow : OpenClaim := { program := "ytggkkpbgnlmfeaa", sum := "75ab702a87757727aa083a595fc385cbe5c429379deeb30feb134fd3d746046d", func := "hawser/hawserlaw06.SpanHome", spec := "spanHome", inPlace := ["internal/bytealg.abigen_runtime_cmpstring"], unfollowed := true, recurses := true, apart := false, narrowed := true }
def SpanHomeUptoSaid : Prop := spanHomeUptoRow.holds Try.pinned (OpenSpec.upto spanHomeSpec)

end Rows
end Go.Proofs.Ytggkkpbgnlmfeaa
