/-
  What the document's At, Beside and Role of a configuration answer. Condition: the chain can be read, and has at most 2^60 nodes.
-/
import Derived.Test.YtekefbbjocekiabCGr
namespace Go.Proofs.Ytekefbbjocekiab
open Go.RowKit
set_option linter.unusedVariables false

theorem place_q (a : Option Addr) (n c : Nat) (xs : List Int) (x : Int) (w : World) (h : Seg .i64 w a n xs) (hl : n ≤ 1152921504606846976) : Calls Try.prog 63 #[.slice a n c, .int .i64 x] w fun r w' => r = .returned (.int .i64 (pla xs x)) ∧ w' = w := place_c a n c xs x w h hl
theorem bes_no {e : Int} {xs : List Int} {n far : Int} (h : pla xs n < 0) : bes e xs n far = 0 := if_pos h
theorem bes_yes {e : Int} {xs : List Int} {n far : Int} (h : ¬ pla xs n < 0) : bes e xs n far = atC e xs (pla xs n + far) := if_neg h
end Go.Proofs.Ytekefbbjocekiab
