/-
  The names that the law's apart gives; rows of lists of ranges and of numbers, side by side, while they are marked and grown. Conditions: fewer than 1000 lists of at most 2^30 elements.
-/
import Derived.Test.YtdjcokepeifojaaNFa
import Derived.Test.YtdjcokepeifojaaNSm
import Derived.BigQuiet
import Derived.Laws.StructEq
namespace Go.Proofs.Ytdjcokepeifojaa
set_option linter.unusedVariables false
open Go.RowKit

/-- The name of the k-th element of the i-th list. -/
def nmS (i k : Nat) : ByteArray := strOfNums [(i : Int) % 256, (k : Int) % 256, (k : Int).tdiv 256 % 256]
set_option maxRecDepth 20000 in
theorem name_c (i k : Nat) (hi : i < 1000) (hk : k ≤ 1073741824) (w : World) :
    Calls Try.prog 27 #[.int .i64 i, .int .i64 k] w fun e w' => e = .returned (.string (nmS i k)) ∧ w.grownBy w' none := by
  have HC : Hid (∀ (w : World), (convert 58 9 (.slice (some ⟨w.heap.size, 0, none⟩) 3 3)).run Try.prog (w.alloc (.cells #[.int .u8 ((i : Int) % 256), .int .u8 ((k : Int) % 256), .int .u8 ((k : Int).tdiv 256 % 256)] 5)) = .ok (.string (nmS i k)) (w.alloc (.cells #[.int .u8 ((i : Int) % 256), .int .u8 ((k : Int) % 256), .int .u8 ((k : Int).tdiv 256 % 256)] 5))) := fun w =>
    seg_string (P := Try.prog) 58 9 5 3 (seg_bk (xs := [(i : Int) % 256, (k : Int) % 256, (k : Int).tdiv 256 % 256]) (blk_new w 5 _).1) Try.underlying58 Try.underlying5 Try.underlying9
  generalize nmS i k = S at *
  have hi0 : (0 : Int) ≤ (i : Int) := by omega
  have hk0 : (0 : Int) ≤ (k : Int) := by omega
  have hq1 : wrap64 ((k : Int).tdiv 256) = (k : Int).tdiv 256 := by
    have hq : (k : Int).tdiv 256 = (k : Int) / 256 := Int.tdiv_eq_ediv_of_nonneg (by omega)
    rw [hq]; exact IntWalk.wrap64_in _ ⟨by omega, by omega⟩
  have hq2 : (0 : Int) ≤ (k : Int).tdiv 256 := by
    rw [Int.tdiv_eq_ediv_of_nonneg (by omega)]; omega
  have hc := HC.out w
  clear hi hk HC
  generalize (i : Int) = I at *
  generalize (k : Int) = K at *
  clear hi0 hk0 hq2
  go_enter Try.func27, Try.ntmps27
  go_wp2
  go_ret
  exact ⟨rfl, gb_alloc _ _⟩
end Go.Proofs.Ytdjcokepeifojaa
