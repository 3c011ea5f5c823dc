/-
  The document's Writer in memory, as plain data, and what its lay, Fail, Uint, Int, Flag, Text answer. Condition: what is laid down takes at most 2^47 bytes.
  What the document's Writer's Int, Flag, Text and Bytes answer. Condition: what is laid down takes at most 2^47 bytes.
  What the document's Writer's Text, Digest, Row and Bytes answer. Condition: what is laid down takes at most 2^47 bytes.
  What the document's Writer's Digest, Row and Bytes answer. Condition: what is laid down takes at most 2^47 bytes.
  What the document's Writer's Row answers. Condition: what is laid down takes at most 2^47 bytes.
-/
import Derived.Test.YteilmkibbdlnoabDoorWOwn
import Derived.Test.YteilmkibbdlnoabDoorGr
import Derived.Test.YteilmkibbdlnoabDoorByt
import Derived.Test.YteilmkibbdlnoabDoorWPu
import Derived.Test.YteilmkibbdlnoabDoorStr
import Derived.Laws.IdiomStrings
import Derived.Test.YteilmkibbdlnoabDoorBrow
import Derived.Test.YteilmkibbdlnoabDoorBk
import Derived.Test.YteilmkibbdlnoabDoorWSb
namespace Go.Proofs.YteilmkibbdlnoabDoor
open Go.RowKit
set_option linter.unusedVariables false

end Go.Proofs.YteilmkibbdlnoabDoor
namespace Go.Proofs.YteilmkibbdlnoabDoor
open Go.RowKit
set_option linter.unusedVariables false

end Go.Proofs.YteilmkibbdlnoabDoor
namespace Go.Proofs.YteilmkibbdlnoabDoor
open Go.RowKit
set_option linter.unusedVariables false

end Go.Proofs.YteilmkibbdlnoabDoor
namespace Go.Proofs.YteilmkibbdlnoabDoor
open Go.RowKit
set_option linter.unusedVariables false

theorem wadd_take (e : Int) (ys ds : List Int) (k : Nat) (hk : k < ds.length) : wadd e (wadd e ys (ds.take k)) [ds[k]?.getD 0] = wadd e ys (ds.take (k + 1)) := by
  unfold wadd
  split
  · rw [List.append_assoc, take_snoc ds k hk]
  · rfl
theorem wadd_len (e : Int) (ys zs : List Int) : (wadd e ys zs).length ≤ ys.length + zs.length := by
  unfold wadd; split <;> simp

end Go.Proofs.YteilmkibbdlnoabDoor
namespace Go.Proofs.YteilmkibbdlnoabDoor
open Go.RowKit
set_option linter.unusedVariables false

/-- The error of a row that may not be. -/
def wre (key val : ByteArray) (ver : Int) : Int := if key.size = 0 ∨ ver < 1 then 32 else if 1024 < key.size ∨ 65536 < val.size ∨ 1152921504606846976 < ver then 31 else 0
/-- A row's bytes. -/
def rowB (key val : ByteArray) (ver : Int) : List Int := (enc key.size ++ sb key) ++ ((enc val.size ++ sb val) ++ enc ver.toNat)
theorem ferr_keep {e x : Int} (h : e ≠ 0 ∨ x = 0) : ferr e x = e := by
  unfold ferr; split
  · rcases h with h | h
    · contradiction
    · omega
  · rfl
theorem wadd_wadd (e : Int) (ys a b : List Int) : wadd e (wadd e ys a) b = wadd e ys (a ++ b) := by
  unfold wadd; split
  · rw [List.append_assoc]
  · rfl
theorem notNew {F F' : Option Nat} {n N : Nat} (h : F' = F ∨ ∃ k, F' = some k ∧ n ≤ k) (h1 : F ≠ some N) (h2 : N < n) : F' ≠ some N := by
  rcases h with rfl | ⟨k, rfl, hk⟩
  · exact h1
  · intro e; cases e; omega
theorem key_empty (key : ByteArray) : key.toList.isEmpty = decide (key.size = 0) := by
  rw [ByteArray.toList_eq]
  have : key.size = key.data.toList.length := rfl
  rw [this]
  cases key.data.toList <;> simp

end Go.Proofs.YteilmkibbdlnoabDoor
